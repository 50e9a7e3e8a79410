/- The reference's Right and Few. -/
import Derived.Test.YtgophgnfiboefaaDoorFlF
namespace Go.Proofs.YtgophgnfiboefaaDoor
open Go.RowKit Wire
open Txt (Row)
set_option linter.unusedVariables false
set_option linter.unusedSimpArgs false
namespace Flo
theorem qFew_any (f : Fl) (p : Pl) (n : Nat) (w : World) (hk : f.Kind.length ≤ 9223372036854775807) (hl : f.Out.length ≤ 9223372036854775807) :
    Calls Tryd.prog 31 #[f.val p, .int .i64 n] w fun e w' => e = .returned (.bool (decide (f.Kind.length ≤ n) && decide (f.Out.length ≤ n))) ∧ Below w.heap.size w w' := by
  have HB : Hid (∀ o, Below w.heap.size w (w.alloc o)) := Lib.hid fun o => (Below.refl _ w).alloc (Nat.le_refl _) o
  obtain ⟨A1, c1, A2, c2⟩ := p
  obtain ⟨W, H, D, K, O⟩ := f
  dsimp only [Fl.val] at *
  generalize K.length = a at *
  generalize O.length = b at *
  by_cases h1 : a ≤ n
  · have h1' : (a : Int) ≤ n := by omega
    by_cases h2 : b ≤ n
    · have h2' : (b : Int) ≤ n := by omega
      rw [decide_eq_true h1, decide_eq_true h2]
      clear h1 h2
      go_enter Tryd.func31, Tryd.ntmps31
      go_wp2_with fail
      go_ret
      exact ⟨rfl, HB.out _⟩
    · have h2' : ¬ (b : Int) ≤ n := by omega
      rw [decide_eq_true h1, decide_eq_false h2]
      clear h1 h2
      go_enter Tryd.func31, Tryd.ntmps31
      go_wp2_with fail
      go_ret
      exact ⟨rfl, HB.out _⟩
  · have h1' : ¬ (a : Int) ≤ n := by omega
    rw [decide_eq_false h1]
    clear h1
    go_enter Tryd.func31, Tryd.ntmps31
    go_wp2_with fail
    go_ret
    exact ⟨rfl, HB.out _⟩
/-- The four bounds of a cell. -/
def goodAt (f : Fl) (j : Nat) : Prop := 0 ≤ f.Kind.getD j 0 ∧ f.Kind.getD j 0 < 7 ∧ 0 ≤ f.Out.getD j 0 ∧ f.Out.getD j 0 ≤ 63
theorem ok_of {f : Fl} (hw : 1 ≤ f.W) (hh : 1 ≤ f.H) (hd : 1 ≤ f.D) (hd4 : f.D ≤ 4) (hs : f.W * f.H * f.D ≤ 4096) (hk : (f.Kind.length : Int) = f.W * f.H * f.D) (ho : (f.Out.length : Int) = f.W * f.H * f.D) (hg : ∀ j, j < f.Kind.length → goodAt f j) : f.ok := by
  refine ⟨hw, hh, hd, hd4, hs, hk, ho, fun k hm => ?_, fun k hm => ?_⟩
  · obtain ⟨j, hj, rfl⟩ := List.getElem_of_mem hm
    have := hg j hj
    unfold goodAt at this
    rw [List.getD_eq_getElem?_getD, List.getElem?_eq_getElem hj] at this
    exact ⟨this.1, this.2.1⟩
  · obtain ⟨j, hj, rfl⟩ := List.getElem_of_mem hm
    have := hg j (by omega)
    unfold goodAt at this
    rw [List.getD_eq_getElem?_getD (l := f.Out), List.getElem?_eq_getElem hj] at this
    exact ⟨this.2.2.1, this.2.2.2⟩
theorem Fl.ok.good {f : Fl} (h : f.ok) {j : Nat} (hj : j < f.Kind.length) : goodAt f j := by
  have h1 := h.kinds
  have h2 := h.outs
  have hj2 : j < f.Out.length := by omega
  unfold goodAt
  rw [List.getD_eq_getElem?_getD, List.getD_eq_getElem?_getD, List.getElem?_eq_getElem hj, List.getElem?_eq_getElem hj2]
  exact ⟨(h.kind _ (List.getElem_mem hj)).1, (h.kind _ (List.getElem_mem hj)).2, (h.out _ (List.getElem_mem hj2)).1, (h.out _ (List.getElem_mem hj2)).2⟩
theorem good_next {f : Fl} {i : Nat} (h : ∀ j, j < i → goodAt f j) (hi : goodAt f i) : ∀ j, j < i + 1 → goodAt f j := by
  intro j hj
  by_cases e : j = i
  · rw [e]; exact hi
  · exact h j (by omega)
structure RightRel (w1 : World) (f : Fl) (n : Nat) (iv : Value) (wr : World) (i : Nat) : Prop where
  iv : iv = .int .i64 i
  le : i ≤ n
  good : ∀ j, j < i → goodAt f j
  same : w1 = wr
/-- What Right answers. -/
def RightPost (f : Fl) (w : World) (e : Ending) (w' : World) : Prop := ∃ b, e = .returned (.bool b) ∧ (b = true ↔ f.ok) ∧ Below w.heap.size w w'
theorem right_ways (f : Fl) : (f.W < 1) ∨ (1 ≤ f.W ∧ f.H < 1) ∨ (1 ≤ f.W ∧ 1 ≤ f.H ∧ f.D < 1) ∨ (1 ≤ f.W ∧ 1 ≤ f.H ∧ 1 ≤ f.D ∧ 4 < f.D) ∨ (1 ≤ f.W ∧ 1 ≤ f.H ∧ 1 ≤ f.D ∧ f.D ≤ 4 ∧ 4096 < f.W) ∨ (1 ≤ f.W ∧ 1 ≤ f.H ∧ 1 ≤ f.D ∧ f.D ≤ 4 ∧ f.W ≤ 4096 ∧ 4096 < f.H) ∨ (1 ≤ f.W ∧ 1 ≤ f.H ∧ 1 ≤ f.D ∧ f.D ≤ 4 ∧ f.W ≤ 4096 ∧ f.H ≤ 4096) := by omega
end Flo
end Go.Proofs.YtgophgnfiboefaaDoor

/- The reference's Right and Few. -/
import Derived.Test.YtncbhhnojdhpeaaDoorFlF
namespace Go.Proofs.YtncbhhnojdhpeaaDoor
open Go.RowKit Wire
open Txt (Row)
set_option linter.unusedVariables false
set_option linter.unusedSimpArgs false
namespace Flo
theorem qFew_any (f : Fl) (p : Pl) (n : Nat) (w : World) (hk : f.Kind.length ≤ 9223372036854775807) (hl : f.Out.length ≤ 9223372036854775807) :
    Calls Tryd.prog 9 #[f.val p, .int .i64 n] w fun e w' => e = .returned (.bool (decide (f.Kind.length ≤ n) && decide (f.Out.length ≤ n))) ∧ Below w.heap.size w w' := by
  have HB : Hid (∀ o, Below w.heap.size w (w.alloc o)) := Lib.hid fun o => (Below.refl _ w).alloc (Nat.le_refl _) o
  obtain ⟨A1, c1, A2, c2⟩ := p
  obtain ⟨W, H, D, K, O⟩ := f
  dsimp only [Fl.val] at *
  generalize K.length = a at *
  generalize O.length = b at *
  by_cases h1 : a ≤ n
  · have h1' : (a : Int) ≤ n := by omega
    by_cases h2 : b ≤ n
    · have h2' : (b : Int) ≤ n := by omega
      rw [decide_eq_true h1, decide_eq_true h2]
      clear h1 h2
      go_enter Tryd.func9, Tryd.ntmps9
      go_wp2_with fail
      go_ret
      exact ⟨rfl, HB.out _⟩
    · have h2' : ¬ (b : Int) ≤ n := by omega
      rw [decide_eq_true h1, decide_eq_false h2]
      clear h1 h2
      go_enter Tryd.func9, Tryd.ntmps9
      go_wp2_with fail
      go_ret
      exact ⟨rfl, HB.out _⟩
  · have h1' : ¬ (a : Int) ≤ n := by omega
    rw [decide_eq_false h1]
    clear h1
    go_enter Tryd.func9, Tryd.ntmps9
    go_wp2_with fail
    go_ret
    exact ⟨rfl, HB.out _⟩
/-- The four bounds of a cell. -/
def goodAt (f : Fl) (j : Nat) : Prop := 0 ≤ f.Kind.getD j 0 ∧ f.Kind.getD j 0 < 7 ∧ 0 ≤ f.Out.getD j 0 ∧ f.Out.getD j 0 ≤ 63
theorem ok_of {f : Fl} (hw : 1 ≤ f.W) (hh : 1 ≤ f.H) (hd : 1 ≤ f.D) (hd4 : f.D ≤ 4) (hs : f.W * f.H * f.D ≤ 4096) (hk : (f.Kind.length : Int) = f.W * f.H * f.D) (ho : (f.Out.length : Int) = f.W * f.H * f.D) (hg : ∀ j, j < f.Kind.length → goodAt f j) : f.ok := by
  refine ⟨hw, hh, hd, hd4, hs, hk, ho, fun k hm => ?_, fun k hm => ?_⟩
  · obtain ⟨j, hj, rfl⟩ := List.getElem_of_mem hm
    have := hg j hj
    unfold goodAt at this
    rw [List.getD_eq_getElem?_getD, List.getElem?_eq_getElem hj] at this
    exact ⟨this.1, this.2.1⟩
  · obtain ⟨j, hj, rfl⟩ := List.getElem_of_mem hm
    have := hg j (by omega)
    unfold goodAt at this
    rw [List.getD_eq_getElem?_getD (l := f.Out), List.getElem?_eq_getElem hj] at this
    exact ⟨this.2.2.1, this.2.2.2⟩
theorem Fl.ok.good {f : Fl} (h : f.ok) {j : Nat} (hj : j < f.Kind.length) : goodAt f j := by
  have h1 := h.kinds
  have h2 := h.outs
  have hj2 : j < f.Out.length := by omega
  unfold goodAt
  rw [List.getD_eq_getElem?_getD, List.getD_eq_getElem?_getD, List.getElem?_eq_getElem hj, List.getElem?_eq_getElem hj2]
  exact ⟨(h.kind _ (List.getElem_mem hj)).1, (h.kind _ (List.getElem_mem hj)).2, (h.out _ (List.getElem_mem hj2)).1, (h.out _ (List.getElem_mem hj2)).2⟩
theorem good_next {f : Fl} {i : Nat} (h : ∀ j, j < i → goodAt f j) (hi : goodAt f i) : ∀ j, j < i + 1 → goodAt f j := by
  intro j hj
  by_cases e : j = i
  · rw [e]; exact hi
  · exact h j (by omega)
structure RightRel (w1 : World) (f : Fl) (n : Nat) (iv : Value) (wr : World) (i : Nat) : Prop where
  iv : iv = .int .i64 i
  le : i ≤ n
  good : ∀ j, j < i → goodAt f j
  same : w1 = wr
/-- What Right answers. -/
def RightPost (f : Fl) (w : World) (e : Ending) (w' : World) : Prop := ∃ b, e = .returned (.bool b) ∧ (b = true ↔ f.ok) ∧ Below w.heap.size w w'
theorem right_ways (f : Fl) : (f.W < 1) ∨ (1 ≤ f.W ∧ f.H < 1) ∨ (1 ≤ f.W ∧ 1 ≤ f.H ∧ f.D < 1) ∨ (1 ≤ f.W ∧ 1 ≤ f.H ∧ 1 ≤ f.D ∧ 4 < f.D) ∨ (1 ≤ f.W ∧ 1 ≤ f.H ∧ 1 ≤ f.D ∧ f.D ≤ 4 ∧ 4096 < f.W) ∨ (1 ≤ f.W ∧ 1 ≤ f.H ∧ 1 ≤ f.D ∧ f.D ≤ 4 ∧ f.W ≤ 4096 ∧ 4096 < f.H) ∨ (1 ≤ f.W ∧ 1 ≤ f.H ∧ 1 ≤ f.D ∧ f.D ≤ 4 ∧ f.W ≤ 4096 ∧ f.H ≤ 4096) := by omega
set_option maxRecDepth 8000 in
set_option maxHeartbeats 4000000 in
theorem qRight_any (f : Fl) (p : Pl) (w : World) (hin : FlIn w f p) (hlk : f.Kind.length ≤ 9223372036854775807) (hlo : f.Out.length ≤ 9223372036854775807) :
    Calls Tryd.prog 11 #[f.val p] w (RightPost f w) := by
  have HB : Hid (∀ o, Below w.heap.size w (w.alloc o)) := Lib.hid fun o => (Below.refl _ w).alloc (Nat.le_refl _) o
  have HNO : Hid (∀ w', Below w.heap.size w w' → ¬ f.ok → RightPost f w (.returned (.bool false)) w') := Lib.hid fun w' b h => ⟨false, rfl, ⟨fun e => (by cases e), fun e => absurd e h⟩, b⟩
  have HYES : Hid (∀ w', Below w.heap.size w w' → f.ok → RightPost f w (.returned (.bool true)) w') := Lib.hid fun w' b h => ⟨true, rfl, ⟨fun _ => h, fun _ => rfl⟩, b⟩
  rcases right_ways f with h1 | ⟨h1, h2⟩ | ⟨h1, h2, h3⟩ | ⟨h1, h2, h3, h4⟩ | ⟨h1, h2, h3, h4, h5⟩ | ⟨h1, h2, h3, h4, h5, h6⟩ | ⟨h1, h2, h3, h4, h5, h6⟩
  · have hno : ¬ f.ok := fun e => by have := e.w; omega
    have HX := Lib.hid (fun w' b => HNO.out w' b hno)
    clear HNO HYES hno hin
    generalize RightPost f w = Q at *
    obtain ⟨W, H, D, K, O⟩ := f
    go_enter Tryd.func11, Tryd.ntmps11
    go_wp2_with fail
    exact HX.out _ (HB.out _)
  · have hno : ¬ f.ok := fun e => by have := e.h; omega
    have HX := Lib.hid (fun w' b => HNO.out w' b hno)
    clear HNO HYES hno hin
    generalize RightPost f w = Q at *
    obtain ⟨W, H, D, K, O⟩ := f
    go_enter Tryd.func11, Tryd.ntmps11
    go_wp2_with fail
    exact HX.out _ (HB.out _)
  · have hno : ¬ f.ok := fun e => by have := e.d; omega
    have HX := Lib.hid (fun w' b => HNO.out w' b hno)
    clear HNO HYES hno hin
    generalize RightPost f w = Q at *
    obtain ⟨W, H, D, K, O⟩ := f
    go_enter Tryd.func11, Tryd.ntmps11
    go_wp2_with fail
    exact HX.out _ (HB.out _)
  · have hno : ¬ f.ok := fun e => by have := e.d4; omega
    have HX := Lib.hid (fun w' b => HNO.out w' b hno)
    clear HNO HYES hno hin
    generalize RightPost f w = Q at *
    obtain ⟨W, H, D, K, O⟩ := f
    go_enter Tryd.func11, Tryd.ntmps11
    go_wp2_with fail
    exact HX.out _ (HB.out _)
  · have hno : ¬ f.ok := fun e => by have := e.small; omega
    have HX := Lib.hid (fun w' b => HNO.out w' b hno)
    clear HNO HYES hno hin
    generalize RightPost f w = Q at *
    obtain ⟨W, H, D, K, O⟩ := f
    go_enter Tryd.func11, Tryd.ntmps11
    go_wp2_with fail
    exact HX.out _ (HB.out _)
  · have hno : ¬ f.ok := fun e => by have := e.small; omega
    have HX := Lib.hid (fun w' b => HNO.out w' b hno)
    clear HNO HYES hno hin
    generalize RightPost f w = Q at *
    obtain ⟨W, H, D, K, O⟩ := f
    go_enter Tryd.func11, Tryd.ntmps11
    go_wp2_with fail
    exact HX.out _ (HB.out _)
  · have m1 : 1 ≤ f.W * f.H := by have := Int.mul_le_mul h1 h2 (by omega) (by omega); omega
    have m2 : f.W * f.H ≤ 4096 * 4096 := Int.mul_le_mul h5 h6 (by omega) (by omega)
    have m3 : 1 ≤ f.W * f.H * f.D := by have := Int.mul_le_mul m1 h3 (by omega) (by omega); omega
    have m4 : f.W * f.H * f.D ≤ 4096 * 4096 * 4 := Int.mul_le_mul m2 h4 (by omega) (by omega)
    have m2' : f.W * f.H ≤ 16777216 := by omega
    have m4' : f.W * f.H * f.D ≤ 67108864 := by omega
    clear m2 m4
    have HN1 : Hid (4096 < f.W * f.H * f.D → ∀ w', Below w.heap.size w w' → RightPost f w (.returned (.bool false)) w') := Lib.hid fun h w' b => HNO.out w' b (fun e => by have := e.size; omega)
    have HN2 : Hid (¬ (f.Kind.length : Int) = f.W * f.H * f.D → ∀ w', Below w.heap.size w w' → RightPost f w (.returned (.bool false)) w') := Lib.hid fun h w' b => HNO.out w' b (fun e => h e.kinds)
    have HN3 : Hid (¬ (f.Out.length : Int) = f.W * f.H * f.D → ∀ w', Below w.heap.size w w' → RightPost f w (.returned (.bool false)) w') := Lib.hid fun h w' b => HNO.out w' b (fun e => h e.outs)
    have HN4 : Hid (∀ j, j < f.Kind.length → ¬ goodAt f j → ∀ w', Below w.heap.size w w' → RightPost f w (.returned (.bool false)) w') := Lib.hid fun j hj h w' b => HNO.out w' b (fun e => h (e.good hj))
    have HY : Hid (f.W * f.H * f.D ≤ 4096 → (f.Kind.length : Int) = f.W * f.H * f.D → (f.Out.length : Int) = f.W * f.H * f.D → (∀ j, j < f.Kind.length → goodAt f j) → ∀ w', Below w.heap.size w w' → RightPost f w (.returned (.bool true)) w') := Lib.hid fun a b c d w' e => HYES.out w' e (ok_of h1 h2 h3 h4 a b c d)
    clear HNO HYES
    by_cases hn1 : 4096 < f.W * f.H * f.D
    · have HX := Lib.hid (HN1.out hn1)
      clear HN1 HN2 HN3 HN4 HY hin
      generalize RightPost f w = Q at *
      obtain ⟨W, H, D, K, O⟩ := f
      dsimp only at *
      go_enter Tryd.func11, Tryd.ntmps11
      go_wp2_with fail
      exact HX.out _ (HB.out _)
    by_cases hn2 : (f.Kind.length : Int) = f.W * f.H * f.D
    · by_cases hn3 : (f.Out.length : Int) = f.W * f.H * f.D
      · have HGO : Hid (∀ j, goodAt f j ↔ (0 ≤ f.Kind.getD j 0 ∧ f.Kind.getD j 0 < 7 ∧ 0 ≤ f.Out.getD j 0 ∧ f.Out.getD j 0 ≤ 63)) := Lib.hid fun j => Iff.rfl
        have HY2 := Lib.hid (HY.out (by omega) hn2 hn3)
        have hn1' : f.W * f.H * f.D ≤ 4096 := by omega
        clear HN1 HN2 HN3 HY hn1
        generalize RightPost f w = Q at *
        obtain ⟨A1, c1, A2, c2⟩ := p
        have HIN := Lib.hid hin
        clear hin
        obtain ⟨n, hn⟩ : ∃ n : Nat, f.Kind.length = n := ⟨_, rfl⟩
        have hn2' : (n : Int) = f.W * f.H * f.D := by omega
        have hno : f.Out.length = n := by omega
        have hn2b : (((f.Kind.length : Nat) : Int) == f.W * f.H * f.D) = true := by simp [hn2]
        have hn3b : (((f.Out.length : Nat) : Int) == f.W * f.H * f.D) = true := by simp [hn3]
        have hle : (n : Int) ≤ 4096 := by omega
        have HIN2 : Hid (∀ k, k < n → (∃ b o, A1 = some ⟨b, o, none⟩ ∧ ∀ w', Below w.heap.size w w' → w'.cell? ⟨b, o + k, none⟩ = some (.int .i64 (f.Kind.getD k 0))) ∧ ∃ b o, A2 = some ⟨b, o, none⟩ ∧ ∀ w', Below w.heap.size w w' → w'.cell? ⟨b, o + k, none⟩ = some (.int .i64 (f.Out.getD k 0))) := Lib.hid fun k hk => ⟨row_val HIN.out.kind (by omega), row_val HIN.out.out (by omega)⟩
        rw [hn] at HN4 HY2
        generalize hKK : f.Kind.getD = KK at *
        generalize hOO : f.Out.getD = OO at *
        clear hKK hOO
        obtain ⟨W, H, D, K, O⟩ := f
        dsimp only [Fl.val] at *
        rw [hn, hno] at *
        clear hn hno HIN hlk hlo hn2 hn3
        go_enter Tryd.func11, Tryd.ntmps11
        go_wp2_with fail
        go_loopw [2, 4] (fun _ iv wr => ∃ i, RightRel (w.alloc (.cells #[.int .i64 W, .int .i64 H, .int .i64 D, .slice A1 n c1, .slice A2 n c2] 24)) ⟨W, H, D, K, O⟩ n iv wr i) (fun _ iv _ => n - (intOf iv).toNat)
        case atStart => exact ⟨0, rfl, Nat.zero_le _, (fun j hj => by omega), rfl⟩
        case round =>
          obtain ⟨i, ⟨rfl, hi, hgood, rfl⟩⟩ := hrel
          have HG := Lib.hid hgood
          clear hgood
          by_cases hlt : i < n
          · obtain ⟨⟨b1, o1, e1, hk⟩, ⟨b2, o2, e2, hv⟩⟩ := HIN2.out i hlt
            subst e1 e2
            have zk := hk _ (HB.out (.cells #[.int .i64 W, .int .i64 H, .int .i64 D, .slice (some ⟨b1, o1, none⟩) n c1, .slice (some ⟨b2, o2, none⟩) n c2] 24))
            have zo := hv _ (HB.out (.cells #[.int .i64 W, .int .i64 H, .int .i64 D, .slice (some ⟨b1, o1, none⟩) n c1, .slice (some ⟨b2, o2, none⟩) n c2] 24))
            have HGI := Lib.hid (HGO.out i)
            have HNI := Lib.hid (HN4.out i hlt)
            have hlt' : (i : Int) < W * H * D := by omega
            have hltn : (i : Int) < n := by omega
            clear hk hv HIN2
            generalize KK i 0 = kv at *
            generalize OO i 0 = ov at *
            by_cases a1 : kv < 0
            · have HX := Lib.hid (HNI.out (fun e => by have := HGI.out.1 e; omega))
              clear HNI HGI
              go_wp2_with fail
              exact HX.out _ (HB.out _)
            by_cases a2 : 7 ≤ kv
            · have HX := Lib.hid (HNI.out (fun e => by have := HGI.out.1 e; omega))
              clear HNI HGI
              go_wp2_with fail
              exact HX.out _ (HB.out _)
            by_cases a3 : ov < 0
            · have HX := Lib.hid (HNI.out (fun e => by have := HGI.out.1 e; omega))
              clear HNI HGI
              go_wp2_with fail
              exact HX.out _ (HB.out _)
            by_cases a4 : 63 < ov
            · have HX := Lib.hid (HNI.out (fun e => by have := HGI.out.1 e; omega))
              clear HNI HGI
              go_wp2_with fail
              exact HX.out _ (HB.out _)
            have HGG := Lib.hid (HGI.out.2 ⟨by omega, by omega, by omega, by omega⟩)
            clear HNI HGI
            go_wp2_with fail
            go_roundw
            case rel => exact ⟨i + 1, by simp, hlt, good_next HG.out HGG.out, rfl⟩
            case measure => simp [intOf]; omega
          · obtain rfl : n = i := by omega
            have HX := Lib.hid (HY2.out HG.out)
            go_wp2_with fail
            exact HX.out _ (HB.out _)
      · have HX := Lib.hid (HN3.out hn3)
        clear HN1 HN2 HN3 HN4 HY hin
        generalize RightPost f w = Q at *
        obtain ⟨W, H, D, K, O⟩ := f
        dsimp only at *
        have hn2b : ((K.length : Int) == W * H * D) = true := by simp [hn2]
        have hn3b : ((O.length : Int) == W * H * D) = false := ne_b hn3
        go_enter Tryd.func11, Tryd.ntmps11
        go_wp2_with fail
        exact HX.out _ (HB.out _)
    · have HX := Lib.hid (HN2.out hn2)
      clear HN1 HN2 HN3 HN4 HY hin
      generalize RightPost f w = Q at *
      obtain ⟨W, H, D, K, O⟩ := f
      dsimp only at *
      have hn2b : ((K.length : Int) == W * H * D) = false := ne_b hn2
      go_enter Tryd.func11, Tryd.ntmps11
      go_wp2_with fail
      exact HX.out _ (HB.out _)
end Flo
end Go.Proofs.YtncbhhnojdhpeaaDoor

/- The reference's Same. -/
import Derived.Test.YtjgaghapjlmcpaaDoorLxT
import Derived.Deep.QuietTactic
import Derived.BigQuiet
import Derived.Deep.Draws
namespace Go.Proofs.YtjgaghapjlmcpaaDoor
open Go.RowKit Wire Txt
set_option linter.unusedVariables false
set_option linter.unusedSimpArgs false
namespace Lx

theorem up_zero (l : List Tk) : l.map (up 0) = l := by
  have : up 0 = id := by
    funext t
    rfl
  rw [this, List.map_id]

structure SRel (W : World) (A B : Option Addr) (a b : List Tk) (k : Nat) (iv : Value) (w : World) (i : Nat) : Prop where
  iv : iv = .int .i64 i
  ra : Row w W.heap.size A (tks a)
  rb : Row w W.heap.size B (tks b)
  le : i ≤ a.length
  same : Hid (∀ j, j < i → a[j]? = (b.map (up k))[j]?)
  below : Below W.heap.size W w
theorem SRel.keep {W w w1 : World} {A B : Option Addr} {a b : List Tk} {k i : Nat} (h : SRel W A B a b k (.int .i64 i) w i) (b1 : Below w.heap.size w w1) (hi : i < a.length) (he : a[i]? = (b.map (up k))[i]?) (iv : Value) (hiv : iv = .int .i64 ((i + 1 : Nat) : Int)) : SRel W A B a b k iv w1 (i + 1) := by
  have b2 := b1.mono h.below.size
  refine ⟨hiv, h.ra.below b2, h.rb.below b2, hi, Lib.hid fun j hj => ?_, h.below.trans b2⟩
  by_cases e : j = i
  · rw [e]
    exact he
  · exact h.same.out j (by omega)
theorem up_val (t : Tk) (k : Nat) : (up k t).val = .agg #[.int .i64 t.kind, str t.text, .int .i64 t.n, .int .i64 ((t.line : Int) + k)] := rfl

theorem below_alloc2 {W w : World} (h : Below W.heap.size W w) (o : Obj) (n : Nat) : Below W.heap.size W ((w.alloc o).drewN n) := (h.alloc h.size o).trans ⟨rfl, rfl, rfl, Nat.le_refl _, fun _ _ => rfl⟩

set_option maxRecDepth 8000 in
set_option maxHeartbeats 4000000 in
theorem same9_any (va vb : Value) (a b : List Tk) (k : Nat) (w : World) (ha : Has w va a) (hb : Has w vb b) (hla : a.length ≤ 1000000) (hlb : b.length ≤ 1000000) (hk : k ≤ 1000000) (hbl : ∀ t ∈ b, t.line ≤ 1000000) :
    Calls Tryd.prog 11 #[va, vb, .int .i64 k] w fun e w' => e = .returned (.bool (decide (a = b.map (up k)))) ∧ Below w.heap.size w w' := by
  obtain ⟨A, ca, rfl, hca, hra⟩ := ha.is
  obtain ⟨B, cb, rfl, hcb, hrb⟩ := hb.is
  have hlen : (b.map (up k)).length = b.length := List.length_map ..
  by_cases hl : a.length = b.length
  · have HBL := Lib.hid hbl
    have HLEN := Lib.hid hlen
    have HRA := Lib.hid hra
    have HRB := Lib.hid hrb
    have hne : ((a.length : Int) != (b.length : Int)) = false := by rw [hl]; simp
    have HL := Lib.hid hl
    generalize hv : decide (a = b.map (up k)) = v
    have HV := Lib.hid hv
    clear hv hlen hl hra hrb ha hb hbl
    go_enter Tryd.func11, Tryd.ntmps11
    go_wp2_with fail
    go_loopw [6, 7, 8] (fun _ iv _ wr => ∃ i, SRel w A B a b k iv wr i) (fun _ iv _ _ => a.length - (intOf iv).toNat)
    case atStart => exact ⟨0, rfl, HRA.out, HRB.out, Nat.zero_le _, Lib.hid (fun j hj => absurd hj (by omega)), Below.refl _ _⟩
    case round =>
      obtain ⟨i, hR⟩ := hrel
      obtain rfl := hR.iv
      have HR := Lib.hid hR
      have hle := hR.le
      clear hR HRA HRB
      by_cases hlt : i < a.length
      · have hltb : i < b.length := by rw [← HL.out]; exact hlt
        obtain ⟨t, ht⟩ : ∃ t, a[i]? = some t := ⟨_, List.getElem?_eq_getElem hlt⟩
        obtain ⟨u, hu⟩ : ∃ u, b[i]? = some u := ⟨_, List.getElem?_eq_getElem hltb⟩
        obtain ⟨g1, o1, rfl, hg1, p0, p1, p2, p3⟩ := row_tk HR.out.ra ht
        obtain ⟨g2, o2, rfl, hg2, q0, q1, q2, q3⟩ := row_tk HR.out.rb hu
        have hlt1 : g1 < wr.heap.size := Nat.lt_of_lt_of_le hg1 HR.out.below.size
        have r0 := fun o => (((Below.refl wr.heap.size wr).alloc (Nat.le_refl _) o).cell (p := ⟨g1, o1 + i * 4, none⟩) hlt1).trans p0
        have r1 := fun o => (((Below.refl wr.heap.size wr).alloc (Nat.le_refl _) o).cell (p := ⟨g1, o1 + i * 4 + 1, none⟩) hlt1).trans p1
        have r2 := fun o => (((Below.refl wr.heap.size wr).alloc (Nat.le_refl _) o).cell (p := ⟨g1, o1 + i * 4 + 2, none⟩) hlt1).trans p2
        have r3 := fun o => (((Below.refl wr.heap.size wr).alloc (Nat.le_refl _) o).cell (p := ⟨g1, o1 + i * 4 + 3, none⟩) hlt1).trans p3
        have hul := HBL.out u (List.mem_of_getElem? hu)
        have hsz := HR.out.below.size
        have HNEQ : ∀ w, (binOp .neq 31 (.agg #[.int .i64 t.kind, str t.text, .int .i64 t.n, .int .i64 t.line]) (.agg #[.int .i64 u.kind, str u.text, .int .i64 u.n, .int .i64 ((u.line : Int) + k)])).run Tryd.prog w = .ok (.bool (!decide (t = up k u))) w := neq_tk t (up k u)
        have HM : Hid ((b.map (up k))[i]? = some (up k u)) := Lib.hid (by rw [List.getElem?_map, hu]; rfl)
        have HT := Lib.hid ht
        clear ht hu
        by_cases he : t = up k u
        · have HQ : Hid (∀ o n, SRel w (some ⟨g1, o1, none⟩) (some ⟨g2, o2, none⟩) a b k (.int .i64 ((i : Int) + 1)) ((wr.alloc o).drewN n) (i + 1)) := Lib.hid fun o n => HR.out.keep (below_alloc2 (Below.refl _ _) o n) hlt (by rw [HT.out, HM.out, he]) _ rfl
          rw [decide_eq_true he] at HNEQ
          clear he
          go_wp2_with fail
          go_region
          all_goals
            go_wp2_with fail
            refine ⟨⟨_, HQ.out _ 1⟩, ?_⟩
            simp [intOf]
            omega
        · have HF : Hid (v = false) := Lib.hid (by
            rw [← HV.out]
            refine decide_eq_false fun e => he ?_
            have h1 := HT.out
            rw [e, HM.out] at h1
            exact (Option.some.inj h1).symm)
          rw [decide_eq_false he] at HNEQ
          clear he
          go_wp2_with fail
          go_region
          all_goals
            go_wp2_with fail
            go_ret
            exact ⟨by rw [HF.out]; rfl, below_alloc2 HR.out.below _ 1⟩
      · obtain rfl : i = a.length := by omega
        have HT : Hid (v = true) := Lib.hid (by
          rw [← HV.out]
          refine decide_eq_true (List.ext_getElem? fun j => ?_)
          by_cases hj : j < a.length
          · exact HR.out.same.out j hj
          · rw [List.getElem?_eq_none (by omega), List.getElem?_eq_none (by rw [HLEN.out, ← HL.out]; omega)])
        go_wp2_with fail
        go_ret
        exact ⟨by rw [HT.out]; rfl, HR.out.below⟩
  · have hne : ((a.length : Int) != (b.length : Int)) = true := by
      simp only [bne_iff_ne, ne_eq]
      omega
    have hv : decide (a = b.map (up k)) = false := decide_eq_false fun e => hl (by rw [e, hlen])
    rw [hv]
    clear hv hlen hra hrb ha hb hbl hl
    go_enter Tryd.func11, Tryd.ntmps11
    go_wp2_with fail
    go_ret
    exact ⟨rfl, Below.refl _ _⟩
end Lx
end Go.Proofs.YtjgaghapjlmcpaaDoor

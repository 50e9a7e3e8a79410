/- RegionSets. -/
import Derived.Test.YtgophgnfiboefaaDoorRsB
namespace Go.Proofs.YtgophgnfiboefaaDoor
open Go.RowKit Wire
open Txt (Row)
open Go.Proofs.YtgophgnfiboefaaDoor.Own Flo
open Dsk (Only nth)
set_option linter.unusedVariables false
set_option linter.unusedSimpArgs false
set_option linter.unusedSectionVars false
namespace Rgn
theorem small_le2 {n : Nat} (h : n ≤ maxLen) : n ≤ 9223372036854775807 := by unfold maxLen at h; omega
abbrev ofR (l : List Int) : List Nat := regOf (fun c => decide ((c : Int) ∈ l)) 4096
theorem hasB_of {l : List Int} {c : Int} : hasB (ofR l) c = decide (c ∈ l ∧ 0 ≤ c ∧ c < 4096) := by
  rw [Bool.eq_iff_iff, hasB_toNat, regOf_mem, decide_eq_true_iff, decide_eq_true_iff]
  constructor
  · rintro ⟨h1, h2, h3⟩
    have e : ((c.toNat : Nat) : Int) = c := by omega
    rw [e] at h3
    exact ⟨h3, h1, by omega⟩
  · rintro ⟨h1, h2, h3⟩
    have e : ((c.toNat : Nat) : Int) = c := by omega
    exact ⟨h2, by omega, by rw [e]; exact h1⟩
theorem hasB_uni {a b : List Nat} (ha : Reg a) (hb : Reg b) (c : Int) : hasB (uniR a b) c = (hasB a c || hasB b c) := by
  rw [Bool.eq_iff_iff, Bool.or_eq_true, hasB_toNat, hasB_toNat, hasB_toNat, uni_mem ha hb]
  constructor
  · rintro ⟨h1, h2 | h2⟩
    · exact .inl ⟨h1, h2⟩
    · exact .inr ⟨h1, h2⟩
  · rintro (⟨h1, h2⟩ | ⟨h1, h2⟩)
    · exact ⟨h1, .inl h2⟩
    · exact ⟨h1, .inr h2⟩
theorem hasB_int {a b : List Nat} (ha : Reg a) (c : Int) : hasB (intR a b) c = (hasB a c && hasB b c) := by
  rw [Bool.eq_iff_iff, Bool.and_eq_true, hasB_toNat, hasB_toNat, hasB_toNat, int_mem ha]
  exact ⟨fun h => ⟨⟨h.1, h.2.1⟩, ⟨h.1, h.2.2⟩⟩, fun h => ⟨h.1.1, h.1.2, h.2.2⟩⟩
theorem hasB_dif {a b : List Nat} (ha : Reg a) (c : Int) : hasB (difR a b) c = (hasB a c && !hasB b c) := by
  rw [Bool.eq_iff_iff, Bool.and_eq_true, Bool.not_eq_true', hasB_toNat, hasB_toNat, dif_mem ha]
  constructor
  · rintro ⟨h1, h2, h3⟩
    refine ⟨⟨h1, h2⟩, ?_⟩
    cases h : hasB b c with
    | false => rfl
    | true => exact absurd (hasB_toNat.1 h).2 h3
  · rintro ⟨⟨h1, h2⟩, h3⟩
    refine ⟨h1, h2, fun h => ?_⟩
    rw [hasB_toNat.2 ⟨h1, h⟩] at h3
    cases h3
theorem reg_ext {a b : List Nat} (ha : Reg a) (hb : Reg b) (h : ∀ x, x ∈ a ↔ x ∈ b) : a = b := asc_unique ha.asc hb.asc h
section
variable {a b d : List Nat} (ha : Reg a) (hb : Reg b) (hd : Reg d)
include ha hb
theorem uni_comm : uniR b a = uniR a b := reg_ext (Reg.of _) (Reg.of _) fun x => by rw [uni_mem hb ha, uni_mem ha hb]; exact or_comm
theorem int_comm : intR b a = intR a b := reg_ext (Reg.of _) (Reg.of _) fun x => by rw [int_mem hb, int_mem ha]; exact and_comm
theorem uni_dif : uniR (intR a b) (difR a b) = a := reg_ext (Reg.of _) ha fun x => by
  rw [uni_mem (Reg.of _) (Reg.of _), int_mem ha, dif_mem ha]
  by_cases h : x ∈ b <;> simp [h]
theorem int_none : intR (intR a b) (difR a b) = [] := reg_ext (Reg.of _) ⟨List.Pairwise.nil, by simp⟩ fun x => by
  rw [int_mem (Reg.of _), int_mem ha, dif_mem ha]
  simp
  intro _ h _
  exact h
theorem sub_int : subB (intR a b) a = true := decide_eq_true fun x hx => ((int_mem ha).1 hx).1
theorem sub_uni : subB a (uniR a b) = true := decide_eq_true fun x hx => (uni_mem ha hb).2 (.inl hx)
theorem sub_same : subB a b = decide (intR a b = a) := by
  rw [Bool.eq_iff_iff]
  unfold subB
  rw [decide_eq_true_iff, decide_eq_true_iff]
  constructor
  · exact fun h => reg_ext (Reg.of _) ha fun x => by rw [int_mem ha]; exact ⟨fun h => h.1, fun hx => ⟨hx, h x hx⟩⟩
  · intro h x hx
    rw [← h] at hx
    exact ((int_mem ha).1 hx).2
include hd
theorem uni_assoc : uniR a (uniR b d) = uniR (uniR a b) d := reg_ext (Reg.of _) (Reg.of _) fun x => by rw [uni_mem ha (Reg.of _), uni_mem hb hd, uni_mem (Reg.of _) hd, uni_mem ha hb]; exact or_assoc.symm
theorem int_assoc : intR a (intR b d) = intR (intR a b) d := reg_ext (Reg.of _) (Reg.of _) fun x => by rw [int_mem ha, int_mem hb, int_mem (Reg.of _), int_mem ha]; exact and_assoc.symm
theorem int_uni : uniR (intR a b) (intR a d) = intR a (uniR b d) := reg_ext (Reg.of _) (Reg.of _) fun x => by rw [uni_mem (Reg.of _) (Reg.of _), int_mem ha, int_mem ha, int_mem ha, uni_mem hb hd]; exact and_or_left.symm
end
theorem got_eq {f : FuncId} {args : Array Value} {w : World} {l m : List Nat} (h : Calls Tryd.prog f args w (GotL w l)) (e : l = m) : Calls Tryd.prog f args w (GotL w m) := e ▸ h
theorem right_any2 (w : World) (A : Option Addr) (c : Nat) (r : List Nat) (hr : Reg r) (h : Row w w.heap.size A (qvs r)) : Calls Tryd.prog 13 #[.slice A r.length c] w fun e w' => e = .returned (.bool true) ∧ w = w' := by
  have := right_reg w A c (ivn r) (by rw [List.length_map]; have := hr.len; omega) (by rw [ivs_ivn]; exact h)
  rw [List.length_map, isReg_reg hr] at this
  exact this
theorem same_any2 (w : World) (A B : Option Addr) (c d : Nat) (r s : List Nat) (hr : Reg r) (hs : Reg s) (h : Row w w.heap.size A (qvs r)) (k : Row w w.heap.size B (qvs s)) : Calls Tryd.prog 14 #[.slice A r.length c, .slice B s.length d] w fun e w' => e = .returned (.bool (decide (r = s))) ∧ Below w.heap.size w w' := by
  have := regSame_any w A B c d (ivn r) (ivn s) (by rw [List.length_map]; have := hr.len; omega) (by rw [List.length_map]; have := hs.len; omega) (by rw [ivs_ivn]; exact h) (by rw [ivs_ivn]; exact k)
  rw [List.length_map, List.length_map, show decide (ivn r = ivn s) = decide (r = s) from by rw [decide_eq_decide]; exact ⟨ivn_inj, fun e => by rw [e]⟩] at this
  exact this
theorem mem_snoc_int {l : List Int} {i : Nat} (h : i < l.length) (c : Int) : decide (c ∈ l.take (i + 1) ∧ 0 ≤ c ∧ c < 4096) = (decide (c ∈ l.take i ∧ 0 ≤ c ∧ c < 4096) || decide (l.getD i 0 = c) && (decide (0 ≤ c) && decide (c < 4096))) := by
  have e := mem_take_succ h c
  rw [Bool.eq_iff_iff] at e
  simp only [decide_eq_true_iff, Bool.or_eq_true] at e
  rw [Bool.eq_iff_iff]
  simp only [decide_eq_true_iff, Bool.or_eq_true, Bool.and_eq_true, e]
  constructor
  · rintro ⟨h1 | h1, h2⟩
    · exact .inl ⟨h1, h2⟩
    · exact .inr ⟨h1, h2⟩
  · rintro (⟨h1, h2⟩ | ⟨h1, h2⟩)
    · exact ⟨.inl h1, h2⟩
    · exact ⟨.inr h1, h2⟩
set_option maxRecDepth 100000 in
set_option maxHeartbeats 16000000 in
theorem sets_law (A1 : Option Addr) (c1 : Nat) (l1 : List Int) (A2 : Option Addr) (c2 : Nat) (l2 : List Int) (A3 : Option Addr) (c3 : Nat) (l3 : List Int) (z : Int) (W : World) (hv : VS W ∧ VO W) (hr1 : Row W W.heap.size A1 (ivs l1)) (hm1 : l1.length ≤ maxLen) (hr2 : Row W W.heap.size A2 (ivs l2)) (hm2 : l2.length ≤ maxLen) (hr3 : Row W W.heap.size A3 (ivs l3)) (hm3 : l3.length ≤ maxLen) :
    Calls Tryd.prog 3 #[.slice A1 l1.length c1, .slice A2 l2.length c2, .slice A3 l3.length c3, .int .i64 z] W fun e w' => e = .returned (.bool true) ∧ Below W.heap.size W w' := by
  have HSM : Hid (∀ w', Below W.heap.size W w' → Calls Tryd.prog 7 #[] w' fun e w2 => e = .returned (.bool true) ∧ Below w'.heap.size w' w2) := Lib.hid fun w' b => regSmall_any w' (hv.1.lift b) (hv.2.lift b)
  have H0 := Lib.hid (Below.refl W.heap.size W)
  have k1 : (l1.length : Int) ≤ 9223372036854775807 := by have := small_le2 hm1; omega
  have k2 : (l2.length : Int) ≤ 9223372036854775807 := by have := small_le2 hm2; omega
  have k3 : (l3.length : Int) ≤ 9223372036854775807 := by have := small_le2 hm3; omega
  by_cases q1 : l1.length ≤ 200
  case neg =>
    have q1' : ¬ (l1.length : Int) ≤ 200 := by omega
    clear hv hr1 hr2 hr3 hm1 hm2 hm3 q1
    generalize l1.length = n1 at *
    generalize l2.length = n2 at *
    generalize l3.length = n3 at *
    go_enter Tryd.func3, Tryd.ntmps3
    go_wp2_with (go_at_call 7; refine (HSM.out _ H0.out).mono ?_; rintro e w1 ⟨rfl, b1⟩)
    go_ret
    exact ⟨rfl, b1⟩
  by_cases q2 : l2.length ≤ 200
  case neg =>
    have q1' : (l1.length : Int) ≤ 200 := by omega
    have q2' : ¬ (l2.length : Int) ≤ 200 := by omega
    clear hv hr1 hr2 hr3 hm1 hm2 hm3 q1 q2
    generalize l1.length = n1 at *
    generalize l2.length = n2 at *
    generalize l3.length = n3 at *
    go_enter Tryd.func3, Tryd.ntmps3
    go_wp2_with (go_at_call 7; refine (HSM.out _ H0.out).mono ?_; rintro e w1 ⟨rfl, b1⟩)
    go_ret
    exact ⟨rfl, b1⟩
  by_cases q3 : l3.length ≤ 200
  case neg =>
    have q1' : (l1.length : Int) ≤ 200 := by omega
    have q2' : (l2.length : Int) ≤ 200 := by omega
    have q3' : ¬ (l3.length : Int) ≤ 200 := by omega
    clear hv hr1 hr2 hr3 hm1 hm2 hm3 q1 q2 q3
    generalize l1.length = n1 at *
    generalize l2.length = n2 at *
    generalize l3.length = n3 at *
    go_enter Tryd.func3, Tryd.ntmps3
    go_wp2_with (go_at_call 7; refine (HSM.out _ H0.out).mono ?_; rintro e w1 ⟨rfl, b1⟩)
    go_ret
    exact ⟨rfl, b1⟩
  have q1' : (l1.length : Int) ≤ 200 := by omega
  have q2' : (l2.length : Int) ≤ 200 := by omega
  have q3' : (l3.length : Int) ≤ 200 := by omega
  have HO1 : Hid (∀ w', Below W.heap.size W w' → Calls Tryd.prog 8 #[.slice A1 l1.length c1] w' (GotL w' (ofR l1))) := Lib.hid fun w' b => got_of (of_any w' A1 c1 l1 (by omega) (hr1.lift b))
  have HO2 : Hid (∀ w', Below W.heap.size W w' → Calls Tryd.prog 8 #[.slice A2 l2.length c2] w' (GotL w' (ofR l2))) := Lib.hid fun w' b => got_of (of_any w' A2 c2 l2 (by omega) (hr2.lift b))
  have HO3 : Hid (∀ w', Below W.heap.size W w' → Calls Tryd.prog 8 #[.slice A3 l3.length c3] w' (GotL w' (ofR l3))) := Lib.hid fun w' b => got_of (of_any w' A3 c3 l3 (by omega) (hr3.lift b))
  have hRA : Reg (ofR l1) := Reg.of _
  have hRB : Reg (ofR l2) := Reg.of _
  have hRD : Reg (ofR l3) := Reg.of _
  have HI1 : Hid (∀ w2 A B ca cb, Row w2 w2.heap.size A (qvs (ofR l2)) → Row w2 w2.heap.size B (qvs (ofR l1)) → Calls Tryd.prog 9 #[.slice A (ofR l2).length ca, .slice B (ofR l1).length cb] w2 (GotL w2 (uniR (ofR l1) (ofR l2)))) := Lib.hid fun w2 A B ca cb h1 h2 => got_eq (got_of (uni_any w2 A B ca cb _ _ (Reg.of _) (Reg.of _) h1 h2)) (uni_comm hRA hRB)
  have HI2 : Hid (∀ w2 A B ca cb, Row w2 w2.heap.size A (qvs (ofR l2)) → Row w2 w2.heap.size B (qvs (ofR l1)) → Calls Tryd.prog 10 #[.slice A (ofR l2).length ca, .slice B (ofR l1).length cb] w2 (GotL w2 (intR (ofR l1) (ofR l2)))) := Lib.hid fun w2 A B ca cb h1 h2 => got_eq (got_of (int_any w2 A B ca cb _ _ (Reg.of _) (Reg.of _) h1 h2)) (int_comm hRA hRB)
  have HI3 : Hid (∀ w2 A B ca cb, Row w2 w2.heap.size A (qvs (uniR (ofR l1) (ofR l2))) → Row w2 w2.heap.size B (qvs (ofR l3)) → Calls Tryd.prog 9 #[.slice A (uniR (ofR l1) (ofR l2)).length ca, .slice B (ofR l3).length cb] w2 (GotL w2 (uniR (uniR (ofR l1) (ofR l2)) (ofR l3)))) := Lib.hid fun w2 A B ca cb h1 h2 => got_of (uni_any w2 A B ca cb _ _ (Reg.of _) (Reg.of _) h1 h2)
  have HI4 : Hid (∀ w2 A B ca cb, Row w2 w2.heap.size A (qvs (ofR l2)) → Row w2 w2.heap.size B (qvs (ofR l3)) → Calls Tryd.prog 9 #[.slice A (ofR l2).length ca, .slice B (ofR l3).length cb] w2 (GotL w2 (uniR (ofR l2) (ofR l3)))) := Lib.hid fun w2 A B ca cb h1 h2 => got_of (uni_any w2 A B ca cb _ _ (Reg.of _) (Reg.of _) h1 h2)
  have HI5 : Hid (∀ w2 A B ca cb, Row w2 w2.heap.size A (qvs (ofR l1)) → Row w2 w2.heap.size B (qvs (uniR (ofR l2) (ofR l3))) → Calls Tryd.prog 9 #[.slice A (ofR l1).length ca, .slice B (uniR (ofR l2) (ofR l3)).length cb] w2 (GotL w2 (uniR (uniR (ofR l1) (ofR l2)) (ofR l3)))) := Lib.hid fun w2 A B ca cb h1 h2 => got_eq (got_of (uni_any w2 A B ca cb _ _ (Reg.of _) (Reg.of _) h1 h2)) (uni_assoc hRA hRB hRD)
  have HI6 : Hid (∀ w2 A B ca cb, Row w2 w2.heap.size A (qvs (intR (ofR l1) (ofR l2))) → Row w2 w2.heap.size B (qvs (ofR l3)) → Calls Tryd.prog 10 #[.slice A (intR (ofR l1) (ofR l2)).length ca, .slice B (ofR l3).length cb] w2 (GotL w2 (intR (intR (ofR l1) (ofR l2)) (ofR l3)))) := Lib.hid fun w2 A B ca cb h1 h2 => got_of (int_any w2 A B ca cb _ _ (Reg.of _) (Reg.of _) h1 h2)
  have HI7 : Hid (∀ w2 A B ca cb, Row w2 w2.heap.size A (qvs (ofR l2)) → Row w2 w2.heap.size B (qvs (ofR l3)) → Calls Tryd.prog 10 #[.slice A (ofR l2).length ca, .slice B (ofR l3).length cb] w2 (GotL w2 (intR (ofR l2) (ofR l3)))) := Lib.hid fun w2 A B ca cb h1 h2 => got_of (int_any w2 A B ca cb _ _ (Reg.of _) (Reg.of _) h1 h2)
  have HI8 : Hid (∀ w2 A B ca cb, Row w2 w2.heap.size A (qvs (ofR l1)) → Row w2 w2.heap.size B (qvs (intR (ofR l2) (ofR l3))) → Calls Tryd.prog 10 #[.slice A (ofR l1).length ca, .slice B (intR (ofR l2) (ofR l3)).length cb] w2 (GotL w2 (intR (intR (ofR l1) (ofR l2)) (ofR l3)))) := Lib.hid fun w2 A B ca cb h1 h2 => got_eq (got_of (int_any w2 A B ca cb _ _ (Reg.of _) (Reg.of _) h1 h2)) (int_assoc hRA hRB hRD)
  have HI9 : Hid (∀ w2 A B ca cb, Row w2 w2.heap.size A (qvs (ofR l1)) → Row w2 w2.heap.size B (qvs (uniR (ofR l2) (ofR l3))) → Calls Tryd.prog 10 #[.slice A (ofR l1).length ca, .slice B (uniR (ofR l2) (ofR l3)).length cb] w2 (GotL w2 (intR (ofR l1) (uniR (ofR l2) (ofR l3))))) := Lib.hid fun w2 A B ca cb h1 h2 => got_of (int_any w2 A B ca cb _ _ (Reg.of _) (Reg.of _) h1 h2)
  have HI10 : Hid (∀ w2 A B ca cb, Row w2 w2.heap.size A (qvs (ofR l1)) → Row w2 w2.heap.size B (qvs (ofR l3)) → Calls Tryd.prog 10 #[.slice A (ofR l1).length ca, .slice B (ofR l3).length cb] w2 (GotL w2 (intR (ofR l1) (ofR l3)))) := Lib.hid fun w2 A B ca cb h1 h2 => got_of (int_any w2 A B ca cb _ _ (Reg.of _) (Reg.of _) h1 h2)
  have HI11 : Hid (∀ w2 A B ca cb, Row w2 w2.heap.size A (qvs (intR (ofR l1) (ofR l2))) → Row w2 w2.heap.size B (qvs (intR (ofR l1) (ofR l3))) → Calls Tryd.prog 9 #[.slice A (intR (ofR l1) (ofR l2)).length ca, .slice B (intR (ofR l1) (ofR l3)).length cb] w2 (GotL w2 (intR (ofR l1) (uniR (ofR l2) (ofR l3))))) := Lib.hid fun w2 A B ca cb h1 h2 => got_eq (got_of (uni_any w2 A B ca cb _ _ (Reg.of _) (Reg.of _) h1 h2)) (int_uni hRA hRB hRD)
  have HI12 : Hid (∀ w2 A B ca cb, Row w2 w2.heap.size A (qvs (intR (ofR l1) (ofR l2))) → Row w2 w2.heap.size B (qvs (difR (ofR l1) (ofR l2))) → Calls Tryd.prog 9 #[.slice A (intR (ofR l1) (ofR l2)).length ca, .slice B (difR (ofR l1) (ofR l2)).length cb] w2 (GotL w2 (ofR l1))) := Lib.hid fun w2 A B ca cb h1 h2 => got_eq (got_of (uni_any w2 A B ca cb _ _ (Reg.of _) (Reg.of _) h1 h2)) (uni_dif hRA hRB)
  have HI13 : Hid (∀ w2 A B ca cb, Row w2 w2.heap.size A (qvs (intR (ofR l1) (ofR l2))) → Row w2 w2.heap.size B (qvs (difR (ofR l1) (ofR l2))) → Calls Tryd.prog 10 #[.slice A (intR (ofR l1) (ofR l2)).length ca, .slice B (difR (ofR l1) (ofR l2)).length cb] w2 (GotL w2 (([] : List Nat)))) := Lib.hid fun w2 A B ca cb h1 h2 => got_eq (got_of (int_any w2 A B ca cb _ _ (Reg.of _) (Reg.of _) h1 h2)) (int_none hRA hRB)
  have HSRU : Hid (∀ w2 A B ca cb, Row w2 w2.heap.size A (qvs (uniR (ofR l1) (ofR l2))) → Row w2 w2.heap.size B (qvs (uniR (ofR l1) (ofR l2))) → Calls Tryd.prog 14 #[.slice A (uniR (ofR l1) (ofR l2)).length ca, .slice B (uniR (ofR l1) (ofR l2)).length cb] w2 fun e w3 => e = .returned (.bool true) ∧ Below w2.heap.size w2 w3) := Lib.hid fun w2 A B ca cb h1 h2 => by
    have := same_any2 w2 A B ca cb _ _ (Reg.of _) (Reg.of _) h1 h2
    rw [decide_eq_true rfl] at this
    exact this
  have HSP1 : Hid (∀ w2 A B ca cb, Row w2 w2.heap.size A (qvs (uniR (uniR (ofR l1) (ofR l2)) (ofR l3))) → Row w2 w2.heap.size B (qvs (uniR (uniR (ofR l1) (ofR l2)) (ofR l3))) → Calls Tryd.prog 14 #[.slice A (uniR (uniR (ofR l1) (ofR l2)) (ofR l3)).length ca, .slice B (uniR (uniR (ofR l1) (ofR l2)) (ofR l3)).length cb] w2 fun e w3 => e = .returned (.bool true) ∧ Below w2.heap.size w2 w3) := Lib.hid fun w2 A B ca cb h1 h2 => by
    have := same_any2 w2 A B ca cb _ _ (Reg.of _) (Reg.of _) h1 h2
    rw [decide_eq_true rfl] at this
    exact this
  have HSQ1 : Hid (∀ w2 A B ca cb, Row w2 w2.heap.size A (qvs (intR (intR (ofR l1) (ofR l2)) (ofR l3))) → Row w2 w2.heap.size B (qvs (intR (intR (ofR l1) (ofR l2)) (ofR l3))) → Calls Tryd.prog 14 #[.slice A (intR (intR (ofR l1) (ofR l2)) (ofR l3)).length ca, .slice B (intR (intR (ofR l1) (ofR l2)) (ofR l3)).length cb] w2 fun e w3 => e = .returned (.bool true) ∧ Below w2.heap.size w2 w3) := Lib.hid fun w2 A B ca cb h1 h2 => by
    have := same_any2 w2 A B ca cb _ _ (Reg.of _) (Reg.of _) h1 h2
    rw [decide_eq_true rfl] at this
    exact this
  have HSS1 : Hid (∀ w2 A B ca cb, Row w2 w2.heap.size A (qvs (intR (ofR l1) (uniR (ofR l2) (ofR l3)))) → Row w2 w2.heap.size B (qvs (intR (ofR l1) (uniR (ofR l2) (ofR l3)))) → Calls Tryd.prog 14 #[.slice A (intR (ofR l1) (uniR (ofR l2) (ofR l3))).length ca, .slice B (intR (ofR l1) (uniR (ofR l2) (ofR l3))).length cb] w2 fun e w3 => e = .returned (.bool true) ∧ Below w2.heap.size w2 w3) := Lib.hid fun w2 A B ca cb h1 h2 => by
    have := same_any2 w2 A B ca cb _ _ (Reg.of _) (Reg.of _) h1 h2
    rw [decide_eq_true rfl] at this
    exact this
  have HSRX : Hid (∀ w2 A B ca cb, Row w2 w2.heap.size A (qvs (intR (ofR l1) (ofR l2))) → Row w2 w2.heap.size B (qvs (intR (ofR l1) (ofR l2))) → Calls Tryd.prog 14 #[.slice A (intR (ofR l1) (ofR l2)).length ca, .slice B (intR (ofR l1) (ofR l2)).length cb] w2 fun e w3 => e = .returned (.bool true) ∧ Below w2.heap.size w2 w3) := Lib.hid fun w2 A B ca cb h1 h2 => by
    have := same_any2 w2 A B ca cb _ _ (Reg.of _) (Reg.of _) h1 h2
    rw [decide_eq_true rfl] at this
    exact this
  have HSRA : Hid (∀ w2 A B ca cb, Row w2 w2.heap.size A (qvs (ofR l1)) → Row w2 w2.heap.size B (qvs (ofR l1)) → Calls Tryd.prog 14 #[.slice A (ofR l1).length ca, .slice B (ofR l1).length cb] w2 fun e w3 => e = .returned (.bool true) ∧ Below w2.heap.size w2 w3) := Lib.hid fun w2 A B ca cb h1 h2 => by
    have := same_any2 w2 A B ca cb _ _ (Reg.of _) (Reg.of _) h1 h2
    rw [decide_eq_true rfl] at this
    exact this
  have HW1 : Hid (∀ w2 A B ca cb, Row w2 w2.heap.size A (qvs (intR (ofR l1) (ofR l2))) → Row w2 w2.heap.size B (qvs (ofR l1)) → Calls Tryd.prog 15 #[.slice A (intR (ofR l1) (ofR l2)).length ca, .slice B (ofR l1).length cb] w2 fun e w3 => e = .returned (.bool true) ∧ Below w2.heap.size w2 w3) := Lib.hid fun w2 A B ca cb h1 h2 => by
    have hx : Reg (intR (ofR l1) (ofR l2)) := Reg.of _
    have hy : Reg (ofR l1) := Reg.of _
    have := within_any w2 A B ca cb _ _ hx.asc hy.asc (by have := hx.len; omega) (by have := hy.len; omega) h1 h2
    rw [sub_int hRA hRB] at this
    exact this
  have HW2 : Hid (∀ w2 A B ca cb, Row w2 w2.heap.size A (qvs (ofR l1)) → Row w2 w2.heap.size B (qvs (uniR (ofR l1) (ofR l2))) → Calls Tryd.prog 15 #[.slice A (ofR l1).length ca, .slice B (uniR (ofR l1) (ofR l2)).length cb] w2 fun e w3 => e = .returned (.bool true) ∧ Below w2.heap.size w2 w3) := Lib.hid fun w2 A B ca cb h1 h2 => by
    have hx : Reg (ofR l1) := Reg.of _
    have hy : Reg (uniR (ofR l1) (ofR l2)) := Reg.of _
    have := within_any w2 A B ca cb _ _ hx.asc hy.asc (by have := hx.len; omega) (by have := hy.len; omega) h1 h2
    rw [sub_uni hRA hRB] at this
    exact this
  obtain ⟨wb, hwb⟩ : ∃ wb, wb = subB (ofR l1) (ofR l2) := ⟨_, rfl⟩
  have HW3 : Hid (∀ w2 A B ca cb, Row w2 w2.heap.size A (qvs (ofR l1)) → Row w2 w2.heap.size B (qvs (ofR l2)) → Calls Tryd.prog 15 #[.slice A (ofR l1).length ca, .slice B (ofR l2).length cb] w2 fun e w3 => e = .returned (.bool wb) ∧ Below w2.heap.size w2 w3) := Lib.hid fun w2 A B ca cb h1 h2 => by
    rw [hwb]
    exact within_any w2 A B ca cb _ _ hRA.asc hRB.asc (by have := hRA.len; omega) (by have := hRB.len; omega) h1 h2
  have HSXA : Hid (∀ w2 A B ca cb, Row w2 w2.heap.size A (qvs (intR (ofR l1) (ofR l2))) → Row w2 w2.heap.size B (qvs (ofR l1)) → Calls Tryd.prog 14 #[.slice A (intR (ofR l1) (ofR l2)).length ca, .slice B (ofR l1).length cb] w2 fun e w3 => e = .returned (.bool wb) ∧ Below w2.heap.size w2 w3) := Lib.hid fun w2 A B ca cb h1 h2 => by
    rw [hwb, sub_same hRA hRB]
    exact same_any2 w2 A B ca cb _ _ (Reg.of _) (Reg.of _) h1 h2
  have HRRA : Hid (∀ w2 A ca, Row w2 w2.heap.size A (qvs (ofR l1)) → Calls Tryd.prog 13 #[.slice A (ofR l1).length ca] w2 fun e w3 => e = .returned (.bool true) ∧ w2 = w3) := Lib.hid fun w2 A ca h1 => right_any2 w2 A ca _ (Reg.of _) h1
  have HRRU : Hid (∀ w2 A ca, Row w2 w2.heap.size A (qvs (uniR (ofR l1) (ofR l2))) → Calls Tryd.prog 13 #[.slice A (uniR (ofR l1) (ofR l2)).length ca] w2 fun e w3 => e = .returned (.bool true) ∧ w2 = w3) := Lib.hid fun w2 A ca h1 => right_any2 w2 A ca _ (Reg.of _) h1
  have HRRX : Hid (∀ w2 A ca, Row w2 w2.heap.size A (qvs (intR (ofR l1) (ofR l2))) → Calls Tryd.prog 13 #[.slice A (intR (ofR l1) (ofR l2)).length ca] w2 fun e w3 => e = .returned (.bool true) ∧ w2 = w3) := Lib.hid fun w2 A ca h1 => right_any2 w2 A ca _ (Reg.of _) h1
  have HRRY : Hid (∀ w2 A ca, Row w2 w2.heap.size A (qvs (difR (ofR l1) (ofR l2))) → Calls Tryd.prog 13 #[.slice A (difR (ofR l1) (ofR l2)).length ca] w2 fun e w3 => e = .returned (.bool true) ∧ w2 = w3) := Lib.hid fun w2 A ca h1 => right_any2 w2 A ca _ (Reg.of _) h1
  obtain ⟨ba, hba⟩ : ∃ ba, ba = hasB (ofR l1) z := ⟨_, rfl⟩
  obtain ⟨bb, hbb⟩ : ∃ bb, bb = hasB (ofR l2) z := ⟨_, rfl⟩
  have HHRA : Hid (∀ w2 A ca, Row w2 w2.heap.size A (qvs (ofR l1)) → Calls Tryd.prog 12 #[.slice A (ofR l1).length ca, .int .i64 z] w2 fun e w3 => e = .returned (.bool ba) ∧ Below w2.heap.size w2 w3) := Lib.hid fun w2 A ca h1 => by
    have hx : Reg (ofR l1) := Reg.of _
    have := regHas_any w2 A ca _ z hx.asc (by have := hx.len; omega) h1
    rw [show hasB (ofR l1) z = ba from hba.symm] at this
    exact this
  have HHRB : Hid (∀ w2 A ca, Row w2 w2.heap.size A (qvs (ofR l2)) → Calls Tryd.prog 12 #[.slice A (ofR l2).length ca, .int .i64 z] w2 fun e w3 => e = .returned (.bool bb) ∧ Below w2.heap.size w2 w3) := Lib.hid fun w2 A ca h1 => by
    have hx : Reg (ofR l2) := Reg.of _
    have := regHas_any w2 A ca _ z hx.asc (by have := hx.len; omega) h1
    rw [show hasB (ofR l2) z = bb from hbb.symm] at this
    exact this
  have HHRU : Hid (∀ w2 A ca, Row w2 w2.heap.size A (qvs (uniR (ofR l1) (ofR l2))) → Calls Tryd.prog 12 #[.slice A (uniR (ofR l1) (ofR l2)).length ca, .int .i64 z] w2 fun e w3 => e = .returned (.bool (ba || bb)) ∧ Below w2.heap.size w2 w3) := Lib.hid fun w2 A ca h1 => by
    have hx : Reg (uniR (ofR l1) (ofR l2)) := Reg.of _
    have := regHas_any w2 A ca _ z hx.asc (by have := hx.len; omega) h1
    rw [show hasB (uniR (ofR l1) (ofR l2)) z = (ba || bb) from by rw [hasB_uni hRA hRB, hba, hbb]] at this
    exact this
  have HHRX : Hid (∀ w2 A ca, Row w2 w2.heap.size A (qvs (intR (ofR l1) (ofR l2))) → Calls Tryd.prog 12 #[.slice A (intR (ofR l1) (ofR l2)).length ca, .int .i64 z] w2 fun e w3 => e = .returned (.bool (ba && bb)) ∧ Below w2.heap.size w2 w3) := Lib.hid fun w2 A ca h1 => by
    have hx : Reg (intR (ofR l1) (ofR l2)) := Reg.of _
    have := regHas_any w2 A ca _ z hx.asc (by have := hx.len; omega) h1
    rw [show hasB (intR (ofR l1) (ofR l2)) z = (ba && bb) from by rw [hasB_int hRA, hba, hbb]] at this
    exact this
  have HHRY : Hid (∀ w2 A ca, Row w2 w2.heap.size A (qvs (difR (ofR l1) (ofR l2))) → Calls Tryd.prog 12 #[.slice A (difR (ofR l1) (ofR l2)).length ca, .int .i64 z] w2 fun e w3 => e = .returned (.bool (ba && !bb)) ∧ Below w2.heap.size w2 w3) := Lib.hid fun w2 A ca h1 => by
    have hx : Reg (difR (ofR l1) (ofR l2)) := Reg.of _
    have := regHas_any w2 A ca _ z hx.asc (by have := hx.len; omega) h1
    rw [show hasB (difR (ofR l1) (ofR l2)) z = (ba && !bb) from by rw [hasB_dif hRA, hba, hbb]] at this
    exact this
  have HUd : Hid (∀ w2 A B ca cb, Row w2 w2.heap.size A (qvs (ofR l1)) → Row w2 w2.heap.size B (qvs (ofR l2)) → Calls Tryd.prog 9 #[.slice A (ofR l1).length ca, .slice B (ofR l2).length cb] w2 (GotL w2 (uniR (ofR l1) (ofR l2)))) := Lib.hid fun w2 A B ca cb h1 h2 => got_of (uni_any w2 A B ca cb _ _ (Reg.of _) (Reg.of _) h1 h2)
  have HXd : Hid (∀ w2 A B ca cb, Row w2 w2.heap.size A (qvs (ofR l1)) → Row w2 w2.heap.size B (qvs (ofR l2)) → Calls Tryd.prog 10 #[.slice A (ofR l1).length ca, .slice B (ofR l2).length cb] w2 (GotL w2 (intR (ofR l1) (ofR l2)))) := Lib.hid fun w2 A B ca cb h1 h2 => got_of (int_any w2 A B ca cb _ _ (Reg.of _) (Reg.of _) h1 h2)
  have HYd : Hid (∀ w2 A B ca cb, Row w2 w2.heap.size A (qvs (ofR l1)) → Row w2 w2.heap.size B (qvs (ofR l2)) → Calls Tryd.prog 11 #[.slice A (ofR l1).length ca, .slice B (ofR l2).length cb] w2 (GotL w2 (difR (ofR l1) (ofR l2)))) := Lib.hid fun w2 A B ca cb h1 h2 => got_of (dif_any w2 A B ca cb _ _ (Reg.of _) (Reg.of _) h1 h2)
  have HLN : Hid (∀ i, i < l1.length → ∃ b o, A1 = some ⟨b, o, none⟩ ∧ ∀ w', Below W.heap.size W w' → w'.cell? ⟨b, o + i, none⟩ = some (.int .i64 (l1.getD i 0))) := Lib.hid fun i hi => row_val hr1 hi
  have HBS : Hid (∀ i, i < l1.length → decide (z ∈ l1.take (i + 1) ∧ 0 ≤ z ∧ z < 4096) = (decide (z ∈ l1.take i ∧ 0 ≤ z ∧ z < 4096) || decide (l1.getD i 0 = z) && (decide (0 ≤ z) && decide (z < 4096)))) := Lib.hid fun i hi => mem_snoc_int hi z
  have HBE : Hid (decide (z ∈ l1.take l1.length ∧ 0 ≤ z ∧ z < 4096) = ba) := Lib.hid (by rw [List.take_length, hba, hasB_of])
  have HB0 : Hid (decide (z ∈ l1.take 0 ∧ 0 ≤ z ∧ z < 4096) = false) := Lib.hid (by simp)
  clear hv hr1 hr2 hr3 hm1 hm2 hm3 q1 q2 q3 hRA hRB hRD hwb hba hbb
  generalize hgP1 : uniR (uniR (ofR l1) (ofR l2)) (ofR l3) = P1 at *
  clear hgP1
  generalize hgQ1 : intR (intR (ofR l1) (ofR l2)) (ofR l3) = Q1 at *
  clear hgQ1
  generalize hgS1 : intR (ofR l1) (uniR (ofR l2) (ofR l3)) = S1 at *
  clear hgS1
  generalize hgP2 : uniR (ofR l2) (ofR l3) = P2 at *
  clear hgP2
  generalize hgQ2 : intR (ofR l2) (ofR l3) = Q2 at *
  clear hgQ2
  generalize hgS2 : intR (ofR l1) (ofR l3) = S2 at *
  clear hgS2
  generalize hgRU : uniR (ofR l1) (ofR l2) = RU at *
  clear hgRU
  generalize hgRX : intR (ofR l1) (ofR l2) = RX at *
  clear hgRX
  generalize hgRY : difR (ofR l1) (ofR l2) = RY at *
  clear hgRY
  generalize hgRA : ofR l1 = RA at *
  clear hgRA
  generalize hgRB : ofR l2 = RB at *
  clear hgRB
  generalize hgRD : ofR l3 = RD at *
  clear hgRD
  have HGE : Hid (∀ i, ∃ BI, BI = decide (z ∈ l1.take i ∧ 0 ≤ z ∧ z < 4096)) := Lib.hid fun i => ⟨_, rfl⟩
  obtain ⟨BI, hBI⟩ : ∃ BI : Nat → Bool, ∀ i, BI i = decide (z ∈ l1.take i ∧ 0 ≤ z ∧ z < 4096) := ⟨_, fun i => rfl⟩
  simp only [← hBI] at HBS HBE HB0
  clear hBI HGE
  generalize hLL : l1.getD = LL at *
  generalize l1.length = n1 at *
  generalize l2.length = n2 at *
  generalize l3.length = n3 at *
  clear hLL
  go_enter Tryd.func3, Tryd.ntmps3
  go_upto_region 8 with (first
    | (go_at_call 7; refine (HSM.out _ H0.out).mono ?_; rintro e w1 ⟨rfl, b1⟩; have B1 := Lib.hid b1; clear b1)
    | (go_at_call 8; (with_reducible refine (HO1.out _ B1.out).mono ?_); rintro e w2 ⟨AA, cA, rfl, hra, b2⟩; have B2 := Lib.hid (next_below B1.out b2); have HRA := Lib.hid hra; clear b2 hra)
    | (go_at_call 8; (with_reducible refine (HO2.out _ B2.out).mono ?_); rintro e w3 ⟨AB, cB, rfl, hrb, b3⟩; have B3 := Lib.hid (next_below B2.out b3); have HRA3 := Lib.hid (HRA.out.lift b3); have HRB := Lib.hid hrb; clear b3 hrb)
    | (go_at_call 8; (with_reducible refine (HO3.out _ B3.out).mono ?_); rintro e w4 ⟨AD, cD, rfl, hrd, b4⟩; have B4 := Lib.hid (next_below B3.out b4); have HRA4 := Lib.hid (HRA3.out.lift b4); have HRB4 := Lib.hid (HRB.out.lift b4); have HRD4 := Lib.hid hrd; clear b4 hrd))
  clear HSM HO1 HO2 HO3 H0 B1 B2 B3 HRA HRA3 HRB
  go_wp2_with fail
  go_loopw [13, 14] (fun bv iv wr => ∃ i, iv = .int .i64 ((i : Nat) : Int) ∧ i ≤ n1 ∧ bv = .bool (BI i) ∧ wr = w4) (fun _ iv _ => n1 - (intOf iv).toNat)
  case atStart => exact ⟨0, rfl, Nat.zero_le _, by rw [HB0.out], rfl⟩
  case round =>
    obtain ⟨i, rfl, hi, rfl, rfl⟩ := hrel
    by_cases hlt : i < n1
    · obtain ⟨b, o, rfl, hc⟩ := HLN.out i hlt
      have zc := hc _ B4.out
      have HB2 := Lib.hid (HBS.out i hlt)
      have hi9 : (i : Int) < 200 := by omega
      clear hc HBS HBE HB0 HLN
      generalize LL i 0 = x at *
      cases hbi : BI i
      · rw [hbi, Bool.false_or] at HB2
        by_cases e1 : x = z
        · by_cases e2 : 0 ≤ z
          · by_cases e3 : z < 4096
            · have HB3 : Hid (BI (i + 1) = true) := Lib.hid (by rw [HB2.out, decide_eq_true e1, decide_eq_true e2, decide_eq_true e3]; rfl)
              clear HB2
              go_wp2_with fail
              go_roundw
              case rel => exact ⟨i + 1, by simp, hlt, by rw [HB3.out], by trivial⟩
              case measure => simp [intOf]; omega
            · have HB3 : Hid (BI (i + 1) = false) := Lib.hid (by rw [HB2.out, decide_eq_false e3, Bool.and_false, Bool.and_false])
              clear HB2
              go_wp2_with fail
              go_roundw
              case rel => exact ⟨i + 1, by simp, hlt, by rw [HB3.out], by trivial⟩
              case measure => simp [intOf]; omega
          · have HB3 : Hid (BI (i + 1) = false) := Lib.hid (by rw [HB2.out, decide_eq_false e2, Bool.false_and, Bool.and_false])
            clear HB2
            go_wp2_with fail
            go_roundw
            case rel => exact ⟨i + 1, by simp, hlt, by rw [HB3.out], by trivial⟩
            case measure => simp [intOf]; omega
        · have HB3 : Hid (BI (i + 1) = false) := Lib.hid (by rw [HB2.out, decide_eq_false e1, Bool.false_and])
          have e1' : (x == z) = false := by rw [beq_eq_false_iff_ne]; exact e1
          clear HB2
          go_wp2_with fail
          go_roundw
          case rel => exact ⟨i + 1, by simp, hlt, by rw [HB3.out], by trivial⟩
          case measure => simp [intOf]; omega
      · have HB3 : Hid (BI (i + 1) = true) := Lib.hid (by rw [HB2.out, hbi, Bool.true_or])
        clear HB2
        go_wp2_with fail
        go_roundw
        case rel => exact ⟨i + 1, by simp, hlt, by rw [HB3.out], by trivial⟩
        case measure => simp [intOf]; omega
    · obtain rfl : i = n1 := by omega
      rw [HBE.out]
      clear HBS HB0 HLN HBE
      go_upto_region 15 with (first
        | (go_at_call 9; (with_reducible refine (HUd.out _ AA AB cA cB HRA4.out HRB4.out).mono ?_); rintro e w5 ⟨AU, cU, rfl, hru, b5⟩; have B5 := Lib.hid b5; have HRU5 := Lib.hid hru; clear hru b5)
        | (go_at_call 10; (with_reducible refine (HXd.out _ AA AB cA cB (HRA4.out.lift B5.out) (HRB4.out.lift B5.out)).mono ?_); rintro e w6 ⟨AX, cX, rfl, hrx, b6⟩; have B6 := Lib.hid b6; have HRX6 := Lib.hid hrx; clear hrx b6)
        | (go_at_call 11; (with_reducible refine (HYd.out _ AA AB cA cB ((HRA4.out.lift B5.out).lift B6.out) ((HRB4.out.lift B5.out).lift B6.out)).mono ?_); rintro e w7 ⟨AY, cY, rfl, hry, b7⟩; have B7 := Lib.hid b7; have HRY7 := Lib.hid hry; clear hry b7))
      have HRA7 := Lib.hid (((HRA4.out.lift B5.out).lift B6.out).lift B7.out)
      have HRB7 := Lib.hid (((HRB4.out.lift B5.out).lift B6.out).lift B7.out)
      have HRD7 := Lib.hid (((HRD4.out.lift B5.out).lift B6.out).lift B7.out)
      have HRU7 := Lib.hid ((HRU5.out.lift B6.out).lift B7.out)
      have HRX7 := Lib.hid (HRX6.out.lift B7.out)
      have HW7 := Lib.hid (next_below (next_below (next_below B4.out B5.out) B6.out) B7.out)
      have HWR : Hid (∀ w', Below w7.heap.size w7 w' → Row w' w'.heap.size AA (qvs RA) ∧ Row w' w'.heap.size AB (qvs RB) ∧ Row w' w'.heap.size AD (qvs RD) ∧ Row w' w'.heap.size AU (qvs RU) ∧ Row w' w'.heap.size AX (qvs RX) ∧ Row w' w'.heap.size AY (qvs RY)) := Lib.hid fun w' b => ⟨HRA7.out.lift b, HRB7.out.lift b, HRD7.out.lift b, HRU7.out.lift b, HRX7.out.lift b, HRY7.out.lift b⟩
      have HKRA : Hid (∀ w2, Below w7.heap.size w7 w2 → Calls Tryd.prog 12 #[.slice AA RA.length cA, .int .i64 z] w2 fun e w3 => e = .returned (.bool ba) ∧ Below w7.heap.size w7 w3) := Lib.hid fun w2 b => (HHRA.out w2 AA cA (HWR.out w2 b).1).mono fun e w3 ⟨h1, h2⟩ => ⟨h1, next_below b h2⟩
      have HKRB : Hid (∀ w2, Below w7.heap.size w7 w2 → Calls Tryd.prog 12 #[.slice AB RB.length cB, .int .i64 z] w2 fun e w3 => e = .returned (.bool bb) ∧ Below w7.heap.size w7 w3) := Lib.hid fun w2 b => (HHRB.out w2 AB cB (HWR.out w2 b).2.1).mono fun e w3 ⟨h1, h2⟩ => ⟨h1, next_below b h2⟩
      have HKRU : Hid (∀ w2, Below w7.heap.size w7 w2 → Calls Tryd.prog 12 #[.slice AU RU.length cU, .int .i64 z] w2 fun e w3 => e = .returned (.bool (ba || bb)) ∧ Below w7.heap.size w7 w3) := Lib.hid fun w2 b => (HHRU.out w2 AU cU (HWR.out w2 b).2.2.2.1).mono fun e w3 ⟨h1, h2⟩ => ⟨h1, next_below b h2⟩
      have HKRX : Hid (∀ w2, Below w7.heap.size w7 w2 → Calls Tryd.prog 12 #[.slice AX RX.length cX, .int .i64 z] w2 fun e w3 => e = .returned (.bool (ba && bb)) ∧ Below w7.heap.size w7 w3) := Lib.hid fun w2 b => (HHRX.out w2 AX cX (HWR.out w2 b).2.2.2.2.1).mono fun e w3 ⟨h1, h2⟩ => ⟨h1, next_below b h2⟩
      have HKRY : Hid (∀ w2, Below w7.heap.size w7 w2 → Calls Tryd.prog 12 #[.slice AY RY.length cY, .int .i64 z] w2 fun e w3 => e = .returned (.bool (ba && !bb)) ∧ Below w7.heap.size w7 w3) := Lib.hid fun w2 b => (HHRY.out w2 AY cY (HWR.out w2 b).2.2.2.2.2).mono fun e w3 ⟨h1, h2⟩ => ⟨h1, next_below b h2⟩
      have G0 : Below w7.heap.size w7 w7 := Below.refl _ _
      have HQA : Hid (∀ w2, Below w7.heap.size w7 w2 → Calls Tryd.prog 13 #[.slice AA RA.length cA] w2 fun e w3 => e = .returned (.bool true) ∧ Below w7.heap.size w7 w3) := Lib.hid fun w2 b => (HRRA.out w2 AA cA (HWR.out w2 b).1).mono fun e w3 ⟨h1, h2⟩ => ⟨h1, h2 ▸ b⟩
      clear HHRA HHRB HHRU HHRX HHRY HUd HXd HYd B4 B5 B6 B7 HRA4 HRB4 HRD4 HRU5 HRX6 HRY7 HRA7 HRB7 HRD7 HRU7 HRX7
      cases ba <;> cases bb
      all_goals
        simp only [Bool.true_or, Bool.false_or, Bool.true_and, Bool.false_and, Bool.not_true, Bool.not_false, Bool.or_true, Bool.or_false, Bool.and_true, Bool.and_false] at HKRU HKRX HKRY
        go_upto_region 17 with (first
          | (go_at_call 12; (with_reducible refine (HKRA.out _ (by assumption)).mono ?_); rintro e wq ⟨rfl, G0⟩)
          | (go_at_call 12; (with_reducible refine (HKRB.out _ (by assumption)).mono ?_); rintro e wq ⟨rfl, G0⟩)
          | (go_at_call 12; (with_reducible refine (HKRU.out _ (by assumption)).mono ?_); rintro e wq ⟨rfl, G0⟩)
          | (go_at_call 12; (with_reducible refine (HKRX.out _ (by assumption)).mono ?_); rintro e wq ⟨rfl, G0⟩)
          | (go_at_call 12; (with_reducible refine (HKRY.out _ (by assumption)).mono ?_); rintro e wq ⟨rfl, G0⟩))
        go_upto_region 19 with (first
          | (go_at_call 13; (with_reducible refine (HQA.out _ (by assumption)).mono ?_); rintro e w20 ⟨rfl, G20⟩)
          | (go_at_call 13; (with_reducible refine (HRRU.out w20 AU cU (HWR.out _ G20).2.2.2.1).mono ?_); rintro e w21 ⟨rfl, e21⟩; have b21 : Below w20.heap.size w20 w21 := e21 ▸ Below.refl _ _; have G21 := next_below G20 b21; clear e21)
          | (go_at_call 13; (with_reducible refine (HRRX.out w21 AX cX (HWR.out _ G21).2.2.2.2.1).mono ?_); rintro e w22 ⟨rfl, e22⟩; have b22 : Below w21.heap.size w21 w22 := e22 ▸ Below.refl _ _; have G22 := next_below G21 b22; clear e22)
          | (go_at_call 13; (with_reducible refine (HRRY.out w22 AY cY (HWR.out _ G22).2.2.2.2.2).mono ?_); rintro e w23 ⟨rfl, e23⟩; have b23 : Below w22.heap.size w22 w23 := e23 ▸ Below.refl _ _; have G23 := next_below G22 b23; clear e23)
          | (go_at_call 9; (with_reducible refine (HI1.out w23 AB AA cB cA (HWR.out _ G23).2.1 (HWR.out _ G23).1).mono ?_); rintro e w24 ⟨D24, d24, rfl, r24, b24⟩; have G24 := next_below G23 b24)
          | (go_at_call 14; (with_reducible refine (HSRU.out w24 AU D24 cU d24 (HWR.out _ G24).2.2.2.1 r24).mono ?_); rintro e w25 ⟨rfl, b25⟩; have G25 := next_below G24 b25)
          | (go_at_call 10; (with_reducible refine (HI2.out w25 AB AA cB cA (HWR.out _ G25).2.1 (HWR.out _ G25).1).mono ?_); rintro e w26 ⟨D26, d26, rfl, r26, b26⟩; have G26 := next_below G25 b26)
          | (go_at_call 14; (with_reducible refine (HSRX.out w26 AX D26 cX d26 (HWR.out _ G26).2.2.2.2.1 r26).mono ?_); rintro e w27 ⟨rfl, b27⟩; have G27 := next_below G26 b27))
        go_upto_region 20 with (first
          | (go_at_call 9; (with_reducible refine (HI3.out w27 AU AD cU cD (HWR.out _ G27).2.2.2.1 (HWR.out _ G27).2.2.1).mono ?_); rintro e w28 ⟨D28, d28, rfl, r28, b28⟩; have G28 := next_below G27 b28)
          | (go_at_call 9; (with_reducible refine (HI4.out w28 AB AD cB cD (HWR.out _ G28).2.1 (HWR.out _ G28).2.2.1).mono ?_); rintro e w29 ⟨D29, d29, rfl, r29, b29⟩; have G29 := next_below G28 b29)
          | (go_at_call 9; (with_reducible refine (HI5.out w29 AA D29 cA d29 (HWR.out _ G29).1 r29).mono ?_); rintro e w30 ⟨D30, d30, rfl, r30, b30⟩; have G30 := next_below G29 b30)
          | (go_at_call 14; (with_reducible refine (HSP1.out w30 D28 D30 d28 d30 ((r28.lift b29).lift b30) r30).mono ?_); rintro e w31 ⟨rfl, b31⟩; have G31 := next_below G30 b31)
          | (go_at_call 10; (with_reducible refine (HI6.out w31 AX AD cX cD (HWR.out _ G31).2.2.2.2.1 (HWR.out _ G31).2.2.1).mono ?_); rintro e w32 ⟨D32, d32, rfl, r32, b32⟩; have G32 := next_below G31 b32)
          | (go_at_call 10; (with_reducible refine (HI7.out w32 AB AD cB cD (HWR.out _ G32).2.1 (HWR.out _ G32).2.2.1).mono ?_); rintro e w33 ⟨D33, d33, rfl, r33, b33⟩; have G33 := next_below G32 b33)
          | (go_at_call 10; (with_reducible refine (HI8.out w33 AA D33 cA d33 (HWR.out _ G33).1 r33).mono ?_); rintro e w34 ⟨D34, d34, rfl, r34, b34⟩; have G34 := next_below G33 b34)
          | (go_at_call 14; (with_reducible refine (HSQ1.out w34 D32 D34 d32 d34 ((r32.lift b33).lift b34) r34).mono ?_); rintro e w35 ⟨rfl, b35⟩; have G35 := next_below G34 b35))
        go_upto_region 21 with (first
          | (go_at_call 9; (with_reducible refine (HI4.out w35 AB AD cB cD (HWR.out _ G35).2.1 (HWR.out _ G35).2.2.1).mono ?_); rintro e w36 ⟨D36, d36, rfl, r36, b36⟩; have G36 := next_below G35 b36)
          | (go_at_call 10; (with_reducible refine (HI9.out w36 AA D36 cA d36 (HWR.out _ G36).1 r36).mono ?_); rintro e w37 ⟨D37, d37, rfl, r37, b37⟩; have G37 := next_below G36 b37)
          | (go_at_call 10; (with_reducible refine (HI10.out w37 AA AD cA cD (HWR.out _ G37).1 (HWR.out _ G37).2.2.1).mono ?_); rintro e w38 ⟨D38, d38, rfl, r38, b38⟩; have G38 := next_below G37 b38)
          | (go_at_call 9; (with_reducible refine (HI11.out w38 AX D38 cX d38 (HWR.out _ G38).2.2.2.2.1 r38).mono ?_); rintro e w39 ⟨D39, d39, rfl, r39, b39⟩; have G39 := next_below G38 b39)
          | (go_at_call 14; (with_reducible refine (HSS1.out w39 D37 D39 d37 d39 ((r37.lift b38).lift b39) r39).mono ?_); rintro e w40 ⟨rfl, b40⟩; have G40 := next_below G39 b40)
          | (go_at_call 9; (with_reducible refine (HI12.out w40 AX AY cX cY (HWR.out _ G40).2.2.2.2.1 (HWR.out _ G40).2.2.2.2.2).mono ?_); rintro e w41 ⟨D41, d41, rfl, r41, b41⟩; have G41 := next_below G40 b41)
          | (go_at_call 14; (with_reducible refine (HSRA.out w41 D41 AA d41 cA r41 (HWR.out _ G41).1).mono ?_); rintro e w42 ⟨rfl, b42⟩; have G42 := next_below G41 b42))
        cases wb
        all_goals
          go_wp2_with (first
            | (go_at_call 15; (with_reducible refine (HW1.out w42 AX AA cX cA (HWR.out _ G42).2.2.2.2.1 (HWR.out _ G42).1).mono ?_); rintro e w43 ⟨rfl, b43⟩; have G43 := next_below G42 b43)
            | (go_at_call 15; (with_reducible refine (HW2.out w43 AA AU cA cU (HWR.out _ G43).1 (HWR.out _ G43).2.2.2.1).mono ?_); rintro e w44 ⟨rfl, b44⟩; have G44 := next_below G43 b44)
            | (go_at_call 15; (with_reducible refine (HW3.out w44 AA AB cA cB (HWR.out _ G44).1 (HWR.out _ G44).2.1).mono ?_); rintro e w45 ⟨rfl, b45⟩; have G45 := next_below G44 b45)
            | (go_at_call 14; (with_reducible refine (HSXA.out w45 AX AA cX cA (HWR.out _ G45).2.2.2.2.1 (HWR.out _ G45).1).mono ?_); rintro e w46 ⟨rfl, b46⟩; have G46 := next_below G45 b46)
            | (go_at_call 10; (with_reducible refine (HI13.out w46 AX AY cX cY (HWR.out _ G46).2.2.2.2.1 (HWR.out _ G46).2.2.2.2.2).mono ?_); rintro e w47 ⟨D47, d47, rfl, r47, b47⟩; have G47 := next_below G46 b47))
          go_ret
          exact ⟨rfl, next_below HW7.out G47⟩
end Rgn
end Go.Proofs.YtgophgnfiboefaaDoor

/- The program's Next, Back, Near. -/
import Derived.Test.YtgophgnfiboefaaDoorFpD
import Derived.Deep.RegionHeld3
namespace Go.Proofs.YtgophgnfiboefaaDoor
open Go.RowKit Wire
open Txt (Row)
set_option linter.unusedVariables false
set_option linter.unusedSimpArgs false
namespace Flo
set_option maxRecDepth 8000 in
set_option maxHeartbeats 2000000 in
theorem next_any {f : Fl} (ho : f.ok) (p : Pl) (c d : Int) (w : World) (hv : VS w) (hin : FlIn w f p) : Calls Tryd.prog 21 #[f.val p, .int .i64 c, .int .i64 d] w fun e w' => e = .returned (resN (f.next c d)) ∧ Below w.heap.size w w' := by
  have HNB := Lib.hid (fun w hv => neighbour_any ho p c d w hv)
  have HV : Hid (∀ w', Below w.heap.size w w' → VS w') := Lib.hid fun w' b => hv.lift b
  have HB : Hid (∀ o, Below w.heap.size w (w.alloc o)) := Lib.hid fun o => (Below.refl _ w).alloc (Nat.le_refl _) o
  by_cases hneg : f.beside c d < 0
  · rw [show f.next c d = none from by unfold Fl.next; rw [if_pos hneg]]
    clear ho hin hv
    generalize f.beside c d = n at *
    obtain ⟨W, H, D, K, O⟩ := f
    go_enter Tryd.func21, Tryd.ntmps21
    go_wp2_with (go_at_call 42; refine (HNB.out _ (HV.out _ (HB.out _))).mono ?_; rintro e w1 ⟨rfl, b1⟩; have B1 := Lib.hid (next_below (HB.out _) b1); clear b1)
    go_returns
    exact ⟨rfl, B1.out⟩
  · obtain ⟨hic, hdd, _, _⟩ := Fl.beside_some hneg
    obtain ⟨hin2, _, _, _⟩ := Fl.beside_place hneg
    rw [show f.next c d = if f.may c (f.beside c d) d then some (f.beside c d) else none from by unfold Fl.next; rw [if_neg hneg]]
    obtain ⟨j, hj, rfl⟩ : ∃ j : Nat, j < 6 ∧ d = j := ⟨d.toNat, by have := of_decide_eq_true hdd; omega, by have := of_decide_eq_true hdd; omega⟩
    obtain ⟨h0, h1⟩ := Fl.is_bounds hic
    obtain ⟨k, rfl⟩ : ∃ k : Nat, c = k := ⟨c.toNat, by omega⟩
    obtain ⟨m, hm⟩ : ∃ m : Nat, f.beside k j = m := ⟨(f.beside k j).toNat, by omega⟩
    rw [hm] at hin2 ⊢ HNB
    have HLE : Hid (∀ w', Below w.heap.size w w' → Calls Tryd.prog 43 #[f.val p, .int .i64 k, .int .i64 m, .int .i64 j] w' fun e w2 => e = .returned (.bool (f.may k m j)) ∧ Below w'.heap.size w' w2) := Lib.hid fun w' b => leads_any ho p k m j w' (hv.lift b) (hin.lift b) hic hin2 hj
    clear ho hneg hic hdd hin2 h0 h1 hm hin hv
    generalize f.may k m j = r at *
    obtain ⟨W, H, D, K, O⟩ := f
    cases r
    · go_enter Tryd.func21, Tryd.ntmps21
      go_wp2_with (first
        | (go_at_call 42; refine (HNB.out _ (HV.out _ (HB.out _))).mono ?_; rintro e w1 ⟨rfl, b1⟩; have B1 := Lib.hid (next_below (HB.out _) b1); have K1 := (Blk.fresh w _ _).under b1 (by simp); clear b1; obtain ⟨k0, k1, k2, k3, k4⟩ := boxS K1; clear K1)
        | (go_at_call 43; refine (HLE.out _ B1.out).mono ?_; rintro e w2 ⟨rfl, b2⟩; have B2 := Lib.hid (next_below B1.out b2); clear b2))
      go_returns
      exact ⟨rfl, B2.out⟩
    · go_enter Tryd.func21, Tryd.ntmps21
      go_wp2_with (first
        | (go_at_call 42; refine (HNB.out _ (HV.out _ (HB.out _))).mono ?_; rintro e w1 ⟨rfl, b1⟩; have B1 := Lib.hid (next_below (HB.out _) b1); have K1 := (Blk.fresh w _ _).under b1 (by simp); clear b1; obtain ⟨k0, k1, k2, k3, k4⟩ := boxS K1; clear K1)
        | (go_at_call 43; refine (HLE.out _ B1.out).mono ?_; rintro e w2 ⟨rfl, b2⟩; have B2 := Lib.hid (next_below B1.out b2); clear b2))
      go_returns
      exact ⟨rfl, B2.out⟩
/-- From the other end. -/
theorem back_may {f : Fl} {c d : Int} (ho : f.ok) : f.back c d = if f.beside c (opp d) < 0 then none else if f.may (f.beside c (opp d)) c d then some (f.beside c (opp d)) else none := by
  by_cases hneg : f.beside c (opp d) < 0
  · unfold Fl.back
    rw [if_pos hneg, if_pos hneg]
  · have e := Fl.beside_opp ho hneg
    obtain ⟨_, h2, _, _⟩ := Fl.beside_some hneg
    have hd : isDir d = true := by
      cases h : isDir d
      · rw [opp_none h] at h2
        cases h2
      · rfl
    rw [(opp_dir hd).2.2.2.2.1] at e
    have hc := (Fl.beside_some hneg).1
    have h0 := (Fl.is_bounds hc).1
    have hnx : f.next (f.beside c (opp d)) d = if f.may (f.beside c (opp d)) c d then some c else none := by
      unfold Fl.next
      rw [e, if_neg (by omega)]
    unfold Fl.back
    rw [if_neg hneg, if_neg hneg, hnx]
    cases f.may (f.beside c (opp d)) c d <;> rfl
set_option maxRecDepth 8000 in
set_option maxHeartbeats 2000000 in
theorem back_any {f : Fl} (ho : f.ok) (p : Pl) (c d : Int) (w : World) (hv : VS w) (hvo : VO w) (hin : FlIn w f p) : Calls Tryd.prog 34 #[f.val p, .int .i64 c, .int .i64 d] w fun e w' => e = .returned (resN (f.back c d)) ∧ Below w.heap.size w w' := by
  have HOP : Hid (∀ w', Below w.heap.size w w' → Calls Tryd.prog 50 #[.int .i64 d] w' fun e w2 => e = .returned (.int .i64 (opp d)) ∧ w' = w2) := Lib.hid fun w' b => opposite_any d w' (hvo.lift b)
  have HNB : Hid (∀ w', Below w.heap.size w w' → Calls Tryd.prog 42 #[f.val p, .int .i64 c, .int .i64 (opp d)] w' fun e w2 => e = .returned (.int .i64 (f.beside c (opp d))) ∧ Below w'.heap.size w' w2) := Lib.hid fun w' b => neighbour_any ho p c (opp d) w' (hv.lift b)
  have HKP : Hid (∀ w' cs t, Below (w.alloc (.cells cs t)).heap.size (w.alloc (.cells cs t)) w' → Blk w' w.heap.size t cs) := Lib.hid fun w' cs t b => (Blk.fresh w t cs).under b (by simp)
  have HAL : Hid (∀ o w', Below (w.alloc o).heap.size (w.alloc o) w' → Below w.heap.size w w') := Lib.hid fun o w' b => next_below ((Below.refl _ w).alloc (Nat.le_refl _) o) b
  rw [back_may ho]
  have HLE : Hid (∀ w', Below w.heap.size w w' → ¬ f.beside c (opp d) < 0 → Calls Tryd.prog 43 #[f.val p, .int .i64 (f.beside c (opp d)), .int .i64 c, .int .i64 d] w' fun e w2 => e = .returned (.bool (f.may (f.beside c (opp d)) c d)) ∧ Below w'.heap.size w' w2) := Lib.hid fun w' b hneg => by
    obtain ⟨hic, hdd, _, _⟩ := Fl.beside_some hneg
    obtain ⟨hin2, _, _, _⟩ := Fl.beside_place hneg
    have hd : isDir d = true := by
      cases h : isDir d
      · rw [opp_none h] at hdd
        cases hdd
      · rfl
    obtain ⟨j, hj, rfl⟩ : ∃ j : Nat, j < 6 ∧ d = j := ⟨d.toNat, by have := of_decide_eq_true hd; omega, by have := of_decide_eq_true hd; omega⟩
    obtain ⟨h0, h1⟩ := Fl.is_bounds hic
    obtain ⟨k, rfl⟩ : ∃ k : Nat, c = k := ⟨c.toNat, by omega⟩
    obtain ⟨m, hm⟩ : ∃ m : Nat, f.beside k (opp j) = m := ⟨(f.beside k (opp j)).toNat, by omega⟩
    rw [hm] at hin2 ⊢
    exact leads_any ho p m k j w' (hv.lift b) (hin.lift b) hin2 hic hj
  clear ho hin hv hvo
  generalize f.beside c (opp d) = m at *
  generalize opp d = od at *
  generalize f.may m c d = r at *
  generalize hR : (if m < 0 then none else if r = true then some m else none) = R at *
  have HR1 : Hid (m < 0 → R = none) := Lib.hid fun h => by rw [← hR, if_pos h]
  have HR2 : Hid (¬ m < 0 → r = false → R = none) := Lib.hid fun h h2 => by rw [← hR, if_neg h, h2]; rfl
  have HR3 : Hid (¬ m < 0 → r = true → R = some m) := Lib.hid fun h h2 => by rw [← hR, if_neg h, h2]; rfl
  clear hR
  obtain ⟨A1, c1, A2, c2⟩ := p
  obtain ⟨W, H, D, K, O⟩ := f
  dsimp only [Fl.val] at *
  generalize K.length = n1 at *
  generalize O.length = n2 at *
  go_enter Tryd.func34, Tryd.ntmps34
  go_upto_region 1 with (fail)
  generalize hw1 : w.alloc (.cells #[.int .i64 W, .int .i64 H, .int .i64 D, .slice A1 n1 c1, .slice A2 n2 c2] 31) = w1 at *
  have HB0 : Hid (Below w1.heap.size w1 w1.drew) := Lib.hid (Below.refl _ w1).drew
  have HKB : Hid (∀ w', Below w1.heap.size w1 w' → BoxS w.heap.size W H D A1 n1 c1 A2 n2 c2 w') := Lib.hid fun w' b => boxS (HKP.out w' _ _ (hw1 ▸ b))
  have HLW : Hid (∀ w', Below w1.heap.size w1 w' → Below w.heap.size w w') := Lib.hid fun w' b => HAL.out _ w' (hw1 ▸ b)
  clear hw1 HKP HAL
  go_region_held3 (fun w' => BoxS w.heap.size W H D A1 n1 c1 A2 n2 c2 w') (first | exact HKB.out _ HB0.out | exact HKB.out _ b3 | go_keep)
    (first
      | (go_at_call 50; refine (HOP.out _ (HLW.out _ HB0.out)).mono ?_; rintro e w2 ⟨rfl, rfl⟩)
      | (go_at_call 42; refine (HNB.out _ (HLW.out _ HB0.out)).mono ?_; rintro e w3 ⟨rfl, b3'⟩; have b3 := HB0.out.trans b3'))
  have B3 := Lib.hid b3
  obtain ⟨k0, k1, k2, k3, k4⟩ := HKB.out _ b3
  clear b3 b3'
  by_cases hneg : m < 0
  · have hr := HR1.out hneg
    subst hr
    go_wp2_with fail
    go_returns
    exact ⟨rfl, HLW.out _ B3.out⟩
  · have HL2 := Lib.hid (fun w' b => HLE.out w' b (by omega))
    have HR2' := Lib.hid (HR2.out (by omega))
    have HR3' := Lib.hid (HR3.out (by omega))
    clear HLE HR1 HR2 HR3
    cases r
    · go_wp2_with (go_at_call 43; refine (HL2.out _ (HLW.out _ B3.out)).mono ?_; rintro e w4 ⟨rfl, b4⟩; have B4 := Lib.hid (next_below (HLW.out _ B3.out) b4); clear b4)
      go_returns
      exact ⟨by rw [HR2'.out (by first | rfl | trivial)]; rfl, B4.out⟩
    · go_wp2_with (go_at_call 43; refine (HL2.out _ (HLW.out _ B3.out)).mono ?_; rintro e w4 ⟨rfl, b4⟩; have B4 := Lib.hid (next_below (HLW.out _ B3.out) b4); clear b4)
      go_returns
      exact ⟨by rw [HR3'.out (by first | rfl | trivial)]; rfl, B4.out⟩
theorem near_is {f : Fl} {a b : Int} {j : Nat} : (f.is b && f.beside a j == b) = (decide (0 ≤ f.beside a j) && f.beside a j == b) := by
  by_cases h : f.beside a j = b
  · rw [h]
    by_cases hb : 0 ≤ b
    · rw [decide_eq_true hb]
      have := (Fl.beside_place (f := f) (c := a) (d := j) (by omega)).1
      rw [h] at this
      rw [this]
    · rw [decide_eq_false hb]
      have : f.is b = false := decide_eq_false (by omega)
      rw [this]
  · have : (f.beside a j == b) = false := beq_eq_false_iff_ne.2 h
    rw [this, Bool.and_false, Bool.and_false]
structure NearL (w1 : World) (f : Fl) (a b : Int) (jv : Value) (wr : World) (j : Nat) : Prop where
  jv : jv = .int .i64 j
  le : j ≤ 4
  no : ∀ i : Nat, i < j → (f.is b && f.beside a i == b) = false
  below : Below w1.heap.size w1 wr
end Flo
end Go.Proofs.YtgophgnfiboefaaDoor

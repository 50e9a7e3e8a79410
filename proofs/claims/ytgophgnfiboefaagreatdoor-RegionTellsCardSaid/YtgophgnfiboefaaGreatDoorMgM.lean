/- The program's neighbour and leads. The program's leads, Next, Back, Near. The program's Next, Back, Near. -/
import Derived.Test.YtgophgnfiboefaaGreatDoorMgL
import Derived.Deep.RegionHeld3
namespace Go.Proofs.YtgophgnfiboefaaGreatDoor
open Go.RowKit Wire
open Txt (Row)
set_option linter.unusedVariables false
set_option linter.unusedSimpArgs false
namespace Flo
theorem beside_at {f : Fl} {c : Int} {d : Nat} (hc : f.is c = true) (hd : d < 6) : f.beside c d = f.cell (f.px c + dx d) (f.py c + dy d) (f.pz c + dz d) := by
  unfold Fl.beside
  rw [hc, show isDir d = true from decide_eq_true (by omega)]
  simp
theorem d_small (d : Nat) (hd : d < 6) : -1 ≤ dx d ∧ dx d ≤ 1 ∧ -1 ≤ dy d ∧ dy d ≤ 1 ∧ -1 ≤ dz d ∧ dz d ≤ 1 := by
  obtain rfl | rfl | rfl | rfl | rfl | rfl : d = 0 ∨ d = 1 ∨ d = 2 ∨ d = 3 ∨ d = 4 ∨ d = 5 := by omega
  all_goals decide
set_option maxRecDepth 8000 in
set_option maxHeartbeats 2000000 in
theorem neighbour_any {f : Fl} (ho : f.ok) (p : Pl) (c d : Int) (w : World) (hv : VS w) : Calls Tryz.prog 61 #[f.val p, .int .i64 c, .int .i64 d] w fun e w' => e = .returned (.int .i64 (f.beside c d)) ∧ Below w.heap.size w w' := by
  have HIS := Lib.hid (fun w => isCell_any ho p c w)
  have HDI := Lib.hid (isDir_any d)
  have HAT := Lib.hid (fun w => at_any ho p c w)
  have HCE := Lib.hid (fun x y z w => cell_any ho p x y z w)
  have HB : Hid (∀ o, Below w.heap.size w (w.alloc o)) := Lib.hid fun o => (Below.refl _ w).alloc (Nat.le_refl _) o
  cases hi : f.is c
  · rw [hi] at HIS
    rw [Fl.beside_nocell hi]
    clear ho hi HAT HCE hv
    obtain ⟨W, H, D, K, O⟩ := f
    go_enter Tryz.func61, Tryz.ntmps61
    go_wp2_with (go_at_call 74; refine (HIS.out _).mono ?_; rintro e w1 ⟨rfl, b1⟩; have B1 := Lib.hid (next_below (HB.out _) b1); clear b1)
    go_ret
    exact ⟨rfl, B1.out⟩
  · rw [hi] at HIS
    unfold Fl.at at HAT
    rw [hi] at HAT
    simp only [if_true] at HAT
    cases hd : isDir d
    · rw [Fl.beside_none hd]
      rw [hd] at HDI
      clear ho hi hd HCE HAT hv
      obtain ⟨W, H, D, K, O⟩ := f
      go_enter Tryz.func61, Tryz.ntmps61
      go_wp2_with (first
        | (go_at_call 74; refine (HIS.out _).mono ?_; rintro e w1 ⟨rfl, b1⟩; have B1 := Lib.hid (next_below (HB.out _) b1); clear b1)
        | (go_at_call 75; refine (HDI.out _).mono ?_; rintro e w2 ⟨rfl, rfl⟩))
      go_ret
      exact ⟨rfl, B1.out⟩
    · rw [hd] at HDI
      obtain ⟨k, hk, rfl⟩ : ∃ k : Nat, k < 6 ∧ d = k := ⟨d.toNat, by have := of_decide_eq_true hd; omega, by have := of_decide_eq_true hd; omega⟩
      obtain ⟨a0, a1, b0, b1, c0, c1⟩ := Fl.place_in ho hi
      obtain ⟨s1, s2, _, _⟩ := ho.small
      have s3 := ho.d4
      have a2 : f.px c < 4096 := by omega
      have b2 : f.py c < 4096 := by omega
      have c2 : f.pz c < 4096 := by omega
      obtain ⟨e0, e1, e2, e3, e4, e5⟩ := d_small k hk
      have HV : Hid (∀ w', Below w.heap.size w w' → VS w') := Lib.hid fun w' b => hv.lift b
      have HVD : Hid (∀ w', VS w' → w'.cell? ⟨0, k * 3, none⟩ = some (.int .i64 (dx k)) ∧ w'.cell? ⟨0, k * 3 + 1, none⟩ = some (.int .i64 (dy k)) ∧ w'.cell? ⟨0, k * 3 + 2, none⟩ = some (.int .i64 (dz k))) := Lib.hid fun w' h => h k hk
      rw [beside_at hi hk]
      clear hi hd ho a1 b1 c1 s1 s2 s3 hv
      generalize f.px c = x at *
      generalize f.py c = y at *
      generalize f.pz c = z at *
      generalize dx k = ux at *
      generalize dy k = uy at *
      generalize dz k = uz at *
      obtain ⟨W, H, D, K, O⟩ := f
      go_enter Tryz.func61, Tryz.ntmps61
      go_wp2_with (first
        | (go_at_call 74; refine (HIS.out _).mono ?_; rintro e w1 ⟨rfl, b1⟩; have B1 := Lib.hid (next_below (HB.out _) b1); have K1 := Lib.hid ((Blk.fresh w _ _).under b1 (by simp)); clear b1; have k0 := K1.out.at 0; have k1 := K1.out.at 1; have k2 := K1.out.at 2; have k3 := K1.out.at 3; have k4 := K1.out.at 4)
        | (go_at_call 75; refine (HDI.out _).mono ?_; rintro e w2 ⟨rfl, rfl⟩)
        | (go_at_call 76; refine (HAT.out _).mono ?_; rintro e w2 ⟨rfl, b2⟩; have B2 := Lib.hid (next_below B1.out b2); have K2 := Lib.hid (K1.out.under b2 K1.out.inside); clear b2 k0 k1 k2 k3 k4; obtain ⟨v0, v1, v2⟩ := HVD.out _ (HV.out _ B2.out); have K3 := Lib.hid (K2.out.kept (.cells #[.int .i64 ux, .int .i64 uy, .int .i64 uz] 84)); have k0 := K3.out.at 0; have k1 := K3.out.at 1; have k2 := K3.out.at 2; have k3 := K3.out.at 3; have k4 := K3.out.at 4)
        | (go_at_call 77; refine (HCE.out _ _ _ _).mono ?_; rintro e w3 ⟨rfl, b3⟩; have B3 := Lib.hid (next_below (B2.out.alloc (by have := B2.out.size; omega) _) b3); clear b3))
      go_ret
      exact ⟨rfl, B3.out⟩
end Flo
end Go.Proofs.YtgophgnfiboefaaGreatDoor

namespace Go.Proofs.YtgophgnfiboefaaGreatDoor
open Go.RowKit Wire
open Txt (Row)
set_option linter.unusedVariables false
set_option linter.unusedSimpArgs false
namespace Flo
theorem dz_ways (j : Nat) (hj : j < 6) : (j < 4 ∧ dz j = 0) ∨ (4 ≤ j ∧ dz j ≠ 0) := by
  obtain rfl | rfl | rfl | rfl | rfl | rfl : j = 0 ∨ j = 1 ∨ j = 2 ∨ j = 3 ∨ j = 4 ∨ j = 5 := by omega
  all_goals decide
set_option maxRecDepth 8000 in
set_option maxHeartbeats 2000000 in
theorem leads_any {f : Fl} (ho : f.ok) (p : Pl) (k m j : Nat) (w : World) (hv : VS w) (hin : FlIn w f p) (hk : f.is k = true) (hm : f.is m = true) (hj : j < 6) : Calls Tryz.prog 63 #[f.val p, .int .i64 k, .int .i64 m, .int .i64 j] w fun e w' => e = .returned (.bool (f.may k m j)) ∧ Below w.heap.size w w' := by
  have hb : ∀ o, Below w.heap.size w (w.alloc o) := fun o => (Below.refl _ w).alloc (Nat.le_refl _) o
  have HB : Hid (∀ n o, Below w.heap.size w ((w.alloc o).drewN n)) := Lib.hid fun n o => next_below ((Below.refl _ w).alloc (Nat.le_refl _) o) (below_any _ _)
  have HB1 : Hid (∀ o, Below w.heap.size w ((w.alloc o).drew)) := Lib.hid fun o => next_below ((Below.refl _ w).alloc (Nat.le_refl _) o) (Below.refl _ _).drew
  rw [may_eq]
  obtain ⟨h0, h1⟩ := Fl.is_bounds hk
  obtain ⟨h2, h3⟩ := Fl.is_bounds hm
  have hk1 := ho.kinds
  have hk2 := ho.outs
  have hsz := ho.size
  obtain ⟨b1, o1, e1, hc1⟩ := row_val hin.kind (k := k) (by omega)
  obtain ⟨b1', o1', e1', hc2⟩ := row_val hin.kind (k := m) (by omega)
  obtain ⟨b2, o2, e2, hc3⟩ := row_val hin.out (k := k) (by omega)
  have e3 : (⟨b1, o1, none⟩ : Addr) = ⟨b1', o1', none⟩ := Option.some.inj (e1.symm.trans e1')
  injection e3 with e3 e4
  subst e3 e4
  have hvd := (hv j hj).2.2
  have hvlt := hv.lt
  have hzw := dz_ways j hj
  have g1 : (k : Int) < f.Kind.length := by omega
  have g2 : (m : Int) < f.Kind.length := by omega
  have g3 : (k : Int) < f.Out.length := by omega
  have g4 : (f.Kind.length : Int) ≤ 4096 := by omega
  have g5 : (f.Out.length : Int) ≤ 4096 := by omega
  have hbit : bits .and .i64 (f.outAt k / 2 ^ j) 1 = bitOf (f.outAt k) j := by
    rw [and1]
    unfold bitOf
    simp
  have ek : f.kindAt k = f.Kind.getD k 0 := by unfold Fl.kindAt; simp
  have em : f.kindAt m = f.Kind.getD m 0 := by unfold Fl.kindAt; simp
  have eo : f.outAt k = f.Out.getD k 0 := by unfold Fl.outAt; simp
  rw [← ek] at hc1
  rw [← em] at hc2
  rw [← eo] at hc3
  clear ho hk hm hin h0 h1 h2 h3 hk1 hk2 hsz e1' ek em eo hv
  obtain ⟨A1, c1, A2, c2⟩ := p
  dsimp only at e1 e2
  subst e1 e2
  generalize f.kindAt k = kc at *
  generalize f.kindAt m = kn at *
  generalize bitOf (f.outAt k) j = bt at *
  generalize f.outAt k = ov at *
  generalize dz j = zz at *
  obtain ⟨W, H, D, K, O⟩ := f
  dsimp only [Fl.val] at *
  generalize K.length = n1 at *
  generalize O.length = n2 at *
  generalize hr : (kc != 0 && kn != 0 && bt != 0 && (decide ((j : Int) < 4) || (kc == 6 && kn == 6))) = r
  have hways := may_ways kc kn bt j r hr
  clear hr
  have hz : ∀ w', Below w.heap.size w w' → w'.cell? ⟨0, j * 3 + 2, none⟩ = some (.int .i64 zz) := fun w' b => (b.cell (p := ⟨0, j * 3 + 2, none⟩) hvlt).trans hvd
  have HZ := Lib.hid hz
  have HC1 := Lib.hid hc1
  have HC2 := Lib.hid hc2
  have HC3 := Lib.hid hc3
  clear hvd hvlt hz hc1 hc2 hc3
  have B0 := Lib.hid (hb (.cells #[.int .i64 W, .int .i64 H, .int .i64 D, .slice (some ⟨b1, o1, none⟩) n1 c1, .slice (some ⟨b2, o2, none⟩) n2 c2] 24))
  have z1 := HC1.out _ B0.out
  have z2 := HC2.out _ B0.out
  have z3 := HC3.out _ B0.out
  have z4 := HZ.out _ B0.out
  clear hb HC1 HC2 HC3 HZ
  have hj4 : (j : Int) < 6 := by omega
  rcases hways with ⟨a1, rfl⟩ | ⟨a1, a2, rfl⟩ | ⟨a1, a2, a3, rfl⟩ | ⟨a1, a2, a3, a4, a5, rfl⟩ | ⟨a2, a3, a4, a5, a6, rfl⟩ | ⟨a3, a4, a5, a6, rfl⟩ | ⟨a1, a2, a3, a4, rfl⟩
  · subst a1
    clear hzw
    go_enter Tryz.func63, Tryz.ntmps63
    go_wp2_with fail
    go_quiet (fail)
    go_wp2_with fail
    go_ret
    exact ⟨rfl, by first | exact HB1.out _ | exact HB.out _ _⟩
  · have q1 := ne_b a1
    subst a2
    clear hzw a1
    go_enter Tryz.func63, Tryz.ntmps63
    go_wp2_with fail
    go_quiet (fail)
    go_wp2_with fail
    go_ret
    exact ⟨rfl, by first | exact HB1.out _ | exact HB.out _ _⟩
  · have q1 := ne_b a1; have q2 := ne_b a2; subst a3
    clear hzw a1 a2
    go_enter Tryz.func63, Tryz.ntmps63
    go_wp2_with fail
    go_quiet (fail)
    go_wp2_with fail
    go_ret
    exact ⟨rfl, by first | exact HB1.out _ | exact HB.out _ _⟩
  · have q1 := ne_b a1; have q2 := ne_b a2; have q3 := ne_b a3; have q5 := ne_b a5
    have zn : (zz != 0) = true := by rcases hzw with h | h; omega; simp [h.2]
    clear hzw a1 a2 a3 a5
    go_enter Tryz.func63, Tryz.ntmps63
    go_wp2_with fail
    go_quiet (fail)
    go_wp2_with fail
    go_ret
    exact ⟨rfl, by first | exact HB1.out _ | exact HB.out _ _⟩
  · have q2 := ne_b a2; have q3 := ne_b a3; have q6 := ne_b a6; subst a5
    have zn : (zz != 0) = true := by rcases hzw with h | h; omega; simp [h.2]
    clear hzw a2 a3 a6
    go_enter Tryz.func63, Tryz.ntmps63
    go_wp2_with fail
    go_quiet (fail)
    go_wp2_with fail
    go_ret
    exact ⟨rfl, by first | exact HB1.out _ | exact HB.out _ _⟩
  · have q3 := ne_b a3; subst a5; subst a6
    have zn : (zz != 0) = true := by rcases hzw with h | h; omega; simp [h.2]
    clear hzw a3
    go_enter Tryz.func63, Tryz.ntmps63
    go_wp2_with fail
    go_quiet (fail)
    go_wp2_with fail
    go_ret
    exact ⟨rfl, by first | exact HB1.out _ | exact HB.out _ _⟩
  · have q1 := ne_b a1; have q2 := ne_b a2; have q3 := ne_b a3
    have zn : zz = 0 := by rcases hzw with h | h; exact h.2; omega
    subst zn
    clear hzw a1 a2 a3
    go_enter Tryz.func63, Tryz.ntmps63
    go_wp2_with fail
    go_quiet (fail)
    go_wp2_with fail
    go_ret
    exact ⟨rfl, by first | exact HB1.out _ | exact HB.out _ _⟩
end Flo
end Go.Proofs.YtgophgnfiboefaaGreatDoor

namespace Go.Proofs.YtgophgnfiboefaaGreatDoor
open Go.RowKit Wire
open Txt (Row)
set_option linter.unusedVariables false
set_option linter.unusedSimpArgs false
namespace Flo
set_option maxRecDepth 8000 in
set_option maxHeartbeats 2000000 in
theorem next_any {f : Fl} (ho : f.ok) (p : Pl) (c d : Int) (w : World) (hv : VS w) (hin : FlIn w f p) : Calls Tryz.prog 65 #[f.val p, .int .i64 c, .int .i64 d] w fun e w' => e = .returned (resN (f.next c d)) ∧ Below w.heap.size w w' := by
  have HNB := Lib.hid (fun w hv => neighbour_any ho p c d w hv)
  have HV : Hid (∀ w', Below w.heap.size w w' → VS w') := Lib.hid fun w' b => hv.lift b
  have HB : Hid (∀ o, Below w.heap.size w (w.alloc o)) := Lib.hid fun o => (Below.refl _ w).alloc (Nat.le_refl _) o
  by_cases hneg : f.beside c d < 0
  · rw [show f.next c d = none from by unfold Fl.next; rw [if_pos hneg]]
    clear ho hin hv
    generalize f.beside c d = n at *
    obtain ⟨W, H, D, K, O⟩ := f
    go_enter Tryz.func65, Tryz.ntmps65
    go_wp2_with (go_at_call 61; refine (HNB.out _ (HV.out _ (HB.out _))).mono ?_; rintro e w1 ⟨rfl, b1⟩; have B1 := Lib.hid (next_below (HB.out _) b1); clear b1)
    go_returns
    exact ⟨rfl, B1.out⟩
  · obtain ⟨hic, hdd, _, _⟩ := Fl.beside_some hneg
    obtain ⟨hin2, _, _, _⟩ := Fl.beside_place hneg
    rw [show f.next c d = if f.may c (f.beside c d) d then some (f.beside c d) else none from by unfold Fl.next; rw [if_neg hneg]]
    obtain ⟨j, hj, rfl⟩ : ∃ j : Nat, j < 6 ∧ d = j := ⟨d.toNat, by have := of_decide_eq_true hdd; omega, by have := of_decide_eq_true hdd; omega⟩
    obtain ⟨h0, h1⟩ := Fl.is_bounds hic
    obtain ⟨k, rfl⟩ : ∃ k : Nat, c = k := ⟨c.toNat, by omega⟩
    obtain ⟨m, hm⟩ : ∃ m : Nat, f.beside k j = m := ⟨(f.beside k j).toNat, by omega⟩
    rw [hm] at hin2 ⊢ HNB
    have HLE : Hid (∀ w', Below w.heap.size w w' → Calls Tryz.prog 63 #[f.val p, .int .i64 k, .int .i64 m, .int .i64 j] w' fun e w2 => e = .returned (.bool (f.may k m j)) ∧ Below w'.heap.size w' w2) := Lib.hid fun w' b => leads_any ho p k m j w' (hv.lift b) (hin.lift b) hic hin2 hj
    clear ho hneg hic hdd hin2 h0 h1 hm hin hv
    generalize f.may k m j = r at *
    obtain ⟨W, H, D, K, O⟩ := f
    cases r
    · go_enter Tryz.func65, Tryz.ntmps65
      go_wp2_with (first
        | (go_at_call 61; refine (HNB.out _ (HV.out _ (HB.out _))).mono ?_; rintro e w1 ⟨rfl, b1⟩; have B1 := Lib.hid (next_below (HB.out _) b1); have K1 := (Blk.fresh w _ _).under b1 (by simp); clear b1; obtain ⟨k0, k1, k2, k3, k4⟩ := boxS K1; clear K1)
        | (go_at_call 63; refine (HLE.out _ B1.out).mono ?_; rintro e w2 ⟨rfl, b2⟩; have B2 := Lib.hid (next_below B1.out b2); clear b2))
      go_returns
      exact ⟨rfl, B2.out⟩
    · go_enter Tryz.func65, Tryz.ntmps65
      go_wp2_with (first
        | (go_at_call 61; refine (HNB.out _ (HV.out _ (HB.out _))).mono ?_; rintro e w1 ⟨rfl, b1⟩; have B1 := Lib.hid (next_below (HB.out _) b1); have K1 := (Blk.fresh w _ _).under b1 (by simp); clear b1; obtain ⟨k0, k1, k2, k3, k4⟩ := boxS K1; clear K1)
        | (go_at_call 63; refine (HLE.out _ B1.out).mono ?_; rintro e w2 ⟨rfl, b2⟩; have B2 := Lib.hid (next_below B1.out b2); clear b2))
      go_returns
      exact ⟨rfl, B2.out⟩
/-- From the other end. -/
theorem back_may {f : Fl} {c d : Int} (ho : f.ok) : f.back c d = if f.beside c (opp d) < 0 then none else if f.may (f.beside c (opp d)) c d then some (f.beside c (opp d)) else none := by
  by_cases hneg : f.beside c (opp d) < 0
  · unfold Fl.back
    rw [if_pos hneg, if_pos hneg]
  · have e := Fl.beside_opp ho hneg
    obtain ⟨_, h2, _, _⟩ := Fl.beside_some hneg
    have hd : isDir d = true := by
      cases h : isDir d
      · rw [opp_none h] at h2
        cases h2
      · rfl
    rw [(opp_dir hd).2.2.2.2.1] at e
    have hc := (Fl.beside_some hneg).1
    have h0 := (Fl.is_bounds hc).1
    have hnx : f.next (f.beside c (opp d)) d = if f.may (f.beside c (opp d)) c d then some c else none := by
      unfold Fl.next
      rw [e, if_neg (by omega)]
    unfold Fl.back
    rw [if_neg hneg, if_neg hneg, hnx]
    cases f.may (f.beside c (opp d)) c d <;> rfl
set_option maxRecDepth 8000 in
set_option maxHeartbeats 2000000 in
theorem back_any {f : Fl} (ho : f.ok) (p : Pl) (c d : Int) (w : World) (hv : VS w) (hvo : VO w) (hin : FlIn w f p) : Calls Tryz.prog 43 #[f.val p, .int .i64 c, .int .i64 d] w fun e w' => e = .returned (resN (f.back c d)) ∧ Below w.heap.size w w' := by
  have HOP : Hid (∀ w', Below w.heap.size w w' → Calls Tryz.prog 62 #[.int .i64 d] w' fun e w2 => e = .returned (.int .i64 (opp d)) ∧ w' = w2) := Lib.hid fun w' b => opposite_any d w' (hvo.lift b)
  have HNB : Hid (∀ w', Below w.heap.size w w' → Calls Tryz.prog 61 #[f.val p, .int .i64 c, .int .i64 (opp d)] w' fun e w2 => e = .returned (.int .i64 (f.beside c (opp d))) ∧ Below w'.heap.size w' w2) := Lib.hid fun w' b => neighbour_any ho p c (opp d) w' (hv.lift b)
  have HKP : Hid (∀ w' cs t, Below (w.alloc (.cells cs t)).heap.size (w.alloc (.cells cs t)) w' → Blk w' w.heap.size t cs) := Lib.hid fun w' cs t b => (Blk.fresh w t cs).under b (by simp)
  have HAL : Hid (∀ o w', Below (w.alloc o).heap.size (w.alloc o) w' → Below w.heap.size w w') := Lib.hid fun o w' b => next_below ((Below.refl _ w).alloc (Nat.le_refl _) o) b
  rw [back_may ho]
  have HLE : Hid (∀ w', Below w.heap.size w w' → ¬ f.beside c (opp d) < 0 → Calls Tryz.prog 63 #[f.val p, .int .i64 (f.beside c (opp d)), .int .i64 c, .int .i64 d] w' fun e w2 => e = .returned (.bool (f.may (f.beside c (opp d)) c d)) ∧ Below w'.heap.size w' w2) := Lib.hid fun w' b hneg => by
    obtain ⟨hic, hdd, _, _⟩ := Fl.beside_some hneg
    obtain ⟨hin2, _, _, _⟩ := Fl.beside_place hneg
    have hd : isDir d = true := by
      cases h : isDir d
      · rw [opp_none h] at hdd
        cases hdd
      · rfl
    obtain ⟨j, hj, rfl⟩ : ∃ j : Nat, j < 6 ∧ d = j := ⟨d.toNat, by have := of_decide_eq_true hd; omega, by have := of_decide_eq_true hd; omega⟩
    obtain ⟨h0, h1⟩ := Fl.is_bounds hic
    obtain ⟨k, rfl⟩ : ∃ k : Nat, c = k := ⟨c.toNat, by omega⟩
    obtain ⟨m, hm⟩ : ∃ m : Nat, f.beside k (opp j) = m := ⟨(f.beside k (opp j)).toNat, by omega⟩
    rw [hm] at hin2 ⊢
    exact leads_any ho p m k j w' (hv.lift b) (hin.lift b) hin2 hic hj
  clear ho hin hv hvo
  generalize f.beside c (opp d) = m at *
  generalize opp d = od at *
  generalize f.may m c d = r at *
  generalize hR : (if m < 0 then none else if r = true then some m else none) = R at *
  have HR1 : Hid (m < 0 → R = none) := Lib.hid fun h => by rw [← hR, if_pos h]
  have HR2 : Hid (¬ m < 0 → r = false → R = none) := Lib.hid fun h h2 => by rw [← hR, if_neg h, h2]; rfl
  have HR3 : Hid (¬ m < 0 → r = true → R = some m) := Lib.hid fun h h2 => by rw [← hR, if_neg h, h2]; rfl
  clear hR
  obtain ⟨A1, c1, A2, c2⟩ := p
  obtain ⟨W, H, D, K, O⟩ := f
  dsimp only [Fl.val] at *
  generalize K.length = n1 at *
  generalize O.length = n2 at *
  go_enter Tryz.func43, Tryz.ntmps43
  go_upto_region 1 with (fail)
  generalize hw1 : w.alloc (.cells #[.int .i64 W, .int .i64 H, .int .i64 D, .slice A1 n1 c1, .slice A2 n2 c2] 24) = w1 at *
  have HB0 : Hid (Below w1.heap.size w1 w1.drew) := Lib.hid (Below.refl _ w1).drew
  have HKB : Hid (∀ w', Below w1.heap.size w1 w' → BoxS w.heap.size W H D A1 n1 c1 A2 n2 c2 w') := Lib.hid fun w' b => boxS (HKP.out w' _ _ (hw1 ▸ b))
  have HLW : Hid (∀ w', Below w1.heap.size w1 w' → Below w.heap.size w w') := Lib.hid fun w' b => HAL.out _ w' (hw1 ▸ b)
  clear hw1 HKP HAL
  go_region_held3 (fun w' => BoxS w.heap.size W H D A1 n1 c1 A2 n2 c2 w') (first | exact HKB.out _ HB0.out | exact HKB.out _ b3 | go_keep)
    (first
      | (go_at_call 62; refine (HOP.out _ (HLW.out _ HB0.out)).mono ?_; rintro e w2 ⟨rfl, rfl⟩)
      | (go_at_call 61; refine (HNB.out _ (HLW.out _ HB0.out)).mono ?_; rintro e w3 ⟨rfl, b3'⟩; have b3 := HB0.out.trans b3'))
  have B3 := Lib.hid b3
  obtain ⟨k0, k1, k2, k3, k4⟩ := HKB.out _ b3
  clear b3 b3'
  by_cases hneg : m < 0
  · have hr := HR1.out hneg
    subst hr
    go_wp2_with fail
    go_returns
    exact ⟨rfl, HLW.out _ B3.out⟩
  · have HL2 := Lib.hid (fun w' b => HLE.out w' b (by omega))
    have HR2' := Lib.hid (HR2.out (by omega))
    have HR3' := Lib.hid (HR3.out (by omega))
    clear HLE HR1 HR2 HR3
    cases r
    · go_wp2_with (go_at_call 63; refine (HL2.out _ (HLW.out _ B3.out)).mono ?_; rintro e w4 ⟨rfl, b4⟩; have B4 := Lib.hid (next_below (HLW.out _ B3.out) b4); clear b4)
      go_returns
      exact ⟨by rw [HR2'.out (by first | rfl | trivial)]; rfl, B4.out⟩
    · go_wp2_with (go_at_call 63; refine (HL2.out _ (HLW.out _ B3.out)).mono ?_; rintro e w4 ⟨rfl, b4⟩; have B4 := Lib.hid (next_below (HLW.out _ B3.out) b4); clear b4)
      go_returns
      exact ⟨by rw [HR3'.out (by first | rfl | trivial)]; rfl, B4.out⟩
theorem near_is {f : Fl} {a b : Int} {j : Nat} : (f.is b && f.beside a j == b) = (decide (0 ≤ f.beside a j) && f.beside a j == b) := by
  by_cases h : f.beside a j = b
  · rw [h]
    by_cases hb : 0 ≤ b
    · rw [decide_eq_true hb]
      have := (Fl.beside_place (f := f) (c := a) (d := j) (by omega)).1
      rw [h] at this
      rw [this]
    · rw [decide_eq_false hb]
      have : f.is b = false := decide_eq_false (by omega)
      rw [this]
  · have : (f.beside a j == b) = false := beq_eq_false_iff_ne.2 h
    rw [this, Bool.and_false, Bool.and_false]
structure NearL (w1 : World) (f : Fl) (a b : Int) (jv : Value) (wr : World) (j : Nat) : Prop where
  jv : jv = .int .i64 j
  le : j ≤ 4
  no : ∀ i : Nat, i < j → (f.is b && f.beside a i == b) = false
  below : Below w1.heap.size w1 wr
end Flo
end Go.Proofs.YtgophgnfiboefaaGreatDoor

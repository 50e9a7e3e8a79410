/- The program's neighbour and leads. -/
import Derived.Test.YtgophgnfiboefaaDoorFpB
namespace Go.Proofs.YtgophgnfiboefaaDoor
open Go.RowKit Wire
open Txt (Row)
set_option linter.unusedVariables false
set_option linter.unusedSimpArgs false
namespace Flo
theorem beside_at {f : Fl} {c : Int} {d : Nat} (hc : f.is c = true) (hd : d < 6) : f.beside c d = f.cell (f.px c + dx d) (f.py c + dy d) (f.pz c + dz d) := by
  unfold Fl.beside
  rw [hc, show isDir d = true from decide_eq_true (by omega)]
  simp
theorem d_small (d : Nat) (hd : d < 6) : -1 ≤ dx d ∧ dx d ≤ 1 ∧ -1 ≤ dy d ∧ dy d ≤ 1 ∧ -1 ≤ dz d ∧ dz d ≤ 1 := by
  obtain rfl | rfl | rfl | rfl | rfl | rfl : d = 0 ∨ d = 1 ∨ d = 2 ∨ d = 3 ∨ d = 4 ∨ d = 5 := by omega
  all_goals decide
set_option maxRecDepth 8000 in
set_option maxHeartbeats 2000000 in
theorem neighbour_any {f : Fl} (ho : f.ok) (p : Pl) (c d : Int) (w : World) (hv : VS w) : Calls Tryd.prog 42 #[f.val p, .int .i64 c, .int .i64 d] w fun e w' => e = .returned (.int .i64 (f.beside c d)) ∧ Below w.heap.size w w' := by
  have HIS := Lib.hid (fun w => isCell_any ho p c w)
  have HDI := Lib.hid (isDir_any d)
  have HAT := Lib.hid (fun w => at_any ho p c w)
  have HCE := Lib.hid (fun x y z w => cell_any ho p x y z w)
  have HB : Hid (∀ o, Below w.heap.size w (w.alloc o)) := Lib.hid fun o => (Below.refl _ w).alloc (Nat.le_refl _) o
  cases hi : f.is c
  · rw [hi] at HIS
    rw [Fl.beside_nocell hi]
    clear ho hi HAT HCE hv
    obtain ⟨W, H, D, K, O⟩ := f
    go_enter Tryd.func42, Tryd.ntmps42
    go_wp2_with (go_at_call 56; refine (HIS.out _).mono ?_; rintro e w1 ⟨rfl, b1⟩; have B1 := Lib.hid (next_below (HB.out _) b1); clear b1)
    go_ret
    exact ⟨rfl, B1.out⟩
  · rw [hi] at HIS
    unfold Fl.at at HAT
    rw [hi] at HAT
    simp only [if_true] at HAT
    cases hd : isDir d
    · rw [Fl.beside_none hd]
      rw [hd] at HDI
      clear ho hi hd HCE HAT hv
      obtain ⟨W, H, D, K, O⟩ := f
      go_enter Tryd.func42, Tryd.ntmps42
      go_wp2_with (first
        | (go_at_call 56; refine (HIS.out _).mono ?_; rintro e w1 ⟨rfl, b1⟩; have B1 := Lib.hid (next_below (HB.out _) b1); clear b1)
        | (go_at_call 57; refine (HDI.out _).mono ?_; rintro e w2 ⟨rfl, rfl⟩))
      go_ret
      exact ⟨rfl, B1.out⟩
    · rw [hd] at HDI
      obtain ⟨k, hk, rfl⟩ : ∃ k : Nat, k < 6 ∧ d = k := ⟨d.toNat, by have := of_decide_eq_true hd; omega, by have := of_decide_eq_true hd; omega⟩
      obtain ⟨a0, a1, b0, b1, c0, c1⟩ := Fl.place_in ho hi
      obtain ⟨s1, s2, _, _⟩ := ho.small
      have s3 := ho.d4
      have a2 : f.px c < 4096 := by omega
      have b2 : f.py c < 4096 := by omega
      have c2 : f.pz c < 4096 := by omega
      obtain ⟨e0, e1, e2, e3, e4, e5⟩ := d_small k hk
      have HV : Hid (∀ w', Below w.heap.size w w' → VS w') := Lib.hid fun w' b => hv.lift b
      have HVD : Hid (∀ w', VS w' → w'.cell? ⟨0, k * 3, none⟩ = some (.int .i64 (dx k)) ∧ w'.cell? ⟨0, k * 3 + 1, none⟩ = some (.int .i64 (dy k)) ∧ w'.cell? ⟨0, k * 3 + 2, none⟩ = some (.int .i64 (dz k))) := Lib.hid fun w' h => h k hk
      rw [beside_at hi hk]
      clear hi hd ho a1 b1 c1 s1 s2 s3 hv
      generalize f.px c = x at *
      generalize f.py c = y at *
      generalize f.pz c = z at *
      generalize dx k = ux at *
      generalize dy k = uy at *
      generalize dz k = uz at *
      obtain ⟨W, H, D, K, O⟩ := f
      go_enter Tryd.func42, Tryd.ntmps42
      go_wp2_with (first
        | (go_at_call 56; refine (HIS.out _).mono ?_; rintro e w1 ⟨rfl, b1⟩; have B1 := Lib.hid (next_below (HB.out _) b1); have K1 := Lib.hid ((Blk.fresh w _ _).under b1 (by simp)); clear b1; have k0 := K1.out.at 0; have k1 := K1.out.at 1; have k2 := K1.out.at 2; have k3 := K1.out.at 3; have k4 := K1.out.at 4)
        | (go_at_call 57; refine (HDI.out _).mono ?_; rintro e w2 ⟨rfl, rfl⟩)
        | (go_at_call 58; refine (HAT.out _).mono ?_; rintro e w2 ⟨rfl, b2⟩; have B2 := Lib.hid (next_below B1.out b2); have K2 := Lib.hid (K1.out.under b2 K1.out.inside); clear b2 k0 k1 k2 k3 k4; obtain ⟨v0, v1, v2⟩ := HVD.out _ (HV.out _ B2.out); have K3 := Lib.hid (K2.out.kept (.cells #[.int .i64 ux, .int .i64 uy, .int .i64 uz] 80)); have k0 := K3.out.at 0; have k1 := K3.out.at 1; have k2 := K3.out.at 2; have k3 := K3.out.at 3; have k4 := K3.out.at 4)
        | (go_at_call 59; refine (HCE.out _ _ _ _).mono ?_; rintro e w3 ⟨rfl, b3⟩; have B3 := Lib.hid (next_below (B2.out.alloc (by have := B2.out.size; omega) _) b3); clear b3))
      go_ret
      exact ⟨rfl, B3.out⟩
end Flo
end Go.Proofs.YtgophgnfiboefaaDoor

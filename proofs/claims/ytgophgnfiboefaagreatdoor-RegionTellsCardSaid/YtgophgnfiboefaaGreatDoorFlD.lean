/- The reference's At, Beside, Next, Back, Near. -/
import Derived.Test.YtgophgnfiboefaaGreatDoorFlC
namespace Go.Proofs.YtgophgnfiboefaaGreatDoor
open Go.RowKit Wire
open Txt (Row)
set_option linter.unusedVariables false
set_option linter.unusedSimpArgs false
namespace Flo
theorem below_any {B : Nat} (w : World) (n : Nat) : Below B w (w.drewN n) := ⟨rfl, rfl, rfl, Nat.le_refl _, fun _ _ => rfl⟩
set_option maxRecDepth 8000 in
set_option maxHeartbeats 1000000 in
theorem qAt_any {f : Fl} (ho : f.ok) (p : Pl) (c : Int) (w : World) : Calls Tryz.prog 96 #[f.val p, .int .i64 c] w fun e w' => e = .returned (.tuple #[.int .i64 (f.at c).1, .int .i64 (f.at c).2.1, .int .i64 (f.at c).2.2]) ∧ Below w.heap.size w w' := by
  have HS := Lib.hid (fun w => qIs_any ho p c w)
  have hb : ∀ o, Below w.heap.size w (w.alloc o) := fun o => (Below.refl _ w).alloc (Nat.le_refl _) o
  have HB := Lib.hid hb
  unfold Fl.at
  cases hi : f.is c
  · rw [hi] at HS
    simp only [Bool.false_eq_true, if_false]
    clear ho hb hi
    obtain ⟨W, H, D, K, O⟩ := f
    go_enter Tryz.func96, Tryz.ntmps96
    go_wp2_with (go_at_call 55; refine (HS.out _).mono ?_; rintro e w1 ⟨rfl, b1⟩; have B1 := Lib.hid (next_below (HB.out _) b1); clear b1)
    go_returns
    exact ⟨rfl, B1.out⟩
  · rw [hi] at HS
    simp only [if_true]
    obtain ⟨h0, h1⟩ := Fl.is_bounds hi
    have hw := ho.w
    have hh := ho.h
    have hsz := ho.size
    have hcs : c < 4096 := by omega
    have g1 : 0 ≤ c / f.W := Int.ediv_nonneg h0 (by omega)
    have g2 : c / f.W ≤ c := Int.ediv_le_self _ h0
    have g3 : 0 ≤ c / f.W / f.H := Int.ediv_nonneg g1 (by omega)
    have g4 : c / f.W / f.H ≤ c / f.W := Int.ediv_le_self _ g1
    have q1 : c.tmod f.W = c % f.W := Int.tmod_eq_emod_of_nonneg h0
    have q2 : c.tdiv f.W = c / f.W := Int.tdiv_eq_ediv_of_nonneg h0
    have q3 : (c / f.W).tmod f.H = c / f.W % f.H := Int.tmod_eq_emod_of_nonneg g1
    have q4 : (c / f.W).tdiv f.H = c / f.W / f.H := Int.tdiv_eq_ediv_of_nonneg g1
    have n1 : ¬ f.W = 0 := by omega
    have n2 : ¬ f.H = 0 := by omega
    clear ho hb hi hsz h1
    obtain ⟨W, H, D, K, O⟩ := f
    dsimp only [Fl.px, Fl.py, Fl.pz] at *
    go_enter Tryz.func96, Tryz.ntmps96
    go_wp2_with (go_at_call 55; refine (HS.out _).mono ?_; rintro e w1 ⟨rfl, b1⟩; have B1 := Lib.hid (next_below (HB.out _) b1); have K1 := (Blk.fresh w _ _).under b1 (by simp); have k0 := K1.at 0; have k1 := K1.at 1; clear b1 K1)
    go_quiet (fail)
    go_wp2_with fail
    go_returns
    exact ⟨rfl, next_below B1.out (below_any _ _)⟩
section
variable {f : Fl} {c : Int}
theorem beside_0 (h : f.is c = true) : f.beside c 0 = f.cell (f.px c + 1) (f.py c) (f.pz c) := by
  unfold Fl.beside
  rw [h]
  simp [isDir, dx, dy, dz, Int.sub_eq_add_neg]
theorem beside_1 (h : f.is c = true) : f.beside c 1 = f.cell (f.px c) (f.py c + 1) (f.pz c) := by
  unfold Fl.beside
  rw [h]
  simp [isDir, dx, dy, dz, Int.sub_eq_add_neg]
theorem beside_2 (h : f.is c = true) : f.beside c 2 = f.cell (f.px c - 1) (f.py c) (f.pz c) := by
  unfold Fl.beside
  rw [h]
  simp [isDir, dx, dy, dz, Int.sub_eq_add_neg]
theorem beside_3 (h : f.is c = true) : f.beside c 3 = f.cell (f.px c) (f.py c - 1) (f.pz c) := by
  unfold Fl.beside
  rw [h]
  simp [isDir, dx, dy, dz, Int.sub_eq_add_neg]
theorem beside_4 (h : f.is c = true) : f.beside c 4 = f.cell (f.px c) (f.py c) (f.pz c + 1) := by
  unfold Fl.beside
  rw [h]
  simp [isDir, dx, dy, dz, Int.sub_eq_add_neg]
theorem beside_5 (h : f.is c = true) : f.beside c 5 = f.cell (f.px c) (f.py c) (f.pz c - 1) := by
  unfold Fl.beside
  rw [h]
  simp [isDir, dx, dy, dz, Int.sub_eq_add_neg]
end
set_option maxRecDepth 8000 in
set_option maxHeartbeats 2000000 in
theorem qBeside_any {f : Fl} (ho : f.ok) (p : Pl) (c d : Int) (w : World) : Calls Tryz.prog 69 #[f.val p, .int .i64 c, .int .i64 d] w fun e w' => e = .returned (.int .i64 (f.beside c d)) ∧ Below w.heap.size w w' := by
  have HIS := Lib.hid (fun w => qIs_any ho p c w)
  have HAT := Lib.hid (fun w => qAt_any ho p c w)
  have HCE := Lib.hid (fun x y z w => qCell_any ho p x y z w)
  have hb : ∀ o, Below w.heap.size w (w.alloc o) := fun o => (Below.refl _ w).alloc (Nat.le_refl _) o
  have HB := Lib.hid hb
  cases hi : f.is c
  · rw [hi] at HIS
    rw [Fl.beside_nocell hi]
    clear ho hb hi HAT HCE
    obtain ⟨W, H, D, K, O⟩ := f
    go_enter Tryz.func69, Tryz.ntmps69
    go_wp2_with (go_at_call 55; refine (HIS.out _).mono ?_; rintro e w1 ⟨rfl, b1⟩; have B1 := Lib.hid (next_below (HB.out _) b1); clear b1)
    go_ret
    exact ⟨rfl, B1.out⟩
  · rw [hi] at HIS
    unfold Fl.at at HAT
    rw [hi] at HAT
    simp only [if_true] at HAT
    obtain ⟨a0, a1, b0, b1, c0, c1⟩ := Fl.place_in ho hi
    obtain ⟨s1, s2, _, _⟩ := ho.small
    have s3 := ho.d4
    have a2 : f.px c < 4096 := by omega
    have b2 : f.py c < 4096 := by omega
    have c2 : f.pz c < 4096 := by omega
    clear hb ho a1 b1 c1 s1 s2 s3
    by_cases hd : isDir d = true
    · rcases dir_cases hd with rfl | rfl | rfl | rfl | rfl | rfl
      · rw [beside_0 hi]
        clear hi hd
        generalize f.px c = x at *
        generalize f.py c = y at *
        generalize f.pz c = z at *
        obtain ⟨W, H, D, K, O⟩ := f
        go_enter Tryz.func69, Tryz.ntmps69
        go_wp2_with (first
          | (go_at_call 55; refine (HIS.out _).mono ?_; rintro e w1 ⟨rfl, b1⟩; have B1 := Lib.hid (next_below (HB.out _) b1); have K1 := Lib.hid ((Blk.fresh w _ _).under b1 (by simp)); clear b1; have k0 := K1.out.at 0; have k1 := K1.out.at 1; have k2 := K1.out.at 2; have k3 := K1.out.at 3; have k4 := K1.out.at 4)
          | (go_at_call 96; refine (HAT.out _).mono ?_; rintro e w2 ⟨rfl, b2⟩; have B2 := Lib.hid (next_below B1.out b2); have K2 := Lib.hid (K1.out.under b2 K1.out.inside); clear b2 k0 k1 k2 k3 k4; have k0 := K2.out.at 0; have k1 := K2.out.at 1; have k2 := K2.out.at 2; have k3 := K2.out.at 3; have k4 := K2.out.at 4)
          | (go_at_call 97; refine (HCE.out _ _ _ _).mono ?_; rintro e w3 ⟨rfl, b3⟩; have B3 := Lib.hid (next_below B2.out b3); clear b3))
        go_ret
        exact ⟨rfl, B3.out⟩
      · rw [beside_1 hi]
        clear hi hd
        generalize f.px c = x at *
        generalize f.py c = y at *
        generalize f.pz c = z at *
        obtain ⟨W, H, D, K, O⟩ := f
        go_enter Tryz.func69, Tryz.ntmps69
        go_wp2_with (first
          | (go_at_call 55; refine (HIS.out _).mono ?_; rintro e w1 ⟨rfl, b1⟩; have B1 := Lib.hid (next_below (HB.out _) b1); have K1 := Lib.hid ((Blk.fresh w _ _).under b1 (by simp)); clear b1; have k0 := K1.out.at 0; have k1 := K1.out.at 1; have k2 := K1.out.at 2; have k3 := K1.out.at 3; have k4 := K1.out.at 4)
          | (go_at_call 96; refine (HAT.out _).mono ?_; rintro e w2 ⟨rfl, b2⟩; have B2 := Lib.hid (next_below B1.out b2); have K2 := Lib.hid (K1.out.under b2 K1.out.inside); clear b2 k0 k1 k2 k3 k4; have k0 := K2.out.at 0; have k1 := K2.out.at 1; have k2 := K2.out.at 2; have k3 := K2.out.at 3; have k4 := K2.out.at 4)
          | (go_at_call 97; refine (HCE.out _ _ _ _).mono ?_; rintro e w3 ⟨rfl, b3⟩; have B3 := Lib.hid (next_below B2.out b3); clear b3))
        go_ret
        exact ⟨rfl, B3.out⟩
      · rw [beside_2 hi]
        clear hi hd
        generalize f.px c = x at *
        generalize f.py c = y at *
        generalize f.pz c = z at *
        obtain ⟨W, H, D, K, O⟩ := f
        go_enter Tryz.func69, Tryz.ntmps69
        go_wp2_with (first
          | (go_at_call 55; refine (HIS.out _).mono ?_; rintro e w1 ⟨rfl, b1⟩; have B1 := Lib.hid (next_below (HB.out _) b1); have K1 := Lib.hid ((Blk.fresh w _ _).under b1 (by simp)); clear b1; have k0 := K1.out.at 0; have k1 := K1.out.at 1; have k2 := K1.out.at 2; have k3 := K1.out.at 3; have k4 := K1.out.at 4)
          | (go_at_call 96; refine (HAT.out _).mono ?_; rintro e w2 ⟨rfl, b2⟩; have B2 := Lib.hid (next_below B1.out b2); have K2 := Lib.hid (K1.out.under b2 K1.out.inside); clear b2 k0 k1 k2 k3 k4; have k0 := K2.out.at 0; have k1 := K2.out.at 1; have k2 := K2.out.at 2; have k3 := K2.out.at 3; have k4 := K2.out.at 4)
          | (go_at_call 97; refine (HCE.out _ _ _ _).mono ?_; rintro e w3 ⟨rfl, b3⟩; have B3 := Lib.hid (next_below B2.out b3); clear b3))
        go_ret
        exact ⟨rfl, B3.out⟩
      · rw [beside_3 hi]
        clear hi hd
        generalize f.px c = x at *
        generalize f.py c = y at *
        generalize f.pz c = z at *
        obtain ⟨W, H, D, K, O⟩ := f
        go_enter Tryz.func69, Tryz.ntmps69
        go_wp2_with (first
          | (go_at_call 55; refine (HIS.out _).mono ?_; rintro e w1 ⟨rfl, b1⟩; have B1 := Lib.hid (next_below (HB.out _) b1); have K1 := Lib.hid ((Blk.fresh w _ _).under b1 (by simp)); clear b1; have k0 := K1.out.at 0; have k1 := K1.out.at 1; have k2 := K1.out.at 2; have k3 := K1.out.at 3; have k4 := K1.out.at 4)
          | (go_at_call 96; refine (HAT.out _).mono ?_; rintro e w2 ⟨rfl, b2⟩; have B2 := Lib.hid (next_below B1.out b2); have K2 := Lib.hid (K1.out.under b2 K1.out.inside); clear b2 k0 k1 k2 k3 k4; have k0 := K2.out.at 0; have k1 := K2.out.at 1; have k2 := K2.out.at 2; have k3 := K2.out.at 3; have k4 := K2.out.at 4)
          | (go_at_call 97; refine (HCE.out _ _ _ _).mono ?_; rintro e w3 ⟨rfl, b3⟩; have B3 := Lib.hid (next_below B2.out b3); clear b3))
        go_ret
        exact ⟨rfl, B3.out⟩
      · rw [beside_4 hi]
        clear hi hd
        generalize f.px c = x at *
        generalize f.py c = y at *
        generalize f.pz c = z at *
        obtain ⟨W, H, D, K, O⟩ := f
        go_enter Tryz.func69, Tryz.ntmps69
        go_wp2_with (first
          | (go_at_call 55; refine (HIS.out _).mono ?_; rintro e w1 ⟨rfl, b1⟩; have B1 := Lib.hid (next_below (HB.out _) b1); have K1 := Lib.hid ((Blk.fresh w _ _).under b1 (by simp)); clear b1; have k0 := K1.out.at 0; have k1 := K1.out.at 1; have k2 := K1.out.at 2; have k3 := K1.out.at 3; have k4 := K1.out.at 4)
          | (go_at_call 96; refine (HAT.out _).mono ?_; rintro e w2 ⟨rfl, b2⟩; have B2 := Lib.hid (next_below B1.out b2); have K2 := Lib.hid (K1.out.under b2 K1.out.inside); clear b2 k0 k1 k2 k3 k4; have k0 := K2.out.at 0; have k1 := K2.out.at 1; have k2 := K2.out.at 2; have k3 := K2.out.at 3; have k4 := K2.out.at 4)
          | (go_at_call 97; refine (HCE.out _ _ _ _).mono ?_; rintro e w3 ⟨rfl, b3⟩; have B3 := Lib.hid (next_below B2.out b3); clear b3))
        go_ret
        exact ⟨rfl, B3.out⟩
      · rw [beside_5 hi]
        clear hi hd
        generalize f.px c = x at *
        generalize f.py c = y at *
        generalize f.pz c = z at *
        obtain ⟨W, H, D, K, O⟩ := f
        go_enter Tryz.func69, Tryz.ntmps69
        go_wp2_with (first
          | (go_at_call 55; refine (HIS.out _).mono ?_; rintro e w1 ⟨rfl, b1⟩; have B1 := Lib.hid (next_below (HB.out _) b1); have K1 := Lib.hid ((Blk.fresh w _ _).under b1 (by simp)); clear b1; have k0 := K1.out.at 0; have k1 := K1.out.at 1; have k2 := K1.out.at 2; have k3 := K1.out.at 3; have k4 := K1.out.at 4)
          | (go_at_call 96; refine (HAT.out _).mono ?_; rintro e w2 ⟨rfl, b2⟩; have B2 := Lib.hid (next_below B1.out b2); have K2 := Lib.hid (K1.out.under b2 K1.out.inside); clear b2 k0 k1 k2 k3 k4; have k0 := K2.out.at 0; have k1 := K2.out.at 1; have k2 := K2.out.at 2; have k3 := K2.out.at 3; have k4 := K2.out.at 4)
          | (go_at_call 97; refine (HCE.out _ _ _ _).mono ?_; rintro e w3 ⟨rfl, b3⟩; have B3 := Lib.hid (next_below B2.out b3); clear b3))
        go_ret
        exact ⟨rfl, B3.out⟩
    · have hd2 : isDir d = false := by simpa using hd
      rw [Fl.beside_none hd2]
      have hn := of_decide_eq_false hd2
      have d0 : (d == 0) = false := beq_eq_false_iff_ne.2 (by omega)
      have d1 : (d == 1) = false := beq_eq_false_iff_ne.2 (by omega)
      have d2 : (d == 2) = false := beq_eq_false_iff_ne.2 (by omega)
      have d3 : (d == 3) = false := beq_eq_false_iff_ne.2 (by omega)
      have d4 : (d == 4) = false := beq_eq_false_iff_ne.2 (by omega)
      have d5 : (d == 5) = false := beq_eq_false_iff_ne.2 (by omega)
      clear hi hd hd2 hn HCE
      generalize f.px c = x at *
      generalize f.py c = y at *
      generalize f.pz c = z at *
      obtain ⟨W, H, D, K, O⟩ := f
      go_enter Tryz.func69, Tryz.ntmps69
      go_wp2_with (first
        | (go_at_call 55; refine (HIS.out _).mono ?_; rintro e w1 ⟨rfl, b1⟩; have B1 := Lib.hid (next_below (HB.out _) b1); have K1 := Lib.hid ((Blk.fresh w _ _).under b1 (by simp)); clear b1; have k0 := K1.out.at 0; have k1 := K1.out.at 1; have k2 := K1.out.at 2; have k3 := K1.out.at 3; have k4 := K1.out.at 4)
        | (go_at_call 96; refine (HAT.out _).mono ?_; rintro e w2 ⟨rfl, b2⟩; have B2 := Lib.hid (next_below B1.out b2); clear b2))
      go_ret
      exact ⟨rfl, B2.out⟩
end Flo
end Go.Proofs.YtgophgnfiboefaaGreatDoor

/- small. -/
import Derived.Test.YtncbhhnojdhpeaaDoorFsB
namespace Go.Proofs.YtncbhhnojdhpeaaDoor
open Go.RowKit Wire
open Txt (Row)
open Own
open Dsk (Only nth)
set_option linter.unusedVariables false
set_option linter.unusedSimpArgs false
namespace Flo
abbrev exV (A1 : Option Addr) (c1 : Nat) (A2 : Option Addr) (c2 : Nat) : Value := .agg #[.int .i64 3, .int .i64 2, .int .i64 1, .slice A1 6 c1, .slice A2 6 c2]
theorem blk_row {w : World} {g : Nat} {ty : TypeId} {l : List Int} (h : Blk w g ty (ivs l).toArray) : Row w w.heap.size (some ⟨g, 0, none⟩) (ivs l) := fun k u hu => ⟨g, 0, rfl, h.inside, by rw [Nat.zero_add, h.at]; simpa using hu⟩
set_option maxRecDepth 100000 in
set_option maxHeartbeats 4000000 in
theorem small_any (w : World) (hv : VS w) : Calls Tryd.prog 8 #[] w fun e w' => e = .returned (.bool true) ∧ Below w.heap.size w w' := by
  have HEX : Hid (Calls Tryd.prog 31 #[] w fun e w' => ∃ A1 c1 A2 c2, e = .returned (exV A1 c1 A2 c2) ∧ FlIn w' exF ⟨A1, c1, A2, c2⟩ ∧ Below w.heap.size w w') := Lib.hid (example_any w)
  have HV : Hid (∀ w', Below w.heap.size w w' → VS w') := Lib.hid fun w' b => hv.lift b
  have HN1 : Hid (∀ w' A1 c1 A2 c2, VS w' → FlIn w' exF ⟨A1, c1, A2, c2⟩ → Calls Tryd.prog 16 #[exV A1 c1 A2 c2, .int .i64 3, .int .i64 0] w' fun e w2 => e = .returned (.tuple #[.int .i64 4, .bool true]) ∧ Below w'.heap.size w' w2) := Lib.hid fun w' A1 c1 A2 c2 hv hin => by
    have := next_any exF_ok ⟨A1, c1, A2, c2⟩ 3 0 w' hv hin
    rw [show exF.next 3 0 = some 4 from by decide +kernel] at this
    exact this
  have HN2 : Hid (∀ w' A1 c1 A2 c2, VS w' → FlIn w' exF ⟨A1, c1, A2, c2⟩ → Calls Tryd.prog 16 #[exV A1 c1 A2 c2, .int .i64 0, .int .i64 0] w' fun e w2 => e = .returned (.tuple #[.int .i64 0, .bool false]) ∧ Below w'.heap.size w' w2) := Lib.hid fun w' A1 c1 A2 c2 hv hin => by
    have := next_any exF_ok ⟨A1, c1, A2, c2⟩ 0 0 w' hv hin
    rw [show exF.next 0 0 = none from by decide +kernel] at this
    exact this
  have HRI : Hid (∀ w' A1 c1 A2 c2, FlIn w' exF ⟨A1, c1, A2, c2⟩ → Calls Tryd.prog 10 #[exV A1 c1 A2 c2] w' fun e w2 => e = .returned (.bool true) ∧ Below w'.heap.size w' w2) := Lib.hid fun w' A1 c1 A2 c2 hin => (right_any exF ⟨A1, c1, A2, c2⟩ w' hin (by decide) (by decide)).mono fun e w2 ⟨b, he, hb, hw⟩ => by
    obtain rfl : b = true := hb.2 exF_ok
    exact ⟨he, hw⟩
  have HPA : Hid (∀ w' A1 c1 A2 c2, VS w' → FlIn w' exF ⟨A1, c1, A2, c2⟩ → Calls Tryd.prog 27 #[exV A1 c1 A2 c2, .int .i64 0, .int .i64 2, .slice none 0 0] w' fun e w2 => ∃ A c, e = .returned (.slice A 5 c) ∧ Row w2 w2.heap.size A (ivs [0, 3, 4, 5, 2]) ∧ Below w'.heap.size w' w2) := Lib.hid fun w' A1 c1 A2 c2 hv hin => (path_any exF_ok ⟨A1, c1, A2, c2⟩ 0 2 none 0 [] w' hv hin (fun k u hu => by simp at hu) (by decide)).mono fun e w2 ⟨A, c, l, he, hp, hr, hb⟩ => by
    obtain rfl := hp.unique exF_ok exPath
    exact ⟨A, c, he, hr, hb⟩
  have HDI : Hid (∀ w' A1 c1 A2 c2 gx, VS w' → FlIn w' exF ⟨A1, c1, A2, c2⟩ → w'.cell? ⟨gx, 0, none⟩ = some (.int .i64 2) → Calls Tryd.prog 25 #[exV A1 c1 A2 c2, .slice (some ⟨gx, 0, none⟩) 1 1, .slice none 0 0] w' fun e w2 => ∃ A c, e = .returned (.slice A 6 c) ∧ Row w2 w2.heap.size A (ivs [4, -1, 0, 3, 2, 1]) ∧ Below w'.heap.size w' w2) := Lib.hid fun w' A1 c1 A2 c2 gx hv hin hx => (dist_any exF_ok ⟨A1, c1, A2, c2⟩ (some ⟨gx, 0, none⟩) none 1 0 [2] [] w' hv hin (fun k u hu => by
    have hk := (List.getElem?_eq_some_iff.1 hu).1
    have hk' : k < 1 := hk
    obtain rfl : k = 0 := by omega
    have hu' : some (Value.int .i64 2) = some u := hu
    exact ⟨gx, 0, rfl, World.block_lt_of_cell? w' _ hx, by rw [Nat.zero_add, hx]; exact hu'⟩) (fun k u hu => by simp at hu) (by decide) (by decide)).mono fun e w2 ⟨A, c, l, he, hp, hr, hb⟩ => by
    obtain rfl := IsDist.unique hp exDist
    exact ⟨A, c, he, hr, hb⟩
  have HS5 : Hid (∀ w' A c g, Row w' w'.heap.size A (ivs [0, 3, 4, 5, 2]) → Calls Tryd.prog 24 #[.slice A 5 c, .slice (some ⟨w'.heap.size, 0, none⟩) 5 5] (w'.alloc (.cells #[.int .i64 0, .int .i64 3, .int .i64 4, .int .i64 5, .int .i64 2] g)) fun e w2 => e = .returned (.bool true) ∧ Below w'.heap.size w' w2) := Lib.hid fun w' A c g hr => (qSame_any _ A (some ⟨w'.heap.size, 0, none⟩) c 5 [0, 3, 4, 5, 2] [0, 3, 4, 5, 2] (by decide) (by decide) (hr.lift ((Below.refl _ w').alloc (Nat.le_refl _) _)) (blk_row (l := [0, 3, 4, 5, 2]) (Blk.fresh w' g _))).mono fun e w2 ⟨he, hb⟩ => ⟨by rw [he]; rfl, next_below ((Below.refl _ w').alloc (Nat.le_refl _) _) hb⟩
  have HS6 : Hid (∀ w' A c g, Row w' w'.heap.size A (ivs [4, -1, 0, 3, 2, 1]) → Calls Tryd.prog 24 #[.slice A 6 c, .slice (some ⟨w'.heap.size, 0, none⟩) 6 6] (w'.alloc (.cells #[.int .i64 4, .int .i64 (-1), .int .i64 0, .int .i64 3, .int .i64 2, .int .i64 1] g)) fun e w2 => e = .returned (.bool true) ∧ Below w'.heap.size w' w2) := Lib.hid fun w' A c g hr => (qSame_any _ A (some ⟨w'.heap.size, 0, none⟩) c 6 [4, -1, 0, 3, 2, 1] [4, -1, 0, 3, 2, 1] (by decide) (by decide) (hr.lift ((Below.refl _ w').alloc (Nat.le_refl _) _)) (blk_row (l := [4, -1, 0, 3, 2, 1]) (Blk.fresh w' g _))).mono fun e w2 ⟨he, hb⟩ => ⟨by rw [he]; rfl, next_below ((Below.refl _ w').alloc (Nat.le_refl _) _) hb⟩
  clear hv
  go_enter Tryd.func8, Tryd.ntmps8
  go_upto_region 2 with (go_at_call 31; refine HEX.out.mono ?_; rintro e w1 ⟨A1, c1, A2, c2, rfl, hin, b1⟩; have HIN := Lib.hid hin; have B1 := Lib.hid b1; clear hin b1)
  have b2 : Below w.heap.size w (w1.alloc (.cells #[.int .i64 3, .int .i64 2, .int .i64 1, .slice A1 6 c1, .slice A2 6 c2] 24)) := B1.out.alloc B1.out.size _
  have hin2 := HIN.out.lift ((Below.refl _ w1).alloc (Nat.le_refl _) (.cells #[.int .i64 3, .int .i64 2, .int .i64 1, .slice A1 6 c1, .slice A2 6 c2] 24))
  have hk2 : Blk (w1.alloc (.cells #[.int .i64 3, .int .i64 2, .int .i64 1, .slice A1 6 c1, .slice A2 6 c2] 24)) w1.heap.size 24 #[.int .i64 3, .int .i64 2, .int .i64 1, .slice A1 6 c1, .slice A2 6 c2] := Blk.fresh _ _ _
  generalize w1.alloc (.cells #[.int .i64 3, .int .i64 2, .int .i64 1, .slice A1 6 c1, .slice A2 6 c2] 24) = w2 at *
  generalize w1.heap.size = g at *
  have HW : Hid (∀ w', Below w2.heap.size w2 w' → VS w' ∧ FlIn w' exF ⟨A1, c1, A2, c2⟩ ∧ BoxS g 3 2 1 A1 6 c1 A2 6 c2 w' ∧ Below w.heap.size w w') := Lib.hid fun w' b => ⟨HV.out _ (next_below b2 b), hin2.lift b, boxS (hk2.under b hk2.inside), next_below b2 b⟩
  obtain ⟨_, _, ⟨m0, m1, m2, m3, m4⟩, _⟩ := HW.out _ (Below.refl _ _)
  have B2 : Hid (Below w2.heap.size w2 w2) := Lib.hid (Below.refl _ _)
  clear b2 hin2 hk2 HIN B1 HEX HV
  go_wp2_with (first
    | (go_at_call 16; (with_reducible refine (HN1.out _ A1 c1 A2 c2 (HW.out _ B2.out).1 (HW.out _ B2.out).2.1).mono ?_); rintro e w3 ⟨rfl, b3⟩; have B3 := Lib.hid (next_below B2.out b3); clear b3 m0 m1 m2 m3 m4; obtain ⟨_, _, ⟨m0, m1, m2, m3, m4⟩, _⟩ := HW.out _ B3.out)
    | (go_at_call 16; (with_reducible refine (HN2.out _ A1 c1 A2 c2 (HW.out _ B3.out).1 (HW.out _ B3.out).2.1).mono ?_); rintro e w4 ⟨rfl, b4⟩; have B4 := Lib.hid (next_below B3.out b4); clear b4 m0 m1 m2 m3 m4; obtain ⟨_, _, ⟨m0, m1, m2, m3, m4⟩, _⟩ := HW.out _ B4.out)
    | (go_at_call 10; refine (HRI.out _ A1 c1 A2 c2 (HW.out _ B4.out).2.1).mono ?_; rintro e w5 ⟨rfl, b5⟩; have B5 := Lib.hid (next_below B4.out b5); clear b5 m0 m1 m2 m3 m4; obtain ⟨_, _, ⟨m0, m1, m2, m3, m4⟩, _⟩ := HW.out _ B5.out)
    | (go_at_call 27; refine (HPA.out _ A1 c1 A2 c2 (HW.out _ B5.out).1 (HW.out _ B5.out).2.1).mono ?_; rintro e w6 ⟨Ap, cp, rfl, hr6, b6⟩; have B6 := Lib.hid (next_below B5.out b6); have HR6 := Lib.hid hr6; clear b6 hr6 m0 m1 m2 m3 m4)
    | (go_at_call 24; (with_reducible refine (HS5.out w6 Ap cp 3 HR6.out).mono ?_); rintro e w7 ⟨rfl, b7⟩; have B7 := Lib.hid (next_below B6.out b7); clear b7; obtain ⟨_, _, ⟨m0, m1, m2, m3, m4⟩, _⟩ := HW.out _ B7.out; have B7' := Lib.hid (next_below B7.out ((Below.refl _ w7).alloc (Nat.le_refl _) (.cells #[.int .i64 2] 3))); have hc2 := (Blk.fresh w7 3 #[.int .i64 2]).at 0; have HC2 := Lib.hid hc2; clear hc2)
    | (go_at_call 25; refine (HDI.out _ A1 c1 A2 c2 w7.heap.size (HW.out _ B7'.out).1 (HW.out _ B7'.out).2.1 HC2.out).mono ?_; rintro e w8 ⟨Ad, cd, rfl, hr8, b8⟩; have B8 := Lib.hid (next_below B7'.out b8); have HR8 := Lib.hid hr8; clear b8 hr8)
    | (go_at_call 24; (with_reducible refine (HS6.out w8 Ad cd 3 HR8.out).mono ?_); rintro e w9 ⟨rfl, b9⟩; have B9 := Lib.hid (next_below B8.out b9); clear b9))
  go_ret
  exact ⟨rfl, (HW.out _ B9.out).2.2.2⟩
end Flo
end Go.Proofs.YtncbhhnojdhpeaaDoor

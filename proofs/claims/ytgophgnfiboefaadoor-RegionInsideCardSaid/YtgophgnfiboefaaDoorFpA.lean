/- The program's floor: numbers, directions, cells, places. -/
import Derived.Test.YtgophgnfiboefaaDoorFlL
import Derived.Deep.DeepCutAuto
namespace Go.Proofs.YtgophgnfiboefaaDoor
open Go.RowKit Wire
open Txt (Row)
set_option linter.unusedVariables false
set_option linter.unusedSimpArgs false
namespace Flo
/-- The variable of the steps. -/
def VS (w : World) : Prop := ∀ d : Nat, d < 6 → w.cell? ⟨0, d * 3, none⟩ = some (.int .i64 (dx d)) ∧ w.cell? ⟨0, d * 3 + 1, none⟩ = some (.int .i64 (dy d)) ∧ w.cell? ⟨0, d * 3 + 2, none⟩ = some (.int .i64 (dz d))
/-- The variable of the opposite directions. -/
def VO (w : World) : Prop := ∀ d : Nat, d < 6 → w.cell? ⟨1, d, none⟩ = some (.int .i64 (opp d))
theorem VS.lt {w : World} (h : VS w) : 0 < w.heap.size := World.block_lt_of_cell? w _ (h 0 (by omega)).1
theorem VO.lt {w : World} (h : VO w) : 1 < w.heap.size := World.block_lt_of_cell? w _ (h 0 (by omega))
theorem VS.below {w w' : World} {B : Nat} (h : VS w) (b : Below B w w') (hB : 0 < B) : VS w' := fun d hd =>
  ⟨(b.cell (p := ⟨0, d * 3, none⟩) hB).trans (h d hd).1, (b.cell (p := ⟨0, d * 3 + 1, none⟩) hB).trans (h d hd).2.1, (b.cell (p := ⟨0, d * 3 + 2, none⟩) hB).trans (h d hd).2.2⟩
theorem VO.below {w w' : World} {B : Nat} (h : VO w) (b : Below B w w') (hB : 1 < B) : VO w' := fun d hd => (b.cell (p := ⟨1, d, none⟩) hB).trans (h d hd)
theorem VS.lift {w w' : World} (h : VS w) (b : Below w.heap.size w w') : VS w' := h.below b h.lt
theorem VO.lift {w w' : World} (h : VO w) (b : Below w.heap.size w w') : VO w' := h.below b h.lt

theorem between_any (n lo hi : Int) (w : World) : Calls Tryd.prog 48 #[.int .i64 n, .int .i64 lo, .int .i64 hi] w fun e w' => e = .returned (.bool (decide (lo ≤ n) && decide (n ≤ hi))) ∧ w = w' := by
  by_cases h1 : lo ≤ n
  · by_cases h2 : n ≤ hi
    · rw [decide_eq_true h1, decide_eq_true h2]
      go_enter Tryd.func48, Tryd.ntmps48
      go_wp2_with fail
      go_ret
      exact ⟨rfl, rfl⟩
    · rw [decide_eq_true h1, decide_eq_false h2]
      go_enter Tryd.func48, Tryd.ntmps48
      go_wp2_with fail
      go_ret
      exact ⟨rfl, rfl⟩
  · rw [decide_eq_false h1]
    go_enter Tryd.func48, Tryd.ntmps48
    go_wp2_with fail
    go_ret
    exact ⟨rfl, rfl⟩
/-- As a relation of one answer. -/
theorem between_as {n lo hi : Int} (b : Bool) (h : (b = true) ↔ (lo ≤ n ∧ n ≤ hi)) (w : World) : Calls Tryd.prog 48 #[.int .i64 n, .int .i64 lo, .int .i64 hi] w fun e w' => e = .returned (.bool b) ∧ w = w' := by
  have e : (decide (lo ≤ n) && decide (n ≤ hi)) = b := by
    rw [Bool.eq_iff_iff, h]
    simp
  rw [← e]
  exact between_any n lo hi w
theorem isDir_any (d : Int) (w : World) : Calls Tryd.prog 57 #[.int .i64 d] w fun e w' => e = .returned (.bool (isDir d)) ∧ w = w' := by
  have HB := Lib.hid (between_as (n := d) (lo := 0) (hi := 5) (isDir d) (by unfold isDir; rw [decide_eq_true_iff]))
  generalize isDir d = b at *
  go_enter Tryd.func57, Tryd.ntmps57
  go_wp2_with (go_at_call 48; refine (HB.out _).mono ?_; rintro e w1 ⟨rfl, rfl⟩)
  go_ret
  exact ⟨rfl, rfl⟩
theorem opposite_any (d : Int) (w : World) (hv : VO w) : Calls Tryd.prog 50 #[.int .i64 d] w fun e w' => e = .returned (.int .i64 (opp d)) ∧ w = w' := by
  have HD := Lib.hid (isDir_any d)
  cases h : isDir d
  · rw [opp_none h]
    rw [h] at HD
    clear h hv
    go_enter Tryd.func50, Tryd.ntmps50
    go_wp2_with (go_at_call 57; refine (HD.out _).mono ?_; rintro e w1 ⟨rfl, rfl⟩)
    go_ret
    exact ⟨rfl, rfl⟩
  · rw [h] at HD
    obtain ⟨k, hk, rfl⟩ : ∃ k : Nat, k < 6 ∧ d = k := ⟨d.toNat, by have := of_decide_eq_true h; omega, by have := of_decide_eq_true h; omega⟩
    have hc := hv k hk
    clear h hv
    generalize opp k = o at *
    go_enter Tryd.func50, Tryd.ntmps50
    go_wp2_with (go_at_call 57; refine (HD.out _).mono ?_; rintro e w1 ⟨rfl, rfl⟩)
    go_ret
    exact ⟨rfl, rfl⟩
theorem isCell_any {f : Fl} (ho : f.ok) (p : Pl) (c : Int) (w : World) : Calls Tryd.prog 56 #[f.val p, .int .i64 c] w fun e w' => e = .returned (.bool (f.is c)) ∧ Below w.heap.size w w' := by
  have hk := ho.kinds
  have hsz := ho.size
  have HB := Lib.hid (between_as (n := c) (lo := 0) (hi := (f.Kind.length : Int) - 1) (f.is c) (by unfold Fl.is; rw [decide_eq_true_iff]; omega))
  have HA : Hid (∀ o, Below w.heap.size w (w.alloc o)) := Lib.hid fun o => (Below.refl _ w).alloc (Nat.le_refl _) o
  have hn : (f.Kind.length : Int) ≤ 4096 := by omega
  clear ho hk hsz
  generalize f.is c = b at *
  obtain ⟨W, H, D, K, O⟩ := f
  dsimp only at *
  go_enter Tryd.func56, Tryd.ntmps56
  go_wp2_with (go_at_call 48; refine (HB.out _).mono ?_; rintro e w1 ⟨rfl, rfl⟩)
  go_ret
  exact ⟨rfl, HA.out _⟩
end Flo
end Go.Proofs.YtgophgnfiboefaaDoor

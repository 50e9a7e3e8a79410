/- The reference's Has. RegionEdge. -/
import Derived.Test.YtgophgnfiboefaaGreatDoorMhN
namespace Go.Proofs.YtgophgnfiboefaaGreatDoor
open Go.RowKit Wire
open Txt (Row)
open Go.Proofs.YtgophgnfiboefaaGreatDoor.Own Flo
open Dsk (Only nth)
set_option linter.unusedVariables false
set_option linter.unusedSimpArgs false
namespace Rgn
structure BsI (r : List Nat) (c : Int) (lo hi : Nat) : Prop where
  le : lo ≤ hi
  len : hi ≤ r.length
  low : ∀ j, j < lo → ((r.getD j 0 : Nat) : Int) < c
  high : ∀ j, hi ≤ j → j < r.length → c ≤ ((r.getD j 0 : Nat) : Int)
theorem asc_at {r : List Nat} (h : r.Pairwise (· < ·)) {i j : Nat} (hij : i < j) (hj : j < r.length) : r.getD i 0 < r.getD j 0 := by
  rw [List.getD_eq_getElem?_getD, List.getD_eq_getElem?_getD, List.getElem?_eq_getElem hj, List.getElem?_eq_getElem (show i < r.length by omega)]
  exact List.pairwise_iff_getElem.1 h i j (by omega) hj hij
theorem BsI.up {r : List Nat} {c : Int} {lo hi m : Nat} (h : BsI r c lo hi) (ha : r.Pairwise (· < ·)) (h1 : lo ≤ m) (h2 : m < hi) (hm : ((r.getD m 0 : Nat) : Int) < c) : BsI r c (m + 1) hi := ⟨by omega, h.len, fun j hj => by
  by_cases e : j = m
  · rw [e]; exact hm
  · have := asc_at ha (i := j) (j := m) (by omega) (by have := h.len; omega)
    omega, h.high⟩
theorem BsI.down {r : List Nat} {c : Int} {lo hi m : Nat} (h : BsI r c lo hi) (ha : r.Pairwise (· < ·)) (h1 : lo ≤ m) (h2 : m < hi) (hm : ¬ ((r.getD m 0 : Nat) : Int) < c) : BsI r c lo m := ⟨h1, by have := h.len; omega, h.low, fun j hj hl => by
  by_cases e : j = m
  · rw [e]; omega
  · have := asc_at ha (i := m) (j := j) (by omega) hl
    omega⟩
theorem BsI.done {r : List Nat} {c : Int} {lo : Nat} (h : BsI r c lo lo) (ha : r.Pairwise (· < ·)) : hasB r c = (decide (lo < r.length) && decide (((r.getD lo 0 : Nat) : Int) = c)) := by
  rw [Bool.eq_iff_iff, hasB_toNat, Bool.and_eq_true, decide_eq_true_iff, decide_eq_true_iff]
  constructor
  · rintro ⟨h0, hm⟩
    obtain ⟨k, hk, e⟩ := List.getElem_of_mem hm
    have ek : r.getD k 0 = c.toNat := by
      rw [List.getD_eq_getElem?_getD, List.getElem?_eq_getElem hk]
      exact e
    have h1 : ¬ k < lo := fun hkl => by
      have := h.low k hkl
      omega
    have h2 : ¬ lo < k := fun hkl => by
      have h3 := asc_at ha hkl hk
      have h4 := h.high lo (Nat.le_refl _) (by omega)
      omega
    obtain rfl : k = lo := by omega
    exact ⟨hk, by omega⟩
  · rintro ⟨h1, h2⟩
    refine ⟨by omega, ?_⟩
    rw [show c.toNat = r.getD lo 0 by omega, List.getD_eq_getElem?_getD, List.getElem?_eq_getElem h1]
    exact List.getElem_mem h1
set_option maxRecDepth 100000 in
set_option maxHeartbeats 4000000 in
theorem rhasb_any (w : World) (A : Option Addr) (ca : Nat) (r : List Nat) (c : Int) (hr : Reg r) (hra : Row w w.heap.size A (qvs r)) :
    Calls Tryz.prog 18 #[.slice A r.length ca, .int .i64 c] w fun e w' => e = .returned (.bool (hasB r c)) ∧ w' = w := by
  have HAV : Hid (∀ k, k < r.length → ∃ b o, A = some ⟨b, o, none⟩ ∧ ∀ w', Below w.heap.size w w' → w'.cell? ⟨b, o + k, none⟩ = some (.int .i64 (r.getD k 0 : Nat))) := Lib.hid fun k hk => row_valN hra hk
  have HUP : Hid (∀ lo hi m, BsI r c lo hi → lo ≤ m → m < hi → ((r.getD m 0 : Nat) : Int) < c → BsI r c (m + 1) hi) := Lib.hid fun lo hi m h => h.up hr.asc
  have HDN : Hid (∀ lo hi m, BsI r c lo hi → lo ≤ m → m < hi → ¬ ((r.getD m 0 : Nat) : Int) < c → BsI r c lo m) := Lib.hid fun lo hi m h => h.down hr.asc
  have HDO : Hid (∀ lo, BsI r c lo lo → hasB r c = (decide (lo < r.length) && decide (((r.getD lo 0 : Nat) : Int) = c))) := Lib.hid fun lo h => h.done hr.asc
  have hl : r.length ≤ 4096 := hr.len
  have H0 : Hid (BsI r c 0 r.length) := Lib.hid ⟨Nat.zero_le _, Nat.le_refl _, fun j hj => by omega, fun j h1 h2 => by omega⟩
  clear hra hr
  generalize hasB r c = res at *
  have hl9 : (r.length : Int) ≤ 4096 := by omega
  go_enter Tryz.func18, Tryz.ntmps18
  go_wp2_with fail
  go_loopw [5, 6, 7] (fun lv hv _ wr => ∃ lo hi : Nat, lv = .int .i64 ((lo : Nat) : Int) ∧ hv = .int .i64 ((hi : Nat) : Int) ∧ Hid (BsI r c lo hi) ∧ wr = w) (fun lv hv _ _ => (intOf hv).toNat - (intOf lv).toNat)
  case atStart => exact ⟨0, r.length, rfl, rfl, H0, rfl⟩
  case round =>
    obtain ⟨lo, hi, rfl, rfl, HI, rfl⟩ := hrel
    have h1 := HI.out.le
    have h2 := HI.out.len
    clear H0
    by_cases hlt : lo < hi
    · obtain ⟨m, hm⟩ : ∃ m : Nat, m = (lo + hi) / 2 := ⟨_, rfl⟩
      have hmd : Int.tdiv ((lo : Int) + (hi : Int)) 2 = (m : Int) := by rw [Int.tdiv_eq_ediv_of_nonneg (by omega)]; omega
      have hm1 : lo ≤ m := by omega
      have hm2 : m < hi := by omega
      have hm3 : (m : Int) < (r.length : Int) := by omega
      have hlo9 : (lo : Int) < (hi : Int) := by omega
      have hhi9 : (hi : Int) ≤ 4096 := by omega
      obtain ⟨b, o, rfl, hc⟩ := HAV.out m (by omega)
      have z := hc _ (Below.refl _ _)
      have HU := Lib.hid (HUP.out lo hi m HI.out hm1 hm2)
      have HD := Lib.hid (HDN.out lo hi m HI.out hm1 hm2)
      clear hc HAV HUP HDN HDO hm HI
      generalize r.getD m 0 = x at *
      by_cases hx : (x : Int) < c
      · have HN := Lib.hid (HU.out hx)
        clear HU HD
        go_wp2_with fail
        go_roundw
        case rel => exact ⟨m + 1, hi, by simp, rfl, HN, by trivial⟩
        case measure => simp [intOf]; omega
      · have HN := Lib.hid (HD.out (by omega))
        clear HU HD
        go_wp2_with fail
        go_roundw
        case rel => exact ⟨lo, m, rfl, by simp, HN, by trivial⟩
        case measure => simp [intOf]; omega
    · obtain rfl : lo = hi := by omega
      have HE := Lib.hid (HDO.out lo HI.out)
      clear HUP HDN HDO HI
      by_cases hll : lo = r.length
      · have HR : Hid (res = false) := Lib.hid (by rw [HE.out, decide_eq_false (by omega), Bool.false_and])
        subst hll
        clear HE HAV
        go_wp2_with fail
        go_ret
        exact ⟨by rw [HR.out]; rfl, rfl⟩
      · have hl3 : ((lo : Int) == (r.length : Int)) = false := by rw [beq_eq_false_iff_ne]; omega
        have hl5 : (lo : Int) < (r.length : Int) := by omega
        obtain ⟨b, o, rfl, hc⟩ := HAV.out lo (by omega)
        have z := hc _ (Below.refl _ _)
        have HR : Hid (res = decide (((r.getD lo 0 : Nat) : Int) = c)) := Lib.hid (by rw [HE.out, decide_eq_true (show lo < r.length by omega), Bool.true_and])
        clear HE HAV hll hc
        generalize r.getD lo 0 = x at *
        by_cases hx : (x : Int) = c
        · have hx2 : ((x : Int) == c) = true := by rw [beq_iff_eq]; exact hx
          have HS : Hid (res = true) := Lib.hid (by rw [HR.out, decide_eq_true hx])
          clear HR hx
          go_wp2_with fail
          go_ret
          exact ⟨by rw [HS.out]; rfl, rfl⟩
        · have hx2 : ((x : Int) == c) = false := by rw [beq_eq_false_iff_ne]; exact hx
          have HS : Hid (res = false) := Lib.hid (by rw [HR.out, decide_eq_false hx])
          clear HR hx
          go_wp2_with fail
          go_ret
          exact ⟨by rw [HS.out]; rfl, rfl⟩
end Rgn
end Go.Proofs.YtgophgnfiboefaaGreatDoor

namespace Go.Proofs.YtgophgnfiboefaaGreatDoor
open Go.RowKit Wire
open Txt (Row)
open Go.Proofs.YtgophgnfiboefaaGreatDoor.Own Flo
open Dsk (Only nth)
set_option linter.unusedVariables false
set_option linter.unusedSimpArgs false
namespace Rgn
/-- Does one get out by one of the first directions? -/
def outU (f : Fl) (r : List Nat) (c d : Nat) : Bool := (List.range d).any fun d => match f.next c (d : Nat) with
  | none => false
  | some y => !hasB r y
theorem outU_six (f : Fl) (r : List Nat) (c : Nat) : outU f r c 6 = outB f r c := rfl
theorem outU_succ (f : Fl) (r : List Nat) (c d : Nat) : outU f r c (d + 1) = (outU f r c d || match f.next c (d : Nat) with
  | none => false
  | some y => !hasB r y) := by
  unfold outU
  rw [List.range_succ, List.any_append]
  simp
theorem small_le {n : Nat} (h : n ≤ maxLen) : n ≤ 9223372036854775807 := by unfold maxLen at h; omega
end Rgn
end Go.Proofs.YtgophgnfiboefaaGreatDoor

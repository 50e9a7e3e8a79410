import Derived.Test.YtionidjhfcmgiaaRows
import Derived.Test.YtionidjhfcmgiaaDec
import Derived.Test.YtionidjhfcmgiaaMem
import Derived.WalkKit
import Derived.WalkSpells
import Derived.WalkLawsBesides
import Derived.Lib.Hide
namespace Go.Proofs.Ytionidjhfcmgiaa
open Go.RowKit
set_option linter.unusedVariables false
set_option linter.unusedSimpArgs false
namespace Wire

structure DigRel (n : Nat) (w : World) (nv iv : Value) (wr : World) (m i : Nat) (cs : Array Value) (acc : List UInt8) : Prop where
  nv : nv = .int .u64 m
  iv : iv = .int .i64 i
  i1 : 1 ≤ i
  i2 : i ≤ 20
  le : m ≤ n
  small : m < 10 ^ i
  len : acc.length = 20 - i
  blk : Blk wr w.heap.size 66 cs
  size : cs.size = 20
  cells : ∀ j, j < 20 - i → cs[i + j]? = acc[j]?.map fun c => Value.int .u8 c.toNat
  told : dec n = dec m ++ acc
  below : Below w.heap.size w wr

theorem len_buf : Try.prog.arrayLen 66 = 20 := by kernel_rfl
theorem elem_buf : Try.prog.elem 66 = 5 := by kernel_rfl
theorem size_byte (w : World) : (sizeOf 5).run Try.prog w = .ok 1 w := by kernel_rfl

theorem cut_buf (g k : Nat) (i : Int) (hi : i = k) (hk : k < 20) (w : World) :
    Sem.run Try.prog (Instr.sliceAt 66 (.pointer (some ⟨g, 0, none⟩)) (some (.int .i64 i)) none none) w = .ok (.slice (some ⟨g, k, none⟩) (20 - k) (20 - k)) w := by
  subst hi
  rw [run_sliceAt_array_l _ _ _ (by rw [len_buf, elem_buf]; exact Try.underlying66) _ _ (by omega) (by rw [len_buf]; omega), elem_buf, size_byte]
  simp only [Result.andThen_ok, len_buf, slicedAt, Int.toNat_natCast]
  rw [if_neg (by omega)]
  by_cases h : k = 0 <;> simp [Addr.add, h]

theorem dig_toNat {m : Nat} (h : m < 10) : ((dig m).toNat : Int) = 48 + m := by
  unfold dig
  rw [UInt8.toNat_ofNat', Nat.mod_eq_of_lt (by omega)]
  omega

theorem row_add (g k j : Nat) : (⟨g, k, none⟩ : Addr).add j = ⟨g, k + j, none⟩ := by
  unfold Addr.add
  split <;> simp_all

/-- The cells behind one more digit. -/
theorem dig_cells {i m : Nat} {cs : Array Value} {acc : List UInt8} (hi1 : 1 ≤ i) (hi2 : i ≤ 20) (hsize : cs.size = 20)
    (hcells : ∀ j, j < 20 - i → cs[i + j]? = acc[j]?.map fun c => Value.int .u8 c.toNat) :
    ∀ j, j < 20 - (i - 1) → (cs.setIfInBounds (i - 1) (.int .u8 (48 + (m : Int) % 10)))[i - 1 + j]? = (dig (m % 10) :: acc)[j]?.map fun c => Value.int .u8 c.toNat := by
  intro j hj
  rw [Array.getElem?_setIfInBounds]
  cases j with
  | zero =>
    rw [if_pos (by omega), if_pos (by omega)]
    simp only [List.getElem?_cons_zero, Option.map_some]
    rw [dig_toNat (Nat.mod_lt _ (by omega))]
    simp
  | succ j =>
    rw [if_neg (by omega), show i - 1 + (j + 1) = i + j from by omega, hcells j (by omega)]
    simp

theorem dig_string {wr : World} {g i : Nat} {cs : Array Value} {l : List UInt8} (hb : Blk wr g 66 cs) (hlen : l.length = 20 - (i - 1))
    (hcells : ∀ j, j < 20 - (i - 1) → cs[i - 1 + j]? = l[j]?.map fun c => Value.int .u8 c.toNat) :
    Sem.run Try.prog (convert 67 9 (.slice (some ⟨g, i - 1, none⟩) (20 - (i - 1)) (20 - (i - 1)))) wr = .ok (.string ⟨l.toArray⟩) wr := by
  have h := run_convert_bytes_back (P := Try.prog) wr 67 9 5 ⟨g, i - 1, none⟩ (20 - (i - 1)) l Try.underlying67 Try.underlying5 Try.underlying9 (fun j hj => by
    rw [row_add, hb.at, hcells j (by omega), List.getElem?_eq_getElem hj]
    rfl)
  rw [hlen] at h
  exact h

set_option maxHeartbeats 400000 in
theorem digits_any (n : Nat) (hn : n < 18446744073709551616) (w : World) :
    Calls Try.prog 44 #[.int .u64 n] w fun e w' => e = .returned (.string ⟨(dec n).toArray⟩) ∧ Below w.heap.size w w' := by
  go_enter Try.func44, Try.ntmps44
  go_wp2
  go_loopw [0, 4] (fun nv iv wr => ∃ m i cs acc, DigRel n w nv iv wr m i cs acc) (fun _ iv _ => (intOf iv).toNat)
  case atStart =>
    exact ⟨n, 20, _, [], rfl, rfl, by omega, by omega, by omega, by omega, rfl, Blk.fresh w _ _, rfl, fun j hj => by omega, by simp, (Below.refl _ _).alloc (Nat.le_refl _) _⟩
  case round =>
    obtain ⟨m, i, cs, acc, ⟨rfl, rfl, hi1, hi2, hle, hsm, hlen, hblk, hsize, hcells, htold, hbelow⟩⟩ := hrel
    have hfr : wr.frozen? ⟨w.heap.size, i - 1, none⟩ = false := hblk.thaw _
    obtain ⟨v0, hc0⟩ : ∃ v, wr.cell? ⟨w.heap.size, i - 1, none⟩ = some v := by
      rw [hblk.at]
      exact ⟨_, Array.getElem?_eq_getElem (by omega)⟩
    have hput : Blk (wr.setCell ⟨w.heap.size, i - 1, none⟩ (.int .u8 (48 + (m : Int) % 10))) w.heap.size 66 _ := hblk.put (i - 1) _
    have hcells' := dig_cells (m := m) hi1 hi2 hsize hcells
    have HW := Lib.hid (hbelow.setCell (p := ⟨w.heap.size, i - 1, none⟩) (Nat.le_refl _) (.int .u8 (48 + (m : Int) % 10)))
    have HP := Lib.hid hput
    have HC := Lib.hid hcells'
    have HT := Lib.hid htold
    have HS := Lib.hid hsm
    have HL := Lib.hid hlen
    have HZ := Lib.hid hsize
    by_cases hlt : m < 10
    · have hcut := cut_buf w.heap.size (i - 1) ((i : Int) - 1) (by omega) (by omega) (wr.setCell ⟨w.heap.size, i - 1, none⟩ (.int .u8 (48 + (m : Int) % 10)))
      have hstr := dig_string (l := dig (m % 10) :: acc) hput (by simp; omega) hcells'
      have HF : Hid (dec n = dig (m % 10) :: acc) := by
        show _ = _
        rw [htold, dec_small hlt, Nat.mod_eq_of_lt hlt]
        rfl
      clear hblk hput hcells hcells' htold hsm hlen hsize hbelow
      have ht : ((m : Int) / 10 == 0) = true := by simp; omega
      go_wp2
      go_ret
      exact ⟨by rw [HF.out]; rfl, HW.out⟩
    · have HF : Hid (dec n = dec (m / 10) ++ (dig (m % 10) :: acc)) := by
        show _ = _
        rw [htold, dec_big (by omega) (by omega)]
        simp
      have hpow : m / 10 < 10 ^ (i - 1) := by
        have : i = i - 1 + 1 := by omega
        rw [this, Nat.pow_succ] at hsm
        omega
      have hi3 : 1 ≤ i - 1 := by
        rcases Nat.eq_zero_or_pos (i - 1) with h0 | h0
        · rw [h0] at hpow
          simp at hpow
          omega
        · exact h0
      have HQ := Lib.hid hpow
      clear hblk hput hcells hcells' htold hsm hlen hsize hbelow hpow
      have ht : ((m : Int) / 10 == 0) = false := by simp; omega
      go_wp2
      go_roundw
      case rel =>
        exact ⟨m / 10, i - 1, _, dig (m % 10) :: acc, by simp, by congr 1; omega, hi3, by omega, by omega, HQ.out, by have := HL.out; simp; omega, HP.out, by simpa using HZ.out, HC.out, HF.out, HW.out⟩
      case measure => simp [intOf]; omega
end Wire
end Go.Proofs.Ytionidjhfcmgiaa

import Derived.Test.YtibeangcjfjeiaaDoorMgH
import Derived.Test.YtibeangcjfjeiaaDoorMgD
namespace Go.Proofs.YtibeangcjfjeiaaDoor
open Go.RowKit Wire
set_option linter.unusedVariables false
set_option maxRecDepth 100000
set_option linter.unusedSimpArgs false
namespace Txt

structure DecRel (n : Nat) (w : World) (nv iv : Value) (wr : World) (m i : Nat) (cs : Array Value) (acc : List UInt8) : Prop where
  nv : nv = .int .u64 m
  iv : iv = .int .i64 i
  i2 : i ≤ 19
  le : m ≤ n
  small : m < 10 ^ i
  one : i = 0 → n = 0
  len : acc.length = 19 - i
  blk : Blk wr w.heap.size 113 cs
  size : cs.size = 20
  cells : ∀ j, j < 19 - i → cs[i + 1 + j]? = acc[j]?.map fun c => Value.int .u8 c.toNat
  told : dec n = dec m ++ acc
  below : Below w.heap.size w wr

theorem len_buf : Tryd.prog.arrayLen 113 = 20 := by kernel_rfl
theorem elem_buf : Tryd.prog.elem 113 = 5 := by kernel_rfl
theorem size_byte (w : World) : (sizeOf 5).run Tryd.prog w = .ok 1 w := by kernel_rfl

theorem cut_buf (g k : Nat) (i : Int) (hi : i = k) (hk : k < 20) (w : World) :
    Sem.run Tryd.prog (Instr.sliceAt 113 (.pointer (some ⟨g, 0, none⟩)) (some (.int .i64 i)) none none) w = .ok (.slice (some ⟨g, k, none⟩) (20 - k) (20 - k)) w := by
  subst hi
  rw [run_sliceAt_array_l _ _ _ (by rw [len_buf, elem_buf]; exact Tryd.underlying113) _ _ (by omega) (by rw [len_buf]; omega), elem_buf, size_byte]
  simp only [Result.andThen_ok, len_buf, slicedAt, Int.toNat_natCast]
  rw [if_neg (by omega)]
  by_cases h : k = 0 <;> simp [Addr.add, h]

theorem dig_toNat {m : Nat} (h : m < 10) : ((dig m).toNat : Int) = 48 + m := by
  have := dig_val h
  omega

/-- The cells behind one more byte. -/
theorem put_cells {i : Nat} {cs : Array Value} {acc : List UInt8} (c : UInt8) (z : Int) (hz : z = c.toNat) (hi2 : i ≤ 19) (hsize : cs.size = 20)
    (hcells : ∀ j, j < 19 - i → cs[i + 1 + j]? = acc[j]?.map fun c => Value.int .u8 c.toNat) :
    ∀ j, j < 20 - i → (cs.setIfInBounds i (.int .u8 z))[i + j]? = (c :: acc)[j]?.map fun c => Value.int .u8 c.toNat := by
  intro j hj
  rw [Array.getElem?_setIfInBounds]
  cases j with
  | zero =>
    rw [if_pos (by omega), if_pos (by omega), hz]
    rfl
  | succ j =>
    rw [if_neg (by omega), show i + (j + 1) = i + 1 + j from by omega, hcells j (by omega)]
    simp

theorem buf_string {wr : World} {g i : Nat} {cs : Array Value} {l : List UInt8} (hb : Blk wr g 113 cs) (hlen : l.length = 20 - i)
    (hcells : ∀ j, j < 20 - i → cs[i + j]? = l[j]?.map fun c => Value.int .u8 c.toNat) :
    Sem.run Tryd.prog (convert 59 9 (.slice (some ⟨g, i, none⟩) (20 - i) (20 - i))) wr = .ok (.string ⟨l.toArray⟩) wr := by
  have h := run_convert_bytes_back (P := Tryd.prog) wr 59 9 5 ⟨g, i, none⟩ (20 - i) l Tryd.underlying59 Tryd.underlying5 Tryd.underlying9 (fun j hj => by
    rw [row_add', hb.at, hcells j (by omega), List.getElem?_eq_getElem hj]
    rfl)
  rw [hlen] at h
  exact h

theorem u64_neg (m : Nat) (h0 : 1 ≤ m) (hm : m ≤ 9223372036854775808) : IntKind.u64.wrap (-IntKind.u64.wrap (-(m : Int))) = m := by
  simp [IntKind.wrap, IntKind.bits, IntKind.signed]
  omega

theorem pow_pred {m i : Nat} (h : m < 10 ^ i) (hm : 10 ≤ m) : m / 10 < 10 ^ (i - 1) ∧ 1 ≤ i - 1 := by
  have hi : i ≠ 0 := by
    rintro rfl
    simp at h
    omega
  have e : i = i - 1 + 1 := by omega
  have h1 : m / 10 < 10 ^ (i - 1) := by
    rw [e, Nat.pow_succ] at h
    omega
  refine ⟨h1, ?_⟩
  apply Classical.byContradiction
  intro hn
  have : i - 1 = 0 := by omega
  rw [this] at h1
  simp at h1
  omega

set_option maxHeartbeats 400000 in
theorem decimal_pos (n : Nat) (hn : n ≤ 9223372036854775807) (w : World) :
    Calls Tryd.prog 55 #[.int .i64 n] w fun e w' => e = .returned (str (dec n)) ∧ Below w.heap.size w w' := by
  go_enter Tryd.func55, Tryd.ntmps55
  go_wp2
  go_loopw [3, 5] (fun nv iv wr => ∃ m i cs acc, DecRel n w nv iv wr m i cs acc) (fun _ iv _ => (intOf iv).toNat)
  case atStart =>
    exact ⟨n, 19, _, [], rfl, rfl, by omega, by omega, by omega, fun h => by omega, rfl, Blk.fresh w _ _, rfl, fun j hj => by omega, by simp, (Below.refl _ _).alloc (Nat.le_refl _) _⟩
  case round =>
    obtain ⟨m, i, cs, acc, ⟨rfl, rfl, hi2, hle, hsm, hone, hlen, hblk, hsize, hcells, htold, hbelow⟩⟩ := hrel
    have hfr : wr.frozen? ⟨w.heap.size, i, none⟩ = false := hblk.thaw _
    obtain ⟨v0, hc0⟩ : ∃ v, wr.cell? ⟨w.heap.size, i, none⟩ = some v := by
      rw [hblk.at]
      exact ⟨_, Array.getElem?_eq_getElem (by omega)⟩
    by_cases hlt : m < 10
    · have hput : Blk (wr.setCell ⟨w.heap.size, i, none⟩ (.int .u8 (48 + (m : Int)))) w.heap.size 113 _ := hblk.put i _
      have hcells' := put_cells (dig m) (48 + (m : Int)) (dig_toNat hlt).symm hi2 hsize hcells
      have HW := Lib.hid (hbelow.setCell (p := ⟨w.heap.size, i, none⟩) (Nat.le_refl _) (.int .u8 (48 + (m : Int))))
      have hcut := cut_buf w.heap.size i (i : Int) rfl (by omega) (wr.setCell ⟨w.heap.size, i, none⟩ (.int .u8 (48 + (m : Int))))
      have hstr := buf_string (l := dig m :: acc) hput (by simp; omega) hcells'
      have HF : Hid (dec n = dig m :: acc) := by
        show _ = _
        rw [htold, dec_small hlt]
        rfl
      clear hone hblk hput hcells hcells' htold hsm hlen hsize hbelow
      go_wp2
      go_ret
      exact ⟨by rw [HF.out]; rfl, HW.out⟩
    · have hput : Blk (wr.setCell ⟨w.heap.size, i, none⟩ (.int .u8 (48 + (m : Int) % 10))) w.heap.size 113 _ := hblk.put i _
      have hcells' := put_cells (dig (m % 10)) (48 + (m : Int) % 10) (by rw [dig_toNat (Nat.mod_lt _ (by omega))]; simp) hi2 hsize hcells
      have hp := pow_pred hsm (by omega)
      have HW := Lib.hid (hbelow.setCell (p := ⟨w.heap.size, i, none⟩) (Nat.le_refl _) (.int .u8 (48 + (m : Int) % 10)))
      have HP := Lib.hid hput
      have HC : Hid (∀ j, j < 19 - (i - 1) → (cs.setIfInBounds i (.int .u8 (48 + (m : Int) % 10)))[i - 1 + 1 + j]? = (dig (m % 10) :: acc)[j]?.map fun c => Value.int .u8 c.toNat) := by
        intro j hj
        rw [show i - 1 + 1 + j = i + j from by omega]
        exact hcells' j (by omega)
      have HF : Hid (dec n = dec (m / 10) ++ (dig (m % 10) :: acc)) := by
        show _ = _
        rw [htold, dec_big (by omega) (by omega)]
        simp
      have HQ := Lib.hid hp.1
      have HL := Lib.hid hlen
      have HZ := Lib.hid hsize
      have hi3 := hp.2
      clear hone hblk hput hcells hcells' htold hsm hlen hsize hbelow hp
      go_wp2
      go_roundw
      case rel =>
        exact ⟨m / 10, i - 1, _, dig (m % 10) :: acc, by simp, by congr 1; omega, by omega, by omega, HQ.out, fun h => by omega, by have := HL.out; simp; omega, HP.out, by simpa using HZ.out, HC.out, HF.out, HW.out⟩
      case measure => simp [intOf]; omega
set_option maxHeartbeats 400000 in
theorem decimal_neg (n : Nat) (h0 : 1 ≤ n) (hn : n ≤ 9223372036854775808) (w : World) :
    Calls Tryd.prog 55 #[.int .i64 (-(n : Int))] w fun e w' => e = .returned (str (45 :: dec n)) ∧ Below w.heap.size w w' := by
  have hneg := u64_neg n h0 hn
  go_enter Tryd.func55, Tryd.ntmps55
  go_wp2
  go_loopw [3, 5] (fun nv iv wr => ∃ m i cs acc, DecRel n w nv iv wr m i cs acc) (fun _ iv _ => (intOf iv).toNat)
  case atStart =>
    exact ⟨n, 19, _, [], rfl, rfl, by omega, by omega, by omega, fun h => by omega, rfl, Blk.fresh w _ _, rfl, fun j hj => by omega, by simp, (Below.refl _ _).alloc (Nat.le_refl _) _⟩
  case round =>
    obtain ⟨m, i, cs, acc, ⟨rfl, rfl, hi2, hle, hsm, hone, hlen, hblk, hsize, hcells, htold, hbelow⟩⟩ := hrel
    have hfr : wr.frozen? ⟨w.heap.size, i, none⟩ = false := hblk.thaw _
    obtain ⟨v0, hc0⟩ : ∃ v, wr.cell? ⟨w.heap.size, i, none⟩ = some v := by
      rw [hblk.at]
      exact ⟨_, Array.getElem?_eq_getElem (by omega)⟩
    by_cases hlt : m < 10
    · have hi1 : 1 ≤ i := by
        rcases Nat.eq_zero_or_pos i with rfl | h
        · have := hone rfl
          omega
        · exact h
      have hput : Blk (wr.setCell ⟨w.heap.size, i, none⟩ (.int .u8 (48 + (m : Int)))) w.heap.size 113 _ := hblk.put i _
      have hcells' := put_cells (dig m) (48 + (m : Int)) (dig_toNat hlt).symm hi2 hsize hcells
      have hput2 := hput.put (i - 1) (.int .u8 45)
      have hcells2 := put_cells (i := i - 1) (cs := cs.setIfInBounds i (.int .u8 (48 + (m : Int)))) 45 45 rfl (by omega) (by simpa using hsize) (acc := dig m :: acc) (fun j hj => by rw [show i - 1 + 1 + j = i + j from by omega]; exact hcells' j (by omega))
      have hfr1 := hput.thaw (i - 1)
      obtain ⟨v1, hc1⟩ : ∃ v, (wr.setCell ⟨w.heap.size, i, none⟩ (.int .u8 (48 + (m : Int)))).cell? ⟨w.heap.size, i - 1, none⟩ = some v := by
        rw [hput.at]
        exact ⟨_, Array.getElem?_eq_getElem (by simp; omega)⟩
      have HW := Lib.hid ((hbelow.setCell (p := ⟨w.heap.size, i, none⟩) (Nat.le_refl _) (.int .u8 (48 + (m : Int)))).setCell (p := ⟨w.heap.size, i - 1, none⟩) (Nat.le_refl _) (.int .u8 45))
      have hcut := cut_buf w.heap.size (i - 1) ((i : Int) - 1) (by omega) (by omega) ((wr.setCell ⟨w.heap.size, i, none⟩ (.int .u8 (48 + (m : Int)))).setCell ⟨w.heap.size, i - 1, none⟩ (.int .u8 45))
      have hstr := buf_string (i := i - 1) (l := 45 :: dig m :: acc) hput2 (by simp; omega) hcells2
      have HF : Hid (dec n = dig m :: acc) := by
        show _ = _
        rw [htold, dec_small hlt]
        rfl
      clear hone hblk hput hcells hcells' htold hsm hlen hsize hbelow hput2 hcells2
      go_wp2
      go_ret
      exact ⟨by rw [HF.out]; rfl, HW.out⟩
    · have hput : Blk (wr.setCell ⟨w.heap.size, i, none⟩ (.int .u8 (48 + (m : Int) % 10))) w.heap.size 113 _ := hblk.put i _
      have hcells' := put_cells (dig (m % 10)) (48 + (m : Int) % 10) (by rw [dig_toNat (Nat.mod_lt _ (by omega))]; simp) hi2 hsize hcells
      have hp := pow_pred hsm (by omega)
      have HW := Lib.hid (hbelow.setCell (p := ⟨w.heap.size, i, none⟩) (Nat.le_refl _) (.int .u8 (48 + (m : Int) % 10)))
      have HP := Lib.hid hput
      have HC : Hid (∀ j, j < 19 - (i - 1) → (cs.setIfInBounds i (.int .u8 (48 + (m : Int) % 10)))[i - 1 + 1 + j]? = (dig (m % 10) :: acc)[j]?.map fun c => Value.int .u8 c.toNat) := by
        intro j hj
        rw [show i - 1 + 1 + j = i + j from by omega]
        exact hcells' j (by omega)
      have HF : Hid (dec n = dec (m / 10) ++ (dig (m % 10) :: acc)) := by
        show _ = _
        rw [htold, dec_big (by omega) (by omega)]
        simp
      have HQ := Lib.hid hp.1
      have HL := Lib.hid hlen
      have HZ := Lib.hid hsize
      have hi3 := hp.2
      clear hone hblk hput hcells hcells' htold hsm hlen hsize hbelow hp
      go_wp2
      go_roundw
      case rel =>
        exact ⟨m / 10, i - 1, _, dig (m % 10) :: acc, by simp, by congr 1; omega, by omega, by omega, HQ.out, fun h => by omega, by have := HL.out; simp; omega, HP.out, by simpa using HZ.out, HC.out, HF.out, HW.out⟩
      case measure => simp [intOf]; omega

theorem decimal_any (z : Int) (hz : Fits z) (w : World) :
    Calls Tryd.prog 55 #[.int .i64 z] w fun e w' => e = .returned (str (decI z)) ∧ Below w.heap.size w w' := by
  unfold Fits at hz
  by_cases h : 0 ≤ z
  · obtain ⟨n, rfl⟩ := Int.eq_ofNat_of_zero_le h
    rw [decI_pos]
    exact decimal_pos n (by omega) w
  · obtain ⟨n, hn⟩ := Int.eq_ofNat_of_zero_le (show 0 ≤ -z by omega)
    obtain rfl : z = -(n : Int) := by omega
    rw [decI_neg n (by omega)]
    exact decimal_neg n (by omega) (by omega) w
end Txt
end Go.Proofs.YtibeangcjfjeiaaDoor

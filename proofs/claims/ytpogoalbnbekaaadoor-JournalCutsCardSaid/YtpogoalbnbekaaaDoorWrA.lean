/- Package wire's writers and the reference's (taquinref01): decimal digits, Num, Int, Text, Nums, Texts. -/
import Derived.Test.YtpogoalbnbekaaaDoorMemA
namespace Go.Proofs.YtpogoalbnbekaaaDoor
open Go.RowKit Wire
open Txt (str Row bytes_append info_byte bytes_size)
set_option linter.unusedVariables false
set_option linter.unusedSimpArgs false
namespace Wr


structure DigRel (n : Nat) (w : World) (nv iv : Value) (wr : World) (m i : Nat) (cs : Array Value) (acc : List UInt8) : Prop where
  nv : nv = .int .u64 m
  iv : iv = .int .i64 i
  i1 : 1 ≤ i
  i2 : i ≤ 20
  le : m ≤ n
  small : m < 10 ^ i
  len : acc.length = 20 - i
  blk : Blk wr w.heap.size 115 cs
  size : cs.size = 20
  cells : ∀ j, j < 20 - i → cs[i + j]? = acc[j]?.map fun c => Value.int .u8 c.toNat
  told : dec n = dec m ++ acc
  below : Below w.heap.size w wr

theorem len_buf : Tryd.prog.arrayLen 115 = 20 := by kernel_rfl
theorem elem_buf : Tryd.prog.elem 115 = 5 := by kernel_rfl
theorem size_byte (w : World) : (sizeOf 5).run Tryd.prog w = .ok 1 w := by kernel_rfl

theorem cut_buf (g k : Nat) (i : Int) (hi : i = k) (hk : k < 20) (w : World) :
    Sem.run Tryd.prog (Instr.sliceAt 115 (.pointer (some ⟨g, 0, none⟩)) (some (.int .i64 i)) none none) w = .ok (.slice (some ⟨g, k, none⟩) (20 - k) (20 - k)) w := by
  subst hi
  rw [run_sliceAt_array_l _ _ _ (by rw [len_buf, elem_buf]; exact Tryd.underlying115) _ _ (by omega) (by rw [len_buf]; omega), elem_buf, size_byte]
  simp only [Result.andThen_ok, len_buf, slicedAt, Int.toNat_natCast]
  rw [if_neg (by omega)]
  by_cases h : k = 0 <;> simp [Addr.add, h]

theorem dig_toNat {m : Nat} (h : m < 10) : ((dig m).toNat : Int) = 48 + m := by
  unfold dig
  rw [UInt8.toNat_ofNat', Nat.mod_eq_of_lt (by omega)]
  omega

theorem row_add (g k j : Nat) : (⟨g, k, none⟩ : Addr).add j = ⟨g, k + j, none⟩ := by
  unfold Addr.add
  split <;> simp_all

/-- The cells behind one more digit. -/
theorem dig_cells {i m : Nat} {cs : Array Value} {acc : List UInt8} (hi1 : 1 ≤ i) (hi2 : i ≤ 20) (hsize : cs.size = 20)
    (hcells : ∀ j, j < 20 - i → cs[i + j]? = acc[j]?.map fun c => Value.int .u8 c.toNat) :
    ∀ j, j < 20 - (i - 1) → (cs.setIfInBounds (i - 1) (.int .u8 (48 + (m : Int) % 10)))[i - 1 + j]? = (dig (m % 10) :: acc)[j]?.map fun c => Value.int .u8 c.toNat := by
  intro j hj
  rw [Array.getElem?_setIfInBounds]
  cases j with
  | zero =>
    rw [if_pos (by omega), if_pos (by omega)]
    simp only [List.getElem?_cons_zero, Option.map_some]
    rw [dig_toNat (Nat.mod_lt _ (by omega))]
    simp
  | succ j =>
    rw [if_neg (by omega), show i - 1 + (j + 1) = i + j from by omega, hcells j (by omega)]
    simp

theorem dig_string {wr : World} {g i : Nat} {cs : Array Value} {l : List UInt8} (hb : Blk wr g 115 cs) (hlen : l.length = 20 - (i - 1))
    (hcells : ∀ j, j < 20 - (i - 1) → cs[i - 1 + j]? = l[j]?.map fun c => Value.int .u8 c.toNat) :
    Sem.run Tryd.prog (convert 50 9 (.slice (some ⟨g, i - 1, none⟩) (20 - (i - 1)) (20 - (i - 1)))) wr = .ok (.string ⟨l.toArray⟩) wr := by
  have h := run_convert_bytes_back (P := Tryd.prog) wr 50 9 5 ⟨g, i - 1, none⟩ (20 - (i - 1)) l Tryd.underlying50 Tryd.underlying5 Tryd.underlying9 (fun j hj => by
    rw [row_add, hb.at, hcells j (by omega), List.getElem?_eq_getElem hj]
    rfl)
  rw [hlen] at h
  exact h

set_option maxHeartbeats 400000 in
theorem digits_any (n : Nat) (hn : n < 18446744073709551616) (w : World) :
    Calls Tryd.prog 46 #[.int .u64 n] w fun e w' => e = .returned (.string ⟨(dec n).toArray⟩) ∧ Below w.heap.size w w' := by
  go_enter Tryd.func46, Tryd.ntmps46
  go_wp2
  go_loopw [0, 4] (fun nv iv wr => ∃ m i cs acc, DigRel n w nv iv wr m i cs acc) (fun _ iv _ => (intOf iv).toNat)
  case atStart =>
    exact ⟨n, 20, _, [], rfl, rfl, by omega, by omega, by omega, by omega, rfl, Blk.fresh w _ _, rfl, fun j hj => by omega, by simp, (Below.refl _ _).alloc (Nat.le_refl _) _⟩
  case round =>
    obtain ⟨m, i, cs, acc, ⟨rfl, rfl, hi1, hi2, hle, hsm, hlen, hblk, hsize, hcells, htold, hbelow⟩⟩ := hrel
    have hfr : wr.frozen? ⟨w.heap.size, i - 1, none⟩ = false := hblk.thaw _
    obtain ⟨v0, hc0⟩ : ∃ v, wr.cell? ⟨w.heap.size, i - 1, none⟩ = some v := by
      rw [hblk.at]
      exact ⟨_, Array.getElem?_eq_getElem (by omega)⟩
    have hput : Blk (wr.setCell ⟨w.heap.size, i - 1, none⟩ (.int .u8 (48 + (m : Int) % 10))) w.heap.size 115 _ := hblk.put (i - 1) _
    have hcells' := dig_cells (m := m) hi1 hi2 hsize hcells
    have HW := Lib.hid (hbelow.setCell (p := ⟨w.heap.size, i - 1, none⟩) (Nat.le_refl _) (.int .u8 (48 + (m : Int) % 10)))
    have HP := Lib.hid hput
    have HC := Lib.hid hcells'
    have HT := Lib.hid htold
    have HS := Lib.hid hsm
    have HL := Lib.hid hlen
    have HZ := Lib.hid hsize
    by_cases hlt : m < 10
    · have hcut := cut_buf w.heap.size (i - 1) ((i : Int) - 1) (by omega) (by omega) (wr.setCell ⟨w.heap.size, i - 1, none⟩ (.int .u8 (48 + (m : Int) % 10)))
      have hstr := dig_string (l := dig (m % 10) :: acc) hput (by simp; omega) hcells'
      have HF : Hid (dec n = dig (m % 10) :: acc) := by
        show _ = _
        rw [htold, dec_small hlt, Nat.mod_eq_of_lt hlt]
        rfl
      clear hblk hput hcells hcells' htold hsm hlen hsize hbelow
      have ht : ((m : Int) / 10 == 0) = true := by simp; omega
      go_wp2
      go_ret
      exact ⟨by rw [HF.out]; rfl, HW.out⟩
    · have HF : Hid (dec n = dec (m / 10) ++ (dig (m % 10) :: acc)) := by
        show _ = _
        rw [htold, dec_big (by omega) (by omega)]
        simp
      have hpow : m / 10 < 10 ^ (i - 1) := by
        have : i = i - 1 + 1 := by omega
        rw [this, Nat.pow_succ] at hsm
        omega
      have hi3 : 1 ≤ i - 1 := by
        rcases Nat.eq_zero_or_pos (i - 1) with h0 | h0
        · rw [h0] at hpow
          simp at hpow
          omega
        · exact h0
      have HQ := Lib.hid hpow
      clear hblk hput hcells hcells' htold hsm hlen hsize hbelow hpow
      have ht : ((m : Int) / 10 == 0) = false := by simp; omega
      go_wp2
      go_roundw
      case rel =>
        exact ⟨m / 10, i - 1, _, dig (m % 10) :: acc, by simp, by congr 1; omega, hi3, by omega, by omega, HQ.out, by have := HL.out; simp; omega, HP.out, by simpa using HZ.out, HC.out, HF.out, HW.out⟩
      case measure => simp [intOf]; omega


set_option maxHeartbeats 400000 in
theorem count_any (n : Nat) (hn : n ≤ 9223372036854775807) (w : World) :
    Calls Tryd.prog 73 #[.int .i64 n] w fun e w' => e = .returned (str (dec n)) ∧ Below w.heap.size w w' := by
  go_enter Tryd.func73, Tryd.ntmps73
  go_wp2_with (go_at_call 46; refine (digits_any n (by omega) _).mono ?_; rintro e w' ⟨rfl, hb⟩)
  go_ret
  exact ⟨rfl, hb⟩

set_option maxHeartbeats 400000 in
theorem num_any (n : Nat) (hn : n ≤ 9223372036854775807) (w : World) :
    Calls Tryd.prog 47 #[.int .i64 n] w fun e w' => e = .returned (str (dec n ++ [59])) ∧ Below w.heap.size w w' := by
  have hl := dec_len n
  go_enter Tryd.func47, Tryd.ntmps47
  go_wp2_with (go_at_call 46; refine (digits_any n (by omega) _).mono ?_; rintro e w' ⟨rfl, hb⟩)
  go_ret
  exact ⟨congrArg (fun s => Ending.returned (.string s)) (cat_bytes _ [59]), hb⟩

set_option maxHeartbeats 400000 in
theorem num_neg (n : Int) (h0 : n < 0) (w : World) :
    Calls Tryd.prog 47 #[.int .i64 n] w fun e w' => e = .returned (str []) ∧ Below w.heap.size w w' := by
  go_enter Tryd.func47, Tryd.ntmps47
  go_wp2_with fail
  go_ret
  exact ⟨rfl, Below.refl _ _⟩

set_option maxHeartbeats 400000 in
theorem int_pos (n : Nat) (hn : n ≤ 9223372036854775807) (w : World) :
    Calls Tryd.prog 22 #[.int .i64 n] w fun e w' => e = .returned (str (dec n ++ [59])) ∧ Below w.heap.size w w' := by
  go_enter Tryd.func22, Tryd.ntmps22
  go_wp2_with (go_at_call 47; refine (num_any n (by omega) _).mono ?_; rintro e w' ⟨rfl, hb⟩)
  go_ret
  exact ⟨rfl, hb⟩

theorem neg_wrap (m : Nat) (h0 : 1 ≤ m) (hm : m ≤ 9223372036854775808) : IntKind.u64.wrap (-IntKind.u64.wrap (-(m : Int))) = m := by
  simp [IntKind.wrap, IntKind.bits, IntKind.signed]
  omega

set_option maxHeartbeats 400000 in
theorem int_neg (m : Nat) (h0 : 1 ≤ m) (hm : m ≤ 9223372036854775808) (w : World) :
    Calls Tryd.prog 22 #[.int .i64 (-(m : Int))] w fun e w' => e = .returned (str (45 :: (dec m ++ [59]))) ∧ Below w.heap.size w w' := by
  have hl := dec_len m
  have hw := neg_wrap m h0 hm
  go_enter Tryd.func22, Tryd.ntmps22
  go_wp2_with (go_at_call 46; refine (digits_any m (by omega) _).mono ?_; rintro e w' ⟨rfl, hb⟩)
  go_ret
  exact ⟨congrArg (fun s => Ending.returned (.string s)) ((congrArg (· ++ (⟨#[59]⟩ : ByteArray)) (cat_bytes [45] (dec m))).trans (cat_bytes _ [59])), hb⟩

theorem text_bytes (s : ByteArray) : (⟨(dec s.size).toArray⟩ : ByteArray) ++ ⟨#[58]⟩ ++ s ++ ⟨#[44]⟩ = ⟨(dec s.size ++ (58 :: (s.data.toList ++ [44]))).toArray⟩ := by
  obtain ⟨⟨l⟩⟩ := s
  generalize dec _ = d
  show (⟨d.toArray⟩ : ByteArray) ++ ⟨[58].toArray⟩ ++ ⟨l.toArray⟩ ++ ⟨[44].toArray⟩ = _
  rw [cat_bytes, cat_bytes, cat_bytes]
  simp

set_option maxHeartbeats 400000 in
theorem text_any (s : ByteArray) (hn : s.size ≤ 281474976710656) (w : World) :
    Calls Tryd.prog 60 #[.string s] w fun e w' => e = .returned (str (dec s.size ++ (58 :: (s.data.toList ++ [44])))) ∧ Below w.heap.size w w' := by
  have hl := dec_len s.size
  go_enter Tryd.func60, Tryd.ntmps60
  go_wp2_with (go_at_call 73; refine (count_any s.size (by omega) _).mono ?_; rintro e w' ⟨rfl, hb⟩)
  go_ret
  exact ⟨congrArg (fun s => Ending.returned (.string s)) (text_bytes s), hb⟩

/-! The reference. -/

theorem tmod_neg (m : Nat) : (-(m : Int)).tmod 10 = -((m % 10 : Nat) : Int) := by
  rw [Int.neg_tmod]
  rfl
theorem tdiv_neg (m : Nat) : (-(m : Int)).tdiv 10 = -((m / 10 : Nat) : Int) := by
  rw [Int.neg_tdiv]
  rfl

theorem one_byte (m : Nat) (w : World) :
    Sem.run Tryd.prog (convert 50 9 (.slice (some ⟨w.heap.size, 0, none⟩) 1 1)) (w.alloc (.cells #[.int .u8 (48 + (m : Int) % 10)] 5)) =
      .ok (str [dig (m % 10)]) (w.alloc (.cells #[.int .u8 (48 + (m : Int) % 10)] 5)) := by
  have h := run_convert_bytes_back (P := Tryd.prog) (w.alloc (.cells #[.int .u8 (48 + (m : Int) % 10)] 5)) 50 9 5 ⟨w.heap.size, 0, none⟩ 1 [dig (m % 10)] Tryd.underlying50 Tryd.underlying5 Tryd.underlying9 (fun j hj => by
    have hj0 : j = 0 := by simp at hj; omega
    subst hj0
    rw [row_add, (Blk.fresh w _ _).at]
    simp only [List.getElem_cons_zero]
    rw [dig_toNat (Nat.mod_lt _ (by omega))]
    simp)
  exact h

def encInt (z : Int) : List UInt8 := if 0 ≤ z then dec z.toNat ++ [59] else 45 :: (dec (-z).toNat ++ [59])
def encText (s : ByteArray) : List UInt8 := dec s.size ++ (58 :: (s.data.toList ++ [44]))

theorem int_any (z : Int) (h1 : -9223372036854775808 ≤ z) (h2 : z ≤ 9223372036854775807) (w : World) :
    Calls Tryd.prog 22 #[.int .i64 z] w fun e w' => e = .returned (str (encInt z)) ∧ Below w.heap.size w w' := by
  unfold encInt
  by_cases h : 0 ≤ z
  · obtain ⟨n, rfl⟩ := Int.eq_ofNat_of_zero_le h
    rw [if_pos h]
    exact int_pos n (by omega) w
  · obtain ⟨n, hn⟩ := Int.eq_ofNat_of_zero_le (show 0 ≤ -z by omega)
    obtain rfl : z = -(n : Int) := by omega
    rw [if_neg h, Int.neg_neg, Int.toNat_natCast]
    exact int_neg n (by omega) (by omega) w

theorem encInt_len (z : Int) : (encInt z).length ≤ 23 := by
  unfold encInt
  split
  · have := dec_len z.toNat; simp; omega
  · have := dec_len (-z).toNat; simp; omega

theorem ints_len (zs : List Int) : (zs.flatMap encInt).length ≤ 23 * zs.length := by
  induction zs with
  | nil => simp
  | cons z zs ih =>
    have := encInt_len z
    simp only [List.flatMap_cons, List.length_append, List.length_cons]
    omega

theorem room_bytes {n : Nat} {l : List UInt8} (h : n + l.length ≤ 140737488355328) : n + (⟨l.toArray⟩ : ByteArray).size ≤ maxLen ∧ (n + (⟨l.toArray⟩ : ByteArray).size) * 1 ≤ 140737488355328 := by
  have e : (⟨l.toArray⟩ : ByteArray).size = l.length := rfl
  rw [e]
  exact ⟨small_max (by omega), by omega⟩

/-- What a list's loop has collected after k elements. -/
def part {α : Type} (n : Nat) (enc : α → List UInt8) (xs : List α) (k : Nat) : List UInt8 := dec n ++ (91 :: (xs.take k).flatMap enc)
def encList {α : Type} (enc : α → List UInt8) (xs : List α) : List UInt8 := dec xs.length ++ (91 :: (xs.flatMap enc ++ [93]))

theorem part_zero {α : Type} (n : Nat) (enc : α → List UInt8) (xs : List α) : part n enc xs 0 = dec n ++ [91] := by simp [part]
theorem part_succ {α : Type} (n : Nat) (enc : α → List UInt8) (xs : List α) (k : Nat) (h : k < xs.length) : part n enc xs (k + 1) = part n enc xs k ++ enc xs[k] := by
  unfold part
  rw [List.take_succ_eq_append_getElem h, List.flatMap_append]
  simp
theorem part_all {α : Type} (enc : α → List UInt8) (xs : List α) : part xs.length enc xs xs.length ++ [93] = encList enc xs := by
  unfold part encList
  simp
theorem part_len {α : Type} (n : Nat) (enc : α → List UInt8) (xs : List α) (k : Nat) : (part n enc xs k).length ≤ 22 + (xs.flatMap enc).length := by
  have h1 := dec_len n
  have h2 : ((xs.take k).flatMap enc).length ≤ (xs.flatMap enc).length := by
    conv => rhs; rw [← List.take_append_drop k xs, List.flatMap_append, List.length_append]
    omega
  unfold part
  simp only [List.length_append, List.length_cons]
  omega

structure ListRel {α : Type} (W : World) (n : Nat) (enc : α → List UInt8) (xs : List α) (ov iv : Value) (w : World) (k : Nat) : Prop where
  iv : iv = .int .i64 k
  le : k ≤ xs.length
  own : Grow w W.heap.size 1 ov (part n enc xs k).length (byteCells ⟨(part n enc xs k).toArray⟩)
  below : Below W.heap.size W w

theorem one_bracket : ∀ u ∈ [Value.int .u8 93], u.oneCell' = true := by
  intro u hu
  obtain rfl := List.mem_singleton.1 hu
  rfl

theorem ListRel.step {α : Type} {W wr w3 w4 : World} {enc : α → List UInt8} {xs : List α} {ov v4 : Value} {k : Nat} (hlt : k < xs.length)
    (hown : Grow wr W.heap.size 1 ov (part xs.length enc xs k).length (byteCells ⟨(part xs.length enc xs k).toArray⟩)) (hbel : Below W.heap.size W wr) (hb3 : Below wr.heap.size wr w3)
    (hown4 : Grow w4 W.heap.size 1 v4 ((part xs.length enc xs k).length + (⟨(enc xs[k]).toArray⟩ : ByteArray).size) (byteCells ⟨(part xs.length enc xs k).toArray⟩ ++ byteCells ⟨(enc xs[k]).toArray⟩)) (hg4 : w3.grownBy w4 ov.ownBlock) :
    ListRel W xs.length enc xs v4 (.int .i64 ((k : Int) + 1)) w4 (k + 1) := by
  refine ⟨by simp, hlt, ?_, (hbel.trans (hb3.mono hbel.size)).grown hg4 (Nat.le_trans hbel.size hb3.size) fun g hg => (hown.block g hg).1⟩
  rw [part_succ _ _ _ _ hlt, ← bytes_append, List.length_append]
  exact hown4

/-- The last bracket. -/
theorem list_end {α : Type} {W wr w4 : World} {enc : α → List UInt8} {xs : List α} {ov v4 : Value} (hown : Grow wr W.heap.size 1 ov (part xs.length enc xs xs.length).length (byteCells ⟨(part xs.length enc xs xs.length).toArray⟩)) (hbel : Below W.heap.size W wr)
    {o : Obj} (hown4 : Grow w4 W.heap.size 1 v4 ((part xs.length enc xs xs.length).length + 1) (byteCells ⟨(part xs.length enc xs xs.length).toArray⟩ ++ [.int .u8 93])) (hg4 : (wr.alloc o).grownBy w4 ov.ownBlock) :
    Sem.run Tryd.prog (convert 50 9 v4) w4 = .ok (str (encList enc xs)) w4 ∧ Below W.heap.size W w4 := by
  refine ⟨run_string_own w4 _ _ 5 W.heap.size v4 _ ?_ Tryd.underlying50 Tryd.underlying5 Tryd.underlying9, (hbel.alloc hbel.size _).grown hg4 (Nat.le_trans hbel.size (by simp)) fun g hg => (hown.block g hg).1⟩
  rw [← part_all, ← bytes_append, List.length_append]
  exact hown4

theorem texts_at (ss : List ByteArray) (k : Nat) (h : k < ss.length) : (encText ss[k]).length ≤ (ss.flatMap encText).length ∧ ss[k].size + 3 ≤ (encText ss[k]).length := by
  constructor
  · have : ss = ss.take k ++ ss[k] :: ss.drop (k + 1) := by rw [← List.drop_eq_getElem_cons h, List.take_append_drop]
    conv => rhs; rw [this]
    simp only [List.flatMap_append, List.flatMap_cons, List.length_append]
    omega
  · have := dec_pos ss[k].size
    have e : ss[k].data.toList.length = ss[k].size := by rw [Array.length_toList]; rfl
    unfold encText
    simp only [List.length_append, List.length_cons, e]
    simp
    omega

structure RefRel {α : Type} (W : World) (n : Nat) (enc : α → List UInt8) (xs : List α) (sv iv : Value) (w : World) (k : Nat) : Prop where
  iv : iv = .int .i64 k
  le : k ≤ xs.length
  sv : sv = str (part n enc xs k)
  below : Below W.heap.size W w

end Wr
end Go.Proofs.YtpogoalbnbekaaaDoor

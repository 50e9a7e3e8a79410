import Derived.Test.YtionidjhfcmgiaaNum
import Derived.Test.YtionidjhfcmgiaaOwn
import Derived.Handy
namespace Go.Proofs.Ytionidjhfcmgiaa
open Go.RowKit
set_option linter.unusedVariables false
set_option linter.unusedSimpArgs false
namespace Wire

/-- The slice value '.slice A xs.length c' reads as xs (cells of one), below block B. -/
def Row (w : World) (B : Nat) (A : Option Addr) (xs : List Value) : Prop := ∀ k u, xs[k]? = some u → ∃ b o, A = some ⟨b, o, none⟩ ∧ b < B ∧ w.cell? ⟨b, o + k, none⟩ = some u

theorem Row.below {w w' : World} {B : Nat} {A : Option Addr} {xs : List Value} (h : Row w B A xs) (hb : Below B w w') : Row w' B A xs := by
  intro k u hu
  obtain ⟨b, o, e, h1, h2⟩ := h k u hu
  exact ⟨b, o, e, h1, (hb.cell (p := ⟨b, o + k, none⟩) h1).trans h2⟩

theorem Row.lift {w w' : World} {A : Option Addr} {xs : List Value} (h : Row w w.heap.size A xs) (hb : Below w.heap.size w w') : Row w' w'.heap.size A xs := by
  intro k u hu
  obtain ⟨b, o, e, h1, h2⟩ := h.below hb k u hu
  exact ⟨b, o, e, Nat.lt_of_lt_of_le h1 hb.size, h2⟩

def encInt (z : Int) : List UInt8 := if 0 ≤ z then dec z.toNat ++ [59] else 45 :: (dec (-z).toNat ++ [59])
def encText (s : ByteArray) : List UInt8 := dec s.size ++ (58 :: (s.data.toList ++ [44]))

theorem int_any (z : Int) (h1 : -9223372036854775808 ≤ z) (h2 : z ≤ 9223372036854775807) (w : World) :
    Calls Try.prog 13 #[.int .i64 z] w fun e w' => e = .returned (str (encInt z)) ∧ Below w.heap.size w w' := by
  unfold encInt
  by_cases h : 0 ≤ z
  · obtain ⟨n, rfl⟩ := Int.eq_ofNat_of_zero_le h
    rw [if_pos h]
    exact int_pos n (by omega) w
  · obtain ⟨n, hn⟩ := Int.eq_ofNat_of_zero_le (show 0 ≤ -z by omega)
    obtain rfl : z = -(n : Int) := by omega
    rw [if_neg h, Int.neg_neg, Int.toNat_natCast]
    exact int_neg n (by omega) (by omega) w

theorem refInt_any (z : Int) (h1 : -9223372036854775808 ≤ z) (h2 : z ≤ 9223372036854775807) (w : World) :
    Calls Try.prog 14 #[.int .i64 z] w fun e w' => e = .returned (str (encInt z)) ∧ Below w.heap.size w w' := by
  unfold encInt
  by_cases h : 0 ≤ z
  · obtain ⟨n, rfl⟩ := Int.eq_ofNat_of_zero_le h
    rw [if_pos h]
    exact refInt_pos n (by omega) w
  · obtain ⟨n, hn⟩ := Int.eq_ofNat_of_zero_le (show 0 ≤ -z by omega)
    obtain rfl : z = -(n : Int) := by omega
    rw [if_neg h, Int.neg_neg, Int.toNat_natCast]
    exact refInt_neg n (by omega) (by omega) w

theorem encInt_len (z : Int) : (encInt z).length ≤ 23 := by
  unfold encInt
  split
  · have := dec_len z.toNat; simp; omega
  · have := dec_len (-z).toNat; simp; omega

theorem ints_len (zs : List Int) : (zs.flatMap encInt).length ≤ 23 * zs.length := by
  induction zs with
  | nil => simp
  | cons z zs ih =>
    have := encInt_len z
    simp only [List.flatMap_cons, List.length_append, List.length_cons]
    omega

theorem room_bytes {n : Nat} {l : List UInt8} (h : n + l.length ≤ 140737488355328) : n + (⟨l.toArray⟩ : ByteArray).size ≤ maxLen ∧ (n + (⟨l.toArray⟩ : ByteArray).size) * 1 ≤ 140737488355328 := by
  have e : (⟨l.toArray⟩ : ByteArray).size = l.length := rfl
  rw [e]
  exact ⟨small_max (by omega), by omega⟩

/-- What a list's loop has collected after k elements. -/
def part {α : Type} (n : Nat) (enc : α → List UInt8) (xs : List α) (k : Nat) : List UInt8 := dec n ++ (91 :: (xs.take k).flatMap enc)
def encList {α : Type} (enc : α → List UInt8) (xs : List α) : List UInt8 := dec xs.length ++ (91 :: (xs.flatMap enc ++ [93]))

theorem part_zero {α : Type} (n : Nat) (enc : α → List UInt8) (xs : List α) : part n enc xs 0 = dec n ++ [91] := by simp [part]
theorem part_succ {α : Type} (n : Nat) (enc : α → List UInt8) (xs : List α) (k : Nat) (h : k < xs.length) : part n enc xs (k + 1) = part n enc xs k ++ enc xs[k] := by
  unfold part
  rw [List.take_succ_eq_append_getElem h, List.flatMap_append]
  simp
theorem part_all {α : Type} (enc : α → List UInt8) (xs : List α) : part xs.length enc xs xs.length ++ [93] = encList enc xs := by
  unfold part encList
  simp
theorem part_len {α : Type} (n : Nat) (enc : α → List UInt8) (xs : List α) (k : Nat) : (part n enc xs k).length ≤ 22 + (xs.flatMap enc).length := by
  have h1 := dec_len n
  have h2 : ((xs.take k).flatMap enc).length ≤ (xs.flatMap enc).length := by
    conv => rhs; rw [← List.take_append_drop k xs, List.flatMap_append, List.length_append]
    omega
  unfold part
  simp only [List.length_append, List.length_cons]
  omega

theorem bytes_append (a b : List UInt8) : byteCells ⟨a.toArray⟩ ++ byteCells ⟨b.toArray⟩ = byteCells ⟨(a ++ b).toArray⟩ := by simp [byteCells]

theorem info_byte : (Try.prog.info? 5).map (fun i => (i.zero, i.size, i.bytes)) = some (some (.int .u8 0), 1, 1) := by kernel_rfl

structure ListRel {α : Type} (W : World) (n : Nat) (enc : α → List UInt8) (xs : List α) (ov iv : Value) (w : World) (k : Nat) : Prop where
  iv : iv = .int .i64 k
  le : k ≤ xs.length
  own : Grow w W.heap.size 1 ov (part n enc xs k).length (byteCells ⟨(part n enc xs k).toArray⟩)
  below : Below W.heap.size W w

theorem one_bracket : ∀ u ∈ [Value.int .u8 93], u.oneCell' = true := by
  intro u hu
  obtain rfl := List.mem_singleton.1 hu
  rfl

theorem bytes_size (l : List UInt8) : (⟨l.toArray⟩ : ByteArray).size = l.length := rfl

theorem ListRel.step {α : Type} {W wr w3 w4 : World} {enc : α → List UInt8} {xs : List α} {ov v4 : Value} {k : Nat} (hlt : k < xs.length)
    (hown : Grow wr W.heap.size 1 ov (part xs.length enc xs k).length (byteCells ⟨(part xs.length enc xs k).toArray⟩)) (hbel : Below W.heap.size W wr) (hb3 : Below wr.heap.size wr w3)
    (hown4 : Grow w4 W.heap.size 1 v4 ((part xs.length enc xs k).length + (⟨(enc xs[k]).toArray⟩ : ByteArray).size) (byteCells ⟨(part xs.length enc xs k).toArray⟩ ++ byteCells ⟨(enc xs[k]).toArray⟩)) (hg4 : w3.grownBy w4 ov.ownBlock) :
    ListRel W xs.length enc xs v4 (.int .i64 ((k : Int) + 1)) w4 (k + 1) := by
  refine ⟨by simp, hlt, ?_, (hbel.trans (hb3.mono hbel.size)).grown hg4 (Nat.le_trans hbel.size hb3.size) fun g hg => (hown.block g hg).1⟩
  rw [part_succ _ _ _ _ hlt, ← bytes_append, List.length_append]
  exact hown4

/-- The last bracket. -/
theorem list_end {α : Type} {W wr w4 : World} {enc : α → List UInt8} {xs : List α} {ov v4 : Value} (hown : Grow wr W.heap.size 1 ov (part xs.length enc xs xs.length).length (byteCells ⟨(part xs.length enc xs xs.length).toArray⟩)) (hbel : Below W.heap.size W wr)
    {o : Obj} (hown4 : Grow w4 W.heap.size 1 v4 ((part xs.length enc xs xs.length).length + 1) (byteCells ⟨(part xs.length enc xs xs.length).toArray⟩ ++ [.int .u8 93])) (hg4 : (wr.alloc o).grownBy w4 ov.ownBlock) :
    Sem.run Try.prog (convert 67 9 v4) w4 = .ok (str (encList enc xs)) w4 ∧ Below W.heap.size W w4 := by
  refine ⟨run_string_own w4 _ _ 5 W.heap.size v4 _ ?_ Try.underlying67 Try.underlying5 Try.underlying9, (hbel.alloc hbel.size _).grown hg4 (Nat.le_trans hbel.size (by simp)) fun g hg => (hown.block g hg).1⟩
  rw [← part_all, ← bytes_append, List.length_append]
  exact hown4

theorem texts_at (ss : List ByteArray) (k : Nat) (h : k < ss.length) : (encText ss[k]).length ≤ (ss.flatMap encText).length ∧ ss[k].size + 3 ≤ (encText ss[k]).length := by
  constructor
  · have : ss = ss.take k ++ ss[k] :: ss.drop (k + 1) := by rw [← List.drop_eq_getElem_cons h, List.take_append_drop]
    conv => rhs; rw [this]
    simp only [List.flatMap_append, List.flatMap_cons, List.length_append]
    omega
  · have := dec_pos ss[k].size
    have e : ss[k].data.toList.length = ss[k].size := by rw [Array.length_toList]; rfl
    unfold encText
    simp only [List.length_append, List.length_cons, e]
    simp
    omega

set_option maxHeartbeats 800000 in
theorem listInt_any (A : Option Addr) (c : Nat) (zs : List Int) (w : World) (hr : Row w w.heap.size A (zs.map (Value.int .i64))) (hz : ∀ z ∈ zs, -9223372036854775808 ≤ z ∧ z ≤ 9223372036854775807)
    (hn : zs.length ≤ 1000000) :
    Calls Try.prog 47 #[.slice A zs.length c, .func (.func 13) #[] #[]] w fun e w' => e = .returned (str (encList encInt zs)) ∧ Below w.heap.size w w' := by
  obtain ⟨i0, hi0, hi1, hi2, hi3⟩ := info_parts info_byte
  have hl := dec_len zs.length
  have HM : Hid (((⟨(dec zs.length).toArray⟩ : ByteArray) ++ ⟨#[91]⟩).size ≤ maxLen) := by
    refine small_max ?_
    rw [show (⟨(dec zs.length).toArray⟩ : ByteArray) ++ ⟨#[91]⟩ = ⟨(dec zs.length ++ [91]).toArray⟩ from cat_bytes _ [91]]
    show (dec zs.length ++ [91]).toArray.size ≤ _
    simp
    omega
  have HR := Lib.hid hr
  have HZ := Lib.hid hz
  clear hr hz
  go_enter Try.func47, Try.ntmps47
  go_wp2_with (first
    | (go_at_call 46; refine (count_any zs.length (by omega) _).mono ?_; rintro e w1 ⟨rfl, hb1⟩)
    | (refine wpList_bytes_own _ rfl (.tmp 11) _ _ rfl 5 _ rfl Try.underlying9 Try.underlying67 Try.underlying5 HM.out ?_; intro v2 w2 hown2 hb2 _))
  have HO : Hid (ListRel w zs.length encInt zs v2 (.int .i64 0) w2 0) := by
    refine ⟨rfl, Nat.zero_le _, ?_, hb1.trans (hb2.mono hb1.size)⟩
    have h := hown2.lower hb1.size
    rw [part_zero]
    rw [show (⟨(dec zs.length).toArray⟩ : ByteArray) ++ ⟨#[91]⟩ = ⟨(dec zs.length ++ [91]).toArray⟩ from cat_bytes _ [91]] at h
    exact h
  clear hown2 hb1 hb2
  go_loopw [5, 15] (fun ov iv wr => ∃ k, ListRel w zs.length encInt zs ov iv wr k) (fun _ iv _ => zs.length - (intOf iv).toNat)
  case atStart => exact ⟨0, HO.out⟩
  case round =>
    obtain ⟨k, ⟨rfl, hk, hown, hbel⟩⟩ := hrel
    by_cases hlt : k < zs.length
    · obtain ⟨b, o, rfl, had, hcell⟩ := HR.out k (.int .i64 zs[k]) (by rw [List.getElem?_map, List.getElem?_eq_getElem hlt]; rfl)
      have hcell2 : wr.cell? ⟨b, o + k, none⟩ = some (.int .i64 zs[k]) := (hbel.cell (p := ⟨b, o + k, none⟩) had).trans hcell
      have hz1 := (HZ.out zs[k] (List.getElem_mem hlt)).1
      have hz2 := (HZ.out zs[k] (List.getElem_mem hlt)).2
      have HB : Hid ((part zs.length encInt zs k).length + (⟨(encInt zs[k]).toArray⟩ : ByteArray).size ≤ maxLen ∧ ((part zs.length encInt zs k).length + (⟨(encInt zs[k]).toArray⟩ : ByteArray).size) * 1 ≤ 140737488355328) := by
        have hpl := part_len zs.length encInt zs k
        have hil := ints_len zs
        have hel := encInt_len zs[k]
        exact room_bytes (by omega)
      go_wp2_with (first
        | (go_at_call 13; refine (int_any _ hz1 hz2 _).mono ?_; rintro e w3 ⟨rfl, hb3⟩)
        | (at_builtin; refine wpList_append_src _ rfl (.tmp 19) (.tmp 22) _ _ rfl w.heap.size 5 i0 _ 1 1 Try.underlying67 hi0 hi1 hi2 hi3 rfl (by omega) _ _ _ rfl (hown.below hb3) _ _ _ rfl (Src.ofString _ Try.underlying9 _) HB.out.1 HB.out.2 (Nat.le_trans hbel.size hb3.size) ?_; intro v4 w4 hown4 hg4 _))
      have HS := Lib.hid (ListRel.step hlt hown hbel hb3 hown4 hg4)
      go_roundw
      case rel => exact ⟨k + 1, HS.out⟩
      case measure => simp [intOf]; omega
    · obtain rfl : zs.length = k := by omega
      have HB : Hid ((part zs.length encInt zs zs.length).length + 1 ≤ maxLen ∧ ((part zs.length encInt zs zs.length).length + 1) * 1 ≤ 140737488355328) := by
        have hpl := part_len zs.length encInt zs zs.length
        have hil := ints_len zs
        exact room_bytes (l := [93]) (by simp; omega)
      go_wp2_with (at_builtin; refine wpList_append_src _ rfl (.tmp 25) (.tmp 26) _ _ rfl w.heap.size 5 i0 _ 1 1 Try.underlying67 hi0 hi1 hi2 hi3 rfl (by omega) _ _ _ rfl (hown.alloc _) _ 1 [.int .u8 93] rfl (Src.ofSlice _ Try.underlying67 ⟨wr.heap.size, 0, none⟩ 1 1 [.int .u8 93] rfl (cell_one_new _ _ _) one_bracket) HB.out.1 HB.out.2 (Nat.le_trans hbel.size (by simp)) ?_; intro v4 w4 hown4 hg4 _; have hend := list_end hown hbel hown4 hg4; have hrun := hend.1; have HE := Lib.hid hend.2; clear hend)
      go_ret
      exact ⟨rfl, HE.out⟩
set_option maxHeartbeats 800000 in
theorem listText_any (A : Option Addr) (c : Nat) (zs : List ByteArray) (w : World) (hr : Row w w.heap.size A (zs.map Value.string)) (hz : (zs.flatMap encText).length ≤ 1099511627776)
    (hn : zs.length ≤ 1099511627776) :
    Calls Try.prog 48 #[.slice A zs.length c, .func (.func 15) #[] #[]] w fun e w' => e = .returned (str (encList encText zs)) ∧ Below w.heap.size w w' := by
  obtain ⟨i0, hi0, hi1, hi2, hi3⟩ := info_parts info_byte
  have hl := dec_len zs.length
  have HM : Hid (((⟨(dec zs.length).toArray⟩ : ByteArray) ++ ⟨#[91]⟩).size ≤ maxLen) := by
    refine small_max ?_
    rw [show (⟨(dec zs.length).toArray⟩ : ByteArray) ++ ⟨#[91]⟩ = ⟨(dec zs.length ++ [91]).toArray⟩ from cat_bytes _ [91]]
    show (dec zs.length ++ [91]).toArray.size ≤ _
    simp
    omega
  have HR := Lib.hid hr
  have HZ := Lib.hid hz
  clear hr hz
  go_enter Try.func48, Try.ntmps48
  go_wp2_with (first
    | (go_at_call 46; refine (count_any zs.length (by omega) _).mono ?_; rintro e w1 ⟨rfl, hb1⟩)
    | (refine wpList_bytes_own _ rfl (.tmp 11) _ _ rfl 5 _ rfl Try.underlying9 Try.underlying67 Try.underlying5 HM.out ?_; intro v2 w2 hown2 hb2 _))
  have HO : Hid (ListRel w zs.length encText zs v2 (.int .i64 0) w2 0) := by
    refine ⟨rfl, Nat.zero_le _, ?_, hb1.trans (hb2.mono hb1.size)⟩
    have h := hown2.lower hb1.size
    rw [part_zero]
    rw [show (⟨(dec zs.length).toArray⟩ : ByteArray) ++ ⟨#[91]⟩ = ⟨(dec zs.length ++ [91]).toArray⟩ from cat_bytes _ [91]] at h
    exact h
  clear hown2 hb1 hb2
  go_loopw [5, 15] (fun ov iv wr => ∃ k, ListRel w zs.length encText zs ov iv wr k) (fun _ iv _ => zs.length - (intOf iv).toNat)
  case atStart => exact ⟨0, HO.out⟩
  case round =>
    obtain ⟨k, ⟨rfl, hk, hown, hbel⟩⟩ := hrel
    by_cases hlt : k < zs.length
    · obtain ⟨b, o, rfl, had, hcell⟩ := HR.out k (.string zs[k]) (by rw [List.getElem?_map, List.getElem?_eq_getElem hlt]; rfl)
      have hcell2 : wr.cell? ⟨b, o + k, none⟩ = some (.string zs[k]) := (hbel.cell (p := ⟨b, o + k, none⟩) had).trans hcell
      have hz1 : zs[k].size ≤ 281474976710656 := by
        have := texts_at zs k hlt
        have := HZ.out
        omega
      have HB : Hid ((part zs.length encText zs k).length + (⟨(encText zs[k]).toArray⟩ : ByteArray).size ≤ maxLen ∧ ((part zs.length encText zs k).length + (⟨(encText zs[k]).toArray⟩ : ByteArray).size) * 1 ≤ 140737488355328) := by
        have hpl := part_len zs.length encText zs k
        have hil := HZ.out
        have hel := texts_at zs k hlt
        exact room_bytes (by omega)
      go_wp2_with (first
        | (go_at_call 15; refine (text_any _ hz1 _).mono ?_; rintro e w3 ⟨rfl, hb3⟩)
        | (at_builtin; refine wpList_append_src _ rfl (.tmp 19) (.tmp 22) _ _ rfl w.heap.size 5 i0 _ 1 1 Try.underlying67 hi0 hi1 hi2 hi3 rfl (by omega) _ _ _ rfl (hown.below hb3) _ _ _ rfl (Src.ofString _ Try.underlying9 _) HB.out.1 HB.out.2 (Nat.le_trans hbel.size hb3.size) ?_; intro v4 w4 hown4 hg4 _))
      have HS := Lib.hid (ListRel.step hlt hown hbel hb3 hown4 hg4)
      go_roundw
      case rel => exact ⟨k + 1, HS.out⟩
      case measure => simp [intOf]; omega
    · obtain rfl : zs.length = k := by omega
      have HB : Hid ((part zs.length encText zs zs.length).length + 1 ≤ maxLen ∧ ((part zs.length encText zs zs.length).length + 1) * 1 ≤ 140737488355328) := by
        have hpl := part_len zs.length encText zs zs.length
        have hil := HZ.out
        exact room_bytes (l := [93]) (by simp; omega)
      go_wp2_with (at_builtin; refine wpList_append_src _ rfl (.tmp 25) (.tmp 26) _ _ rfl w.heap.size 5 i0 _ 1 1 Try.underlying67 hi0 hi1 hi2 hi3 rfl (by omega) _ _ _ rfl (hown.alloc _) _ 1 [.int .u8 93] rfl (Src.ofSlice _ Try.underlying67 ⟨wr.heap.size, 0, none⟩ 1 1 [.int .u8 93] rfl (cell_one_new _ _ _) one_bracket) HB.out.1 HB.out.2 (Nat.le_trans hbel.size (by simp)) ?_; intro v4 w4 hown4 hg4 _; have hend := list_end hown hbel hown4 hg4; have hrun := hend.1; have HE := Lib.hid hend.2; clear hend)
      go_ret
      exact ⟨rfl, HE.out⟩

set_option maxHeartbeats 400000 in
theorem nums_any (A : Option Addr) (c : Nat) (zs : List Int) (w : World) (hr : Row w w.heap.size A (zs.map (Value.int .i64))) (hz : ∀ z ∈ zs, -9223372036854775808 ≤ z ∧ z ≤ 9223372036854775807)
    (hn : zs.length ≤ 1000000) :
    Calls Try.prog 17 #[.slice A zs.length c] w fun e w' => e = .returned (str (encList encInt zs)) ∧ Below w.heap.size w w' := by
  have H := Lib.hid (listInt_any A c zs w hr hz hn)
  clear hr hz
  go_enter Try.func17, Try.ntmps17
  go_wp2_with (go_at_call 47; refine H.out.mono ?_; rintro e w1 ⟨rfl, hb1⟩)
  go_ret
  exact ⟨rfl, hb1⟩

set_option maxHeartbeats 400000 in
theorem texts_any (A : Option Addr) (c : Nat) (zs : List ByteArray) (w : World) (hr : Row w w.heap.size A (zs.map Value.string)) (hz : (zs.flatMap encText).length ≤ 1099511627776)
    (hn : zs.length ≤ 1099511627776) :
    Calls Try.prog 19 #[.slice A zs.length c] w fun e w' => e = .returned (str (encList encText zs)) ∧ Below w.heap.size w w' := by
  have H := Lib.hid (listText_any A c zs w hr hz hn)
  clear hr hz
  go_enter Try.func19, Try.ntmps19
  go_wp2_with (go_at_call 48; refine H.out.mono ?_; rintro e w1 ⟨rfl, hb1⟩)
  go_ret
  exact ⟨rfl, hb1⟩

structure RefRel {α : Type} (W : World) (n : Nat) (enc : α → List UInt8) (xs : List α) (sv iv : Value) (w : World) (k : Nat) : Prop where
  iv : iv = .int .i64 k
  le : k ≤ xs.length
  sv : sv = str (part n enc xs k)
  below : Below W.heap.size W w

set_option maxHeartbeats 800000 in
theorem refNums_any (A : Option Addr) (c : Nat) (zs : List Int) (w : World) (hr : Row w w.heap.size A (zs.map (Value.int .i64))) (hz : ∀ z ∈ zs, -9223372036854775808 ≤ z ∧ z ≤ 9223372036854775807)
    (hn : zs.length ≤ 1000000) :
    Calls Try.prog 18 #[.slice A zs.length c] w fun e w' => e = .returned (str (encList encInt zs)) ∧ Below w.heap.size w w' := by
  have hl := dec_len zs.length
  have HR := Lib.hid hr
  have HZ := Lib.hid hz
  clear hr hz
  go_enter Try.func18, Try.ntmps18
  go_wp2_with (go_at_call 45; refine (refDigits zs.length _ (by omega)).mono ?_; rintro e w1 ⟨rfl, hb1⟩)
  have HB1 := Lib.hid hb1
  clear hb1
  go_loopw [3, 4] (fun sv iv wr => ∃ k, RefRel w zs.length encInt zs sv iv wr k) (fun _ iv _ => zs.length - (intOf iv).toNat)
  case atStart => exact ⟨0, rfl, Nat.zero_le _, by rw [part_zero]; exact congrArg Value.string (cat_bytes _ [91]), HB1.out⟩
  case round =>
    obtain ⟨k, ⟨rfl, hk, rfl, hbel⟩⟩ := hrel
    by_cases hlt : k < zs.length
    · obtain ⟨b, o, rfl, had, hcell⟩ := HR.out k (.int .i64 zs[k]) (by rw [List.getElem?_map, List.getElem?_eq_getElem hlt]; rfl)
      have hcell2 : wr.cell? ⟨b, o + k, none⟩ = some (.int .i64 zs[k]) := (hbel.cell (p := ⟨b, o + k, none⟩) had).trans hcell
      have hz1 := (HZ.out zs[k] (List.getElem_mem hlt)).1
      have hz2 := (HZ.out zs[k] (List.getElem_mem hlt)).2
      have hpl : (part zs.length encInt zs k).length ≤ 100000000 := by
        have hpl := part_len zs.length encInt zs k
        have hil := ints_len zs
        omega
      have hel : (encInt zs[k]).length ≤ 23 := encInt_len zs[k]
      go_wp2_with (go_at_call 14; refine (refInt_any _ hz1 hz2 _).mono ?_; rintro e w3 ⟨rfl, hb3⟩)
      go_roundw
      case rel => exact ⟨k + 1, by go_num, hlt, by rw [part_succ _ _ _ _ hlt]; exact congrArg Value.string (cat_bytes _ _), hbel.trans (hb3.mono hbel.size)⟩
      case measure => simp [intOf]; omega
    · obtain rfl : zs.length = k := by omega
      have hpl : (part zs.length encInt zs zs.length).length ≤ 100000000 := by
        have hpl := part_len zs.length encInt zs zs.length
        have hil := ints_len zs
        omega
      go_wp2
      go_ret
      exact ⟨by rw [← part_all]; exact congrArg (fun s => Ending.returned (.string s)) (cat_bytes _ [93]), hbel⟩

set_option maxHeartbeats 800000 in
theorem refTexts_any (A : Option Addr) (c : Nat) (zs : List ByteArray) (w : World) (hr : Row w w.heap.size A (zs.map Value.string)) (hz : (zs.flatMap encText).length ≤ 1099511627776)
    (hn : zs.length ≤ 1099511627776) :
    Calls Try.prog 20 #[.slice A zs.length c] w fun e w' => e = .returned (str (encList encText zs)) ∧ Below w.heap.size w w' := by
  have hl := dec_len zs.length
  have HR := Lib.hid hr
  have HZ := Lib.hid hz
  clear hr hz
  go_enter Try.func20, Try.ntmps20
  go_wp2_with (go_at_call 45; refine (refDigits zs.length _ (by omega)).mono ?_; rintro e w1 ⟨rfl, hb1⟩)
  have HB1 := Lib.hid hb1
  clear hb1
  go_loopw [3, 4] (fun sv iv wr => ∃ k, RefRel w zs.length encText zs sv iv wr k) (fun _ iv _ => zs.length - (intOf iv).toNat)
  case atStart => exact ⟨0, rfl, Nat.zero_le _, by rw [part_zero]; exact congrArg Value.string (cat_bytes _ [91]), HB1.out⟩
  case round =>
    obtain ⟨k, ⟨rfl, hk, rfl, hbel⟩⟩ := hrel
    by_cases hlt : k < zs.length
    · obtain ⟨b, o, rfl, had, hcell⟩ := HR.out k (.string zs[k]) (by rw [List.getElem?_map, List.getElem?_eq_getElem hlt]; rfl)
      have hcell2 : wr.cell? ⟨b, o + k, none⟩ = some (.string zs[k]) := (hbel.cell (p := ⟨b, o + k, none⟩) had).trans hcell
      have hta := texts_at zs k hlt
      have hz1 : zs[k].size ≤ 1099511627776 := by
        have := HZ.out
        omega
      have hpl : (part zs.length encText zs k).length ≤ 1099511628776 := by
        have hpl := part_len zs.length encText zs k
        have hil := HZ.out
        omega
      have hel : (encText zs[k]).length ≤ 1099511627776 := by
        have hil := HZ.out
        omega
      clear hta
      go_wp2_with (go_at_call 16; refine (refText_any _ (by omega) _).mono ?_; rintro e w3 ⟨he, hb3⟩; replace he : e = .returned (str (encText zs[k])) := he; subst he)
      go_roundw
      case rel => exact ⟨k + 1, by go_num, hlt, by rw [part_succ _ _ _ _ hlt]; exact congrArg Value.string (cat_bytes _ _), hbel.trans (hb3.mono hbel.size)⟩
      case measure => simp [intOf]; omega
    · obtain rfl : zs.length = k := by omega
      have hpl : (part zs.length encText zs zs.length).length ≤ 1099511628776 := by
        have hpl := part_len zs.length encText zs zs.length
        have hil := HZ.out
        omega
      go_wp2
      go_ret
      exact ⟨by rw [← part_all]; exact congrArg (fun s => Ending.returned (.string s)) (cat_bytes _ [93]), hbel⟩
end Wire
end Go.Proofs.Ytionidjhfcmgiaa

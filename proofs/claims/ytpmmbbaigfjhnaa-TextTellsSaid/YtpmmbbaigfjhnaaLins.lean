import Derived.Test.YtpmmbbaigfjhnaaBase
import Derived.Test.YtpmmbbaigfjhnaaLin
namespace Go.Proofs.Ytpmmbbaigfjhnaa
open Go.RowKit Wire
set_option linter.unusedVariables false
set_option linter.unusedSimpArgs false
namespace Txt

/-- A list of strings that a call has made. -/
def Strs (w : World) (B : Nat) (v : Value) (t : List (List UInt8)) : Prop := Grow w B 1 v t.length (t.map str)

theorem room16 {n m : Nat} (h : n + m ≤ 1099511627776) : n + m ≤ maxLen ∧ (n + m) * 16 ≤ 140737488355328 := ⟨small_max (by omega), by omega⟩

theorem cut_str (s : ByteArray) (b k : Nat) : Value.string (s.extract b k) = str (((bl s).take k).drop b) := by
  obtain ⟨⟨l⟩⟩ := s
  rw [show (⟨⟨l⟩⟩ : ByteArray) = ⟨l.toArray⟩ from rfl, bytes_extract]

structure LinRel (f : List UInt8 → List UInt8 → List (List UInt8)) (W : World) (s : ByteArray) (ov bv iv : Value) (w : World) (t : List (List UInt8)) (b k : Nat) : Prop where
  bv : bv = .int .i64 b
  iv : iv = .int .i64 k
  le : k ≤ s.size
  bk : b ≤ k
  count : t.length ≤ k
  told : f [] (bl s) = t ++ f (((bl s).take k).drop b) ((bl s).drop k)
  own : Strs w W.heap.size ov t
  below : Below W.heap.size W w

theorem cur_snoc {s : ByteArray} {b k : Nat} (hb : b ≤ k) (hk : k < s.size) : ((bl s).take (k + 1)).drop b = ((bl s).take k).drop b ++ [s[k]] := by
  rw [take_at hk, List.drop_append_of_le_length (by rw [List.length_take, bl_len]; omega)]
theorem cur_none (s : ByteArray) (k : Nat) : ((bl s).take k).drop k = [] := List.drop_eq_nil_of_le (by rw [List.length_take]; omega)
theorem cur_empty {s : ByteArray} {b k : Nat} (hb : b ≤ k) (hk : k ≤ s.size) : ((bl s).take k).drop b = [] ↔ b = k := by
  rw [List.drop_eq_nil_iff, List.length_take, bl_len]
  omega

/-- One more string. -/
theorem Strs.more {W wr w4 : World} {ov v4 : Value} {t : List (List UInt8)} {x : List UInt8} (hown : Strs wr W.heap.size ov t) (hbel : Below W.heap.size W wr) {o : Obj}
    (hown4 : Grow w4 W.heap.size 1 v4 (t.length + 1) (t.map str ++ [str x])) (hg4 : (wr.alloc o).grownBy w4 ov.ownBlock) : Strs w4 W.heap.size v4 (t ++ [x]) ∧ Below W.heap.size W w4 := by
  refine ⟨?_, (hbel.alloc hbel.size _).grown hg4 (Nat.le_trans hbel.size (by simp)) fun g hg => (hown.block g hg).1⟩
  unfold Strs
  rw [List.map_append, List.length_append]
  exact hown4

theorem lin_lf {s : ByteArray} {b k : Nat} {t : List (List UInt8)} (hb : b ≤ k) (hk : k < s.size) (hc : s[k] = 10) (h : linA [] (bl s) = t ++ linA (((bl s).take k).drop b) ((bl s).drop k)) :
    linA [] (bl s) = (t ++ [((bl s).take k).drop b]) ++ linA (((bl s).take (k + 1)).drop (k + 1)) ((bl s).drop (k + 1)) := by
  rw [h, drop_at hk, hc, cur_none, linA, if_pos rfl, List.append_assoc]
  rfl
theorem lin_no {s : ByteArray} {b k : Nat} {t : List (List UInt8)} (hb : b ≤ k) (hk : k < s.size) (hc : s[k] ≠ 10) (h : linA [] (bl s) = t ++ linA (((bl s).take k).drop b) ((bl s).drop k)) :
    linA [] (bl s) = t ++ linA (((bl s).take (k + 1)).drop b) ((bl s).drop (k + 1)) := by
  rw [h, drop_at hk, cur_snoc hb hk, linA, if_neg hc]

def StrsPost (W : World) (t : List (List UInt8)) (e : Ending) (w' : World) : Prop := ∃ v, e = .returned v ∧ Strs w' W.heap.size v t ∧ Below W.heap.size W w'

theorem one_str (x : List UInt8) : ∀ u ∈ [str x], u.oneCell' = true := by
  intro u hu
  obtain rfl := List.mem_singleton.1 hu
  rfl

set_option maxHeartbeats 400000 in
theorem lines_any (s : ByteArray) (hs : s.size ≤ 1000000000) (w : World) :
    Calls Try.prog 18 #[.string s] w (StrsPost w (lines (bl s))) := by
  obtain ⟨i0, hi0, hi1, hi2, hi3⟩ := info_parts info_str
  go_enter Try.func18, Try.ntmps18
  go_wp2_with fail
  go_loopw [3, 4, 8] (fun ov bv iv wr => ∃ t b k, LinRel linA w s ov bv iv wr t b k) (fun _ _ iv _ => s.size - (intOf iv).toNat)
  case atStart => exact ⟨[], 0, 0, rfl, rfl, Nat.zero_le _, Nat.le_refl _, Nat.le_refl _, rfl, Grow.nil _ _ _, Below.refl _ _⟩
  case round =>
    obtain ⟨t, b, k, ⟨rfl, rfl, hk, hbk, hcount, htold, hown, hbel⟩⟩ := hrel
    have HT := Lib.hid htold
    have HO := Lib.hid hown
    clear htold
    by_cases hlt : k < s.size
    · by_cases hc : s[k] = 10
      · have ht : ((s[k].toNat : Int) == 10) = true := byte_eq (k := 10) (by omega) hc
        have HN := Lib.hid (lin_lf hbk hlt hc HT.out)
        have HX := Lib.hid (cut_str s b k)
        have HB := Lib.hid (room16 (n := t.length) (m := 1) (by omega))
        clear hc
        go_wp2_with (at_builtin; rw [HX.out]; refine wpList_append_src _ rfl (.tmp 15) (.tmp 20) _ _ rfl w.heap.size 9 i0 _ 1 16 Try.underlying22 hi0 hi1 hi2 hi3 rfl (by omega) _ _ _ rfl (Grow.alloc hown _) _ 1 [str (((bl s).take k).drop b)] rfl (Src.ofSlice _ Try.underlying22 ⟨wr.heap.size, 0, none⟩ 1 1 [str (((bl s).take k).drop b)] rfl (new_cells wr _ [str (((bl s).take k).drop b)]) (one_str _)) HB.out.1 HB.out.2 (Nat.le_trans hbel.size (by simp)) ?_; intro v4 w4 hown4 hg4 _; have HM := Lib.hid (Strs.more HO.out hbel hown4 hg4); clear hown4 hg4)
        go_roundw
        case rel => exact ⟨_, k + 1, k + 1, ⟨by simp, by simp, hlt, Nat.le_refl _, by simp; omega, HN.out, HM.out.1, HM.out.2⟩⟩
        case measure => simp [intOf]; omega
      · have ht : ((s[k].toNat : Int) == 10) = false := byte_ne (k := 10) (by omega) hc
        have HN := Lib.hid (lin_no hbk hlt hc HT.out)
        clear hc hown
        go_wp2_with fail
        go_roundw
        case rel => exact ⟨t, b, k + 1, ⟨rfl, by simp, hlt, by omega, by omega, HN.out, HO.out, hbel⟩⟩
        case measure => simp [intOf]; omega
    · obtain rfl : s.size = k := by omega
      have hend := HT.out
      rw [drop_end (Nat.le_refl _)] at hend
      by_cases hb : b < s.size
      · have HN : Hid (lines (bl s) = t ++ [((bl s).take s.size).drop b]) := by
          show _ = _
          unfold lines
          rw [hend, linA, if_neg (fun e => by rw [cur_empty hbk (Nat.le_refl _)] at e; omega)]
        have HX := Lib.hid (cut_str s b s.size)
        have HB := Lib.hid (room16 (n := t.length) (m := 1) (by omega))
        clear hend
        go_wp2_with (at_builtin; rw [HX.out]; refine wpList_append_src _ rfl (.tmp 29) (.tmp 33) _ _ rfl w.heap.size 9 i0 _ 1 16 Try.underlying22 hi0 hi1 hi2 hi3 rfl (by omega) _ _ _ rfl (Grow.alloc hown _) _ 1 [str (((bl s).take s.size).drop b)] rfl (Src.ofSlice _ Try.underlying22 ⟨wr.heap.size, 0, none⟩ 1 1 [str (((bl s).take s.size).drop b)] rfl (new_cells wr _ [str (((bl s).take s.size).drop b)]) (one_str _)) HB.out.1 HB.out.2 (Nat.le_trans hbel.size (by simp)) ?_; intro v4 w4 hown4 hg4 _; have HM := Lib.hid (Strs.more HO.out hbel hown4 hg4); clear hown4 hg4)
        go_ret
        exact ⟨_, rfl, by rw [HN.out]; exact HM.out.1, HM.out.2⟩
      · have HN : Hid (lines (bl s) = t) := by
          show _ = _
          unfold lines
          rw [hend, linA, if_pos ((cur_empty hbk (Nat.le_refl _)).2 (by omega)), List.append_nil]
        clear hend hown
        go_wp2_with fail
        go_ret
        exact ⟨_, rfl, by rw [HN.out]; exact HO.out, hbel⟩
end Txt
end Go.Proofs.Ytpmmbbaigfjhnaa

import Derived.Test.YtpmmbbaigfjhnaaLins
namespace Go.Proofs.Ytpmmbbaigfjhnaa
open Go.RowKit Wire
set_option linter.unusedVariables false
set_option linter.unusedSimpArgs false
namespace Txt

theorem byte_beq (c d : UInt8) : (c == d) = ((c.toNat : Int) == (d.toNat : Int)) := by
  rw [Bool.eq_iff_iff, beq_iff_eq, beq_iff_eq]
  exact ⟨fun h => by rw [h], fun h => UInt8.toNat_inj.1 (by omega)⟩
theorem white_int (c : UInt8) : white c = (((c.toNat : Int) == 32) || ((c.toNat : Int) == 9) || ((c.toNat : Int) == 10)) := by
  unfold white
  rw [byte_beq, byte_beq, byte_beq]
  rfl

set_option maxHeartbeats 400000 in
theorem white_any (s : ByteArray) (k : Nat) (hk : k < s.size) (g : Nat) (w : World) (hc : w.cell? ⟨g, 0, none⟩ = some (.string s)) :
    Calls Try.prog 35 #[.int .i64 k, .pointer (some ⟨g, 0, none⟩)] w fun e w' => e = .returned (.bool (white s[k])) ∧ w = w' := by
  have HW := Lib.hid (white_int s[k])
  go_enter Try.func35, Try.ntmps35
  go_wp2_with fail
  all_goals
    go_ret
    exact ⟨by rw [HW.out]; simp [*], rfl⟩

structure FldRel (W : World) (s : ByteArray) (ov bv iv : Value) (w : World) (t : List (List UInt8)) (b k : Nat) : Prop where
  bv : bv = .int .i64 b
  iv : iv = .int .i64 k
  le : k ≤ s.size + 1
  bk : k ≤ s.size → b ≤ k
  count : t.length ≤ k
  told : (k ≤ s.size ∧ fields (bl s) = t ++ fldA (((bl s).take k).drop b) ((bl s).drop k)) ∨ (k = s.size + 1 ∧ fields (bl s) = t)
  own : Strs w (W.heap.size + 1) ov t
  below : Below (W.heap.size + 1) (W.alloc (.cells #[.string s] 9)) w

theorem FldRel.told1 {W : World} {s : ByteArray} {ov bv iv : Value} {w : World} {t : List (List UInt8)} {b k : Nat} (h : FldRel W s ov bv iv w t b k) (hk : k ≤ s.size) : fields (bl s) = t ++ fldA (((bl s).take k).drop b) ((bl s).drop k) := by
  rcases h.told with h1 | h1
  · exact h1.2
  · omega

theorem fld_no {s : ByteArray} {b k : Nat} {t : List (List UInt8)} (hb : b ≤ k) (hk : k < s.size) (hc : white s[k] = false) (h : fields (bl s) = t ++ fldA (((bl s).take k).drop b) ((bl s).drop k)) :
    fields (bl s) = t ++ fldA (((bl s).take (k + 1)).drop b) ((bl s).drop (k + 1)) := by
  rw [h, drop_at hk, cur_snoc hb hk, fldA, if_neg (by rw [hc]; simp)]
theorem fld_cut {s : ByteArray} {b k : Nat} {t : List (List UInt8)} (hb : b < k) (hk : k < s.size) (hc : white s[k] = true) (h : fields (bl s) = t ++ fldA (((bl s).take k).drop b) ((bl s).drop k)) :
    fields (bl s) = (t ++ [((bl s).take k).drop b]) ++ fldA (((bl s).take (k + 1)).drop (k + 1)) ((bl s).drop (k + 1)) := by
  rw [h, drop_at hk, fldA, if_pos hc, if_neg (fun e => by rw [cur_empty (by omega) (by omega)] at e; omega), cur_none, List.append_assoc]
  rfl
theorem fld_skip {s : ByteArray} {k : Nat} {t : List (List UInt8)} (hk : k < s.size) (hc : white s[k] = true) (h : fields (bl s) = t ++ fldA (((bl s).take k).drop k) ((bl s).drop k)) :
    fields (bl s) = t ++ fldA (((bl s).take (k + 1)).drop (k + 1)) ((bl s).drop (k + 1)) := by
  rw [h, drop_at hk, cur_none, fldA, if_pos hc, if_pos rfl, cur_none]
theorem fld_last {s : ByteArray} {b : Nat} {t : List (List UInt8)} (hb : b < s.size) (h : fields (bl s) = t ++ fldA (((bl s).take s.size).drop b) ((bl s).drop s.size)) :
    fields (bl s) = t ++ [((bl s).take s.size).drop b] := by
  rw [h, drop_end (Nat.le_refl _), fldA, if_neg (fun e => by rw [cur_empty (by omega) (Nat.le_refl _)] at e; omega)]
theorem fld_end {s : ByteArray} {t : List (List UInt8)} (h : fields (bl s) = t ++ fldA (((bl s).take s.size).drop s.size) ((bl s).drop s.size)) : fields (bl s) = t := by
  rw [h, drop_end (Nat.le_refl _), cur_none, fldA, if_pos rfl, List.append_nil]

theorem Strs.more1 {W0 wr w4 : World} {B : Nat} {ov v4 : Value} {t : List (List UInt8)} {x : List UInt8} (hown : Strs wr B ov t) (hbel : Below B W0 wr) (hB : B ≤ wr.heap.size) {o : Obj}
    (hown4 : Grow w4 B 1 v4 (t.length + 1) (t.map str ++ [str x])) (hg4 : (wr.alloc o).grownBy w4 ov.ownBlock) : Strs w4 B v4 (t ++ [x]) ∧ Below B W0 w4 := by
  refine ⟨?_, (hbel.alloc hB _).grown hg4 (Nat.le_trans hB (by simp)) fun g hg => (hown.block g hg).1⟩
  unfold Strs
  rw [List.map_append, List.length_append]
  exact hown4

set_option maxHeartbeats 1000000 in
theorem fields_any (s : ByteArray) (hs : s.size ≤ 1000000000) (w : World) :
    Calls Try.prog 22 #[.string s] w (StrsPost w (fields (bl s))) := by
  obtain ⟨i0, hi0, hi1, hi2, hi3⟩ := info_parts info_str
  go_enter Try.func22, Try.ntmps22
  go_wp2_with fail
  go_loopw [4, 5, 11] (fun ov bv iv wr => ∃ t b k, FldRel w s ov bv iv wr t b k) (fun _ _ iv _ => s.size + 1 - (intOf iv).toNat)
  case atStart => exact ⟨[], 0, 0, rfl, rfl, by omega, fun _ => Nat.le_refl _, Nat.le_refl _, .inl ⟨Nat.zero_le _, rfl⟩, Grow.nil _ _ _, Below.refl _ _⟩
  case round =>
    obtain ⟨t, b, k, hrl⟩ := hrel
    have HR := Lib.hid hrl
    obtain ⟨rfl, rfl, hk, hbk, hcount, htold, hown, hbel⟩ := hrl
    have HO := Lib.hid hown
    have hcell : wr.cell? ⟨w.heap.size, 0, none⟩ = some (.string s) := (hbel.cell (p := ⟨w.heap.size, 0, none⟩) (by simp)).trans ((Blk.fresh w _ #[.string s]).at 0)
    have hz : w.heap.size + 1 ≤ wr.heap.size := by have := hbel.size; simpa using this
    clear htold hown
    by_cases hlt : k < s.size
    · have HT := Lib.hid (HR.out.told1 (by omega))
      have hb := hbk (by omega)
      cases hc : white s[k] with
      | false =>
        have HN := Lib.hid (fld_no hb hlt hc HT.out)
        have HW := Lib.hid (white_any s k hlt w.heap.size wr hcell)
        rw [hc] at HW
        clear hc
        go_wp2_with (go_at_call 35; refine HW.out.mono ?_; rintro e w3 ⟨rfl, rfl⟩)
        go_roundw
        case rel => exact ⟨t, b, k + 1, ⟨rfl, by simp, by omega, fun _ => by omega, by omega, .inl ⟨hlt, HN.out⟩, HO.out, hbel⟩⟩
        case measure => simp [intOf]; omega
      | true =>
        have HW := Lib.hid (white_any s k hlt w.heap.size wr hcell)
        rw [hc] at HW
        by_cases hbk2 : b < k
        · have HN := Lib.hid (fld_cut hbk2 hlt hc HT.out)
          have HX := Lib.hid (cut_str s b k)
          have HB := Lib.hid (room16 (n := t.length) (m := 1) (by omega))
          clear hc
          go_wp2_with (first
            | (go_at_call 35; refine HW.out.mono ?_; rintro e w3 ⟨rfl, rfl⟩)
            | (at_builtin; rw [HX.out]; refine wpList_append_src _ rfl (.tmp 27) (.tmp 32) _ _ rfl (w.heap.size + 1) 9 i0 _ 1 16 Try.underlying22 hi0 hi1 hi2 hi3 rfl (by omega) _ _ _ rfl (Grow.alloc HO.out _) _ 1 [str (((bl s).take k).drop b)] rfl (Src.ofSlice _ Try.underlying22 ⟨wr.heap.size, 0, none⟩ 1 1 [str (((bl s).take k).drop b)] rfl (new_cells wr _ [str (((bl s).take k).drop b)]) (one_str _)) HB.out.1 HB.out.2 (Nat.le_trans hz (by simp)) ?_; intro v4 w4 hown4 hg4 _; have HM := Lib.hid (Strs.more1 HO.out hbel hz hown4 hg4); clear hown4 hg4))
          go_roundw
          case rel => exact ⟨_, k + 1, k + 1, ⟨by simp, by simp, by omega, fun _ => Nat.le_refl _, by simp; omega, .inl ⟨hlt, HN.out⟩, HM.out.1, HM.out.2⟩⟩
          case measure => simp [intOf]; omega
        · obtain rfl : b = k := by omega
          have HN := Lib.hid (fld_skip hlt hc HT.out)
          clear hc
          go_wp2_with (go_at_call 35; refine HW.out.mono ?_; rintro e w3 ⟨rfl, rfl⟩)
          go_roundw
          case rel => exact ⟨t, b + 1, b + 1, ⟨by simp, by simp, by omega, fun _ => Nat.le_refl _, by omega, .inl ⟨hlt, HN.out⟩, HO.out, hbel⟩⟩
          case measure => simp [intOf]; omega
    · by_cases hke : k = s.size
      · subst hke
        have HT := Lib.hid (HR.out.told1 (Nat.le_refl _))
        have hb := hbk (Nat.le_refl _)
        by_cases hbk2 : b < s.size
        · have HN := Lib.hid (fld_last hbk2 HT.out)
          have HX := Lib.hid (cut_str s b s.size)
          have HB := Lib.hid (room16 (n := t.length) (m := 1) (by omega))
          go_wp2_with (at_builtin; rw [HX.out]; refine wpList_append_src _ rfl (.tmp 27) (.tmp 32) _ _ rfl (w.heap.size + 1) 9 i0 _ 1 16 Try.underlying22 hi0 hi1 hi2 hi3 rfl (by omega) _ _ _ rfl (Grow.alloc HO.out _) _ 1 [str (((bl s).take s.size).drop b)] rfl (Src.ofSlice _ Try.underlying22 ⟨wr.heap.size, 0, none⟩ 1 1 [str (((bl s).take s.size).drop b)] rfl (new_cells wr _ [str (((bl s).take s.size).drop b)]) (one_str _)) HB.out.1 HB.out.2 (Nat.le_trans hz (by simp)) ?_; intro v4 w4 hown4 hg4 _; have HM := Lib.hid (Strs.more1 HO.out hbel hz hown4 hg4); clear hown4 hg4)
          go_roundw
          case rel => exact ⟨_, s.size + 1, s.size + 1, ⟨by simp, by simp, Nat.le_refl _, fun h => absurd h (by omega), by simp; omega, .inr ⟨rfl, HN.out⟩, HM.out.1, HM.out.2⟩⟩
          case measure => simp [intOf]
        · obtain rfl : b = s.size := by omega
          have HN := Lib.hid (fld_end HT.out)
          go_wp2_with fail
          go_roundw
          case rel => exact ⟨t, s.size + 1, s.size + 1, ⟨by simp, by simp, Nat.le_refl _, fun h => absurd h (by omega), by omega, .inr ⟨rfl, HN.out⟩, HO.out, hbel⟩⟩
          case measure => simp [intOf]
      · obtain rfl : k = s.size + 1 := by omega
        have HN : Hid (fields (bl s) = t) := by
          show _ = _
          rcases HR.out.told with h | h
          · omega
          · exact h.2
        clear hke
        go_wp2_with fail
        go_ret
        exact ⟨_, rfl, by rw [HN.out]; exact Grow.lower HO.out (Nat.le_succ _), (((Below.refl _ w).alloc (Nat.le_refl _) _).trans (hbel.mono (by simp)))⟩
end Txt
end Go.Proofs.Ytpmmbbaigfjhnaa

import Derived.Test.YtpmmbbaigfjhnaaLins
import Derived.Test.YtpmmbbaigfjhnaaUnls
namespace Go.Proofs.Ytpmmbbaigfjhnaa
open Go.RowKit Wire
set_option linter.unusedVariables false
set_option linter.unusedSimpArgs false
namespace Txt

set_option maxHeartbeats 400000 in
theorem rlines_any (s : ByteArray) (hs : s.size ≤ 1000000000) (w : World) :
    Calls Try.prog 19 #[.string s] w (StrsPost w (lines (bl s))) := by
  obtain ⟨i0, hi0, hi1, hi2, hi3⟩ := info_parts info_str
  go_enter Try.func19, Try.ntmps19
  go_wp2_with fail
  go_loopw [3, 4, 5] (fun ov bv iv wr => ∃ t b k, LinRel linA w s ov bv iv wr t b k) (fun _ _ iv _ => s.size - (intOf iv).toNat)
  case atStart => exact ⟨[], 0, 0, rfl, rfl, Nat.zero_le _, Nat.le_refl _, Nat.le_refl _, rfl, Grow.nil _ _ _, Below.refl _ _⟩
  case round =>
    obtain ⟨t, b, k, ⟨rfl, rfl, hk, hbk, hcount, htold, hown, hbel⟩⟩ := hrel
    have HT := Lib.hid htold
    have HO := Lib.hid hown
    clear htold
    by_cases hlt : k < s.size
    · by_cases hc : s[k] = 10
      · have ht : ((s[k].toNat : Int) == 10) = true := byte_eq (k := 10) (by omega) hc
        have HN := Lib.hid (lin_lf hbk hlt hc HT.out)
        have HX := Lib.hid (cut_str s b k)
        have HB := Lib.hid (room16 (n := t.length) (m := 1) (by omega))
        clear hc
        go_wp2_with (at_builtin; rw [HX.out]; refine wpList_append_src _ rfl (.tmp 16) (.tmp 21) _ _ rfl w.heap.size 9 i0 _ 1 16 Try.underlying22 hi0 hi1 hi2 hi3 rfl (by omega) _ _ _ rfl (Grow.alloc hown _) _ 1 [str (((bl s).take k).drop b)] rfl (Src.ofSlice _ Try.underlying22 ⟨wr.heap.size, 0, none⟩ 1 1 [str (((bl s).take k).drop b)] rfl (new_cells wr _ [str (((bl s).take k).drop b)]) (one_str _)) HB.out.1 HB.out.2 (Nat.le_trans hbel.size (by simp)) ?_; intro v4 w4 hown4 hg4 _; have HM := Lib.hid (Strs.more HO.out hbel hown4 hg4); clear hown4 hg4)
        go_roundw
        case rel => exact ⟨_, k + 1, k + 1, ⟨by simp, by simp, hlt, Nat.le_refl _, by simp; omega, HN.out, HM.out.1, HM.out.2⟩⟩
        case measure => simp [intOf]; omega
      · have ht : ((s[k].toNat : Int) == 10) = false := byte_ne (k := 10) (by omega) hc
        have HN := Lib.hid (lin_no hbk hlt hc HT.out)
        clear hc hown
        go_wp2_with fail
        go_roundw
        case rel => exact ⟨t, b, k + 1, ⟨rfl, by simp, hlt, by omega, by omega, HN.out, HO.out, hbel⟩⟩
        case measure => simp [intOf]; omega
    · obtain rfl : s.size = k := by omega
      have hend := HT.out
      rw [drop_end (Nat.le_refl _)] at hend
      by_cases hb : b < s.size
      · have HN : Hid (lines (bl s) = t ++ [((bl s).take s.size).drop b]) := by
          show _ = _
          unfold lines
          rw [hend, linA, if_neg (fun e => by rw [cur_empty hbk (Nat.le_refl _)] at e; omega)]
        have HX := Lib.hid (cut_str s b s.size)
        have HB := Lib.hid (room16 (n := t.length) (m := 1) (by omega))
        clear hend
        go_wp2_with (at_builtin; rw [HX.out]; refine wpList_append_src _ rfl (.tmp 29) (.tmp 33) _ _ rfl w.heap.size 9 i0 _ 1 16 Try.underlying22 hi0 hi1 hi2 hi3 rfl (by omega) _ _ _ rfl (Grow.alloc hown _) _ 1 [str (((bl s).take s.size).drop b)] rfl (Src.ofSlice _ Try.underlying22 ⟨wr.heap.size, 0, none⟩ 1 1 [str (((bl s).take s.size).drop b)] rfl (new_cells wr _ [str (((bl s).take s.size).drop b)]) (one_str _)) HB.out.1 HB.out.2 (Nat.le_trans hbel.size (by simp)) ?_; intro v4 w4 hown4 hg4 _; have HM := Lib.hid (Strs.more HO.out hbel hown4 hg4); clear hown4 hg4)
        go_ret
        exact ⟨_, rfl, by rw [HN.out]; exact HM.out.1, HM.out.2⟩
      · have HN : Hid (lines (bl s) = t) := by
          show _ = _
          unfold lines
          rw [hend, linA, if_pos ((cur_empty hbk (Nat.le_refl _)).2 (by omega)), List.append_nil]
        clear hend hown
        go_wp2_with fail
        go_ret
        exact ⟨_, rfl, by rw [HN.out]; exact HO.out, hbel⟩

theorem lf_str (w : World) : Sem.run Try.prog (convert 39 9 (.slice (some ⟨w.heap.size, 0, none⟩) 1 1)) (w.alloc (.cells #[.int .u8 10] 5)) = .ok (.string ⟨#[10]⟩) (w.alloc (.cells #[.int .u8 10] 5)) :=
  run_convert_bytes_back (P := Try.prog) (w.alloc (.cells #[.int .u8 10] 5)) 39 9 5 ⟨w.heap.size, 0, none⟩ 1 [10] Try.underlying39 Try.underlying5 Try.underlying9 (fun j hj => by
    have hj0 : j = 0 := by simp at hj; omega
    subst hj0
    rw [row_add', (Blk.fresh w _ _).at]
    rfl)

theorem lf_str2 (w : World) : Sem.run Try.prog (convert 39 9 (.slice (some ⟨w.heap.size, 0, none⟩) 1 1)) (w.alloc (.cells #[.int .u8 10] 5)).drew = .ok (.string ⟨#[10]⟩) (w.alloc (.cells #[.int .u8 10] 5)).drew :=
  run_convert_bytes_back (P := Try.prog) (w.alloc (.cells #[.int .u8 10] 5)).drew 39 9 5 ⟨w.heap.size, 0, none⟩ 1 [10] Try.underlying39 Try.underlying5 Try.underlying9 (fun j hj => by
    have hj0 : j = 0 := by simp at hj; omega
    subst hj0
    show (w.alloc (.cells #[.int .u8 10] 5)).cell? _ = _
    rw [row_add', (Blk.fresh w _ _).at]
    rfl)

set_option maxHeartbeats 1000000 in
theorem runlines_any (A : Option Addr) (c : Nat) (t : List (List UInt8)) (w : World) (hr : Row w w.heap.size A (t.map str)) (hn : t.length ≤ 1000000000) (hl : (unlines t).length ≤ 100000000000) :
    Calls Try.prog 21 #[.slice A t.length c] w fun e w' => e = .returned (str (unlines t)) ∧ Below w.heap.size w w' := by
  have HR := Lib.hid hr
  clear hr
  go_enter Try.func21, Try.ntmps21
  go_wp2_with fail
  go_loopw [3, 4] (fun ov iv wr => ∃ k : Nat, ov = str (unlines (t.take k)) ∧ iv = .int .i64 k ∧ k ≤ t.length ∧ Below w.heap.size w wr) (fun _ iv _ => t.length - (intOf iv).toNat)
  case atStart => exact ⟨0, rfl, rfl, Nat.zero_le _, Below.refl _ _⟩
  case round =>
    obtain ⟨k, rfl, rfl, hk, hbel⟩ := hrel
    by_cases hlt : k < t.length
    · obtain ⟨b, o, rfl, had, hcell⟩ := HR.out k (str t[k]) (by rw [List.getElem?_map, List.getElem?_eq_getElem hlt]; rfl)
      have hcell2 : wr.cell? ⟨b, o + k, none⟩ = some (str t[k]) := (hbel.cell (p := ⟨b, o + k, none⟩) had).trans hcell
      have HN := Lib.hid (unlines_snoc t k hlt)
      have htk := unlines_take t (k + 1)
      rw [HN.out, List.length_append, List.length_append] at htk
      simp only [List.length_cons, List.length_nil] at htk
      have hw' : b < wr.heap.size := Nat.lt_of_lt_of_le had hbel.size
      have hrun := lf_str wr
      generalize t[k] = x at *
      generalize unlines (t.take k) = u at *
      have hi1 : (0 : Int) ≤ (k : Int) := by omega
      have hi2 : (k : Int) < (t.length : Int) := by omega
      clear hcell
      go_wp2_with fail
      have hrun2 : Sem.run Try.prog (convert 39 9 (.slice (some ⟨wr.heap.size, 0, none⟩) 1 1)) (wr.alloc (.cells #[.int .u8 10] 5)).drew = .ok (.string ⟨#[10]⟩) (wr.alloc (.cells #[.int .u8 10] 5)).drew := lf_str2 wr
      clear hrun
      go_region
      all_goals
        go_wp2_with fail
        go_roundw
        case rel => exact ⟨k + 1, by rw [HN.out]; exact congrArg Value.string ((congrArg (· ++ (⟨#[10]⟩ : ByteArray)) (cat_bytes u x)).trans (cat_bytes _ [10])), by simp, hlt, (hbel.alloc hbel.size _).drew⟩
        case measure => simp [intOf]; omega
    · obtain rfl : t.length = k := by omega
      have HT : Hid (t.take t.length = t) := Lib.hid List.take_length
      go_wp2_with fail
      go_ret
      exact ⟨by rw [← HT.out]; simp, hbel⟩

structure RFldRel (W : World) (s : ByteArray) (ov nv iv : Value) (w : World) (t : List (List UInt8)) (cur : List UInt8) (k : Nat) : Prop where
  nv : nv = str cur
  iv : iv = .int .i64 k
  le : k ≤ s.size
  count : t.length ≤ k
  clen : cur.length ≤ k
  told : fields (bl s) = t ++ fldA cur ((bl s).drop k)
  own : Strs w W.heap.size ov t
  below : Below W.heap.size W w

theorem bl_cut0 (s : ByteArray) (a b : Nat) : bl (s.extract a b) = ((bl s).take b).drop a := by
  obtain ⟨⟨l⟩⟩ := s
  rw [show (⟨⟨l⟩⟩ : ByteArray) = ⟨l.toArray⟩ from rfl, bytes_extract]
theorem byte_of (s : ByteArray) (k : Nat) (h : k < s.size) : s.extract k (k + 1) = ⟨[s[k]].toArray⟩ := by
  apply bl_inj
  rw [bl_cut0, take_at h, List.drop_append_of_le_length (by rw [List.length_take, bl_len]; omega), List.drop_eq_nil_of_le (by rw [List.length_take]; omega)]
  rfl
theorem white_no' {c : UInt8} (h : white c = false) : ((c.toNat : Int) != 32) = true ∧ ((c.toNat : Int) != 9) = true ∧ ((c.toNat : Int) != 10) = true := by
  have h' : c ≠ 32 ∧ c ≠ 9 ∧ c ≠ 10 := by
    simp [white] at h
    exact ⟨h.1.1, h.1.2, h.2⟩
  refine ⟨?_, ?_, ?_⟩
  · rw [bne, show ((c.toNat : Int) == 32) = false from byte_ne (k := 32) (by omega) h'.1]; rfl
  · rw [bne, show ((c.toNat : Int) == 9) = false from byte_ne (k := 9) (by omega) h'.2.1]; rfl
  · rw [bne, show ((c.toNat : Int) == 10) = false from byte_ne (k := 10) (by omega) h'.2.2]; rfl
theorem white_yes' {c : UInt8} (h : white c = true) : ((c.toNat : Int) != 32) = false ∨ (((c.toNat : Int) != 32) = true ∧ ((c.toNat : Int) != 9) = false) ∨ (((c.toNat : Int) != 32) = true ∧ ((c.toNat : Int) != 9) = true ∧ ((c.toNat : Int) != 10) = false) := by
  by_cases h1 : c = 32
  · subst h1; exact .inl rfl
  · by_cases h2 : c = 9
    · subst h2; exact .inr (.inl ⟨rfl, rfl⟩)
    · by_cases h3 : c = 10
      · subst h3; exact .inr (.inr ⟨rfl, rfl, rfl⟩)
      · simp [white, h1, h2, h3] at h

set_option maxHeartbeats 2000000 in
theorem rfields_any (s : ByteArray) (hs : s.size ≤ 1000000000) (w : World) :
    Calls Try.prog 23 #[.string s] w (StrsPost w (fields (bl s))) := by
  obtain ⟨i0, hi0, hi1, hi2, hi3⟩ := info_parts info_str
  go_enter Try.func23, Try.ntmps23
  go_wp2_with fail
  go_loopw [3, 4, 5] (fun ov nv iv wr => ∃ t cur k, RFldRel w s ov nv iv wr t cur k) (fun _ _ iv _ => s.size - (intOf iv).toNat)
  case atStart => exact ⟨[], [], 0, rfl, rfl, Nat.zero_le _, Nat.le_refl _, Nat.le_refl _, rfl, Grow.nil _ _ _, Below.refl _ _⟩
  case round =>
    obtain ⟨t, cur, k, ⟨rfl, rfl, hk, hcount, hcl, htold, hown, hbel⟩⟩ := hrel
    have HT := Lib.hid htold
    have HO := Lib.hid hown
    clear htold
    by_cases hlt : k < s.size
    · cases hw : white s[k] with
      | false =>
        obtain ⟨e1, e2, e3⟩ := white_no' hw
        have HB := Lib.hid (byte_of s k hlt)
        have HN : Hid (fields (bl s) = t ++ fldA (cur ++ [s[k]]) ((bl s).drop (k + 1))) := Lib.hid (by rw [HT.out, drop_at hlt, fldA, if_neg (by rw [hw]; simp)])
        clear hw hown
        go_wp2_with fail
        go_roundw
        case rel => exact ⟨t, cur ++ [s[k]], k + 1, ⟨by rw [HB.out]; exact congrArg Value.string (cat_bytes _ _), by simp, hlt, by omega, by simp; omega, HN.out, HO.out, hbel⟩⟩
        case measure => simp [intOf]; omega
      | true =>
        cases cur with
        | nil =>
          have HN : Hid (fields (bl s) = t ++ fldA [] ((bl s).drop (k + 1))) := Lib.hid (by rw [HT.out, drop_at hlt, fldA, if_pos hw, if_pos rfl])
          rcases white_yes' hw with e1 | ⟨e1, e2⟩ | ⟨e1, e2, e3⟩
          all_goals
            go_wp2_with fail
            go_roundw
            case rel => exact ⟨t, [], k + 1, ⟨rfl, by simp, hlt, by omega, Nat.zero_le _, HN.out, HO.out, hbel⟩⟩
            case measure => simp [intOf]; omega
        | cons c0 r0 =>
          have HN : Hid (fields (bl s) = (t ++ [c0 :: r0]) ++ fldA [] ((bl s).drop (k + 1))) := Lib.hid (by rw [HT.out, drop_at hlt, fldA, if_pos hw, if_neg (by simp), List.append_assoc]; rfl)
          have HB := Lib.hid (room16 (n := t.length) (m := 1) (by omega))
          have hne : ¬ (c0 :: r0 = []) := by simp
          obtain ⟨x, hx⟩ : ∃ x, x = c0 :: r0 := ⟨_, rfl⟩
          rw [← hx] at HN hne hcl
          have hxe : x.isEmpty = false := by rw [hx]; rfl
          have HX := Lib.hid hx
          rw [← hx]
          clear hx
          rcases white_yes' hw with e1 | ⟨e1, e2⟩ | ⟨e1, e2, e3⟩
          all_goals
            go_wp2_with (at_builtin; refine wpList_append_src _ rfl (.tmp 37) (.tmp 39) _ _ rfl w.heap.size 9 i0 _ 1 16 Try.underlying22 hi0 hi1 hi2 hi3 rfl (by omega) _ _ _ rfl (Grow.alloc hown _) _ 1 [str x] rfl (Src.ofSlice _ Try.underlying22 ⟨wr.heap.size, 0, none⟩ 1 1 [str x] rfl (new_cells wr _ [str x]) (one_str _)) HB.out.1 HB.out.2 (Nat.le_trans hbel.size (by simp)) ?_; intro v4 w4 hown4 hg4 _; have HM := Lib.hid (Strs.more HO.out hbel hown4 hg4); clear hown4 hg4)
            go_roundw
            case rel => exact ⟨_, [], k + 1, ⟨rfl, by simp, hlt, by simp; omega, Nat.zero_le _, HN.out, HM.out.1, HM.out.2⟩⟩
            case measure => simp [intOf]; omega
    · obtain rfl : s.size = k := by omega
      have hend := HT.out
      rw [drop_end (Nat.le_refl _), fldA] at hend
      cases cur with
      | nil =>
        rw [if_pos rfl, List.append_nil] at hend
        have HN := Lib.hid hend
        clear hend hown
        go_wp2_with fail
        go_ret
        exact ⟨_, rfl, by rw [HN.out]; exact HO.out, hbel⟩
      | cons c0 r0 =>
        rw [if_neg (by simp)] at hend
        have HN := Lib.hid hend
        have HB := Lib.hid (room16 (n := t.length) (m := 1) (by omega))
        have hne : ¬ (c0 :: r0 = []) := by simp
        obtain ⟨x, hx⟩ : ∃ x, x = c0 :: r0 := ⟨_, rfl⟩
        rw [← hx] at HN hne hcl
        have hxe : x.isEmpty = false := by rw [hx]; rfl
        rw [← hx]
        clear hend hx
        go_wp2_with (at_builtin; refine wpList_append_src _ rfl (.tmp 43) (.tmp 45) _ _ rfl w.heap.size 9 i0 _ 1 16 Try.underlying22 hi0 hi1 hi2 hi3 rfl (by omega) _ _ _ rfl (Grow.alloc hown _) _ 1 [str x] rfl (Src.ofSlice _ Try.underlying22 ⟨wr.heap.size, 0, none⟩ 1 1 [str x] rfl (new_cells wr _ [str x]) (one_str _)) HB.out.1 HB.out.2 (Nat.le_trans hbel.size (by simp)) ?_; intro v4 w4 hown4 hg4 _; have HM := Lib.hid (Strs.more HO.out hbel hown4 hg4); clear hown4 hg4)
        go_ret
        exact ⟨_, rfl, by rw [HN.out]; exact HM.out.1, HM.out.2⟩
end Txt
end Go.Proofs.Ytpmmbbaigfjhnaa

import Derived.Test.YtionidjhfcmgiaaRead2
import Derived.Test.YtionidjhfcmgiaaOwn
namespace Go.Proofs.Ytionidjhfcmgiaa
open Go.RowKit
set_option linter.unusedVariables false
set_option linter.unusedSimpArgs false
namespace Wire

theorem neg_back (n : Nat) (h0 : 1 ≤ n) (hm : n ≤ 9223372036854775808) : wrap64 (IntKind.u64.wrap (-(n : Int))) = -(n : Int) := by
  simp [wrap64, IntKind.wrap, IntKind.bits, IntKind.signed]
  omega

set_option maxHeartbeats 400000 in
theorem rint_num_ok (g : Nat) (c : UInt8) (l : List UInt8) (hc : c ≠ 45) (w : World) (h : RS w g (some (c :: l))) (hl : (c :: l).length ≤ 4611686018427387904) (n : Nat) (r : List UInt8) (hs : num 59 (c :: l) = some (n, r)) :
    Calls Try.prog 26 #[ptr g] w fun e w' => e = .returned (.int .i64 n) ∧ RS w' g (some r) ∧ w.grownBy w' (some g) := by
  have HD := Lib.hid (rnum_ok g _ w h hl n r hs)
  have HB : Hid (false = ((c.toNat : Int) == ((45 : UInt8).toNat : Int))) := by
    show false = _
    symm
    rw [beq_eq_false_iff_ne]
    exact fun e => hc (UInt8.toNat_inj.1 (Int.ofNat_inj.1 e))
  have H := Lib.hid h
  clear h hl hs hc
  go_enter Try.func26, Try.ntmps26
  go_wp2_with (first
    | (go_at_call 51; refine (begins_cons g c l 45 false HB.out _ H.out).mono ?_; rintro e w' ⟨rfl, rfl⟩)
    | (go_at_call 24; refine HD.out.mono ?_; rintro e w1 ⟨rfl, h1, h2⟩))
  go_ret
  exact ⟨rfl, h1, h2⟩

set_option maxHeartbeats 400000 in
theorem rint_num_bad (g : Nat) (c : UInt8) (l : List UInt8) (hc : c ≠ 45) (w : World) (h : RS w g (some (c :: l))) (hl : (c :: l).length ≤ 4611686018427387904) (hs : num 59 (c :: l) = none) :
    Calls Try.prog 26 #[ptr g] w fun e w' => e = .returned (.int .i64 0) ∧ RS w' g none ∧ w.grownBy w' (some g) := by
  have HD := Lib.hid (rnum_bad g _ w h hl hs)
  have HB : Hid (false = ((c.toNat : Int) == ((45 : UInt8).toNat : Int))) := by
    show false = _
    symm
    rw [beq_eq_false_iff_ne]
    exact fun e => hc (UInt8.toNat_inj.1 (Int.ofNat_inj.1 e))
  have H := Lib.hid h
  clear h hl hs hc
  go_enter Try.func26, Try.ntmps26
  go_wp2_with (first
    | (go_at_call 51; refine (begins_cons g c l 45 false HB.out _ H.out).mono ?_; rintro e w' ⟨rfl, rfl⟩)
    | (go_at_call 24; refine HD.out.mono ?_; rintro e w1 ⟨rfl, h1, h2⟩))
  go_ret
  exact ⟨rfl, h1, h2⟩

set_option maxHeartbeats 400000 in
theorem rint_nil (g : Nat) (st : St) (hst : st.getD [] = []) (w : World) (h : RS w g st) :
    Calls Try.prog 26 #[ptr g] w fun e w' => e = .returned (.int .i64 0) ∧ RS w' g none ∧ w.grownBy w' (some g) := by
  have HD := Lib.hid (rnum_bad g st w h (by rw [hst]; exact Nat.zero_le _) (by rw [hst]; rfl))
  have H := Lib.hid h
  have HS := Lib.hid hst
  clear h hst
  go_enter Try.func26, Try.ntmps26
  go_wp2_with (first
    | (go_at_call 51; refine (begins_nil g st HS.out 45 _ H.out).mono ?_; rintro e w' ⟨rfl, rfl⟩)
    | (go_at_call 24; refine HD.out.mono ?_; rintro e w1 ⟨rfl, h1, h2⟩))
  go_ret
  exact ⟨rfl, h1, h2⟩

theorem tail_bytes (c : UInt8) (l : List UInt8) : (⟨(c :: l).toArray⟩ : ByteArray).extract 1 (l.length + 1) = ⟨l.toArray⟩ := by
  rw [bytes_extract, List.take_of_length_le (by simp)]
  rfl

theorem RS.tail {w : World} {g : Nat} {c : UInt8} {l : List UInt8} (h : RS w g (some (c :: l))) : RS (w.setCell ⟨g, 0, none⟩ (.string ⟨l.toArray⟩)) g (some l) := Blk.put h 0 (str l)

/-- What the walks over a minus know. -/
structure Minus (g : Nat) (l : List UInt8) (w : World) : Prop where
  c0 : w.cell? ⟨g, 0, none⟩ = some (str (45 :: l))
  f0 : w.frozen? ⟨g, 0, none⟩ = false
  rs : RS w g (some (45 :: l))
  short : l.length ≤ 4611686018427387904

set_option maxHeartbeats 400000 in
theorem rint_neg_ok (g : Nat) (l : List UInt8) (w : World) (h : RS w g (some (45 :: l))) (hl : (45 :: l).length ≤ 4611686018427387904) (n : Nat) (r : List UInt8) (hs : neg l = some (n, r)) :
    Calls Try.prog 26 #[ptr g] w fun e w' => e = .returned (.int .i64 (-(n : Int))) ∧ RS w' g (some r) ∧ w.grownBy w' (some g) := by
  obtain ⟨hn1, hn2⟩ := (neg_sound hs).2
  have c0 := h.at 0
  have f0 := h.thaw 0
  have H := Lib.hid h
  have hl' : l.length ≤ 4611686018427387904 := by simp at hl; omega
  have HD := Lib.hid (rdigits_ok g 9223372036854775808 (by omega) (by omega) (some l) _ h.tail hl' n _ (neg_some.1 hs).1)
  have ht := tail_bytes 45 l
  have hz : ((n : Int) == 0) = false := beq_eq_false_iff_ne.2 (by omega)
  have hb := neg_back n hn1 hn2
  clear h hl hs hl'
  go_enter Try.func26, Try.ntmps26
  go_wp2_with (first
    | (go_at_call 51; refine (begins_cons g 45 l 45 true rfl _ H.out).mono ?_; rintro e w' ⟨rfl, rfl⟩)
    | (go_at_call 52; refine HD.out.mono ?_; rintro e w1 ⟨rfl, h1, h2⟩)
    | (go_at_call 54; refine (skip_ok g r 59 _ h1).mono ?_; rintro e w2 ⟨rfl, h3, h4⟩; have c1 := h3.at 1))
  go_ret
  exact ⟨congrArg (fun x => Ending.returned (.int .i64 x)) hb, h3, grown_trans (grown_trans (grown_set _ _ _ _) h2) h4⟩

set_option maxHeartbeats 2000000 in
theorem rint_neg_bad (g : Nat) (l : List UInt8) (w : World) (h : RS w g (some (45 :: l))) (hl : (45 :: l).length ≤ 4611686018427387904) (hs : neg l = none) :
    Calls Try.prog 26 #[ptr g] w fun e w' => e = .returned (.int .i64 0) ∧ RS w' g none ∧ w.grownBy w' (some g) := by
  have c0 := h.at 0
  have f0 := h.thaw 0
  have H := Lib.hid h
  have hl' : l.length ≤ 4611686018427387904 := by simp at hl; omega
  have ht := tail_bytes 45 l
  have hr := h.tail
  rcases neg_none hs with hs | ⟨r, hs⟩ | ⟨n, h0, hs⟩ | ⟨n, c, r, h0, hs, hc⟩
  · have HD := Lib.hid (rdigits_bad g 9223372036854775808 (by omega) (by omega) (some l) _ hr hl' hs)
    clear h hl hs hl' hr
    go_enter Try.func26, Try.ntmps26
    go_wp2_with (first
      | (go_at_call 51; refine (begins_cons g 45 l 45 true rfl _ H.out).mono ?_; rintro e w' ⟨rfl, rfl⟩)
      | (go_at_call 52; refine HD.out.mono ?_; rintro e w1 ⟨rfl, h1, h2⟩)
      | (go_at_call 53; refine (fail_any g none _ h1).mono ?_; rintro e w2 ⟨rfl, h3, h4⟩)
      | (go_at_call 54; refine (skip_nil g none rfl 59 _ h3).mono ?_; rintro e w3 ⟨rfl, h5, h6⟩; have c1 := h5.at 1))
    go_ret
    exact ⟨rfl, h5, grown_trans (grown_trans (grown_trans (grown_set _ _ _ _) h2) h4) h6⟩
  · have HD := Lib.hid (rdigits_ok g 9223372036854775808 (by omega) (by omega) (some l) _ hr hl' 0 r hs)
    clear h hl hs hl' hr
    go_enter Try.func26, Try.ntmps26
    go_wp2_with (first
      | (go_at_call 51; refine (begins_cons g 45 l 45 true rfl _ H.out).mono ?_; rintro e w' ⟨rfl, rfl⟩)
      | (go_at_call 52; refine HD.out.mono ?_; rintro e w1 ⟨rfl, h1, h2⟩)
      | (go_at_call 53; refine (fail_any g (some r) _ h1).mono ?_; rintro e w2 ⟨rfl, h3, h4⟩)
      | (go_at_call 54; refine (skip_nil g none rfl 59 _ h3).mono ?_; rintro e w3 ⟨rfl, h5, h6⟩; have c1 := h5.at 1))
    go_ret
    exact ⟨rfl, h5, grown_trans (grown_trans (grown_trans (grown_set _ _ _ _) h2) h4) h6⟩
  · have HD := Lib.hid (rdigits_ok g 9223372036854775808 (by omega) (by omega) (some l) _ hr hl' n [] hs)
    have hz : ((n : Int) == 0) = false := beq_eq_false_iff_ne.2 (by omega)
    clear h hl hs hl' hr h0
    go_enter Try.func26, Try.ntmps26
    go_wp2_with (first
      | (go_at_call 51; refine (begins_cons g 45 l 45 true rfl _ H.out).mono ?_; rintro e w' ⟨rfl, rfl⟩)
      | (go_at_call 52; refine HD.out.mono ?_; rintro e w1 ⟨rfl, h1, h2⟩)
      | (go_at_call 54; refine (skip_nil g (some []) rfl 59 _ h1).mono ?_; rintro e w3 ⟨rfl, h5, h6⟩; have c1 := h5.at 1))
    go_ret
    exact ⟨rfl, h5, grown_trans (grown_trans (grown_set _ _ _ _) h2) h6⟩
  · have HD := Lib.hid (rdigits_ok g 9223372036854775808 (by omega) (by omega) (some l) _ hr hl' n _ hs)
    have hz : ((n : Int) == 0) = false := beq_eq_false_iff_ne.2 (by omega)
    have HC := Lib.hid hc
    clear h hl hs hl' hr h0 hc
    go_enter Try.func26, Try.ntmps26
    go_wp2_with (first
      | (go_at_call 51; refine (begins_cons g 45 l 45 true rfl _ H.out).mono ?_; rintro e w' ⟨rfl, rfl⟩)
      | (go_at_call 52; refine HD.out.mono ?_; rintro e w1 ⟨rfl, h1, h2⟩)
      | (go_at_call 54; refine (skip_bad g c r 59 HC.out _ h1).mono ?_; rintro e w3 ⟨rfl, h5, h6⟩; have c1 := h5.at 1))
    go_ret
    exact ⟨rfl, h5, grown_trans (grown_trans (grown_set _ _ _ _) h2) h6⟩

theorem rint_ok (g : Nat) (st : St) (w : World) (h : RS w g st) (hl : (st.getD []).length ≤ 4611686018427387904) (z : Int) (r : List UInt8) (hs : int (st.getD []) = some (z, r)) :
    Calls Try.prog 26 #[ptr g] w fun e w' => e = .returned (.int .i64 z) ∧ RS w' g (some r) ∧ w.grownBy w' (some g) := by
  cases st with
  | none => cases hs
  | some l =>
    cases l with
    | nil => cases hs
    | cons c l =>
      have hs' : int (c :: l) = some (z, r) := hs
      rw [int_cons] at hs'
      by_cases hc : c = 45
      · subst hc
        rw [if_pos rfl] at hs'
        obtain ⟨⟨n, r'⟩, h1, h2⟩ := Option.map_eq_some_iff.1 hs'
        simp only [Prod.mk.injEq] at h2
        obtain ⟨rfl, rfl⟩ := h2
        exact rint_neg_ok g l w h hl n _ h1
      · rw [if_neg hc] at hs'
        obtain ⟨⟨n, r'⟩, h1, h2⟩ := Option.map_eq_some_iff.1 hs'
        simp only [Prod.mk.injEq] at h2
        obtain ⟨rfl, rfl⟩ := h2
        exact rint_num_ok g c l hc w h hl n _ h1

theorem rint_bad (g : Nat) (st : St) (w : World) (h : RS w g st) (hl : (st.getD []).length ≤ 4611686018427387904) (hs : int (st.getD []) = none) :
    Calls Try.prog 26 #[ptr g] w fun e w' => e = .returned (.int .i64 0) ∧ RS w' g none ∧ w.grownBy w' (some g) := by
  cases st with
  | none => exact rint_nil g none rfl w h
  | some l =>
    cases l with
    | nil => exact rint_nil g (some []) rfl w h
    | cons c l =>
      have hs' : int (c :: l) = none := hs
      rw [int_cons] at hs'
      by_cases hc : c = 45
      · subst hc
        rw [if_pos rfl] at hs'
        exact rint_neg_bad g l w h hl (Option.map_eq_none_iff.1 hs')
      · rw [if_neg hc] at hs'
        exact rint_num_bad g c l hc w h hl (Option.map_eq_none_iff.1 hs')

/-! Strings. -/

theorem head_bytes (r : List UInt8) (n : Nat) : (⟨r.toArray⟩ : ByteArray).extract 0 n = ⟨(r.take n).toArray⟩ := by
  rw [bytes_extract]
  rfl
theorem rest_bytes (r : List UInt8) (n : Nat) : (⟨r.toArray⟩ : ByteArray).extract n r.length = ⟨(r.drop n).toArray⟩ := by
  rw [bytes_extract, List.take_of_length_le (Nat.le_refl _)]
theorem RS.rest {w : World} {g : Nat} {r : List UInt8} (h : RS w g (some r)) (l : List UInt8) : RS (w.setCell ⟨g, 0, none⟩ (.string ⟨l.toArray⟩)) g (some l) := Blk.put h 0 (str l)

set_option maxHeartbeats 400000 in
theorem rtext_ok (g : Nat) (st : St) (w : World) (h : RS w g st) (hl : (st.getD []).length ≤ 4611686018427387904) (t r' : List UInt8) (hs : text (st.getD []) = some (t, r')) :
    Calls Try.prog 28 #[ptr g] w fun e w' => e = .returned (str t) ∧ RS w' g (some r') ∧ w.grownBy w' (some g) := by
  obtain ⟨n, r, h1, hn, hd, rfl⟩ := text_some hs
  have HD := Lib.hid (size_ok g 58 st w h hl n r h1)
  have e1 := rest_bytes r n
  have HE := Lib.hid hd
  clear h hl hs h1 hd
  go_enter Try.func28, Try.ntmps28
  go_wp2_with (first
    | (go_at_call 49; refine HD.out.mono ?_; rintro e w1 ⟨rfl, h1, h2⟩; have c0 := h1.at 0; have f0 := h1.thaw 0)
    | (go_at_call 54; refine (skip_ok g r' 44 _ (by rw [← HE.out]; exact h1.rest _)).mono ?_; rintro e w2 ⟨rfl, h3, h4⟩; have c1 := h3.at 1))
  go_ret
  exact ⟨congrArg (fun s => Ending.returned (.string s)) (head_bytes r n), h3, grown_trans (grown_trans h2 (grown_set _ _ _ _)) h4⟩

set_option maxHeartbeats 2000000 in
theorem rtext_bad (g : Nat) (st : St) (w : World) (h : RS w g st) (hl : (st.getD []).length ≤ 4611686018427387904) (hs : text (st.getD []) = none) :
    Calls Try.prog 28 #[ptr g] w fun e w' => e = .returned (str []) ∧ RS w' g none ∧ w.grownBy w' (some g) := by
  rcases text_none hs with hs | ⟨n, r, hs, hc⟩
  · have HD := Lib.hid (size_bad g 58 st w h hl hs)
    clear h hl hs
    go_enter Try.func28, Try.ntmps28
    go_wp2_with (first
      | (go_at_call 49; refine HD.out.mono ?_; rintro e w1 ⟨rfl, h1, h2⟩; have c0 := h1.at 0; have f0 := h1.thaw 0; have H1 := Lib.hid h1; clear h1)
      | (go_at_call 54; refine (skip_nil g none rfl 44 _ (Blk.put H1.out 0 (str []))).mono ?_; rintro e w2 ⟨rfl, h3, h4⟩; have c1 := h3.at 1))
    go_ret
    exact ⟨rfl, h3, grown_trans (grown_trans h2 (grown_set _ _ _ _)) h4⟩
  · have HD := Lib.hid (size_ok g 58 st w h hl n r hs)
    clear h hl hs
    rcases hc with hlt | ⟨hn, hc⟩
    · go_enter Try.func28, Try.ntmps28
      go_wp2_with (first
        | (go_at_call 49; refine HD.out.mono ?_; rintro e w1 ⟨rfl, h1, h2⟩; have c0 := h1.at 0; have f0 := h1.thaw 0; have H1 := Lib.hid h1; clear h1)
        | (go_at_call 53; refine (fail_any g _ _ H1.out).mono ?_; rintro e w2 ⟨rfl, h3, h4⟩))
      go_ret
      exact ⟨rfl, h3, grown_trans h2 h4⟩
    · have e1 := rest_bytes r n
      rcases hc with hd | ⟨c, r', hd, hne⟩
      · have HE := Lib.hid hd
        clear hd
        go_enter Try.func28, Try.ntmps28
        go_wp2_with (first
          | (go_at_call 49; refine HD.out.mono ?_; rintro e w1 ⟨rfl, h1, h2⟩; have c0 := h1.at 0; have f0 := h1.thaw 0; have H1 := Lib.hid h1; clear h1)
          | (go_at_call 54; refine (skip_nil g (some (r.drop n)) HE.out 44 _ (H1.out.rest _)).mono ?_; rintro e w2 ⟨rfl, h3, h4⟩; have c1 := h3.at 1))
        go_ret
        exact ⟨rfl, h3, grown_trans (grown_trans h2 (grown_set _ _ _ _)) h4⟩
      · have HE := Lib.hid hd
        have HN := Lib.hid hne
        clear hd hne
        go_enter Try.func28, Try.ntmps28
        go_wp2_with (first
          | (go_at_call 49; refine HD.out.mono ?_; rintro e w1 ⟨rfl, h1, h2⟩; have c0 := h1.at 0; have f0 := h1.thaw 0; have H1 := Lib.hid h1; clear h1)
          | (go_at_call 54; refine (skip_bad g c r' 44 HN.out _ (by rw [← HE.out]; exact H1.out.rest _)).mono ?_; rintro e w2 ⟨rfl, h3, h4⟩; have c1 := h3.at 1))
        go_ret
        exact ⟨rfl, h3, grown_trans (grown_trans h2 (grown_set _ _ _ _)) h4⟩

set_option maxHeartbeats 400000 in
theorem rest_any (g : Nat) (st : St) (w : World) (h : RS w g st) :
    Calls Try.prog 40 #[ptr g] w fun e w' => e = .returned (str (st.getD [])) ∧ RS w' g (st.map fun _ => []) ∧ w.grownBy w' (some g) := by
  have c0 := h.at 0
  have f0 := h.thaw 0
  have H := Lib.hid h
  clear h
  go_enter Try.func40, Try.ntmps40
  go_wp2_with fail
  go_ret
  refine ⟨rfl, ?_, grown_set _ _ _ _⟩
  have hp := Blk.put H.out 0 (str [])
  cases st <;> exact hp
end Wire
end Go.Proofs.Ytionidjhfcmgiaa

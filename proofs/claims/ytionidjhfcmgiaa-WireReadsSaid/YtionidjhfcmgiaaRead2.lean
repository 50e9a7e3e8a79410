import Derived.Test.YtionidjhfcmgiaaRead
namespace Go.Proofs.Ytionidjhfcmgiaa
open Go.RowKit
set_option linter.unusedVariables false
set_option linter.unusedSimpArgs false
namespace Wire

theorem rdigits_ok (g most : Nat) (h9 : 9 ≤ most) (hm : most ≤ 9223372036854775808) (st : St) (w : World) (h : RS w g st) (hl : (st.getD []).length ≤ 4611686018427387904) (n : Nat) (r : List UInt8) (hs : scan most 0 0 (st.getD []) = some (n, r)) :
    Calls Try.prog 52 #[ptr g, .int .u64 most] w fun e w' => e = .returned (.int .u64 n) ∧ RS w' g (some r) ∧ w.grownBy w' (some g) :=
  (rdigits_any g most h9 hm st w h hl).mono fun e w' hp => by
    rcases hp with ⟨n', r', h1, h2, h3, h4⟩ | ⟨h1, _⟩
    · rw [bind_scan, hs] at h1
      simp only [Option.some.injEq, Prod.mk.injEq] at h1
      obtain ⟨rfl, rfl⟩ := h1
      exact ⟨h2, h3, h4⟩
    · rw [bind_scan, hs] at h1
      cases h1

theorem rdigits_bad (g most : Nat) (h9 : 9 ≤ most) (hm : most ≤ 9223372036854775808) (st : St) (w : World) (h : RS w g st) (hl : (st.getD []).length ≤ 4611686018427387904) (hs : scan most 0 0 (st.getD []) = none) :
    Calls Try.prog 52 #[ptr g, .int .u64 most] w fun e w' => e = .returned (.int .u64 0) ∧ RS w' g none ∧ w.grownBy w' (some g) :=
  (rdigits_any g most h9 hm st w h hl).mono fun e w' hp => by
    rcases hp with ⟨n', r', h1, _⟩ | ⟨h1, h2, h3, h4⟩
    · rw [bind_scan, hs] at h1
      cases h1
    · exact ⟨h2, h3, h4⟩

set_option maxHeartbeats 400000 in
theorem size_ok (g : Nat) (c : UInt8) (st : St) (w : World) (h : RS w g st) (hl : (st.getD []).length ≤ 4611686018427387904) (n : Nat) (r : List UInt8) (hs : num c (st.getD []) = some (n, r)) :
    Calls Try.prog 49 #[ptr g, .int .u8 c.toNat] w fun e w' => e = .returned (.int .i64 n) ∧ RS w' g (some r) ∧ w.grownBy w' (some g) := by
  have hn := (num_sound hs).2
  have HD := Lib.hid (rdigits_ok g 9223372036854775807 (by omega) (by omega) st w h hl n _ (num_some.1 hs))
  clear h hl hs
  go_enter Try.func49, Try.ntmps49
  go_wp2_with (first
    | (go_at_call 52; refine HD.out.mono ?_; rintro e w1 ⟨rfl, h1, h2⟩)
    | (go_at_call 54; refine (skip_ok g r c _ h1).mono ?_; rintro e w2 ⟨rfl, h3, h4⟩; have c1 := h3.at 1))
  go_ret
  exact ⟨rfl, h3, grown_trans h2 h4⟩

set_option maxHeartbeats 1000000 in
theorem size_bad (g : Nat) (c : UInt8) (st : St) (w : World) (h : RS w g st) (hl : (st.getD []).length ≤ 4611686018427387904) (hs : num c (st.getD []) = none) :
    Calls Try.prog 49 #[ptr g, .int .u8 c.toNat] w fun e w' => e = .returned (.int .i64 0) ∧ RS w' g none ∧ w.grownBy w' (some g) := by
  rcases num_none hs with hs | ⟨n, hs⟩ | ⟨n, c0, r, hs, hne⟩
  · have HD := Lib.hid (rdigits_bad g 9223372036854775807 (by omega) (by omega) st w h hl hs)
    clear h hl hs
    go_enter Try.func49, Try.ntmps49
    go_wp2_with (first
      | (go_at_call 52; refine HD.out.mono ?_; rintro e w1 ⟨rfl, h1, h2⟩)
      | (go_at_call 54; refine (skip_nil g none rfl c _ h1).mono ?_; rintro e w2 ⟨rfl, h3, h4⟩; have c1 := h3.at 1))
    go_ret
    exact ⟨rfl, h3, grown_trans h2 h4⟩
  · have HD := Lib.hid (rdigits_ok g 9223372036854775807 (by omega) (by omega) st w h hl n _ hs)
    clear h hl hs
    go_enter Try.func49, Try.ntmps49
    go_wp2_with (first
      | (go_at_call 52; refine HD.out.mono ?_; rintro e w1 ⟨rfl, h1, h2⟩)
      | (go_at_call 54; refine (skip_nil g (some []) rfl c _ h1).mono ?_; rintro e w2 ⟨rfl, h3, h4⟩; have c1 := h3.at 1))
    go_ret
    exact ⟨rfl, h3, grown_trans h2 h4⟩
  · have HD := Lib.hid (rdigits_ok g 9223372036854775807 (by omega) (by omega) st w h hl n _ hs)
    have HN := Lib.hid hne
    clear h hl hs hne
    go_enter Try.func49, Try.ntmps49
    go_wp2_with (first
      | (go_at_call 52; refine HD.out.mono ?_; rintro e w1 ⟨rfl, h1, h2⟩)
      | (go_at_call 54; refine (skip_bad g c0 r c HN.out _ h1).mono ?_; rintro e w2 ⟨rfl, h3, h4⟩; have c1 := h3.at 1))
    go_ret
    exact ⟨rfl, h3, grown_trans h2 h4⟩

set_option maxHeartbeats 400000 in
theorem rnum_ok (g : Nat) (st : St) (w : World) (h : RS w g st) (hl : (st.getD []).length ≤ 4611686018427387904) (n : Nat) (r : List UInt8) (hs : num 59 (st.getD []) = some (n, r)) :
    Calls Try.prog 24 #[ptr g] w fun e w' => e = .returned (.int .i64 n) ∧ RS w' g (some r) ∧ w.grownBy w' (some g) := by
  have HD := Lib.hid (size_ok g 59 st w h hl n r hs)
  clear h hl hs
  go_enter Try.func24, Try.ntmps24
  go_wp2_with (go_at_call 49; refine HD.out.mono ?_; rintro e w1 ⟨rfl, h1, h2⟩)
  go_ret
  exact ⟨rfl, h1, h2⟩

set_option maxHeartbeats 400000 in
theorem rnum_bad (g : Nat) (st : St) (w : World) (h : RS w g st) (hl : (st.getD []).length ≤ 4611686018427387904) (hs : num 59 (st.getD []) = none) :
    Calls Try.prog 24 #[ptr g] w fun e w' => e = .returned (.int .i64 0) ∧ RS w' g none ∧ w.grownBy w' (some g) := by
  have HD := Lib.hid (size_bad g 59 st w h hl hs)
  clear h hl hs
  go_enter Try.func24, Try.ntmps24
  go_wp2_with (go_at_call 49; refine HD.out.mono ?_; rintro e w1 ⟨rfl, h1, h2⟩)
  go_ret
  exact ⟨rfl, h1, h2⟩

set_option maxHeartbeats 400000 in
theorem left_any (g : Nat) (st : St) (w : World) (h : RS w g st) :
    Calls Try.prog 36 #[ptr g] w fun e w' => e = .returned (.int .i64 ((st.getD []).length : Nat)) ∧ w = w' := by
  have c0 := h.at 0
  clear h
  go_enter Try.func36, Try.ntmps36
  go_wp2_with fail
  go_ret
  exact ⟨rfl, rfl⟩

set_option maxHeartbeats 400000 in
theorem done_none (g : Nat) (w : World) (h : RS w g none) :
    Calls Try.prog 38 #[ptr g] w fun e w' => e = .returned (.bool false) ∧ w = w' := by
  have c0 := h.at 0
  have c1 := h.at 1
  clear h
  go_enter Try.func38, Try.ntmps38
  go_wp2_with fail
  go_ret
  exact ⟨rfl, rfl⟩

set_option maxHeartbeats 400000 in
theorem done_some (g : Nat) (l : List UInt8) (w : World) (h : RS w g (some l)) :
    Calls Try.prog 38 #[ptr g] w fun e w' => e = .returned (.bool l.isEmpty) ∧ w = w' := by
  have c0 := h.at 0
  have c1 := h.at 1
  clear h
  go_enter Try.func38, Try.ntmps38
  go_wp2_with fail
  go_ret
  exact ⟨rfl, rfl⟩
end Wire
end Go.Proofs.Ytionidjhfcmgiaa

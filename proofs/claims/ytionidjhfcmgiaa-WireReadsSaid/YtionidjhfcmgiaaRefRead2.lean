import Derived.Test.YtionidjhfcmgiaaRefRead
namespace Go.Proofs.Ytionidjhfcmgiaa
open Go.RowKit
set_option linter.unusedVariables false
set_option linter.unusedSimpArgs false
namespace Wire

theorem QS.rest {w : World} {g : Nat} {r : List UInt8} (h : QS w g (some r)) (l : List UInt8) : QS (w.setCell ⟨g, 0, none⟩ (.string ⟨l.toArray⟩)) g (some l) := Blk.put h 0 (str l)

theorem IsInt.one {c : UInt8} (hc : isDig c = false) (hc2 : c ≠ 45) {l r r' : List UInt8} {z z' : Int} (h : IsInt c l z r) (h' : IsInt c l z' r') : z = z' ∧ r = r' := by
  have e0 : (encS z).length = (encS z').length := by
    rcases Nat.lt_trichotomy (encS z).length (encS z').length with hlt | e | hlt
    · exact absurd rfl (h'.before hc hc2 hlt h.at_)
    · exact e
    · exact absurd rfl (h.before hc hc2 hlt h'.at_)
  have e1 := h.eq.symm.trans h'.eq
  obtain ⟨e2, e3⟩ := List.append_inj e1 e0
  have i1 : IsInt 59 (encS z ++ 59 :: []) z [] := ⟨h.lo, h.hi, rfl⟩
  have i2 : IsInt 59 (encS z ++ 59 :: []) z' [] := ⟨h'.lo, h'.hi, by rw [e2]⟩
  have e4 := (int_is.2 i1).symm.trans (int_is.2 i2)
  injection e4 with e4
  injection e4 with e4
  injection e3 with _ e5
  exact ⟨e4, e5⟩

theorem ahead_ok (g : Nat) (c : UInt8) (hc : isDig c = false) (hc2 : c ≠ 45) (st : St) (w : World) (h : QS w g st) (hl : (st.getD []).length ≤ 400) (z : Int) (r : List UInt8) (hz : IsInt c (st.getD []) z r) :
    Calls Try.prog 55 #[ptr g, .int .u8 c.toNat] w fun e w' => e = .returned (.int .i64 z) ∧ QS w' g (some r) ∧ w.grownBy w' (some g) :=
  (ahead_any g c hc hc2 st w h hl).mono fun e w' hp => by
    rcases hp with ⟨z', r', h1, h2, h3, h4⟩ | ⟨h1, _⟩
    · obtain ⟨rfl, rfl⟩ := hz.one hc hc2 h1
      exact ⟨h2, h3, h4⟩
    · exact absurd hz (h1 _ _)

theorem ahead_bad (g : Nat) (c : UInt8) (hc : isDig c = false) (hc2 : c ≠ 45) (st : St) (w : World) (h : QS w g st) (hl : (st.getD []).length ≤ 400) (hz : ∀ z r, ¬ IsInt c (st.getD []) z r) :
    Calls Try.prog 55 #[ptr g, .int .u8 c.toNat] w fun e w' => e = .returned (.int .i64 0) ∧ QS w' g none ∧ w.grownBy w' (some g) :=
  (ahead_any g c hc hc2 st w h hl).mono fun e w' hp => by
    rcases hp with ⟨z', r', h1, h2, h3, h4⟩ | ⟨_, h2, h3, h4⟩
    · exact absurd h1 (hz _ _)
    · exact ⟨h2, h3, h4⟩

theorem qclose_ok (g : Nat) (c : UInt8) (l : List UInt8) (w : World) (h : QS w g (some (c :: l))) :
    Calls Try.prog 57 #[ptr g, .int .u8 c.toNat] w fun e w' => e = .returned (.bool true) ∧ QS w' g (some l) ∧ w.grownBy w' (some g) :=
  (qclose_any g c _ w h).mono fun e w' hp => by
    rcases hp with ⟨r, h1, h2, h3, h4⟩ | ⟨h1, _⟩
    · injection h1 with _ h1
      subst h1
      exact ⟨h2, h3, h4⟩
    · exact absurd rfl (h1 l)
theorem qclose_bad (g : Nat) (c : UInt8) (st : St) (hst : ∀ r, st.getD [] ≠ c :: r) (w : World) (h : QS w g st) :
    Calls Try.prog 57 #[ptr g, .int .u8 c.toNat] w fun e w' => e = .returned (.bool false) ∧ QS w' g none ∧ w.grownBy w' (some g) :=
  (qclose_any g c _ w h).mono fun e w' hp => by
    rcases hp with ⟨r, h1, h2, h3, h4⟩ | ⟨_, h2, h3, h4⟩
    · exact absurd h1 (hst r)
    · exact ⟨h2, h3, h4⟩

set_option maxHeartbeats 400000 in
theorem qnumber_ok (g : Nat) (c : UInt8) (hc : isDig c = false) (hc2 : c ≠ 45) (st : St) (w : World) (h : QS w g st) (hl : (st.getD []).length ≤ 400) (n : Nat) (r : List UInt8) (hs : num c (st.getD []) = some (n, r)) :
    Calls Try.prog 50 #[ptr g, .int .u8 c.toNat] w fun e w' => e = .returned (.int .i64 n) ∧ QS w' g (some r) ∧ w.grownBy w' (some g) := by
  have HD := Lib.hid (ahead_ok g c hc hc2 st w h hl n r ((num_is hc).1 hs))
  clear h hl hs
  go_enter Try.func50, Try.ntmps50
  go_wp2_with (go_at_call 55; refine HD.out.mono ?_; rintro e w1 ⟨rfl, h1, h2⟩)
  go_ret
  exact ⟨rfl, h1, h2⟩

set_option maxHeartbeats 400000 in
theorem qnumber_bad (g : Nat) (c : UInt8) (hc : isDig c = false) (hc2 : c ≠ 45) (st : St) (w : World) (h : QS w g st) (hl : (st.getD []).length ≤ 400) (hs : num c (st.getD []) = none) :
    Calls Try.prog 50 #[ptr g, .int .u8 c.toNat] w fun e w' => e = .returned (.int .i64 0) ∧ QS w' g none ∧ w.grownBy w' (some g) := by
  by_cases hz : ∃ z r, IsInt c (st.getD []) z r
  · obtain ⟨z, r, hz⟩ := hz
    have hneg : z < 0 := by
      by_cases h0 : z < 0
      · exact h0
      · have e : z = ((z.toNat : Nat) : Int) := by omega
        rw [e] at hz
        have := (num_is hc).2 hz
        rw [hs] at this
        cases this
    have HD := Lib.hid (ahead_ok g c hc hc2 st w h hl z r hz)
    clear h hl hs hz
    go_enter Try.func50, Try.ntmps50
    go_wp2_with (first
      | (go_at_call 55; refine HD.out.mono ?_; rintro e w1 ⟨rfl, h1, h2⟩)
      | (go_at_call 56; refine (qfail_any g _ _ h1).mono ?_; rintro e w2 ⟨rfl, h3, h4⟩))
    go_ret
    exact ⟨rfl, h3, grown_trans h2 h4⟩
  · have HD := Lib.hid (ahead_bad g c hc hc2 st w h hl (fun z r hh => hz ⟨z, r, hh⟩))
    clear h hl hs hz
    go_enter Try.func50, Try.ntmps50
    go_wp2_with (go_at_call 55; refine HD.out.mono ?_; rintro e w1 ⟨rfl, h1, h2⟩)
    go_ret
    exact ⟨rfl, h1, h2⟩

set_option maxHeartbeats 400000 in
theorem qnum_ok (g : Nat) (st : St) (w : World) (h : QS w g st) (hl : (st.getD []).length ≤ 400) (n : Nat) (r : List UInt8) (hs : num 59 (st.getD []) = some (n, r)) :
    Calls Try.prog 25 #[ptr g] w fun e w' => e = .returned (.int .i64 n) ∧ QS w' g (some r) ∧ w.grownBy w' (some g) := by
  have HD := Lib.hid (qnumber_ok g 59 rfl (by decide) st w h hl n r hs)
  clear h hl hs
  go_enter Try.func25, Try.ntmps25
  go_wp2_with (go_at_call 50; refine HD.out.mono ?_; rintro e w1 ⟨rfl, h1, h2⟩)
  go_ret
  exact ⟨rfl, h1, h2⟩
set_option maxHeartbeats 400000 in
theorem qnum_bad (g : Nat) (st : St) (w : World) (h : QS w g st) (hl : (st.getD []).length ≤ 400) (hs : num 59 (st.getD []) = none) :
    Calls Try.prog 25 #[ptr g] w fun e w' => e = .returned (.int .i64 0) ∧ QS w' g none ∧ w.grownBy w' (some g) := by
  have HD := Lib.hid (qnumber_bad g 59 rfl (by decide) st w h hl hs)
  clear h hl hs
  go_enter Try.func25, Try.ntmps25
  go_wp2_with (go_at_call 50; refine HD.out.mono ?_; rintro e w1 ⟨rfl, h1, h2⟩)
  go_ret
  exact ⟨rfl, h1, h2⟩
set_option maxHeartbeats 400000 in
theorem qint_ok (g : Nat) (st : St) (w : World) (h : QS w g st) (hl : (st.getD []).length ≤ 400) (z : Int) (r : List UInt8) (hs : int (st.getD []) = some (z, r)) :
    Calls Try.prog 27 #[ptr g] w fun e w' => e = .returned (.int .i64 z) ∧ QS w' g (some r) ∧ w.grownBy w' (some g) := by
  have HD := Lib.hid (ahead_ok g 59 rfl (by decide) st w h hl z r (int_is.1 hs))
  clear h hl hs
  go_enter Try.func27, Try.ntmps27
  go_wp2_with (go_at_call 55; refine HD.out.mono ?_; rintro e w1 ⟨rfl, h1, h2⟩)
  go_ret
  exact ⟨rfl, h1, h2⟩
set_option maxHeartbeats 400000 in
theorem qint_bad (g : Nat) (st : St) (w : World) (h : QS w g st) (hl : (st.getD []).length ≤ 400) (hs : int (st.getD []) = none) :
    Calls Try.prog 27 #[ptr g] w fun e w' => e = .returned (.int .i64 0) ∧ QS w' g none ∧ w.grownBy w' (some g) := by
  have HD := Lib.hid (ahead_bad g 59 rfl (by decide) st w h hl (fun z r hz => by
    have := int_is.2 hz
    rw [hs] at this
    cases this))
  clear h hl hs
  go_enter Try.func27, Try.ntmps27
  go_wp2_with (go_at_call 55; refine HD.out.mono ?_; rintro e w1 ⟨rfl, h1, h2⟩)
  go_ret
  exact ⟨rfl, h1, h2⟩

theorem drop_some_lt {r r' : List UInt8} {n : Nat} {c : UInt8} (h : r.drop n = c :: r') : n < r.length := by
  rcases Nat.lt_or_ge n r.length with hlt | hge
  · exact hlt
  · rw [List.drop_eq_nil_of_le hge] at h
    cases h

set_option maxHeartbeats 2000000 in
theorem qtext_ok (g : Nat) (st : St) (w : World) (h : QS w g st) (hl : (st.getD []).length ≤ 400) (t r' : List UInt8) (hs : text (st.getD []) = some (t, r')) :
    Calls Try.prog 29 #[ptr g] w fun e w' => e = .returned (str t) ∧ QS w' g (some r') ∧ w.grownBy w' (some g) := by
  obtain ⟨n, r, h1, hn, hd, rfl⟩ := text_some hs
  have HD := Lib.hid (qnumber_ok g 58 rfl (by decide) st w h hl n r h1)
  have e1 := rest_bytes r n
  have HE := Lib.hid hd
  have hlt := drop_some_lt hd
  clear h hl hs h1 hd hn
  go_enter Try.func29, Try.ntmps29
  go_wp2_with (first
    | (go_at_call 50; refine HD.out.mono ?_; rintro e w1 ⟨rfl, h1, h2⟩; have c0 := h1.at 0; have c1 := h1.at 1; have f0 := h1.thaw 0)
    | (go_at_call 57; refine (qclose_ok g 44 r' _ (by rw [← HE.out]; exact h1.rest _)).mono ?_; rintro e w2 ⟨rfl, h3, h4⟩))
  go_ret
  exact ⟨congrArg (fun s => Ending.returned (.string s)) (head_bytes r n), h3, grown_trans (grown_trans h2 (grown_set _ _ _ _)) h4⟩

set_option maxHeartbeats 2000000 in
theorem qtext_bad (g : Nat) (st : St) (w : World) (h : QS w g st) (hl : (st.getD []).length ≤ 400) (hs : text (st.getD []) = none) :
    Calls Try.prog 29 #[ptr g] w fun e w' => e = .returned (str []) ∧ QS w' g none ∧ w.grownBy w' (some g) := by
  rcases text_none hs with hs | ⟨n, r, hs, hc⟩
  · have HD := Lib.hid (qnumber_bad g 58 rfl (by decide) st w h hl hs)
    clear h hl hs
    go_enter Try.func29, Try.ntmps29
    go_wp2_with (first
      | (go_at_call 50; refine HD.out.mono ?_; rintro e w1 ⟨rfl, h1, h2⟩; have c0 := h1.at 0; have c1 := h1.at 1; have f0 := h1.thaw 0; have H1 := Lib.hid h1; clear h1)
      | (go_at_call 56; refine (qfail_any g _ _ H1.out).mono ?_; rintro e w2 ⟨rfl, h3, h4⟩))
    go_ret
    exact ⟨rfl, h3, grown_trans h2 h4⟩
  · have HD := Lib.hid (qnumber_ok g 58 rfl (by decide) st w h hl n r hs)
    clear h hl hs
    have hc' : r.length ≤ n ∨ (n < r.length ∧ ∃ c r', r.drop n = c :: r' ∧ c ≠ 44) := by
      rcases hc with hlt | ⟨hn, hd | ⟨c, r', hd, hne⟩⟩
      · exact .inl (Nat.le_of_lt hlt)
      · exact .inl (List.drop_eq_nil_iff.1 hd)
      · exact .inr ⟨drop_some_lt hd, c, r', hd, hne⟩
    clear hc
    rcases hc' with hlt | ⟨hlt, c, r', hd, hne⟩
    · go_enter Try.func29, Try.ntmps29
      go_wp2_with (first
        | (go_at_call 50; refine HD.out.mono ?_; rintro e w1 ⟨rfl, h1, h2⟩; have c0 := h1.at 0; have c1 := h1.at 1; have f0 := h1.thaw 0; have H1 := Lib.hid h1; clear h1)
        | (go_at_call 56; refine (qfail_any g _ _ H1.out).mono ?_; rintro e w2 ⟨rfl, h3, h4⟩))
      go_ret
      exact ⟨rfl, h3, grown_trans h2 h4⟩
    · have e1 := rest_bytes r n
      have HE : Hid (∀ k, (some (r.drop n)).getD [] ≠ 44 :: k) := by
        intro k hk
        rw [hd] at hk
        injection hk with hk _
        exact hne hk
      clear hd hne
      go_enter Try.func29, Try.ntmps29
      go_wp2_with (first
        | (go_at_call 50; refine HD.out.mono ?_; rintro e w1 ⟨rfl, h1, h2⟩; have c0 := h1.at 0; have c1 := h1.at 1; have f0 := h1.thaw 0; have H1 := Lib.hid h1; clear h1)
        | (go_at_call 57; refine (qclose_bad g 44 _ HE.out _ (H1.out.rest _)).mono ?_; rintro e w2 ⟨rfl, h3, h4⟩))
      go_ret
      exact ⟨rfl, h3, grown_trans (grown_trans h2 (grown_set _ _ _ _)) h4⟩

set_option maxHeartbeats 400000 in
theorem qleft_any (g : Nat) (st : St) (w : World) (h : QS w g st) :
    Calls Try.prog 37 #[ptr g] w fun e w' => e = .returned (.int .i64 ((st.getD []).length : Nat)) ∧ w = w' := by
  have c0 := h.at 0
  clear h
  go_enter Try.func37, Try.ntmps37
  go_wp2_with fail
  go_ret
  exact ⟨rfl, rfl⟩

set_option maxHeartbeats 400000 in
theorem qdone_none (g : Nat) (w : World) (h : QS w g none) :
    Calls Try.prog 39 #[ptr g] w fun e w' => e = .returned (.bool false) ∧ w = w' := by
  have c0 := h.at 0
  have c1 := h.at 1
  clear h
  go_enter Try.func39, Try.ntmps39
  go_wp2_with fail
  go_ret
  exact ⟨rfl, rfl⟩

set_option maxHeartbeats 400000 in
theorem qdone_some (g : Nat) (l : List UInt8) (w : World) (h : QS w g (some l)) :
    Calls Try.prog 39 #[ptr g] w fun e w' => e = .returned (.bool l.isEmpty) ∧ w = w' := by
  have c0 := h.at 0
  have c1 := h.at 1
  clear h
  go_enter Try.func39, Try.ntmps39
  go_wp2_with fail
  go_ret
  refine ⟨?_, rfl⟩
  cases l <;> rfl

set_option maxHeartbeats 400000 in
theorem qtail_any (g : Nat) (st : St) (w : World) (h : QS w g st) :
    Calls Try.prog 41 #[ptr g] w fun e w' => e = .returned (str (st.getD [])) ∧ QS w' g (st.map fun _ => []) ∧ w.grownBy w' (some g) := by
  have c0 := h.at 0
  have f0 := h.thaw 0
  have H := Lib.hid h
  clear h
  go_enter Try.func41, Try.ntmps41
  go_wp2_with fail
  go_ret
  refine ⟨rfl, ?_, grown_set _ _ _ _⟩
  cases st with
  | none => exact Blk.put H.out 0 (str [])
  | some l => exact Blk.put H.out 0 (str [])
end Wire
end Go.Proofs.Ytionidjhfcmgiaa

import Derived.Test.YtionidjhfcmgiaaRefBack
namespace Go.Proofs.Ytionidjhfcmgiaa
open Go.RowKit
set_option linter.unusedVariables false
set_option linter.unusedSimpArgs false
namespace Wire

set_option maxHeartbeats 1000000 in
theorem back_nil (w : World) : Calls Try.prog 62 #[.string ⟨#[]⟩] w (BackPost [] w) := by
  have hint := refInt_any 0 (by omega) (by omega)
  have HI := Lib.hid hint
  clear hint
  go_enter Try.func62, Try.ntmps62
  go_wp2_with fail
  go_loopw [5, 6] (fun nv iv wr => nv = .int .i64 0 ∧ iv = .int .i64 0 ∧ w = wr) (fun _ _ _ => 0)
  case atStart => exact ⟨rfl, rfl, rfl⟩
  case round =>
    obtain ⟨rfl, rfl, rfl⟩ := hrel
    go_wp2_with (go_at_call 14; refine (HI.out _).mono ?_; rintro e w3 ⟨rfl, b3⟩)
    go_ret2
    exact BackPost.yes ⟨by omega, by omega⟩ b3 (by rw [show (⟨#[]⟩ : ByteArray) ++ ⟨#[59]⟩ = ⟨(([] : List UInt8) ++ [59]).toArray⟩ from cat_bytes ([] : List UInt8) [59]]; simp) (fun z hz => absurd (encS_len hz.1.1 hz.1.2).1 (by rw [hz.2]; simp))

theorem back_str (l : List UInt8) (hl : l.length ≤ 400) (w : World) : Calls Try.prog 62 #[str l] w (BackPost l w) := by
  cases l with
  | nil => exact back_nil w
  | cons c t =>
    by_cases hc : c = 45
    · exact back_minus _ (c :: t) t rfl hl c rfl hc w
    · exact back_plus _ (c :: t) t rfl hl c rfl hc w

/-- The block g holds a reader of the reference in this state. -/
def QS (w : World) (g : Nat) (st : St) : Prop := Blk w g 58 #[str (st.getD []), .bool st.isNone]
theorem QS.below {w w' : World} {g : Nat} {st : St} (h : QS w g st) (hb : Below w.heap.size w w') : QS w' g st := Blk.under h hb h.inside
theorem QS.past {w w' : World} {g h : Nat} {st : St} (H : QS w g st) (hg : w.grownBy w' (some h)) (hne : g ≠ h) : QS w' g st := Blk.past H hg (fun e => hne (Option.some.inj e))
theorem RS.past {w w' : World} {g h : Nat} {st : St} (H : RS w g st) (hg : w.grownBy w' (some h)) (hne : g ≠ h) : RS w' g st := Blk.past H hg (fun e => hne (Option.some.inj e))

set_option maxHeartbeats 400000 in
theorem qopen_any (s : ByteArray) (w : World) :
    Calls Try.prog 22 #[.string s] w fun e w' => e = .returned (ptr w.heap.size) ∧ QS w' w.heap.size (some s.data.toList) ∧ Below w.heap.size w w' ∧ w'.heap.size = w.heap.size + 1 := by
  go_enter Try.func22, Try.ntmps22
  go_wp2_with fail
  go_ret
  exact ⟨rfl, Blk.fresh w _ _, (Below.refl _ _).alloc (Nat.le_refl _) _, by simp⟩

set_option maxHeartbeats 400000 in
theorem qfail_any (g : Nat) (st : St) (w : World) (h : QS w g st) :
    Calls Try.prog 56 #[ptr g] w fun e w' => e = .returned (.int .i64 0) ∧ QS w' g none ∧ w.grownBy w' (some g) := by
  have c0 := h.at 0
  have c1 := h.at 1
  have f0 := h.thaw 0
  have f1 := h.thaw 1
  have H := Lib.hid h
  clear h
  go_enter Try.func56, Try.ntmps56
  go_wp2_with fail
  go_ret
  exact ⟨rfl, (Blk.put H.out 0 (str [])).put 1 (.bool true), grown_trans (grown_set _ _ _ _) (grown_set _ _ _ _)⟩

theorem st_first {S : ByteArray} {st : St} (hS : S = ⟨(st.getD []).toArray⟩) (h : 0 < S.size) : ∃ r, st = some (S[0] :: r) ∧ S.extract 1 S.size = ⟨r.toArray⟩ := by
  subst hS
  match st, h with
  | none, h => exact absurd h (Nat.lt_irrefl 0)
  | some [], h => exact absurd h (Nat.lt_irrefl 0)
  | some (a :: r), h => exact ⟨r, rfl, tail_bytes a r⟩
theorem st_some {st : St} {l : List UInt8} (h : 0 < l.length) (hl : st.getD [] = l) : st = some l := by
  cases st with
  | none => subst hl; exact absurd h (Nat.lt_irrefl 0)
  | some k => exact congrArg some hl
theorem bytes_rest {S : ByteArray} {l : List UInt8} (hS : S = ⟨l.toArray⟩) (n : Nat) : S.extract n S.size = ⟨(l.drop n).toArray⟩ := by
  subst hS
  exact rest_bytes l n
theorem bytes_head {S : ByteArray} {l : List UInt8} (hS : S = ⟨l.toArray⟩) (n : Nat) : S.extract 0 n = ⟨(l.take n).toArray⟩ := by
  subst hS
  exact head_bytes l n

/-- What close does. -/
def ClosePost (g : Nat) (c : UInt8) (st : St) (w : World) (e : Ending) (w' : World) : Prop :=
  (∃ r, st.getD [] = c :: r ∧ e = .returned (.bool true) ∧ QS w' g (some r) ∧ w.grownBy w' (some g)) ∨
  ((∀ r, st.getD [] ≠ c :: r) ∧ e = .returned (.bool false) ∧ QS w' g none ∧ w.grownBy w' (some g))

set_option maxHeartbeats 400000 in
theorem qclose_any (g : Nat) (c : UInt8) (st : St) (w : World) (h : QS w g st) :
    Calls Try.prog 57 #[ptr g, .int .u8 c.toNat] w (ClosePost g c st w) := by
  obtain ⟨S, hS⟩ : ∃ S : ByteArray, S = ⟨(st.getD []).toArray⟩ := ⟨_, rfl⟩
  have c0 : w.cell? ⟨g, 0, none⟩ = some (.string S) := by rw [hS]; exact h.at 0
  have f0 := h.thaw 0
  have H := Lib.hid h
  have HS := Lib.hid hS
  clear h hS
  by_cases hn : 0 < S.size
  · by_cases he : S[0] = c
    · have hb : ((S[0].toNat : Int) != (c.toNat : Int)) = false := by rw [he]; simp
      have HE := Lib.hid he
      clear he
      go_enter Try.func57, Try.ntmps57
      go_wp2_with fail
      go_ret
      obtain ⟨r, h1, h2⟩ := st_first HS.out hn
      rw [HE.out] at h1
      refine Or.inl ⟨r, by rw [h1]; rfl, rfl, ?_, grown_set _ _ _ _⟩
      rw [h2]
      have H2 := H.out
      rw [h1] at H2
      exact Blk.put H2 0 (str r)
    · have hb : ((S[0].toNat : Int) != (c.toNat : Int)) = true := by
        rw [bne_iff_ne]
        exact fun e => he (UInt8.toNat_inj.1 (Int.ofNat_inj.1 e))
      have HE := Lib.hid he
      clear he
      go_enter Try.func57, Try.ntmps57
      go_wp2_with (go_at_call 56; refine (qfail_any g st _ H.out).mono ?_; rintro e w' ⟨rfl, h1, h2⟩)
      go_ret
      refine Or.inr ⟨fun r hr => ?_, rfl, h1, h2⟩
      have e := HS.out
      rw [hr] at e
      subst e
      exact HE.out rfl
  · go_enter Try.func57, Try.ntmps57
    go_wp2_with (go_at_call 56; refine (qfail_any g st _ H.out).mono ?_; rintro e w' ⟨rfl, h1, h2⟩)
    go_ret
    refine Or.inr ⟨fun r hr => ?_, rfl, h1, h2⟩
    have e := HS.out
    rw [hr] at e
    subst e
    exact hn (Nat.succ_pos _)

structure AheadRel (W : World) (e : UInt8) (l : List UInt8) (nv : Value) (w : World) (n : Nat) : Prop where
  nv : nv = .int .i64 n
  le : n ≤ l.length
  le21 : n ≤ 21
  no : ∀ j, j < n → l[j]? ≠ some e
  same : W = w

/-- What ahead does. -/
def AheadPost (g : Nat) (c : UInt8) (st : St) (w : World) (e : Ending) (w' : World) : Prop :=
  (∃ z r, IsInt c (st.getD []) z r ∧ e = .returned (.int .i64 z) ∧ QS w' g (some r) ∧ w.grownBy w' (some g)) ∨
  ((∀ z r, ¬ IsInt c (st.getD []) z r) ∧ e = .returned (.int .i64 0) ∧ QS w' g none ∧ w.grownBy w' (some g))

theorem isInt_place {c : UInt8} (hc : isDig c = false) (hc2 : c ≠ 45) {l r : List UInt8} {z : Int} {n : Nat} (h : IsInt c l z r) (hno : ∀ j, j < n → l[j]? ≠ some c) : n ≤ (encS z).length := by
  rcases Nat.lt_or_ge (encS z).length n with hlt | hge
  · exact absurd h.at_ (hno _ hlt)
  · exact hge

theorem isInt_found {c : UInt8} (hc : isDig c = false) (hc2 : c ≠ 45) {l r : List UInt8} {z : Int} {n : Nat} (h : IsInt c l z r) (hno : ∀ j, j < n → l[j]? ≠ some c) (hn : l[n]? = some c) : n = (encS z).length ∧ l.take n = encS z := by
  have h1 := isInt_place hc hc2 h hno
  have h2 : n = (encS z).length := by
    rcases Nat.lt_or_ge n (encS z).length with hlt | hge
    · exact absurd rfl (h.before hc hc2 hlt hn)
    · omega
  refine ⟨h2, ?_⟩
  rw [h2, h.eq, List.take_left]

theorem no_int {c : UInt8} (hc : isDig c = false) (hc2 : c ≠ 45) {l : List UInt8} {n : Nat} {x : Int} {ok : Bool} (hz : ∀ z, Canon (l.take n) z → ok = true ∧ x = z) (hno : ∀ j, j < n → l[j]? ≠ some c) (hn : l[n]? = some c) (hok : (!ok) = true) : ∀ z r, ¬ IsInt c l z r := by
  intro z r h
  obtain ⟨h1, h2⟩ := isInt_found hc hc2 h hno hn
  have := (hz z ⟨⟨h.lo, h.hi⟩, h2.symm⟩).1
  rw [this] at hok
  cases hok
theorem yes_int {c : UInt8} {l : List UInt8} {n : Nat} {x : Int} {ok : Bool} (hx : In64 x) (hy : ok = true → Canon (l.take n) x) (hn : l[n]? = some c) (hok : (!ok) = false) : IsInt c l x (l.drop (n + 1)) := by
  have hy := hy (by simpa using hok)
  refine ⟨hx.1, hx.2, ?_⟩
  rw [hy.2]
  conv => lhs; rw [← List.take_append_drop n l]
  congr 1
  obtain ⟨hlt, he⟩ := List.getElem?_eq_some_iff.1 hn
  rw [List.drop_eq_getElem_cons hlt, he]

set_option maxRecDepth 100000 in
set_option maxHeartbeats 2000000 in
theorem ahead_any (g : Nat) (c : UInt8) (hc : isDig c = false) (hc2 : c ≠ 45) (st : St) (w : World) (h : QS w g st) (hl : (st.getD []).length ≤ 400) :
    Calls Try.prog 55 #[ptr g, .int .u8 c.toNat] w (AheadPost g c st w) := by
  obtain ⟨S, hS⟩ : ∃ S : ByteArray, S = ⟨(st.getD []).toArray⟩ := ⟨_, rfl⟩
  have c0 : w.cell? ⟨g, 0, none⟩ = some (.string S) := by rw [hS]; exact h.at 0
  have f0 := h.thaw 0
  have hsz : S.size ≤ 400 := by rw [hS]; exact hl
  have HN : Hid (S.size = (st.getD []).length) := by rw [hS]; rfl
  have HG : Hid (∀ j (hj : j < S.size), (st.getD [])[j]? = some S[j]) := by
    intro j hj
    subst hS
    exact List.getElem?_eq_getElem hj
  have H := Lib.hid h
  have HS := Lib.hid hS
  have HCC := Lib.hid hc
  have HC2 := Lib.hid hc2
  clear h hS hl hc hc2
  go_enter Try.func55, Try.ntmps55
  go_wp2_with fail
  go_loopw [5] (fun nv wr => ∃ n, AheadRel w c (st.getD []) nv wr n) (fun nv _ => S.size - (intOf nv).toNat)
  case atStart => exact ⟨0, rfl, Nat.zero_le _, Nat.zero_le _, (fun j hj => absurd hj (by omega)), rfl⟩
  case round =>
    obtain ⟨n, ⟨rfl, hle, h21, hno, rfl⟩⟩ := hrel
    have HNo := Lib.hid hno
    have HLe := Lib.hid hle
    clear hno hle
    by_cases hlt : n < S.size
    · by_cases hne : S[n].toNat = c.toNat
      · have hb : ((S[n].toNat : Int) != (c.toNat : Int)) = false := by rw [hne]; simp
        have HX := Lib.hid (bytes_head HS.out n)
        have HL : Hid (((st.getD []).take n).length ≤ 400) := by
          show ((st.getD []).take n).length ≤ 400
          rw [List.length_take]
          have := HN.out
          omega
        have hn1 : n + 1 ≤ S.size := by omega
        have HC : Hid ((st.getD [])[n]? = some c) := (HG.out n hlt).trans (congrArg some (UInt8.toNat_inj.1 hne))
        by_cases hl21 : n < 21
        · go_wp2_with (first
            | (go_at_call 62; rw [HX.out]; refine (back_str _ HL.out _).mono ?_; rintro e w1 ⟨x, ok, rfl, hx, hy, hz, b1⟩; have c1 : w1.cell? ⟨g, 0, none⟩ = some (.string S) := (by rw [HS.out]; exact (H.out.below b1).at 0); have f1 := (H.out.below b1).thaw 0; have HYa := Lib.hid hy; have HZ := Lib.hid hz; clear hy hz)
            | (go_at_call 56; refine (qfail_any g st _ (H.out.below b1)).mono ?_; rintro e w2 ⟨rfl, q1, q2⟩))
          · go_ret
            exact Or.inr ⟨no_int HCC.out HC2.out HZ.out HNo.out HC.out (by assumption), rfl, q1, grown_trans (below_none b1 _) q2⟩
          · go_ret
            refine Or.inl ⟨x, _, yes_int hx HYa.out HC.out (by assumption), rfl, ?_, grown_trans (below_none b1 _) (grown_set _ _ _ _)⟩
            rw [bytes_rest HS.out (n + 1)]
            have hst := st_some (st := st) (l := st.getD []) (by have := HN.out; omega) rfl
            have H2 := H.out.below b1
            rw [hst] at H2 ⊢
            exact Blk.put H2 0 (str _)
        · go_wp2_with (first
            | (go_at_call 62; rw [HX.out]; refine (back_str _ HL.out _).mono ?_; rintro e w1 ⟨x, ok, rfl, hx, hy, hz, b1⟩; have c1 : w1.cell? ⟨g, 0, none⟩ = some (.string S) := (by rw [HS.out]; exact (H.out.below b1).at 0); have f1 := (H.out.below b1).thaw 0; have HYa := Lib.hid hy; have HZ := Lib.hid hz; clear hy hz)
            | (go_at_call 56; refine (qfail_any g st _ (H.out.below b1)).mono ?_; rintro e w2 ⟨rfl, q1, q2⟩))
          · go_ret
            exact Or.inr ⟨no_int HCC.out HC2.out HZ.out HNo.out HC.out (by assumption), rfl, q1, grown_trans (below_none b1 _) q2⟩
          · go_ret
            refine Or.inl ⟨x, _, yes_int hx HYa.out HC.out (by assumption), rfl, ?_, grown_trans (below_none b1 _) (grown_set _ _ _ _)⟩
            rw [bytes_rest HS.out (n + 1)]
            have hst := st_some (st := st) (l := st.getD []) (by have := HN.out; omega) rfl
            have H2 := H.out.below b1
            rw [hst] at H2 ⊢
            exact Blk.put H2 0 (str _)
      · have hb : ((S[n].toNat : Int) != (c.toNat : Int)) = true := by
          rw [bne_iff_ne]
          exact fun e => hne (Int.ofNat_inj.1 e)
        have HNE := Lib.hid hne
        clear hne
        by_cases hl21 : n < 21
        · go_wp2_with fail
          go_roundw
          case rel => exact ⟨n + 1, by simp, by have := HN.out; omega, by omega, (fun j hj => by
            rcases Nat.lt_or_ge j n with h | h
            · exact HNo.out j h
            · obtain rfl : j = n := by omega
              rw [HG.out j hlt]
              exact fun e => HNE.out (by rw [Option.some.inj e])), rfl⟩
          case measure => simp [intOf]; omega
        · go_wp2_with (go_at_call 56; refine (qfail_any g st _ H.out).mono ?_; rintro e w2 ⟨rfl, q1, q2⟩)
          go_ret
          refine Or.inr ⟨fun z r hz => ?_, rfl, q1, q2⟩
          have h1 := isInt_place HCC.out HC2.out hz HNo.out
          have h2 := (encS_len hz.lo hz.hi).2
          omega
    · go_wp2_with (go_at_call 56; refine (qfail_any g st _ H.out).mono ?_; rintro e w2 ⟨rfl, q1, q2⟩)
      go_ret
      refine Or.inr ⟨fun z r hz => ?_, rfl, q1, q2⟩
      have h1 := isInt_place HCC.out HC2.out hz HNo.out
      have h2 := HN.out
      have h3 : (st.getD []).length = (encS z).length + (r.length + 1) := by rw [hz.eq]; simp
      omega
end Wire
end Go.Proofs.Ytionidjhfcmgiaa

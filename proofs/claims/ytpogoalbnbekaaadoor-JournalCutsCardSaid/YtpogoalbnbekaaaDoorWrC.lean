/- Package wire's reader: Open, Num, Int, Text, Left, Done, Rest by the plain functions of WrB. -/
import Derived.Test.YtpogoalbnbekaaaDoorWrB
namespace Go.Proofs.YtpogoalbnbekaaaDoor
open Go.RowKit Wire
open Txt (str Row bytes_append info_byte bytes_size)
set_option linter.unusedVariables false
set_option linter.unusedSimpArgs false
namespace Wr


/-- The state of a reader: what is left, or none if it has failed. -/
abbrev St := Option (List UInt8)
/-- The block g holds a reader in this state. -/
def RS (w : World) (g : Nat) (st : St) : Prop := Blk w g 95 #[str (st.getD []), .bool st.isNone]
abbrev ptr (g : Nat) : Value := .pointer (some ⟨g, 0, none⟩)

set_option maxHeartbeats 400000 in
theorem open_any (s : ByteArray) (w : World) :
    Calls Tryd.prog 24 #[.string s] w fun e w' => e = .returned (ptr w.heap.size) ∧ RS w' w.heap.size (some s.data.toList) ∧ Below w.heap.size w w' ∧ w'.heap.size = w.heap.size + 1 := by
  go_enter Tryd.func24, Tryd.ntmps24
  go_wp2_with fail
  go_ret
  exact ⟨rfl, Blk.fresh w _ _, (Below.refl _ _).alloc (Nat.le_refl _) _, by simp⟩

set_option maxHeartbeats 400000 in
theorem isDigit_yes (c : UInt8) (h : isDig c = true) (w : World) :
    Calls Tryd.prog 77 #[.int .u8 c.toNat] w fun e w' => e = .returned (.bool true) ∧ w = w' := by
  simp only [isDig, Bool.and_eq_true, decide_eq_true_eq] at h
  obtain ⟨h1, h2⟩ := h
  have h3 : (48 : Int) ≤ (c.toNat : Int) := by omega
  have h4 : (c.toNat : Int) ≤ 57 := by omega
  clear h1 h2
  go_enter Tryd.func77, Tryd.ntmps77
  go_wp2_with fail
  go_ret
  exact ⟨by simp [h4], rfl⟩

set_option maxHeartbeats 400000 in
theorem isDigit_no (c : UInt8) (h : isDig c = false) (w : World) :
    Calls Tryd.prog 77 #[.int .u8 c.toNat] w fun e w' => e = .returned (.bool false) ∧ w = w' := by
  have h' : ¬ (48 ≤ c.toNat ∧ c.toNat ≤ 57) := fun hh => by simp [isDig, hh.1, hh.2] at h
  clear h
  by_cases h1 : (48 : Int) ≤ (c.toNat : Int)
  · have h2 : (57 : Int) < (c.toNat : Int) := by omega
    clear h'
    go_enter Tryd.func77, Tryd.ntmps77
    go_wp2_with fail
    go_ret
    exact ⟨by simp; omega, rfl⟩
  · clear h'
    go_enter Tryd.func77, Tryd.ntmps77
    go_wp2_with fail
    go_ret
    exact ⟨rfl, rfl⟩

set_option maxHeartbeats 400000 in
theorem fail_any (g : Nat) (st : St) (w : World) (h : RS w g st) :
    Calls Tryd.prog 52 #[ptr g] w fun e w' => e = .returned (.tuple #[]) ∧ RS w' g none ∧ w.grownBy w' (some g) := by
  have c0 := h.at 0
  have c1 := h.at 1
  have f0 := h.thaw 0
  have f1 := h.thaw 1
  go_enter Tryd.func52, Tryd.ntmps52
  go_wp2_with fail
  go_end0
  exact ⟨rfl, (Blk.put h 1 (.bool true)).put 0 _, grown_trans (grown_set _ _ _ _) (grown_set _ _ _ _)⟩

set_option maxHeartbeats 400000 in
theorem begins_nil (g : Nat) (st : St) (hst : st.getD [] = []) (c : UInt8) (w : World) (h : RS w g st) :
    Calls Tryd.prog 68 #[ptr g, .int .u8 c.toNat] w fun e w' => e = .returned (.bool false) ∧ w = w' := by
  unfold RS at h
  rw [hst] at h
  have c0 := h.at 0
  clear hst h
  go_enter Tryd.func68, Tryd.ntmps68
  go_wp2_with fail
  go_ret
  exact ⟨rfl, rfl⟩

theorem first_byte (c0 : UInt8) (l : List UInt8) (h : 0 < (⟨(c0 :: l).toArray⟩ : ByteArray).size) : (⟨(c0 :: l).toArray⟩ : ByteArray)[0] = c0 := rfl

set_option maxHeartbeats 400000 in
theorem begins_cons (g : Nat) (c0 : UInt8) (l : List UInt8) (c : UInt8) (b : Bool) (hb : b = ((c0.toNat : Int) == (c.toNat : Int))) (w : World) (h : RS w g (some (c0 :: l))) :
    Calls Tryd.prog 68 #[ptr g, .int .u8 c.toNat] w fun e w' => e = .returned (.bool b) ∧ w = w' := by
  have hc := h.at 0
  have H := Lib.hid hb
  clear h hb
  go_enter Tryd.func68, Tryd.ntmps68
  go_wp2_with fail
  go_ret
  exact ⟨by rw [H.out]; rfl, rfl⟩

set_option maxHeartbeats 400000 in
theorem skip_ok (g : Nat) (l : List UInt8) (c : UInt8) (w : World) (h : RS w g (some (c :: l))) :
    Calls Tryd.prog 53 #[ptr g, .int .u8 c.toNat] w fun e w' => e = .returned (.tuple #[]) ∧ RS w' g (some l) ∧ w.grownBy w' (some g) := by
  have c0 := h.at 0
  have f0 := h.thaw 0
  have H := Lib.hid h
  clear h
  go_enter Tryd.func53, Tryd.ntmps53
  go_wp2_with (go_at_call 68; refine (begins_cons g c l c true (by simp) _ H.out).mono ?_; rintro e w' ⟨rfl, rfl⟩)
  go_end0
  refine ⟨rfl, ?_, grown_set _ _ _ _⟩
  rw [show (⟨(c :: l).toArray⟩ : ByteArray).extract 1 (l.length + 1) = ⟨l.toArray⟩ from by rw [bytes_extract, List.take_of_length_le (by simp)]; rfl]
  exact Blk.put H.out 0 (str l)

set_option maxHeartbeats 400000 in
theorem skip_nil (g : Nat) (st : St) (hst : st.getD [] = []) (c : UInt8) (w : World) (h : RS w g st) :
    Calls Tryd.prog 53 #[ptr g, .int .u8 c.toNat] w fun e w' => e = .returned (.tuple #[]) ∧ RS w' g none ∧ w.grownBy w' (some g) := by
  have H := Lib.hid h
  have HS := Lib.hid hst
  clear h hst
  go_enter Tryd.func53, Tryd.ntmps53
  go_wp2_with (first
    | (go_at_call 68; refine (begins_nil g st HS.out c _ H.out).mono ?_; rintro e w' ⟨rfl, rfl⟩)
    | (go_at_call 52; refine (fail_any g st _ H.out).mono ?_; rintro e w' ⟨rfl, h1, h2⟩))
  refine bodyPost_ret (results_none rfl _ _ _) rfl ?_
  exact ⟨rfl, h1, h2⟩

set_option maxHeartbeats 400000 in
theorem skip_bad (g : Nat) (c0 : UInt8) (l : List UInt8) (c : UInt8) (hne : c0 ≠ c) (w : World) (h : RS w g (some (c0 :: l))) :
    Calls Tryd.prog 53 #[ptr g, .int .u8 c.toNat] w fun e w' => e = .returned (.tuple #[]) ∧ RS w' g none ∧ w.grownBy w' (some g) := by
  have H := Lib.hid h
  have HS : Hid (false = ((c0.toNat : Int) == (c.toNat : Int))) := by
    show false = _
    symm
    rw [beq_eq_false_iff_ne]
    exact fun e => hne (UInt8.toNat_inj.1 (Int.ofNat_inj.1 e))
  clear h hne
  go_enter Tryd.func53, Tryd.ntmps53
  go_wp2_with (first
    | (go_at_call 68; refine (begins_cons g c0 l c false HS.out _ H.out).mono ?_; rintro e w' ⟨rfl, rfl⟩)
    | (go_at_call 52; refine (fail_any g _ _ H.out).mono ?_; rintro e w' ⟨rfl, h1, h2⟩))
  refine bodyPost_ret (results_none rfl _ _ _) rfl ?_
  exact ⟨rfl, h1, h2⟩

/-! The digits. -/

def DigPost (g most : Nat) (st : St) (w : World) (e : Ending) (w' : World) : Prop :=
  (∃ n r, st.bind (scan most 0 0) = some (n, r) ∧ e = .returned (.int .u64 (n : Nat)) ∧ RS w' g (some r) ∧ w.grownBy w' (some g)) ∨
  (st.bind (scan most 0 0) = none ∧ e = .returned (.int .u64 0) ∧ RS w' g none ∧ w.grownBy w' (some g))

structure ScanRel (most : Nat) (s : ByteArray) (W : World) (nv iv : Value) (w : World) (n i : Nat) : Prop where
  nv : nv = .int .u64 n
  iv : iv = .int .i64 i
  le : i ≤ s.size
  small : n ≤ most
  zero : i = 0 → n = 0
  told : scan most 0 0 s.data.toList = scan most n i (s.data.toList.drop i)
  same : W = w

theorem drop_at {s : ByteArray} {i : Nat} (h : i < s.size) : s.data.toList.drop i = s[i] :: s.data.toList.drop (i + 1) := by
  have h' : i < s.data.toList.length := by rw [Array.length_toList]; exact h
  rw [List.drop_eq_getElem_cons h', Array.getElem_toList]
  rfl

theorem bind_scan (most : Nat) (st : St) : st.bind (scan most 0 0) = scan most 0 0 (st.getD []) := by
  cases st <;> simp [scan]

theorem ScanRel.step {most n i : Nat} {s : ByteArray} {W : World} {c : UInt8} (hlt : i < s.size) (hc : s[i] = c) (hd : isDig c = true) (hm : 9 ≤ most) (hz : ¬ (0 < i ∧ n = 0)) (hb : n ≤ (most - (c.toNat - 48)) / 10)
    (ht : scan most 0 0 s.data.toList = scan most n i (s.data.toList.drop i)) :
    ScanRel most s W (.int .u64 ((n : Int) * 10 + ((c.toNat : Int) - 48))) (.int .i64 ((i : Int) + 1)) W (n * 10 + (c.toNat - 48)) (i + 1) := by
  have hv := (dig_byte hd).2
  have hd2 := hd
  simp only [isDig, Bool.and_eq_true, decide_eq_true_eq] at hd2
  refine ⟨by congr 1; omega, by simp, hlt, ?_, by omega, ?_, rfl⟩
  · unfold val at hv
    omega
  · rw [ht, drop_at hlt, hc, scan, if_pos hd, if_neg (by unfold val; omega)]
    rfl

theorem scan_fail {most n i : Nat} {s : ByteArray} {c : UInt8} (hlt : i < s.size) (hc : s[i] = c) (hd : isDig c = true) (hz : (0 < i ∧ n = 0) ∨ (most - (c.toNat - 48)) / 10 < n)
    (ht : scan most 0 0 s.data.toList = scan most n i (s.data.toList.drop i)) : scan most 0 0 s.data.toList = none := by
  rw [ht, drop_at hlt, hc, scan, if_pos hd, if_pos (by unfold val; exact hz)]

theorem scan_stop {most n i : Nat} {s : ByteArray} (hd : ∀ h : i < s.size, isDig s[i] = false) (ht : scan most 0 0 s.data.toList = scan most n i (s.data.toList.drop i)) :
    scan most 0 0 s.data.toList = if i = 0 then none else some (n, s.data.toList.drop i) := by
  rw [ht]
  by_cases hlt : i < s.size
  · rw [drop_at hlt, scan, if_neg (by rw [hd hlt]; simp)]
  · rw [List.drop_eq_nil_of_le (by rw [Array.length_toList]; show s.size ≤ i; omega), scan]

theorem DigPost.bad {g most : Nat} {st : St} {w w' : World} {s : ByteArray} (hs : s = ⟨(st.getD []).toArray⟩) (h : scan most 0 0 s.data.toList = none) (h1 : RS w' g none) (h2 : w.grownBy w' (some g)) {v : Value} (hv : v = .int .u64 0) : DigPost g most st w (.returned v) w' := by
  subst hs hv
  exact .inr ⟨(bind_scan most st).trans h, rfl, h1, h2⟩

theorem DigPost.good {g most n i : Nat} {st : St} {w : World} {s : ByteArray} (hs : s = ⟨(st.getD []).toArray⟩) (hw : RS w g st) (h : scan most 0 0 s.data.toList = some (n, s.data.toList.drop i)) (hi : i ≤ s.size) :
    DigPost g most st w (.returned (.int .u64 n)) (w.setCell ⟨g, 0, none⟩ (.string (s.extract i s.size))) := by
  refine .inl ⟨n, _, (bind_scan most st).trans (by rw [hs] at h; exact h), rfl, ?_, grown_set _ _ _ _⟩
  have e : st.isNone = false := by
    cases st with
    | none => subst hs; simp [scan] at h
    | some l => rfl
  have hp := Blk.put hw 0 (.string (s.extract i s.size))
  rw [e] at hp
  subst hs
  rw [show (⟨(st.getD []).toArray⟩ : ByteArray).extract i (⟨(st.getD []).toArray⟩ : ByteArray).size = ⟨((st.getD []).drop i).toArray⟩ from by rw [bytes_extract, List.take_of_length_le (by show _ ≤ (st.getD []).length; exact Nat.le_refl _)]] at hp ⊢
  exact hp

theorem DigPost.all {g most n : Nat} {st : St} {w : World} {s : ByteArray} (hs : s = ⟨(st.getD []).toArray⟩) (hw : RS w g st) (h : scan most 0 0 s.data.toList = some (n, s.data.toList.drop s.size)) :
    DigPost g most st w (.returned (.int .u64 n)) (w.setCell ⟨g, 0, none⟩ (.string ByteArray.empty)) := by
  have hp := DigPost.good hs hw h (Nat.le_refl _)
  have e : s.extract s.size s.size = ByteArray.empty := by
    subst hs
    rw [bytes_extract, List.drop_eq_nil_of_le (by show _ ≤ (st.getD []).length; rw [List.length_take]; exact Nat.min_le_right _ _)]
    rfl
  rw [e] at hp
  exact hp

set_option maxHeartbeats 1000000 in
theorem rdigits_any (g most : Nat) (h9 : 9 ≤ most) (hm : most ≤ 9223372036854775808) (st : St) (w : World) (h : RS w g st) (hl : (st.getD []).length ≤ 4611686018427387904) :
    Calls Tryd.prog 67 #[ptr g, .int .u64 most] w (DigPost g most st w) := by
  obtain ⟨s, hs⟩ : ∃ s : ByteArray, s = ⟨(st.getD []).toArray⟩ := ⟨_, rfl⟩
  have c0 : w.cell? ⟨g, 0, none⟩ = some (.string s) := by rw [hs]; exact h.at 0
  have f0 := h.thaw 0
  have hsz : s.size ≤ 4611686018427387904 := by rw [hs]; exact hl
  have H := Lib.hid h
  have HS := Lib.hid hs
  clear h hs hl
  go_enter Tryd.func67, Tryd.ntmps67
  go_wp2_with fail
  go_loopw [5, 6] (fun nv iv wr => ∃ n i, ScanRel most s w nv iv wr n i) (fun _ iv _ => s.size - (intOf iv).toNat)
  case atStart => exact ⟨0, 0, rfl, rfl, Nat.zero_le _, Nat.zero_le _, fun _ => rfl, rfl, rfl⟩
  case round =>
    obtain ⟨n, i, ⟨rfl, rfl, hi, hn, h0, htold, rfl⟩⟩ := hrel
    have HT := Lib.hid htold
    have H0 := Lib.hid h0
    clear htold h0
    by_cases hlt : i < s.size
    · obtain ⟨c, hc⟩ : ∃ c, s[i] = c := ⟨_, rfl⟩
      have HC := Lib.hid hc
      by_cases hd : isDig c = true
      · have hd2 := hd
        simp only [isDig, Bool.and_eq_true, decide_eq_true_eq] at hd2
        have h1 : (48 : Int) ≤ (c.toNat : Int) := by omega
        have h2 : (c.toNat : Int) ≤ 57 := by omega
        clear hd2
        by_cases hz : 0 < i ∧ n = 0
        · obtain ⟨hi0, hn0⟩ := hz
          have HF := Lib.hid (scan_fail hlt hc hd (.inl ⟨hi0, hn0⟩) HT.out)
          have hni : ((n : Int) == 0) = true := by simp [hn0]
          clear hn0
          go_wp2_with (first
            | (go_at_call 77; refine (isDigit_yes c hd _).mono ?_; rintro e w' ⟨rfl, rfl⟩)
            | (go_at_call 52; refine (fail_any g st _ H.out).mono ?_; rintro e w' ⟨rfl, h1, h2⟩))
          go_ret
          exact DigPost.bad HS.out HF.out h1 h2 rfl
        · by_cases hb : (most - (c.toNat - 48)) / 10 < n
          · have HF := Lib.hid (scan_fail hlt hc hd (.inr hb) HT.out)
            have hi0 : 0 < i := by
              rcases Nat.eq_zero_or_pos i with e | e
              · have := H0.out e
                omega
              · exact e
            have hni : ((n : Int) == 0) = false := by simp; omega
            clear hz
            go_wp2_with (first
              | (go_at_call 77; refine (isDigit_yes c hd _).mono ?_; rintro e w' ⟨rfl, rfl⟩)
              | (go_at_call 52; refine (fail_any g st _ H.out).mono ?_; rintro e w' ⟨rfl, h1, h2⟩))
            go_ret
            exact DigPost.bad HS.out HF.out h1 h2 rfl
          · have HF := Lib.hid (ScanRel.step (W := w) hlt hc hd h9 hz (by omega) HT.out)
            by_cases hi0 : 0 < i
            · have hni : ((n : Int) == 0) = false := by simp; omega
              clear hz
              go_wp2_with (go_at_call 77; refine (isDigit_yes c hd _).mono ?_; rintro e w' ⟨rfl, rfl⟩)
              go_roundw
              case rel => exact ⟨_, _, HF.out⟩
              case measure => simp [intOf]; omega
            · clear hz
              go_wp2_with (go_at_call 77; refine (isDigit_yes c hd _).mono ?_; rintro e w' ⟨rfl, rfl⟩)
              go_roundw
              case rel => exact ⟨_, _, HF.out⟩
              case measure => simp [intOf]; omega
      · have hd' : isDig c = false := by simpa using hd
        have HF := Lib.hid (scan_stop (fun _ => by rw [hc]; exact hd') HT.out)
        clear hd
        by_cases hi0 : 0 < i
        · have hni : ((i : Int) == 0) = false := by simp; omega
          go_wp2_with (go_at_call 77; refine (isDigit_no c hd' _).mono ?_; rintro e w' ⟨rfl, rfl⟩)
          go_ret
          have e := HF.out
          rw [if_neg (by omega)] at e
          exact DigPost.good HS.out H.out e hi
        · obtain rfl : i = 0 := by omega
          obtain rfl : n = 0 := H0.out rfl
          go_wp2_with (first
            | (go_at_call 77; refine (isDigit_no c hd' _).mono ?_; rintro e w' ⟨rfl, rfl⟩)
            | (go_at_call 52; refine (fail_any g st _ H.out).mono ?_; rintro e w' ⟨rfl, h1, h2⟩; have c0' := h1.at 0; have f0' := h1.thaw 0; have H1 := Lib.hid h1; clear h1))
          go_ret
          exact DigPost.bad HS.out (HF.out.trans (if_pos trivial)) (Blk.put H1.out 0 (str [])) (grown_trans h2 (grown_set _ _ _ _)) rfl
    · have HF := Lib.hid (scan_stop (fun h => absurd h hlt) HT.out)
      by_cases hi0 : 0 < i
      · obtain rfl : i = s.size := by omega
        have hni : ((s.size : Int) == 0) = false := beq_eq_false_iff_ne.2 (by omega)
        go_wp2_with fail
        go_ret
        exact DigPost.all HS.out H.out (HF.out.trans (if_neg (Nat.ne_of_gt hi0)))
      · obtain rfl : i = 0 := by omega
        obtain rfl : n = 0 := H0.out rfl
        go_wp2_with (go_at_call 52; refine (fail_any g st _ H.out).mono ?_; rintro e w' ⟨rfl, h1, h2⟩; have c0' := h1.at 0; have f0' := h1.thaw 0; have H1 := Lib.hid h1; clear h1)
        go_ret
        exact DigPost.bad HS.out (HF.out.trans (if_pos trivial)) (Blk.put H1.out 0 (str [])) (grown_trans h2 (grown_set _ _ _ _)) rfl


theorem rdigits_ok (g most : Nat) (h9 : 9 ≤ most) (hm : most ≤ 9223372036854775808) (st : St) (w : World) (h : RS w g st) (hl : (st.getD []).length ≤ 4611686018427387904) (n : Nat) (r : List UInt8) (hs : scan most 0 0 (st.getD []) = some (n, r)) :
    Calls Tryd.prog 67 #[ptr g, .int .u64 most] w fun e w' => e = .returned (.int .u64 n) ∧ RS w' g (some r) ∧ w.grownBy w' (some g) :=
  (rdigits_any g most h9 hm st w h hl).mono fun e w' hp => by
    rcases hp with ⟨n', r', h1, h2, h3, h4⟩ | ⟨h1, _⟩
    · rw [bind_scan, hs] at h1
      simp only [Option.some.injEq, Prod.mk.injEq] at h1
      obtain ⟨rfl, rfl⟩ := h1
      exact ⟨h2, h3, h4⟩
    · rw [bind_scan, hs] at h1
      cases h1

theorem rdigits_bad (g most : Nat) (h9 : 9 ≤ most) (hm : most ≤ 9223372036854775808) (st : St) (w : World) (h : RS w g st) (hl : (st.getD []).length ≤ 4611686018427387904) (hs : scan most 0 0 (st.getD []) = none) :
    Calls Tryd.prog 67 #[ptr g, .int .u64 most] w fun e w' => e = .returned (.int .u64 0) ∧ RS w' g none ∧ w.grownBy w' (some g) :=
  (rdigits_any g most h9 hm st w h hl).mono fun e w' hp => by
    rcases hp with ⟨n', r', h1, _⟩ | ⟨h1, h2, h3, h4⟩
    · rw [bind_scan, hs] at h1
      cases h1
    · exact ⟨h2, h3, h4⟩

set_option maxHeartbeats 400000 in
theorem size_ok (g : Nat) (c : UInt8) (st : St) (w : World) (h : RS w g st) (hl : (st.getD []).length ≤ 4611686018427387904) (n : Nat) (r : List UInt8) (hs : num c (st.getD []) = some (n, r)) :
    Calls Tryd.prog 51 #[ptr g, .int .u8 c.toNat] w fun e w' => e = .returned (.int .i64 n) ∧ RS w' g (some r) ∧ w.grownBy w' (some g) := by
  have hn := (num_sound hs).2
  have HD := Lib.hid (rdigits_ok g 9223372036854775807 (by omega) (by omega) st w h hl n _ (num_some.1 hs))
  clear h hl hs
  go_enter Tryd.func51, Tryd.ntmps51
  go_wp2_with (first
    | (go_at_call 67; refine HD.out.mono ?_; rintro e w1 ⟨rfl, h1, h2⟩)
    | (go_at_call 53; refine (skip_ok g r c _ h1).mono ?_; rintro e w2 ⟨rfl, h3, h4⟩; have c1 := h3.at 1))
  go_ret
  exact ⟨rfl, h3, grown_trans h2 h4⟩

set_option maxHeartbeats 1000000 in
theorem size_bad (g : Nat) (c : UInt8) (st : St) (w : World) (h : RS w g st) (hl : (st.getD []).length ≤ 4611686018427387904) (hs : num c (st.getD []) = none) :
    Calls Tryd.prog 51 #[ptr g, .int .u8 c.toNat] w fun e w' => e = .returned (.int .i64 0) ∧ RS w' g none ∧ w.grownBy w' (some g) := by
  rcases num_none hs with hs | ⟨n, hs⟩ | ⟨n, c0, r, hs, hne⟩
  · have HD := Lib.hid (rdigits_bad g 9223372036854775807 (by omega) (by omega) st w h hl hs)
    clear h hl hs
    go_enter Tryd.func51, Tryd.ntmps51
    go_wp2_with (first
      | (go_at_call 67; refine HD.out.mono ?_; rintro e w1 ⟨rfl, h1, h2⟩)
      | (go_at_call 53; refine (skip_nil g none rfl c _ h1).mono ?_; rintro e w2 ⟨rfl, h3, h4⟩; have c1 := h3.at 1))
    go_ret
    exact ⟨rfl, h3, grown_trans h2 h4⟩
  · have HD := Lib.hid (rdigits_ok g 9223372036854775807 (by omega) (by omega) st w h hl n _ hs)
    clear h hl hs
    go_enter Tryd.func51, Tryd.ntmps51
    go_wp2_with (first
      | (go_at_call 67; refine HD.out.mono ?_; rintro e w1 ⟨rfl, h1, h2⟩)
      | (go_at_call 53; refine (skip_nil g (some []) rfl c _ h1).mono ?_; rintro e w2 ⟨rfl, h3, h4⟩; have c1 := h3.at 1))
    go_ret
    exact ⟨rfl, h3, grown_trans h2 h4⟩
  · have HD := Lib.hid (rdigits_ok g 9223372036854775807 (by omega) (by omega) st w h hl n _ hs)
    have HN := Lib.hid hne
    clear h hl hs hne
    go_enter Tryd.func51, Tryd.ntmps51
    go_wp2_with (first
      | (go_at_call 67; refine HD.out.mono ?_; rintro e w1 ⟨rfl, h1, h2⟩)
      | (go_at_call 53; refine (skip_bad g c0 r c HN.out _ h1).mono ?_; rintro e w2 ⟨rfl, h3, h4⟩; have c1 := h3.at 1))
    go_ret
    exact ⟨rfl, h3, grown_trans h2 h4⟩

set_option maxHeartbeats 400000 in
theorem rnum_ok (g : Nat) (st : St) (w : World) (h : RS w g st) (hl : (st.getD []).length ≤ 4611686018427387904) (n : Nat) (r : List UInt8) (hs : num 59 (st.getD []) = some (n, r)) :
    Calls Tryd.prog 25 #[ptr g] w fun e w' => e = .returned (.int .i64 n) ∧ RS w' g (some r) ∧ w.grownBy w' (some g) := by
  have HD := Lib.hid (size_ok g 59 st w h hl n r hs)
  clear h hl hs
  go_enter Tryd.func25, Tryd.ntmps25
  go_wp2_with (go_at_call 51; refine HD.out.mono ?_; rintro e w1 ⟨rfl, h1, h2⟩)
  go_ret
  exact ⟨rfl, h1, h2⟩

set_option maxHeartbeats 400000 in
theorem rnum_bad (g : Nat) (st : St) (w : World) (h : RS w g st) (hl : (st.getD []).length ≤ 4611686018427387904) (hs : num 59 (st.getD []) = none) :
    Calls Tryd.prog 25 #[ptr g] w fun e w' => e = .returned (.int .i64 0) ∧ RS w' g none ∧ w.grownBy w' (some g) := by
  have HD := Lib.hid (size_bad g 59 st w h hl hs)
  clear h hl hs
  go_enter Tryd.func25, Tryd.ntmps25
  go_wp2_with (go_at_call 51; refine HD.out.mono ?_; rintro e w1 ⟨rfl, h1, h2⟩)
  go_ret
  exact ⟨rfl, h1, h2⟩

set_option maxHeartbeats 400000 in
theorem left_any (g : Nat) (st : St) (w : World) (h : RS w g st) :
    Calls Tryd.prog 27 #[ptr g] w fun e w' => e = .returned (.int .i64 ((st.getD []).length : Nat)) ∧ w = w' := by
  have c0 := h.at 0
  clear h
  go_enter Tryd.func27, Tryd.ntmps27
  go_wp2_with fail
  go_ret
  exact ⟨rfl, rfl⟩

set_option maxHeartbeats 400000 in
theorem done_none (g : Nat) (w : World) (h : RS w g none) :
    Calls Tryd.prog 26 #[ptr g] w fun e w' => e = .returned (.bool false) ∧ w = w' := by
  have c0 := h.at 0
  have c1 := h.at 1
  clear h
  go_enter Tryd.func26, Tryd.ntmps26
  go_wp2_with fail
  go_ret
  exact ⟨rfl, rfl⟩

set_option maxHeartbeats 400000 in
theorem done_some (g : Nat) (l : List UInt8) (w : World) (h : RS w g (some l)) :
    Calls Tryd.prog 26 #[ptr g] w fun e w' => e = .returned (.bool l.isEmpty) ∧ w = w' := by
  have c0 := h.at 0
  have c1 := h.at 1
  clear h
  go_enter Tryd.func26, Tryd.ntmps26
  go_wp2_with fail
  go_ret
  exact ⟨rfl, rfl⟩


theorem neg_back (n : Nat) (h0 : 1 ≤ n) (hm : n ≤ 9223372036854775808) : wrap64 (IntKind.u64.wrap (-(n : Int))) = -(n : Int) := by
  simp [wrap64, IntKind.wrap, IntKind.bits, IntKind.signed]
  omega

theorem tail_bytes (c : UInt8) (l : List UInt8) : (⟨(c :: l).toArray⟩ : ByteArray).extract 1 (l.length + 1) = ⟨l.toArray⟩ := by
  rw [bytes_extract, List.take_of_length_le (by simp)]
  rfl

theorem RS.tail {w : World} {g : Nat} {c : UInt8} {l : List UInt8} (h : RS w g (some (c :: l))) : RS (w.setCell ⟨g, 0, none⟩ (.string ⟨l.toArray⟩)) g (some l) := Blk.put h 0 (str l)

/-- What the walks over a minus know. -/
structure Minus (g : Nat) (l : List UInt8) (w : World) : Prop where
  c0 : w.cell? ⟨g, 0, none⟩ = some (str (45 :: l))
  f0 : w.frozen? ⟨g, 0, none⟩ = false
  rs : RS w g (some (45 :: l))
  short : l.length ≤ 4611686018427387904

/-! Strings. -/

theorem head_bytes (r : List UInt8) (n : Nat) : (⟨r.toArray⟩ : ByteArray).extract 0 n = ⟨(r.take n).toArray⟩ := by
  rw [bytes_extract]
  rfl
theorem rest_bytes (r : List UInt8) (n : Nat) : (⟨r.toArray⟩ : ByteArray).extract n r.length = ⟨(r.drop n).toArray⟩ := by
  rw [bytes_extract, List.take_of_length_le (Nat.le_refl _)]
theorem RS.rest {w : World} {g : Nat} {r : List UInt8} (h : RS w g (some r)) (l : List UInt8) : RS (w.setCell ⟨g, 0, none⟩ (.string ⟨l.toArray⟩)) g (some l) := Blk.put h 0 (str l)

set_option maxHeartbeats 400000 in
theorem rtext_ok (g : Nat) (st : St) (w : World) (h : RS w g st) (hl : (st.getD []).length ≤ 4611686018427387904) (t r' : List UInt8) (hs : text (st.getD []) = some (t, r')) :
    Calls Tryd.prog 28 #[ptr g] w fun e w' => e = .returned (str t) ∧ RS w' g (some r') ∧ w.grownBy w' (some g) := by
  obtain ⟨n, r, h1, hn, hd, rfl⟩ := text_some hs
  have HD := Lib.hid (size_ok g 58 st w h hl n r h1)
  have e1 := rest_bytes r n
  have HE := Lib.hid hd
  clear h hl hs h1 hd
  go_enter Tryd.func28, Tryd.ntmps28
  go_wp2_with (first
    | (go_at_call 51; refine HD.out.mono ?_; rintro e w1 ⟨rfl, h1, h2⟩; have c0 := h1.at 0; have f0 := h1.thaw 0)
    | (go_at_call 53; refine (skip_ok g r' 44 _ (by rw [← HE.out]; exact h1.rest _)).mono ?_; rintro e w2 ⟨rfl, h3, h4⟩; have c1 := h3.at 1))
  go_ret
  exact ⟨congrArg (fun s => Ending.returned (.string s)) (head_bytes r n), h3, grown_trans (grown_trans h2 (grown_set _ _ _ _)) h4⟩

set_option maxHeartbeats 2000000 in
theorem rtext_bad (g : Nat) (st : St) (w : World) (h : RS w g st) (hl : (st.getD []).length ≤ 4611686018427387904) (hs : text (st.getD []) = none) :
    Calls Tryd.prog 28 #[ptr g] w fun e w' => e = .returned (str []) ∧ RS w' g none ∧ w.grownBy w' (some g) := by
  rcases text_none hs with hs | ⟨n, r, hs, hc⟩
  · have HD := Lib.hid (size_bad g 58 st w h hl hs)
    clear h hl hs
    go_enter Tryd.func28, Tryd.ntmps28
    go_wp2_with (first
      | (go_at_call 51; refine HD.out.mono ?_; rintro e w1 ⟨rfl, h1, h2⟩; have c0 := h1.at 0; have f0 := h1.thaw 0; have H1 := Lib.hid h1; clear h1)
      | (go_at_call 53; refine (skip_nil g none rfl 44 _ (Blk.put H1.out 0 (str []))).mono ?_; rintro e w2 ⟨rfl, h3, h4⟩; have c1 := h3.at 1))
    go_ret
    exact ⟨rfl, h3, grown_trans (grown_trans h2 (grown_set _ _ _ _)) h4⟩
  · have HD := Lib.hid (size_ok g 58 st w h hl n r hs)
    clear h hl hs
    rcases hc with hlt | ⟨hn, hc⟩
    · go_enter Tryd.func28, Tryd.ntmps28
      go_wp2_with (first
        | (go_at_call 51; refine HD.out.mono ?_; rintro e w1 ⟨rfl, h1, h2⟩; have c0 := h1.at 0; have f0 := h1.thaw 0; have H1 := Lib.hid h1; clear h1)
        | (go_at_call 52; refine (fail_any g _ _ H1.out).mono ?_; rintro e w2 ⟨rfl, h3, h4⟩))
      go_ret
      exact ⟨rfl, h3, grown_trans h2 h4⟩
    · have e1 := rest_bytes r n
      rcases hc with hd | ⟨c, r', hd, hne⟩
      · have HE := Lib.hid hd
        clear hd
        go_enter Tryd.func28, Tryd.ntmps28
        go_wp2_with (first
          | (go_at_call 51; refine HD.out.mono ?_; rintro e w1 ⟨rfl, h1, h2⟩; have c0 := h1.at 0; have f0 := h1.thaw 0; have H1 := Lib.hid h1; clear h1)
          | (go_at_call 53; refine (skip_nil g (some (r.drop n)) HE.out 44 _ (H1.out.rest _)).mono ?_; rintro e w2 ⟨rfl, h3, h4⟩; have c1 := h3.at 1))
        go_ret
        exact ⟨rfl, h3, grown_trans (grown_trans h2 (grown_set _ _ _ _)) h4⟩
      · have HE := Lib.hid hd
        have HN := Lib.hid hne
        clear hd hne
        go_enter Tryd.func28, Tryd.ntmps28
        go_wp2_with (first
          | (go_at_call 51; refine HD.out.mono ?_; rintro e w1 ⟨rfl, h1, h2⟩; have c0 := h1.at 0; have f0 := h1.thaw 0; have H1 := Lib.hid h1; clear h1)
          | (go_at_call 53; refine (skip_bad g c r' 44 HN.out _ (by rw [← HE.out]; exact H1.out.rest _)).mono ?_; rintro e w2 ⟨rfl, h3, h4⟩; have c1 := h3.at 1))
        go_ret
        exact ⟨rfl, h3, grown_trans (grown_trans h2 (grown_set _ _ _ _)) h4⟩

end Wr
end Go.Proofs.YtpogoalbnbekaaaDoor

/- Each reading call of both readers, as one plain function of what is left. -/
import Derived.Test.YtionidjhfcmgiaaRefItems
import Derived.Test.YtionidjhfcmgiaaAgain
namespace Go.Proofs.Ytionidjhfcmgiaa
open Go.RowKit
set_option linter.unusedVariables false
set_option linter.unusedSimpArgs false
namespace Wire

/-- What is left after a call, if it could read. -/
def stOf {α : Type} (x : Option (α × List UInt8)) : St := x.map (·.2)
def numV (l : List UInt8) : Nat := match num 59 l with | some p => p.1 | none => 0
def intV (l : List UInt8) : Int := match int l with | some p => p.1 | none => 0
def textV (l : List UInt8) : List UInt8 := match text l with | some p => p.1 | none => []
def numsV (l : List UInt8) : List Int := match list int l with | some p => p.1 | none => []
def textsV (l : List UInt8) : List ByteArray := match list text l with | some p => p.1.map bs | none => []

theorem rep_short {α : Type} {p : List UInt8 → Option (α × List UInt8)} (hp : ∀ l x r, p l = some (x, r) → r.length < l.length) : ∀ (n : Nat) (l : List UInt8) (xs : List α) (r : List UInt8), rep p n l = some (xs, r) → r.length ≤ l.length ∧ xs.length = n
  | 0, l, xs, r, h => by
    simp only [rep, Option.some.injEq, Prod.mk.injEq] at h
    obtain ⟨rfl, rfl⟩ := h
    exact ⟨Nat.le_refl _, rfl⟩
  | n + 1, l, xs, r, h => by
    rw [rep] at h
    split at h
    · rename_i x r' hx
      obtain ⟨⟨ys, r2⟩, h1, h2⟩ := Option.map_eq_some_iff.1 h
      simp only [Prod.mk.injEq] at h2
      obtain ⟨rfl, rfl⟩ := h2
      have h3 := rep_short hp n r' ys r2 h1
      have h4 := hp _ _ _ hx
      exact ⟨by omega, by simp [h3.2]⟩
    · cases h
theorem list_short {α : Type} {p : List UInt8 → Option (α × List UInt8)} (hp : ∀ l x r, p l = some (x, r) → r.length < l.length) {l r : List UInt8} {xs : List α} (h : list p l = some (xs, r)) : r.length ≤ l.length ∧ xs.length ≤ 9223372036854775807 := by
  unfold list at h
  split at h
  · rename_i n r0 hn
    have h1 := num_short hn
    have h2 := (num_sound hn).2
    split at h
    · rename_i ys c r' hr
      split at h
      · simp only [Option.some.injEq, Prod.mk.injEq] at h
        obtain ⟨rfl, rfl⟩ := h
        have h3 := rep_short hp _ _ _ _ hr
        have h4 := h3.1
        simp only [List.length_cons] at h4
        exact ⟨by omega, by omega⟩
      · cases h
    · cases h
  · cases h

theorem stOf_short {α : Type} {x : Option (α × List UInt8)} {n : Nat} (h : ∀ a r, x = some (a, r) → r.length ≤ n) : ((stOf x).getD []).length ≤ n := by
  cases x with
  | none => exact Nat.zero_le _
  | some p => exact h p.1 p.2 rfl
theorem numsV_len (l : List UInt8) : (numsV l).length ≤ 9223372036854775807 := by
  unfold numsV
  split
  · rename_i p h
    exact (list_short (fun _ _ _ => int_short) (show list int l = some (p.1, p.2) from h)).2
  · exact Nat.zero_le _
theorem textsV_len (l : List UInt8) : (textsV l).length ≤ 9223372036854775807 := by
  unfold textsV
  split
  · rename_i p h
    rw [List.length_map]
    exact (list_short (fun _ _ _ => text_short) (show list text l = some (p.1, p.2) from h)).2
  · exact Nat.zero_le _

section
variable (g : Nat) (st : St) (w : World)

theorem rnum_all (h : RS w g st) (hl : (st.getD []).length ≤ 400) :
    Calls Try.prog 24 #[ptr g] w fun e w' => e = .returned (.int .i64 (numV (st.getD []) : Nat)) ∧ RS w' g (stOf (num 59 (st.getD []))) ∧ w.grownBy w' (some g) := by
  cases hs : num 59 (st.getD []) with
  | none => unfold numV; rw [hs]; exact rnum_bad g st w h (by omega) hs
  | some p => unfold numV; rw [hs]; exact rnum_ok g st w h (by omega) p.1 p.2 hs
theorem qnum_all (h : QS w g st) (hl : (st.getD []).length ≤ 400) :
    Calls Try.prog 25 #[ptr g] w fun e w' => e = .returned (.int .i64 (numV (st.getD []) : Nat)) ∧ QS w' g (stOf (num 59 (st.getD []))) ∧ w.grownBy w' (some g) := by
  cases hs : num 59 (st.getD []) with
  | none => unfold numV; rw [hs]; exact qnum_bad g st w h hl hs
  | some p => unfold numV; rw [hs]; exact qnum_ok g st w h hl p.1 p.2 hs

theorem rint_all (h : RS w g st) (hl : (st.getD []).length ≤ 400) :
    Calls Try.prog 26 #[ptr g] w fun e w' => e = .returned (.int .i64 (intV (st.getD []))) ∧ RS w' g (stOf (int (st.getD []))) ∧ w.grownBy w' (some g) := by
  cases hs : int (st.getD []) with
  | none => unfold intV; rw [hs]; exact rint_bad g st w h (by omega) hs
  | some p => unfold intV; rw [hs]; exact rint_ok g st w h (by omega) p.1 p.2 hs
theorem qint_all (h : QS w g st) (hl : (st.getD []).length ≤ 400) :
    Calls Try.prog 27 #[ptr g] w fun e w' => e = .returned (.int .i64 (intV (st.getD []))) ∧ QS w' g (stOf (int (st.getD []))) ∧ w.grownBy w' (some g) := by
  cases hs : int (st.getD []) with
  | none => unfold intV; rw [hs]; exact qint_bad g st w h hl hs
  | some p => unfold intV; rw [hs]; exact qint_ok g st w h hl p.1 p.2 hs

theorem rtext_all (h : RS w g st) (hl : (st.getD []).length ≤ 400) :
    Calls Try.prog 28 #[ptr g] w fun e w' => e = .returned (str (textV (st.getD []))) ∧ RS w' g (stOf (text (st.getD []))) ∧ w.grownBy w' (some g) := by
  cases hs : text (st.getD []) with
  | none => unfold textV; rw [hs]; exact rtext_bad g st w h (by omega) hs
  | some p => unfold textV; rw [hs]; exact rtext_ok g st w h (by omega) p.1 p.2 hs
theorem qtext_all (h : QS w g st) (hl : (st.getD []).length ≤ 400) :
    Calls Try.prog 29 #[ptr g] w fun e w' => e = .returned (str (textV (st.getD []))) ∧ QS w' g (stOf (text (st.getD []))) ∧ w.grownBy w' (some g) := by
  cases hs : text (st.getD []) with
  | none => unfold textV; rw [hs]; exact qtext_bad g st w h hl hs
  | some p => unfold textV; rw [hs]; exact qtext_ok g st w h hl p.1 p.2 hs
end

set_option maxHeartbeats 2000000 in
theorem itemsInt_none (g : Nat) (w : World) (h : RS w g none) :
    Calls Try.prog 58 #[ptr g, .func (.func 26) #[ptr g] #[]] w fun e w' => e = .returned (.slice none 0 0) ∧ RS w' g none ∧ w.grownBy w' (some g) := by
  have HD := Lib.hid (size_bad g 91 none w h (Nat.zero_le _) rfl)
  clear h
  go_enter Try.func58, Try.ntmps58
  go_wp2_with (go_at_call 49; refine HD.out.mono ?_; rintro e w1 ⟨rfl, h1, h2⟩; have HS := Lib.hid h1; clear h1)
  go_loopw [5, 9] (fun lv iv wr => lv = .slice none 0 0 ∧ iv = .int .i64 0 ∧ w1 = wr) (fun _ _ _ => 0)
  case atStart => exact ⟨rfl, rfl, rfl⟩
  case round =>
    obtain ⟨rfl, rfl, rfl⟩ := hrel
    go_wp2_with (go_at_call 54; refine (skip_nil g none rfl 93 _ HS.out).mono ?_; rintro e w3 ⟨rfl, h3, h4⟩; have c1 := h3.at 1)
    go_ret
    exact ⟨rfl, h3, grown_trans h2 h4⟩

set_option maxHeartbeats 2000000 in
theorem itemsText_none (g : Nat) (w : World) (h : RS w g none) :
    Calls Try.prog 59 #[ptr g, .func (.func 28) #[ptr g] #[]] w fun e w' => e = .returned (.slice none 0 0) ∧ RS w' g none ∧ w.grownBy w' (some g) := by
  have HD := Lib.hid (size_bad g 91 none w h (Nat.zero_le _) rfl)
  clear h
  go_enter Try.func59, Try.ntmps59
  go_wp2_with (go_at_call 49; refine HD.out.mono ?_; rintro e w1 ⟨rfl, h1, h2⟩; have HS := Lib.hid h1; clear h1)
  go_loopw [5, 9] (fun lv iv wr => lv = .slice none 0 0 ∧ iv = .int .i64 0 ∧ w1 = wr) (fun _ _ _ => 0)
  case atStart => exact ⟨rfl, rfl, rfl⟩
  case round =>
    obtain ⟨rfl, rfl, rfl⟩ := hrel
    go_wp2_with (go_at_call 54; refine (skip_nil g none rfl 93 _ HS.out).mono ?_; rintro e w3 ⟨rfl, h3, h4⟩; have c1 := h3.at 1)
    go_ret
    exact ⟨rfl, h3, grown_trans h2 h4⟩

set_option maxHeartbeats 400000 in
theorem rnums_none (g : Nat) (w : World) (h : RS w g none) :
    Calls Try.prog 31 #[ptr g] w fun e w' => e = .returned (.slice none 0 0) ∧ RS w' g none ∧ w.grownBy w' (some g) := by
  have HD := Lib.hid (itemsInt_none g w h)
  clear h
  go_enter Try.func31, Try.ntmps31
  go_wp2_with fail
  refine HD.out.mono ?_
  rintro e w' ⟨rfl, h3, h4⟩
  go_wp2
  go_ret
  exact ⟨rfl, h3, h4⟩
set_option maxHeartbeats 400000 in
theorem rtexts_none (g : Nat) (w : World) (h : RS w g none) :
    Calls Try.prog 34 #[ptr g] w fun e w' => e = .returned (.slice none 0 0) ∧ RS w' g none ∧ w.grownBy w' (some g) := by
  have HD := Lib.hid (itemsText_none g w h)
  clear h
  go_enter Try.func34, Try.ntmps34
  go_wp2_with fail
  refine HD.out.mono ?_
  rintro e w' ⟨rfl, h3, h4⟩
  go_wp2
  go_ret
  exact ⟨rfl, h3, h4⟩

def Above (B : Nat) (A : Option Addr) : Prop := ∀ a, A = some a → B ≤ a.block
theorem Grow.rowUp {w : World} {B : Nat} {v : Value} {n : Nat} {xs : List Value} (h : Grow w B 1 v n xs) : ∃ A c, v = .slice A n c ∧ Row w w.heap.size A xs ∧ Above B A := by
  rcases h.form with ⟨rfl, rfl⟩ | ⟨g, cap, rfl, h1, h2, _, _, _, _, h7⟩
  · refine ⟨_, _, rfl, fun k u hu => ?_, fun a e => by cases e⟩
    have hx : xs = [] := List.eq_nil_of_length_eq_zero (by simpa using h.len)
    subst hx
    simp at hu
  · exact ⟨_, _, rfl, fun k u hu => ⟨g, 0, rfl, h2, by rw [Nat.zero_add]; exact h7 k u hu⟩, fun a e => by
      injection e with e
      subst e
      exact h1⟩
theorem Row.over {w w' : World} {A : Option Addr} {xs : List Value} {B h : Nat} (r : Row w w.heap.size A xs) (hA : Above B A) (hh : h < B) (hg : w.grownBy w' (some h)) : Row w' w'.heap.size A xs := fun k u hu => by
  obtain ⟨b, o, rfl, h1, h2⟩ := r k u hu
  have hb : B ≤ b := hA _ rfl
  exact ⟨b, o, rfl, Nat.lt_of_lt_of_le h1 hg.size, (World.cell?_of_block (a := ⟨b, o + k, none⟩) (hg.block b h1 (fun e => by injection e; omega))).trans h2⟩

section
variable (g : Nat) (st : St) (w : World)

theorem rnums_all (h : RS w g st) (hl : (st.getD []).length ≤ 400) :
    Calls Try.prog 31 #[ptr g] w fun e w' => ∃ A c, e = .returned (.slice A (numsV (st.getD [])).length c) ∧ Row w' w'.heap.size A ((numsV (st.getD [])).map (Value.int .i64)) ∧ Above w.heap.size A ∧ RS w' g (stOf (list int (st.getD []))) ∧ w.grownBy w' (some g) := by
  cases hs : list int (st.getD []) with
  | none =>
    unfold numsV
    rw [hs]
    have hc : Calls Try.prog 31 #[ptr g] w fun e w' => e = .returned (.slice none 0 0) ∧ RS w' g none ∧ w.grownBy w' (some g) := by
      cases st with
      | none => exact rnums_none g w h
      | some l => exact rnums_bad g l w h (Nat.le_trans hl (by omega)) hs
    exact hc.mono fun e w' ⟨h1, h2, h3⟩ => ⟨none, 0, h1, row_nil _ _ _, (fun a e => by cases e), h2, h3⟩
  | some p =>
    unfold numsV
    rw [hs]
    cases st with
    | none => cases hs
    | some l =>
      exact (rnums_any g l w h (Nat.le_trans hl (by omega))).mono fun e w' hp => by
        rcases hp with ⟨xs, r', v, h1, rfl, h3, h4, h5⟩ | ⟨h1, _⟩
        · rw [show list int l = some p from hs] at h1
          injection h1 with h1
          subst h1
          obtain ⟨A, c, rfl, hr, ha⟩ := Grow.rowUp h3
          exact ⟨A, c, rfl, hr, ha, h4, h5⟩
        · rw [show list int l = some p from hs] at h1
          cases h1

theorem rtexts_all (h : RS w g st) (hl : (st.getD []).length ≤ 400) :
    Calls Try.prog 34 #[ptr g] w fun e w' => ∃ A c, e = .returned (.slice A (textsV (st.getD [])).length c) ∧ Row w' w'.heap.size A ((textsV (st.getD [])).map Value.string) ∧ Above w.heap.size A ∧ RS w' g (stOf (list text (st.getD []))) ∧ w.grownBy w' (some g) := by
  cases hs : list text (st.getD []) with
  | none =>
    unfold textsV
    rw [hs]
    have hc : Calls Try.prog 34 #[ptr g] w fun e w' => e = .returned (.slice none 0 0) ∧ RS w' g none ∧ w.grownBy w' (some g) := by
      cases st with
      | none => exact rtexts_none g w h
      | some l => exact rtexts_bad g l w h (Nat.le_trans hl (by omega)) hs
    exact hc.mono fun e w' ⟨h1, h2, h3⟩ => ⟨none, 0, h1, row_nil _ _ _, (fun a e => by cases e), h2, h3⟩
  | some p =>
    unfold textsV
    rw [hs]
    cases st with
    | none => cases hs
    | some l =>
      exact (rtexts_any g l w h (Nat.le_trans hl (by omega))).mono fun e w' hp => by
        rcases hp with ⟨xs, r', v, h1, rfl, h3, h4, h5⟩ | ⟨h1, _⟩
        · rw [show list text l = some p from hs] at h1
          injection h1 with h1
          subst h1
          obtain ⟨A, c, rfl, hr, ha⟩ := Grow.rowUp h3
          exact ⟨A, c, by simp, by simpa only [bs_map] using hr, ha, h4, h5⟩
        · rw [show list text l = some p from hs] at h1
          cases h1

theorem qnums_all (h : QS w g st) (hl : (st.getD []).length ≤ 400) :
    Calls Try.prog 32 #[ptr g] w fun e w' => ∃ A c, e = .returned (.slice A (numsV (st.getD [])).length c) ∧ Row w' w'.heap.size A ((numsV (st.getD [])).map (Value.int .i64)) ∧ QS w' g (stOf (list int (st.getD []))) ∧ w.grownBy w' (some g) :=
  (qnums_any g st w h hl).mono fun e w' hp => by
    rcases hp with ⟨xs, r', v, h1, rfl, h3, h4, h5⟩ | ⟨h1, rfl, h3, h4⟩
    · unfold numsV
      rw [h1]
      obtain ⟨A, c, rfl, hr⟩ := h3.row
      exact ⟨A, c, rfl, hr, h4, h5⟩
    · unfold numsV
      rw [h1]
      exact ⟨none, 0, rfl, row_nil _ _ _, h3, h4⟩
theorem qtexts_all (h : QS w g st) (hl : (st.getD []).length ≤ 400) :
    Calls Try.prog 35 #[ptr g] w fun e w' => ∃ A c, e = .returned (.slice A (textsV (st.getD [])).length c) ∧ Row w' w'.heap.size A ((textsV (st.getD [])).map Value.string) ∧ QS w' g (stOf (list text (st.getD []))) ∧ w.grownBy w' (some g) :=
  (qtexts_any g st w h hl).mono fun e w' hp => by
    rcases hp with ⟨xs, r', v, h1, rfl, h3, h4, h5⟩ | ⟨h1, rfl, h3, h4⟩
    · unfold textsV
      rw [h1]
      obtain ⟨A, c, rfl, hr⟩ := h3.row
      exact ⟨A, c, by simp, by simpa only [bs_map] using hr, h4, h5⟩
    · unfold textsV
      rw [h1]
      exact ⟨none, 0, rfl, row_nil _ _ _, h3, h4⟩

/-- Whether everything was read. -/
def doneOf (st : St) : Bool := match st with | none => false | some l => l.isEmpty
theorem done_all (h : RS w g st) : Calls Try.prog 38 #[ptr g] w fun e w' => e = .returned (.bool (doneOf st)) ∧ w = w' := by
  cases st with
  | none => exact done_none g w h
  | some l => exact done_some g l w h
theorem qdone_all (h : QS w g st) : Calls Try.prog 39 #[ptr g] w fun e w' => e = .returned (.bool (doneOf st)) ∧ w = w' := by
  cases st with
  | none => exact qdone_none g w h
  | some l => exact qdone_some g l w h
end
end Wire
end Go.Proofs.Ytionidjhfcmgiaa

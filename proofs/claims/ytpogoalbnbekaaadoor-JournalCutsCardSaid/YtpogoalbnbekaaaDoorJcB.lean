/- note, noted, openCell. -/
import Derived.Test.YtpogoalbnbekaaaDoorJcP
import Derived.Test.YtpogoalbnbekaaaDoorCelB
namespace Go.Proofs.YtpogoalbnbekaaaDoor
open Go.RowKit Wire
set_option linter.unusedVariables false
set_option linter.unusedSimpArgs false
open Txt
open Sls (strs)
namespace Dsk

section
variable {w w' w0 : World} {q p : Nat} {c c' : Cl} {D : Own} {S S' : St}
set_option maxHeartbeats 1000000 in
theorem note_any (h : CC D q w0 w S c) (a b : Nat) (ha : a ≤ 9223372036854775807) (hb : b ≤ 9223372036854775807) :
    Calls Tryd.prog 40 #[ptr q, .int .i64 a, .int .i64 b] w fun e w' => e = .returned (.int .i64 (c.set S (Wr.encInt a ++ Wr.encInt b)).1) ∧ CC D q w0 w' (c.set S (Wr.encInt a ++ Wr.encInt b)).2.2 (c.set S (Wr.encInt a ++ Wr.encInt b)).2.1 := by
  have HA := Lib.hid (Wr.int_any (a : Int) (by omega) (by omega))
  have HB := Lib.hid (Wr.int_any (b : Int) (by omega) (by omega))
  have la := Wr.encInt_len (a : Int)
  have lb := Wr.encInt_len (b : Int)
  have HS : Hid (∀ w', CC D q w0 w' S c → Calls Tryd.prog 63 #[ptr q, .string (⟨(Wr.encInt (a : Int)).toArray⟩ ++ ⟨(Wr.encInt (b : Int)).toArray⟩)] w' fun e w' => e = .returned (.int .i64 (c.set S (Wr.encInt a ++ Wr.encInt b)).1) ∧ CC D q w0 w' (c.set S (Wr.encInt a ++ Wr.encInt b)).2.2 (c.set S (Wr.encInt a ++ Wr.encInt b)).2.1) := Lib.hid fun w' h => by
    rw [cat_bytes]
    exact Set_any ⟨(Wr.encInt (a : Int) ++ Wr.encInt (b : Int)).toArray⟩ (small_max (by rw [bytes_size, List.length_append]; omega)) h
  have H := Lib.hid h
  have hss : (⟨(Wr.encInt (a : Int)).toArray⟩ : ByteArray).size + (⟨(Wr.encInt (b : Int)).toArray⟩ : ByteArray).size ≤ 46 := by rw [bytes_size, bytes_size]; omega
  clear h la lb
  unfold str at HA HB
  generalize c.set S (Wr.encInt a ++ Wr.encInt b) = X at *
  generalize (⟨(Wr.encInt (a : Int)).toArray⟩ : ByteArray) = sa at *
  generalize (⟨(Wr.encInt (b : Int)).toArray⟩ : ByteArray) = sb at *
  go_enter Tryd.func40, Tryd.ntmps40
  go_wp2_with (first
    | (go_at_call 22; ((with_reducible refine (HA.out _).mono ?_); rintro e w1 ⟨rfl, b1⟩; have H1 := Lib.hid (H.out.below b1); clear b1 H HA))
    | (go_at_call 22; ((with_reducible refine (HB.out _).mono ?_); rintro e w2 ⟨rfl, b2⟩; have H2 := Lib.hid (H1.out.below b2); clear b2))
    | (go_at_call 63; refine (HS.out _ H2.out).mono ?_; rintro e w3 ⟨rfl, h3⟩; have H3 := Lib.hid h3; clear h3))
  go_ret
  exact ⟨rfl, H3.out⟩

/-- A reader that has read all. -/
def doneV : Wr.St → Bool
  | none => false
  | some l => l.isEmpty
/-- What noted says. -/
def NotPost (w : World) (c : Cl) (e : Ending) (w' : World) : Prop :=
  ∃ x y : Int, e = .returned (.tuple #[.int .i64 x, .int .i64 y, .bool (decide (c.slot = 0) || (pairOf c.value).isSome)]) ∧ (c.slot = 0 → x = 0 ∧ y = 0) ∧ (∀ b n, c.slot ≠ 0 → pairOf c.value = some (b, n) → x = b ∧ y = n ∧ b ≤ 9223372036854775807 ∧ n ≤ 9223372036854775807) ∧ Below w.heap.size w w'
/-- Two numbers, read one behind the other. -/
theorem num_step (g : Nat) (st : Wr.St) (w : World) (h : Wr.RS w g st) (hl : (st.getD []).length ≤ 4611686018427387904) : ∃ (x : Nat) (st' : Wr.St), (match st.bind (Wr.num 59) with | some (n, r) => x = n ∧ st' = some r ∧ n ≤ 9223372036854775807 | none => x = 0 ∧ st' = none) ∧ (st'.getD []).length ≤ (st.getD []).length ∧
    Calls Tryd.prog 25 #[Wr.ptr g] w fun e w' => e = .returned (.int .i64 x) ∧ Wr.RS w' g st' ∧ w.grownBy w' (some g) := by
  cases hn : Wr.num 59 (st.getD []) with
  | none =>
    refine ⟨0, none, ?_, Nat.zero_le _, Wr.rnum_bad g st w h hl hn⟩
    have : st.bind (Wr.num 59) = none := by cases st with | none => rfl | some l => exact hn
    rw [this]
    exact ⟨rfl, rfl⟩
  | some p =>
    obtain ⟨n, r⟩ := p
    obtain ⟨l, rfl⟩ : ∃ l, st = some l := by
      cases st with
      | none => cases hn
      | some l => exact ⟨l, rfl⟩
    have hs := Wr.num_sound hn
    refine ⟨n, some r, ?_, ?_, Wr.rnum_ok g (some l) w h hl n r hn⟩
    · have : (some l : Wr.St).bind (Wr.num 59) = some (n, r) := hn
      rw [this]
      exact ⟨rfl, rfl, hs.2⟩
    · have := congrArg List.length hs.1
      simp only [List.length_append, List.length_cons] at this
      show r.length ≤ ((some l : Wr.St).getD []).length
      omega
set_option maxHeartbeats 1000000 in
theorem noted_any (h : CellAt w q p c) (hv : c.value.length ≤ 1000000000) : Calls Tryd.prog 33 #[ptr q] w (NotPost w c) := by
  have HG := Lib.hid (Get_any h)
  clear h
  by_cases h0 : c.slot = 0
  · have HP : Hid (∀ w', Below w.heap.size w w' → NotPost w c (.returned (.tuple #[.int .i64 0, .int .i64 0, .bool true])) w') := Lib.hid fun w' b => ⟨0, 0, by rw [decide_eq_true h0]; rfl, fun _ => ⟨rfl, rfl⟩, fun b n h => absurd h0 h, b⟩
    rw [decide_eq_false (by simp [h0])] at HG
    clear h0
    unfold str at HG
    generalize (⟨c.value.toArray⟩ : ByteArray) = vv at *
    go_enter Tryd.func33, Tryd.ntmps33
    go_wp2_with (go_at_call 56; refine HG.out.mono ?_; rintro e w1 ⟨rfl, b1⟩; have B1 := Lib.hid b1; clear b1)
    go_returns
    exact HP.out _ B1.out
  · rw [decide_eq_true h0] at HG
    have HO := Lib.hid (fun w' => Wr.open_any ⟨c.value.toArray⟩ w')
    have HP : Hid (∀ (x y : Nat) (st1 st2 : Wr.St) w', (match (some c.value : Wr.St).bind (Wr.num 59) with | some (n, r) => x = n ∧ st1 = some r ∧ n ≤ 9223372036854775807 | none => x = 0 ∧ st1 = none) → (match st1.bind (Wr.num 59) with | some (n, r) => y = n ∧ st2 = some r ∧ n ≤ 9223372036854775807 | none => y = 0 ∧ st2 = none) → Below w.heap.size w w' → NotPost w c (.returned (.tuple #[.int .i64 x, .int .i64 y, .bool (doneV st2)])) w') := Lib.hid fun x y st1 st2 w' hx hy b => by
      have e : (some c.value : Wr.St).bind (Wr.num 59) = Wr.num 59 c.value := rfl
      rw [e] at hx
      unfold NotPost pairOf
      rw [decide_eq_false h0]
      cases hn : Wr.num 59 c.value with
      | none =>
        rw [hn] at hx
        obtain ⟨rfl, rfl⟩ := hx
        obtain ⟨rfl, rfl⟩ := hy
        exact ⟨_, _, rfl, (fun e => absurd e h0), (fun b n _ h => by cases h), b⟩
      | some p1 =>
        obtain ⟨n1, r1⟩ := p1
        rw [hn] at hx
        obtain ⟨rfl, rfl, hl1⟩ := hx
        have e2 : (some r1 : Wr.St).bind (Wr.num 59) = Wr.num 59 r1 := rfl
        rw [e2] at hy
        dsimp only
        cases hm : Wr.num 59 r1 with
        | none =>
          rw [hm] at hy
          obtain ⟨rfl, rfl⟩ := hy
          exact ⟨_, _, rfl, (fun e => absurd e h0), (fun b n _ h => by cases h), b⟩
        | some p2 =>
          obtain ⟨n2, r2⟩ := p2
          rw [hm] at hy
          obtain ⟨rfl, rfl, hl2⟩ := hy
          cases r2 with
          | nil => exact ⟨_, _, rfl, (fun e => absurd e h0), (fun b n _ h => by simp only [Option.some.injEq, Prod.mk.injEq] at h; obtain ⟨rfl, rfl⟩ := h; exact ⟨rfl, rfl, hl1, hl2⟩), b⟩
          | cons a r => exact ⟨_, _, rfl, (fun e => absurd e h0), (fun b n _ h => by cases h), b⟩
    clear h0
    have hvl : ((some c.value : Wr.St).getD []).length ≤ 4611686018427387904 := by show c.value.length ≤ _; omega
    have HV := Lib.hid hvl
    clear hv hvl
    unfold str at HG
    generalize hvv : (⟨c.value.toArray⟩ : ByteArray) = vv at *
    have hb : vv.data.toList = c.value := by rw [← hvv]
    have HBV := Lib.hid hb
    clear hvv hb
    have HD : Hid (∀ w' g st, Wr.RS w' g st → Calls Tryd.prog 26 #[Wr.ptr g] w' fun e w2 => e = .returned (.bool (doneV st)) ∧ w' = w2) := Lib.hid fun w' g st h => by
      cases st with
      | none => exact Wr.done_none g w' h
      | some l => exact Wr.done_some g l w' h
    go_enter Tryd.func33, Tryd.ntmps33
    go_wp2_with (first
      | (go_at_call 56; refine HG.out.mono ?_; rintro e w1 ⟨rfl, b1⟩; have B1 := Lib.hid b1; have k1 := b1.size; clear b1)
      | (go_at_call 24; refine (HO.out _).mono ?_; rintro e w2 ⟨rfl, h2, b2, z2⟩
         have H2 : Hid (Wr.RS w2 w1.heap.size (some c.value)) := Lib.hid (by rw [← HBV.out]; exact h2)
         have B2 := Lib.hid (next_below B1.out b2)
         clear h2 b2
         obtain ⟨x, st1, hx, hl1, hc1⟩ := num_step _ _ _ H2.out HV.out
         have HX := Lib.hid hx
         have HL1 := Lib.hid hl1
         have HC1 := Lib.hid hc1
         clear hx hl1 hc1)
      | (go_at_call 25; ((with_reducible refine HC1.out.mono ?_); rintro e w3 ⟨rfl, h3, g3⟩)
         have H3 := Lib.hid h3
         have B3 := Lib.hid (below_grown B2.out g3 (Nat.le_refl _) k1)
         clear h3 g3 HC1
         obtain ⟨y, st2, hy, hl2, hc2⟩ := num_step _ _ _ H3.out (Nat.le_trans HL1.out HV.out)
         have HY := Lib.hid hy
         have HC2 := Lib.hid hc2
         clear hy hl2 hc2)
      | (go_at_call 25; ((with_reducible refine HC2.out.mono ?_); rintro e w4 ⟨rfl, h4, g4⟩)
         have H4 := Lib.hid h4
         have B4 := Lib.hid (below_grown B3.out g4 (Nat.le_refl _) k1)
         clear h4 g4)
      | (go_at_call 26; refine (HD.out _ _ _ H4.out).mono ?_; rintro e w5 ⟨rfl, rfl⟩))
    go_returns
    exact HP.out x y st1 st2 _ HX.out HY.out B4.out
end
end Dsk
end Go.Proofs.YtpogoalbnbekaaaDoor

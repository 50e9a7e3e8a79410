import Derived.Test.YtpmmbbaigfjhnaaSmal
import Derived.Test.YtpmmbbaigfjhnaaUnqt
namespace Go.Proofs.Ytpmmbbaigfjhnaa
open Go.RowKit Wire
set_option linter.unusedVariables false
set_option linter.unusedSimpArgs false
namespace Txt

theorem big_str (l : List UInt8) : (⟨l.toArray⟩ : ByteArray).size = l.length := rfl

theorem back_int (n : Int) (h : Fits n) (w : World) : Calls Try.prog 9 #[str (decI n)] w fun e w' => e = .returned (.tuple #[.int .i64 n, .bool true]) ∧ Below w.heap.size w w' := by
  have hl := decI_len n
  have g := int_any ⟨(decI n).toArray⟩ (by rw [big_str]; omega) w
  have e : intR (bl ⟨(decI n).toArray⟩) = .tuple #[.int .i64 n, .bool true] := by
    show intR (decI n) = _
    rw [intR, (int_of n h).1, (int_of n h).2]
  rw [e] at g
  exact g
theorem back_unq (s : ByteArray) (hs : s.size ≤ 300) (w : World) : Calls Try.prog 11 #[str (quo (bl s))] w fun e w' => e = .returned (.tuple #[.string s, .bool true]) ∧ Below w.heap.size w w' := by
  have hl := quo_len (bl s)
  rw [bl_len] at hl
  have g := unquote_any ⟨(quo (bl s)).toArray⟩ (by rw [big_str]; omega) w
  rw [bl_mk, (unq_quo (bl s)).1, (unq_quo (bl s)).2] at g
  exact g

theorem back_int_no (s : ByteArray) (hs : s.size ≤ 300) (h : intB (bl s) = false) (w : World) : Calls Try.prog 9 #[.string s] w fun e w' => e = .returned (.tuple #[.int .i64 0, .bool false]) ∧ Below w.heap.size w w' := by
  have g := int_any s (by omega) w
  have e : intV (bl s) = 0 := by unfold intV; rw [h]; rfl
  rw [intR, h, e] at g
  exact g
theorem back_int_yes (s : ByteArray) (hs : s.size ≤ 300) (h : intB (bl s) = true) : ∃ c : Int, (∀ w, Calls Try.prog 9 #[.string s] w fun e w' => e = .returned (.tuple #[.int .i64 c, .bool true]) ∧ Below w.heap.size w w') ∧
    (∀ w, Calls Try.prog 13 #[.int .i64 c] w fun e w' => e = .returned (.string s) ∧ Below w.heap.size w w') := by
  obtain ⟨z, hz, hd⟩ := (intB_iff _).1 h
  have hv : intV (bl s) = z := by rw [← hd]; exact (int_of z hz).2
  refine ⟨z, fun w => ?_, fun w => ?_⟩
  · have g := int_any s (by omega) w
    rw [intR, h, hv] at g
    exact g
  · have g := decimal_any z hz w
    rw [hd] at g
    exact g
theorem back_unq_no (s : ByteArray) (hs : s.size ≤ 300) (h : unqB (bl s) = false) (w : World) : Calls Try.prog 11 #[.string s] w fun e w' => e = .returned (.tuple #[.string ⟨#[]⟩, .bool false]) ∧ Below w.heap.size w w' := by
  have g := unquote_any s (by omega) w
  rw [h, unq_no h] at g
  exact g
theorem back_unq_yes (s : ByteArray) (hs : s.size ≤ 300) (h : unqB (bl s) = true) : ∃ d : ByteArray, (∀ w, Calls Try.prog 11 #[.string s] w fun e w' => e = .returned (.tuple #[.string d, .bool true]) ∧ Below w.heap.size w w') ∧
    (∀ w, Calls Try.prog 15 #[.string d] w fun e w' => e = .returned (.string s) ∧ Below w.heap.size w w') := by
  refine ⟨⟨(unqV (bl s)).toArray⟩, fun w => ?_, fun w => ?_⟩
  · have g := unquote_any s (by omega) w
    rw [h] at g
    exact g
  · have hl := unqV_len (bl s)
    rw [bl_len] at hl
    have hv : unqV (bl s) = unqT (bl s) := by unfold unqV; rw [if_pos h]
    have g := quote_any ⟨(unqV (bl s)).toArray⟩ (by rw [big_str, hv]; omega) w
    rw [bl_mk, unq_yes h] at g
    exact g

set_option maxHeartbeats 1000000 in
theorem back_any (n : Int) (hn : Fits n) (s : ByteArray) (hs : s.size ≤ 9223372036854775807) (w : World) :
    Calls Try.prog 4 #[.int .i64 n, .string s] w fun e w' => e = .returned (.bool true) ∧ Below w.heap.size w w' := by
  have HN := Lib.hid hn
  clear hn
  by_cases hlt : s.size ≤ 300
  · have c1 := Lib.hid (decimal_any n HN.out)
    have c2 := Lib.hid (back_int n HN.out)
    have c3 := Lib.hid (quote_any s (by omega))
    have c4 := Lib.hid (back_unq s hlt)
    cases h3 : intB (bl s) with
    | false =>
      cases h4 : unqB (bl s) with
      | false =>
        have c5 := Lib.hid (back_int_no s hlt h3)
        have c6 := Lib.hid (back_unq_no s hlt h4)
        clear h3 h4
        go_enter Try.func4, Try.ntmps4
        go_wp2_with (first
          | (go_at_call 8; ((with_reducible refine (small_any _).mono ?_); rintro e w1 ⟨rfl, b1⟩))
          | (go_at_call 13; ((with_reducible refine (c1.out _).mono ?_); rintro e w2 ⟨rfl, b2⟩))
          | (go_at_call 9; ((with_reducible refine (c2.out _).mono ?_); rintro e w3 ⟨rfl, b3⟩))
          | (go_at_call 15; ((with_reducible refine (c3.out _).mono ?_); rintro e w4 ⟨rfl, b4⟩))
          | (go_at_call 11; ((with_reducible refine (c4.out _).mono ?_); rintro e w5 ⟨rfl, b5⟩))
          | (go_at_call 9; ((with_reducible refine (c5.out _).mono ?_); rintro e w6 ⟨rfl, b6⟩))
          | (go_at_call 11; ((with_reducible refine (c6.out _).mono ?_); rintro e w7 ⟨rfl, b7⟩)))
        go_ret
        exact ⟨rfl, next_below (next_below (next_below (next_below (next_below (next_below b1 b2) b3) b4) b5) b6) b7⟩
      | true =>
        have c5 := Lib.hid (back_int_no s hlt h3)
        obtain ⟨d, g6, g9⟩ := back_unq_yes s hlt h4
        have c6 := Lib.hid g6
        have c9 := Lib.hid g9
        clear g6 g9
        clear h3 h4
        go_enter Try.func4, Try.ntmps4
        go_wp2_with (first
          | (go_at_call 8; ((with_reducible refine (small_any _).mono ?_); rintro e w1 ⟨rfl, b1⟩))
          | (go_at_call 13; ((with_reducible refine (c1.out _).mono ?_); rintro e w2 ⟨rfl, b2⟩))
          | (go_at_call 9; ((with_reducible refine (c2.out _).mono ?_); rintro e w3 ⟨rfl, b3⟩))
          | (go_at_call 15; ((with_reducible refine (c3.out _).mono ?_); rintro e w4 ⟨rfl, b4⟩))
          | (go_at_call 11; ((with_reducible refine (c4.out _).mono ?_); rintro e w5 ⟨rfl, b5⟩))
          | (go_at_call 9; ((with_reducible refine (c5.out _).mono ?_); rintro e w6 ⟨rfl, b6⟩))
          | (go_at_call 11; ((with_reducible refine (c6.out _).mono ?_); rintro e w7 ⟨rfl, b7⟩))
          | (go_at_call 15; ((with_reducible refine (c9.out _).mono ?_); rintro e w9 ⟨rfl, b9⟩)))
        go_ret
        exact ⟨rfl, next_below (next_below (next_below (next_below (next_below (next_below (next_below b1 b2) b3) b4) b5) b6) b7) b9⟩
    | true =>
      cases h4 : unqB (bl s) with
      | false =>
        obtain ⟨c, g5, g8⟩ := back_int_yes s hlt h3
        have c5 := Lib.hid g5
        have c8 := Lib.hid g8
        clear g5 g8
        have c6 := Lib.hid (back_unq_no s hlt h4)
        clear h3 h4
        go_enter Try.func4, Try.ntmps4
        go_wp2_with (first
          | (go_at_call 8; ((with_reducible refine (small_any _).mono ?_); rintro e w1 ⟨rfl, b1⟩))
          | (go_at_call 13; ((with_reducible refine (c1.out _).mono ?_); rintro e w2 ⟨rfl, b2⟩))
          | (go_at_call 9; ((with_reducible refine (c2.out _).mono ?_); rintro e w3 ⟨rfl, b3⟩))
          | (go_at_call 15; ((with_reducible refine (c3.out _).mono ?_); rintro e w4 ⟨rfl, b4⟩))
          | (go_at_call 11; ((with_reducible refine (c4.out _).mono ?_); rintro e w5 ⟨rfl, b5⟩))
          | (go_at_call 9; ((with_reducible refine (c5.out _).mono ?_); rintro e w6 ⟨rfl, b6⟩))
          | (go_at_call 11; ((with_reducible refine (c6.out _).mono ?_); rintro e w7 ⟨rfl, b7⟩))
          | (go_at_call 13; ((with_reducible refine (c8.out _).mono ?_); rintro e w8 ⟨rfl, b8⟩)))
        go_ret
        exact ⟨rfl, next_below (next_below (next_below (next_below (next_below (next_below (next_below b1 b2) b3) b4) b5) b6) b7) b8⟩
      | true =>
        obtain ⟨c, g5, g8⟩ := back_int_yes s hlt h3
        have c5 := Lib.hid g5
        have c8 := Lib.hid g8
        clear g5 g8
        obtain ⟨d, g6, g9⟩ := back_unq_yes s hlt h4
        have c6 := Lib.hid g6
        have c9 := Lib.hid g9
        clear g6 g9
        clear h3 h4
        go_enter Try.func4, Try.ntmps4
        go_wp2_with (first
          | (go_at_call 8; ((with_reducible refine (small_any _).mono ?_); rintro e w1 ⟨rfl, b1⟩))
          | (go_at_call 13; ((with_reducible refine (c1.out _).mono ?_); rintro e w2 ⟨rfl, b2⟩))
          | (go_at_call 9; ((with_reducible refine (c2.out _).mono ?_); rintro e w3 ⟨rfl, b3⟩))
          | (go_at_call 15; ((with_reducible refine (c3.out _).mono ?_); rintro e w4 ⟨rfl, b4⟩))
          | (go_at_call 11; ((with_reducible refine (c4.out _).mono ?_); rintro e w5 ⟨rfl, b5⟩))
          | (go_at_call 9; ((with_reducible refine (c5.out _).mono ?_); rintro e w6 ⟨rfl, b6⟩))
          | (go_at_call 11; ((with_reducible refine (c6.out _).mono ?_); rintro e w7 ⟨rfl, b7⟩))
          | (go_at_call 13; ((with_reducible refine (c8.out _).mono ?_); rintro e w8 ⟨rfl, b8⟩))
          | (go_at_call 15; ((with_reducible refine (c9.out _).mono ?_); rintro e w9 ⟨rfl, b9⟩)))
        go_ret
        exact ⟨rfl, next_below (next_below (next_below (next_below (next_below (next_below (next_below (next_below b1 b2) b3) b4) b5) b6) b7) b8) b9⟩
  · go_enter Try.func4, Try.ntmps4
    go_wp2_with (go_at_call 8; refine (small_any _).mono ?_; rintro e w1 ⟨rfl, b1⟩)
    go_ret
    exact ⟨rfl, b1⟩
end Txt
end Go.Proofs.Ytpmmbbaigfjhnaa

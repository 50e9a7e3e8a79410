import Derived.Test.YtpmmbbaigfjhnaaStar
import Derived.Test.YtpmmbbaigfjhnaaPlai
namespace Go.Proofs.Ytpmmbbaigfjhnaa
open Go.RowKit Wire
set_option linter.unusedVariables false
set_option linter.unusedSimpArgs false
namespace Txt

theorem mag_is (p : ByteArray) (x : Bool) (hp : p.size ≤ 1000000) (h : magic (bl p) = x) (w : World) : Calls Try.prog 26 #[.string p] w fun e w' => e = .returned (.bool x) ∧ Below w.heap.size w w' := by
  have g := magic_any p hp w
  rw [h] at g
  exact g

theorem plain_len : ∀ (k : Nat) (p : List UInt8), p.length ≤ k → (plain p).length ≤ p.length
  | _, [], _ => by simp [plain, parse_nil]
  | 0, c :: r, h => by simp at h
  | k + 1, c :: r, h => by
    have hs := part_shape c r
    have ih := plain_len k ((c :: r).drop (part c r).src.length) (by rw [List.length_drop, List.length_cons]; simp at h; omega)
    unfold plain at ih ⊢
    rw [parse_cons, List.flatMap_cons, List.length_append]
    rw [List.length_drop, List.length_cons] at ih
    have hp : (plainPt (part c r)).length ≤ (part c r).src.length := by
      unfold plainPt
      split
      · rw [List.length_drop]; omega
      · omega
    simp only [List.length_cons]
    omega

set_option maxHeartbeats 2000000 in
theorem plainl_any (p s : ByteArray) (hp : p.size ≤ 9223372036854775807) (hs : s.size ≤ 9223372036854775807) (w : World) :
    Calls Try.prog 7 #[.string p, .string s] w fun e w' => e = .returned (.bool true) ∧ Below w.heap.size w w' := by
  by_cases hp1 : p.size ≤ 100
  · by_cases hs1 : s.size ≤ 300
    · have hel := esc_len (bl s)
      rw [bl_len] at hel
      have d1 := Lib.hid (escape_any s (by omega))
      have d2 := Lib.hid (mag_is ⟨(esc (bl s)).toArray⟩ false (by rw [bytes_size]; omega) (esc_magic (bl s)))
      have d3 : Hid (∀ w, Calls Try.prog 28 #[str (esc (bl s))] w fun e w' => e = .returned (.string s) ∧ Below w.heap.size w w') := Lib.hid (fun w => by
        have g := plain_any ⟨(esc (bl s)).toArray⟩ (by rw [bytes_size]; omega) w
        rw [bl_mk, esc_plain] at g
        exact g)
      have d4 := Lib.hid (pat_is ⟨(esc (bl s)).toArray⟩ s true (by rw [bytes_size]; omega) (by omega) (esc_self (bl s)))
      cases hm : magic (bl p) with
      | true =>
        have d5 := Lib.hid (mag_is p true (by omega) hm)
        clear hm
        go_enter Try.func7, Try.ntmps7
        go_wp2_with (first
          | (go_at_call 8; refine (small_any _).mono ?_; rintro e w1 ⟨rfl, b1⟩)
          | (go_at_call 30; ((with_reducible refine (d1.out _).mono ?_); rintro e w2 ⟨rfl, b2⟩))
          | (go_at_call 26; ((with_reducible refine (d5.out _).mono ?_); rintro e w3 ⟨rfl, b3⟩))
          | (go_at_call 26; ((with_reducible refine (d2.out _).mono ?_); rintro e w4 ⟨rfl, b4⟩))
          | (go_at_call 28; ((with_reducible refine (d3.out _).mono ?_); rintro e w5 ⟨rfl, b5⟩))
          | (go_at_call 24; ((with_reducible refine (d4.out _).mono ?_); rintro e w6 ⟨rfl, b6⟩)))
        go_ret
        exact ⟨rfl, next_below (next_below (next_below (next_below (next_below b1 b2) b3) b4) b5) b6⟩
      | false =>
        have d5 := Lib.hid (mag_is p false (by omega) hm)
        have hpl := plain_len (bl p).length (bl p) (Nat.le_refl _)
        rw [bl_len] at hpl
        have d6 := Lib.hid (plain_any p (by omega))
        have d6b := Lib.hid (plain_any p (by omega))
        have d7 := Lib.hid (pat_is p ⟨(plain (bl p)).toArray⟩ true (by omega) (by rw [bytes_size]; omega) (by rw [bl_mk, plain_only _ _ hm]; simp))
        have d8 := Lib.hid (pat_is p s (s.toList == plain (bl p)) (by omega) (by omega) (by rw [plain_only _ _ hm, ByteArray.toList_eq]))
        clear hm
        generalize plain (bl p) = u at *
        go_enter Try.func7, Try.ntmps7
        go_wp2_with (first
          | (go_at_call 8; refine (small_any _).mono ?_; rintro e w1 ⟨rfl, b1⟩)
          | (go_at_call 30; ((with_reducible refine (d1.out _).mono ?_); rintro e w2 ⟨rfl, b2⟩))
          | (go_at_call 26; ((with_reducible refine (d5.out _).mono ?_); rintro e w3 ⟨rfl, b3⟩))
          | (go_at_call 28; ((with_reducible refine (d6.out _).mono ?_); rintro e w7 ⟨rfl, b7⟩; clear d6))
          | (go_at_call 28; ((with_reducible refine (d6b.out _).mono ?_); rintro e w10 ⟨rfl, b10⟩))
          | (go_at_call 24; ((with_reducible refine (d7.out _).mono ?_); rintro e w8 ⟨rfl, b8⟩))
          | (go_at_call 24; ((with_reducible refine (d8.out _).mono ?_); rintro e w9 ⟨rfl, b9⟩))
          | (go_at_call 26; ((with_reducible refine (d2.out _).mono ?_); rintro e w4 ⟨rfl, b4⟩))
          | (go_at_call 28; ((with_reducible refine (d3.out _).mono ?_); rintro e w5 ⟨rfl, b5⟩))
          | (go_at_call 24; ((with_reducible refine (d4.out _).mono ?_); rintro e w6 ⟨rfl, b6⟩)))
        go_ret
        exact ⟨rfl, next_below (next_below (next_below (next_below (next_below (next_below (next_below (next_below (next_below b1 b2) b3) b7) b8) b9) b10) b4) b5) b6⟩
    · go_enter Try.func7, Try.ntmps7
      go_wp2_with (go_at_call 8; refine (small_any _).mono ?_; rintro e w1 ⟨rfl, b1⟩)
      go_ret
      exact ⟨rfl, b1⟩
  · go_enter Try.func7, Try.ntmps7
    go_wp2_with (go_at_call 8; refine (small_any _).mono ?_; rintro e w1 ⟨rfl, b1⟩)
    go_ret
    exact ⟨rfl, b1⟩
end Txt
end Go.Proofs.Ytpmmbbaigfjhnaa

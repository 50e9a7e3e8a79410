import Derived.Test.YtionidjhfcmgiaaDig
import Derived.Handy
namespace Go.Proofs.Ytionidjhfcmgiaa
open Go.RowKit
set_option linter.unusedVariables false
set_option linter.unusedSimpArgs false
namespace Wire

/-- A string of these bytes. -/
abbrev str (l : List UInt8) : Value := .string ⟨l.toArray⟩

set_option maxHeartbeats 400000 in
theorem count_any (n : Nat) (hn : n ≤ 9223372036854775807) (w : World) :
    Calls Try.prog 46 #[.int .i64 n] w fun e w' => e = .returned (str (dec n)) ∧ Below w.heap.size w w' := by
  go_enter Try.func46, Try.ntmps46
  go_wp2_with (go_at_call 44; refine (digits_any n (by omega) _).mono ?_; rintro e w' ⟨rfl, hb⟩)
  go_ret
  exact ⟨rfl, hb⟩

set_option maxHeartbeats 400000 in
theorem num_any (n : Nat) (hn : n ≤ 9223372036854775807) (w : World) :
    Calls Try.prog 11 #[.int .i64 n] w fun e w' => e = .returned (str (dec n ++ [59])) ∧ Below w.heap.size w w' := by
  have hl := dec_len n
  go_enter Try.func11, Try.ntmps11
  go_wp2_with (go_at_call 44; refine (digits_any n (by omega) _).mono ?_; rintro e w' ⟨rfl, hb⟩)
  go_ret
  exact ⟨congrArg (fun s => Ending.returned (.string s)) (cat_bytes _ [59]), hb⟩

set_option maxHeartbeats 400000 in
theorem num_neg (n : Int) (h0 : n < 0) (w : World) :
    Calls Try.prog 11 #[.int .i64 n] w fun e w' => e = .returned (str []) ∧ Below w.heap.size w w' := by
  go_enter Try.func11, Try.ntmps11
  go_wp2_with fail
  go_ret
  exact ⟨rfl, Below.refl _ _⟩

set_option maxHeartbeats 400000 in
theorem int_pos (n : Nat) (hn : n ≤ 9223372036854775807) (w : World) :
    Calls Try.prog 13 #[.int .i64 n] w fun e w' => e = .returned (str (dec n ++ [59])) ∧ Below w.heap.size w w' := by
  go_enter Try.func13, Try.ntmps13
  go_wp2_with (go_at_call 11; refine (num_any n (by omega) _).mono ?_; rintro e w' ⟨rfl, hb⟩)
  go_ret
  exact ⟨rfl, hb⟩

theorem neg_wrap (m : Nat) (h0 : 1 ≤ m) (hm : m ≤ 9223372036854775808) : IntKind.u64.wrap (-IntKind.u64.wrap (-(m : Int))) = m := by
  simp [IntKind.wrap, IntKind.bits, IntKind.signed]
  omega

set_option maxHeartbeats 400000 in
theorem int_neg (m : Nat) (h0 : 1 ≤ m) (hm : m ≤ 9223372036854775808) (w : World) :
    Calls Try.prog 13 #[.int .i64 (-(m : Int))] w fun e w' => e = .returned (str (45 :: (dec m ++ [59]))) ∧ Below w.heap.size w w' := by
  have hl := dec_len m
  have hw := neg_wrap m h0 hm
  go_enter Try.func13, Try.ntmps13
  go_wp2_with (go_at_call 44; refine (digits_any m (by omega) _).mono ?_; rintro e w' ⟨rfl, hb⟩)
  go_ret
  exact ⟨congrArg (fun s => Ending.returned (.string s)) ((congrArg (· ++ (⟨#[59]⟩ : ByteArray)) (cat_bytes [45] (dec m))).trans (cat_bytes _ [59])), hb⟩

theorem text_bytes (s : ByteArray) : (⟨(dec s.size).toArray⟩ : ByteArray) ++ ⟨#[58]⟩ ++ s ++ ⟨#[44]⟩ = ⟨(dec s.size ++ (58 :: (s.data.toList ++ [44]))).toArray⟩ := by
  obtain ⟨⟨l⟩⟩ := s
  generalize dec _ = d
  show (⟨d.toArray⟩ : ByteArray) ++ ⟨[58].toArray⟩ ++ ⟨l.toArray⟩ ++ ⟨[44].toArray⟩ = _
  rw [cat_bytes, cat_bytes, cat_bytes]
  simp

set_option maxHeartbeats 400000 in
theorem text_any (s : ByteArray) (hn : s.size ≤ 281474976710656) (w : World) :
    Calls Try.prog 15 #[.string s] w fun e w' => e = .returned (str (dec s.size ++ (58 :: (s.data.toList ++ [44])))) ∧ Below w.heap.size w w' := by
  have hl := dec_len s.size
  go_enter Try.func15, Try.ntmps15
  go_wp2_with (go_at_call 46; refine (count_any s.size (by omega) _).mono ?_; rintro e w' ⟨rfl, hb⟩)
  go_ret
  exact ⟨congrArg (fun s => Ending.returned (.string s)) (text_bytes s), hb⟩

/-! The reference. -/

theorem tmod_neg (m : Nat) : (-(m : Int)).tmod 10 = -((m % 10 : Nat) : Int) := by
  rw [Int.neg_tmod]
  rfl
theorem tdiv_neg (m : Nat) : (-(m : Int)).tdiv 10 = -((m / 10 : Nat) : Int) := by
  rw [Int.neg_tdiv]
  rfl

theorem one_byte (m : Nat) (w : World) :
    Sem.run Try.prog (convert 67 9 (.slice (some ⟨w.heap.size, 0, none⟩) 1 1)) (w.alloc (.cells #[.int .u8 (48 + (m : Int) % 10)] 5)) =
      .ok (str [dig (m % 10)]) (w.alloc (.cells #[.int .u8 (48 + (m : Int) % 10)] 5)) := by
  have h := run_convert_bytes_back (P := Try.prog) (w.alloc (.cells #[.int .u8 (48 + (m : Int) % 10)] 5)) 67 9 5 ⟨w.heap.size, 0, none⟩ 1 [dig (m % 10)] Try.underlying67 Try.underlying5 Try.underlying9 (fun j hj => by
    have hj0 : j = 0 := by simp at hj; omega
    subst hj0
    rw [row_add, (Blk.fresh w _ _).at]
    simp only [List.getElem_cons_zero]
    rw [dig_toNat (Nat.mod_lt _ (by omega))]
    simp)
  exact h

set_option maxHeartbeats 400000 in
theorem refDigits_any (k : Nat) : ∀ (m : Nat) (w : World), m < 10 ^ (k + 1) → m ≤ 9223372036854775808 →
    Calls Try.prog 45 #[.int .i64 (-(m : Int))] w fun e w' => e = .returned (str (dec m)) ∧ Below w.heap.size w w' := by
  induction k with
  | zero =>
    intro m w hm hb
    have hm' : m < 10 := by simpa using hm
    clear hm
    have HD : Hid (dec m = [dig (m % 10)]) := by rw [Nat.mod_eq_of_lt hm']; exact dec_small hm'
    have e1 := tmod_neg m
    have e2 := one_byte m w
    go_enter Try.func45, Try.ntmps45
    go_wp2_with fail
    go_ret
    exact ⟨by rw [HD.out]; rfl, (Below.refl _ _).alloc (Nat.le_refl _) _⟩
  | succ k ih =>
    intro m w hm hb
    have e1 := tmod_neg m
    have e2 := one_byte m w
    by_cases hm' : m < 10
    · have HD : Hid (dec m = [dig (m % 10)]) := by rw [Nat.mod_eq_of_lt hm']; exact dec_small hm'
      have H := Lib.hid hm
      clear hm ih
      go_enter Try.func45, Try.ntmps45
      go_wp2_with fail
      go_ret
      exact ⟨by rw [HD.out]; rfl, (Below.refl _ _).alloc (Nat.le_refl _) _⟩
    · have HD : Hid (dec m = dec (m / 10) ++ [dig (m % 10)]) := dec_big (by omega) (by omega)
      have hq : m / 10 < 10 ^ (k + 1) := by rw [Nat.pow_succ] at hm; omega
      have e3 := tdiv_neg m
      have HI := Lib.hid (ih (m / 10) (w.alloc (.cells #[.int .u8 (48 + (m : Int) % 10)] 5)) hq (by omega))
      have hl := dec_len (m / 10)
      have hqb : m / 10 ≤ 922337203685477580 := by omega
      clear hm ih hq
      generalize hqq : m / 10 = q at *
      have HQ := Lib.hid hqq
      clear hqq
      go_enter Try.func45, Try.ntmps45
      go_wp2_with (go_at_call 45; refine HI.out.mono ?_; rintro e w' ⟨rfl, hb⟩)
      go_ret
      exact ⟨by rw [HD.out]; exact congrArg (fun s => Ending.returned (.string s)) (cat_bytes _ _), ((Below.refl _ _).alloc (Nat.le_refl _) _).trans (hb.mono (by simp))⟩

theorem refDigits (m : Nat) (w : World) (hm : m ≤ 9223372036854775808) :
    Calls Try.prog 45 #[.int .i64 (-(m : Int))] w fun e w' => e = .returned (str (dec m)) ∧ Below w.heap.size w w' :=
  refDigits_any 20 m w (by omega) hm

set_option maxHeartbeats 400000 in
theorem refInt_pos (n : Nat) (hn : n ≤ 9223372036854775807) (w : World) :
    Calls Try.prog 14 #[.int .i64 n] w fun e w' => e = .returned (str (dec n ++ [59])) ∧ Below w.heap.size w w' := by
  have hl := dec_len n
  go_enter Try.func14, Try.ntmps14
  go_wp2_with (go_at_call 45; refine (refDigits n _ (by omega)).mono ?_; rintro e w' ⟨rfl, hb⟩)
  go_ret
  exact ⟨congrArg (fun s => Ending.returned (.string s)) (cat_bytes _ [59]), hb⟩

set_option maxHeartbeats 400000 in
theorem refInt_neg (m : Nat) (h0 : 1 ≤ m) (hm : m ≤ 9223372036854775808) (w : World) :
    Calls Try.prog 14 #[.int .i64 (-(m : Int))] w fun e w' => e = .returned (str (45 :: (dec m ++ [59]))) ∧ Below w.heap.size w w' := by
  have hl := dec_len m
  go_enter Try.func14, Try.ntmps14
  go_wp2_with (go_at_call 45; refine (refDigits m _ (by omega)).mono ?_; rintro e w' ⟨rfl, hb⟩)
  go_ret
  exact ⟨congrArg (fun s => Ending.returned (.string s)) ((congrArg (· ++ (⟨#[59]⟩ : ByteArray)) (cat_bytes [45] (dec m))).trans (cat_bytes _ [59])), hb⟩

set_option maxHeartbeats 400000 in
theorem refNum_any (n : Nat) (hn : n ≤ 9223372036854775807) (w : World) :
    Calls Try.prog 12 #[.int .i64 n] w fun e w' => e = .returned (str (dec n ++ [59])) ∧ Below w.heap.size w w' := by
  go_enter Try.func12, Try.ntmps12
  go_wp2_with (go_at_call 14; refine (refInt_pos n (by omega) _).mono ?_; rintro e w' ⟨rfl, hb⟩)
  go_ret
  exact ⟨rfl, hb⟩

set_option maxHeartbeats 400000 in
theorem refNum_neg (n : Int) (h0 : n < 0) (w : World) :
    Calls Try.prog 12 #[.int .i64 n] w fun e w' => e = .returned (str []) ∧ Below w.heap.size w w' := by
  go_enter Try.func12, Try.ntmps12
  go_wp2_with fail
  go_ret
  exact ⟨rfl, Below.refl _ _⟩

set_option maxHeartbeats 400000 in
theorem refText_any (s : ByteArray) (hn : s.size ≤ 281474976710656) (w : World) :
    Calls Try.prog 16 #[.string s] w fun e w' => e = .returned (str (dec s.size ++ (58 :: (s.data.toList ++ [44])))) ∧ Below w.heap.size w w' := by
  have hl := dec_len s.size
  go_enter Try.func16, Try.ntmps16
  go_wp2_with (go_at_call 45; refine (refDigits s.size _ (by omega)).mono ?_; rintro e w' ⟨rfl, hb⟩)
  go_ret
  exact ⟨congrArg (fun s => Ending.returned (.string s)) (text_bytes s), hb⟩
end Wire
end Go.Proofs.Ytionidjhfcmgiaa

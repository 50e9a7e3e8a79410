import Derived.Test.YtjgaghapjlmcpaaDoorDecm
namespace Go.Proofs.YtjgaghapjlmcpaaDoor
open Go.RowKit Wire
set_option linter.unusedVariables false
set_option linter.unusedSimpArgs false
namespace Txt

theorem tmod_neg (m : Nat) : (-(m : Int)).tmod 10 = -((m % 10 : Nat) : Int) := by
  rw [Int.neg_tmod]
  rfl
theorem tdiv_neg (m : Nat) : (-(m : Int)).tdiv 10 = -((m / 10 : Nat) : Int) := by
  rw [Int.neg_tdiv]
  rfl

theorem one_byte (m : Nat) (h : m < 10) (w : World) :
    Sem.run Tryd.prog (convert 36 9 (.slice (some ⟨w.heap.size, 0, none⟩) 1 1)) (w.alloc (.cells #[.int .u8 (48 + (m : Int))] 5)) =
      .ok (str [dig m]) (w.alloc (.cells #[.int .u8 (48 + (m : Int))] 5)) := by
  exact run_convert_bytes_back (P := Tryd.prog) (w.alloc (.cells #[.int .u8 (48 + (m : Int))] 5)) 36 9 5 ⟨w.heap.size, 0, none⟩ 1 [dig m] Tryd.underlying36 Tryd.underlying5 Tryd.underlying9 (fun j hj => by
    have hj0 : j = 0 := by simp at hj; omega
    subst hj0
    rw [row_add', (Blk.fresh w _ _).at]
    simp only [List.getElem_cons_zero]
    rw [dig_toNat h]
    simp)

set_option maxHeartbeats 400000 in
theorem rdec_base (m : Nat) (h : m < 10) (w : World) :
    Calls Tryd.prog 59 #[.int .i64 m] w fun e w' => e = .returned (str [dig m]) ∧ Below w.heap.size w w' := by
  have e2 := one_byte m h w
  go_enter Tryd.func59, Tryd.ntmps59
  go_wp2_with fail
  go_ret
  exact ⟨rfl, (Below.refl _ _).alloc (Nat.le_refl _) _⟩

theorem cat_str (a b : List UInt8) : Ending.returned (.string ((⟨a.toArray⟩ : ByteArray) ++ ⟨b.toArray⟩)) = .returned (str (a ++ b)) := congrArg (fun s => Ending.returned (.string s)) (cat_bytes a b)

set_option maxHeartbeats 400000 in
theorem rdec_pos (k : Nat) : ∀ (m : Nat) (w : World), m < 10 ^ (k + 1) → m ≤ 9223372036854775807 →
    Calls Tryd.prog 59 #[.int .i64 m] w fun e w' => e = .returned (str (dec m)) ∧ Below w.heap.size w w' := by
  induction k with
  | zero =>
    intro m w hm _
    have hm' : m < 10 := by simpa using hm
    rw [dec_small hm']
    exact rdec_base m hm' w
  | succ k ih =>
    intro m w hm hb
    by_cases hm' : m < 10
    · rw [dec_small hm']
      exact rdec_base m hm' w
    · have HD : Hid (dec m = dec (m / 10) ++ [dig (m % 10)]) := dec_big (by omega) (by omega)
      have hl := dec_len (m / 10)
      have HI : Hid (∀ w, Calls Tryd.prog 59 #[.int .i64 ((m : Int) / 10)] w fun e w' => e = .returned (str (dec (m / 10))) ∧ Below w.heap.size w w') := Lib.hid (fun w => by
        rw [show (m : Int) / 10 = ((m / 10 : Nat) : Int) from by omega]
        exact ih (m / 10) w (by rw [Nat.pow_succ] at hm; omega) (by omega))
      have HJ : Hid (∀ w, Calls Tryd.prog 59 #[.int .i64 ((m : Int) % 10)] w fun e w' => e = .returned (str [dig (m % 10)]) ∧ Below w.heap.size w w') := Lib.hid (fun w => by
        rw [show (m : Int) % 10 = ((m % 10 : Nat) : Int) from by omega]
        exact rdec_base (m % 10) (Nat.mod_lt _ (by omega)) w)
      clear hm ih
      go_enter Tryd.func59, Tryd.ntmps59
      go_wp2_with (first
        | (go_at_call 59; ((with_reducible refine (HI.out _).mono ?_); rintro e w1 ⟨rfl, b1⟩))
        | (go_at_call 59; ((with_reducible refine (HJ.out _).mono ?_); rintro e w2 ⟨rfl, b2⟩)))
      go_ret
      exact ⟨by rw [HD.out]; exact cat_str _ _, next_below b1 b2⟩

set_option maxHeartbeats 400000 in
theorem rdec_neg (k : Nat) : ∀ (m : Nat) (w : World), m < 10 ^ (k + 1) → 1 ≤ m → m ≤ 9223372036854775808 →
    Calls Tryd.prog 59 #[.int .i64 (-(m : Int))] w fun e w' => e = .returned (str (45 :: dec m)) ∧ Below w.heap.size w w' := by
  have small : ∀ (m : Nat) (w : World), m < 10 → 1 ≤ m → Calls Tryd.prog 59 #[.int .i64 (-(m : Int))] w fun e w' => e = .returned (str (45 :: dec m)) ∧ Below w.heap.size w w' := by
    intro m w hm h1
    have HJ := Lib.hid (rdec_base m hm)
    have HD := Lib.hid (dec_small hm)
    go_enter Tryd.func59, Tryd.ntmps59
    go_wp2_with (go_at_call 59; refine (HJ.out _).mono ?_; rintro e w1 ⟨rfl, b1⟩)
    go_ret
    exact ⟨by rw [HD.out]; exact cat_str [45] _, b1⟩
  induction k with
  | zero =>
    intro m w hm h1 _
    exact small m w (by simpa using hm) h1
  | succ k ih =>
    intro m w hm h1 hb
    by_cases hm' : m < 10
    · exact small m w hm' h1
    · have HD : Hid (dec m = dec (m / 10) ++ [dig (m % 10)]) := dec_big (by omega) (by omega)
      have hl := dec_len (m / 10)
      have e1 := tmod_neg m
      have e3 := tdiv_neg m
      have HI : Hid (∀ w, Calls Tryd.prog 59 #[.int .i64 (-((m : Int) / 10))] w fun e w' => e = .returned (str (45 :: dec (m / 10))) ∧ Below w.heap.size w w') := Lib.hid (fun w => by
        rw [show (m : Int) / 10 = ((m / 10 : Nat) : Int) from by omega]
        exact ih (m / 10) w (by rw [Nat.pow_succ] at hm; omega) (by omega) (by omega))
      have HJ : Hid (∀ w, Calls Tryd.prog 59 #[.int .i64 ((m : Int) % 10)] w fun e w' => e = .returned (str [dig (m % 10)]) ∧ Below w.heap.size w w') := Lib.hid (fun w => by
        rw [show (m : Int) % 10 = ((m % 10 : Nat) : Int) from by omega]
        exact rdec_base (m % 10) (Nat.mod_lt _ (by omega)) w)
      clear hm ih small
      go_enter Tryd.func59, Tryd.ntmps59
      go_wp2_with (first
        | (go_at_call 59; ((with_reducible refine (HI.out _).mono ?_); rintro e w1 ⟨rfl, b1⟩))
        | (go_at_call 59; ((with_reducible refine (HJ.out _).mono ?_); rintro e w2 ⟨rfl, b2⟩)))
      go_ret
      exact ⟨by rw [HD.out]; exact cat_str _ _, next_below b1 b2⟩

theorem rdecimal_any (z : Int) (hz : Fits z) (w : World) :
    Calls Tryd.prog 59 #[.int .i64 z] w fun e w' => e = .returned (str (decI z)) ∧ Below w.heap.size w w' := by
  unfold Fits at hz
  by_cases h : 0 ≤ z
  · obtain ⟨n, rfl⟩ := Int.eq_ofNat_of_zero_le h
    rw [decI_pos]
    exact rdec_pos 20 n w (by omega) (by omega)
  · obtain ⟨n, hn⟩ := Int.eq_ofNat_of_zero_le (show 0 ≤ -z by omega)
    obtain rfl : z = -(n : Int) := by omega
    rw [decI_neg n (by omega)]
    exact rdec_neg 20 n w (by omega) (by omega) (by omega)
end Txt
end Go.Proofs.YtjgaghapjlmcpaaDoor

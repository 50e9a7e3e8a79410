/- The reference's letter, digit, part, Word. -/
import Derived.Test.YtjgaghapjlmcpaaDoorLxR
namespace Go.Proofs.YtjgaghapjlmcpaaDoor
open Go.RowKit Wire Txt
set_option linter.unusedVariables false
set_option linter.unusedSimpArgs false
namespace Lx

theorem isL_at (c : UInt8) : (97 ≤ c.toNat ∧ c.toNat ≤ 122 ∧ isL c = true) ∨ (65 ≤ c.toNat ∧ c.toNat ≤ 90 ∧ isL c = true) ∨ (c.toNat = 95 ∧ isL c = true) ∨ (c.toNat < 65 ∧ isL c = false) ∨ (90 < c.toNat ∧ c.toNat < 97 ∧ c.toNat ≠ 95 ∧ isL c = false) ∨ (122 < c.toNat ∧ isL c = false) := by
  have h95 : (c == 95) = decide (c.toNat = 95) := by
    rw [Bool.eq_iff_iff, beq_iff_eq, decide_eq_true_eq, ← UInt8.toNat_inj]
    rfl
  unfold isL
  rw [h95]
  simp only [← Bool.decide_and, ← Bool.decide_or, decide_eq_true_eq, decide_eq_false_iff_not]
  omega
theorem isD_at (c : UInt8) : (48 ≤ c.toNat ∧ c.toNat ≤ 57 ∧ isD c = true) ∨ (c.toNat < 48 ∧ isD c = false) ∨ (57 < c.toNat ∧ isD c = false) := by
  unfold isD
  simp only [← Bool.decide_and, decide_eq_true_eq, decide_eq_false_iff_not]
  omega

set_option maxHeartbeats 1000000 in
theorem letter_any (c : UInt8) (w : World) : Calls Tryd.prog 30 #[.int .u8 c.toNat] w fun e w' => e = .returned (.bool (isL c)) ∧ w' = w := by
  rcases isL_at c with ⟨h1, h2, hv⟩ | ⟨h1, h2, hv⟩ | ⟨h1, hv⟩ | ⟨h1, hv⟩ | ⟨h1, h2, h3, hv⟩ | ⟨h1, hv⟩
  · rw [hv]
    clear hv
    have f0 : (97 : Int) ≤ (c.toNat : Int) := by omega
    have f1 : (c.toNat : Int) ≤ 122 := by omega
    go_enter Tryd.func30, Tryd.ntmps30
    go_wp2_with fail
    go_ret
    exact ⟨rfl, rfl⟩
  · rw [hv]
    clear hv
    have f0 : ¬ (97 : Int) ≤ (c.toNat : Int) := by omega
    have f1 : (65 : Int) ≤ (c.toNat : Int) := by omega
    have f2 : (c.toNat : Int) ≤ 90 := by omega
    go_enter Tryd.func30, Tryd.ntmps30
    go_wp2_with fail
    go_ret
    exact ⟨rfl, rfl⟩
  · rw [hv]
    clear hv
    have f0 : ¬ (97 : Int) ≤ (c.toNat : Int) := by omega
    have f1 : (65 : Int) ≤ (c.toNat : Int) := by omega
    have f2 : ¬ (c.toNat : Int) ≤ 90 := by omega
    have f3 : (c.toNat : Int) = 95 := by omega
    go_enter Tryd.func30, Tryd.ntmps30
    go_wp2_with fail
    go_ret
    exact ⟨rfl, rfl⟩
  · rw [hv]
    clear hv
    have f0 : ¬ (97 : Int) ≤ (c.toNat : Int) := by omega
    have f1 : ¬ (65 : Int) ≤ (c.toNat : Int) := by omega
    have f2 : ((c.toNat : Int) == 95) = false := beq_eq_false_iff_ne.2 (by omega)
    go_enter Tryd.func30, Tryd.ntmps30
    go_wp2_with fail
    go_ret
    exact ⟨rfl, rfl⟩
  · rw [hv]
    clear hv
    have f0 : ¬ (97 : Int) ≤ (c.toNat : Int) := by omega
    have f1 : (65 : Int) ≤ (c.toNat : Int) := by omega
    have f2 : ¬ (c.toNat : Int) ≤ 90 := by omega
    have f3 : ((c.toNat : Int) == 95) = false := beq_eq_false_iff_ne.2 (by omega)
    go_enter Tryd.func30, Tryd.ntmps30
    go_wp2_with fail
    go_ret
    exact ⟨rfl, rfl⟩
  · rw [hv]
    clear hv
    have f0 : (97 : Int) ≤ (c.toNat : Int) := by omega
    have f1 : ¬ (c.toNat : Int) ≤ 122 := by omega
    have f2 : (65 : Int) ≤ (c.toNat : Int) := by omega
    have f3 : ¬ (c.toNat : Int) ≤ 90 := by omega
    have f4 : ((c.toNat : Int) == 95) = false := beq_eq_false_iff_ne.2 (by omega)
    go_enter Tryd.func30, Tryd.ntmps30
    go_wp2_with fail
    go_ret
    exact ⟨rfl, rfl⟩

set_option maxHeartbeats 1000000 in
theorem digit9_any (c : UInt8) (w : World) : Calls Tryd.prog 40 #[.int .u8 c.toNat] w fun e w' => e = .returned (.bool (isD c)) ∧ w' = w := by
  rcases isD_at c with ⟨h1, h2, hv⟩ | ⟨h1, hv⟩ | ⟨h1, hv⟩
  · rw [hv]
    clear hv
    have f0 : (48 : Int) ≤ (c.toNat : Int) := by omega
    have f1 : (c.toNat : Int) ≤ 57 := by omega
    go_enter Tryd.func40, Tryd.ntmps40
    go_wp2_with fail
    go_ret
    exact ⟨rfl, rfl⟩
  · rw [hv]
    clear hv
    have f0 : ¬ (48 : Int) ≤ (c.toNat : Int) := by omega
    go_enter Tryd.func40, Tryd.ntmps40
    go_wp2_with fail
    go_ret
    exact ⟨rfl, rfl⟩
  · rw [hv]
    clear hv
    have f0 : (48 : Int) ≤ (c.toNat : Int) := by omega
    have f1 : ¬ (c.toNat : Int) ≤ 57 := by omega
    go_enter Tryd.func40, Tryd.ntmps40
    go_wp2_with fail
    go_ret
    exact ⟨rfl, rfl⟩

set_option maxHeartbeats 1000000 in
theorem part9_any (c : UInt8) (w : World) : Calls Tryd.prog 31 #[.int .u8 c.toNat] w fun e w' => e = .returned (.bool (isP c)) ∧ w' = w := by
  have HL := Lib.hid (fun w => letter_any c w)
  have HD := Lib.hid (fun w => digit9_any c w)
  have hp : isP c = (isL c || isD c || (c == 45)) := rfl
  rw [hp]
  have h45 : ((c.toNat : Int) == 45) = (c == 45) := by
    by_cases h : c = 45
    · have : ((c.toNat : Int) == 45) = true := byte_eq (k := 45) (by omega) h
      rw [this]; simp [h]
    · have : ((c.toNat : Int) == 45) = false := byte_ne (k := 45) (by omega) h
      rw [this]; simp [h]
  generalize isL c = a at HL ⊢
  generalize isD c = b at HD ⊢
  generalize (c == 45) = d at h45 ⊢
  cases a <;> cases b <;> cases d
  all_goals
    clear hp
    go_enter Tryd.func31, Tryd.ntmps31
    go_wp2_with (first
      | (go_at_call 30; refine (HL.out _).mono ?_; rintro e w1 ⟨rfl, rfl⟩)
      | (go_at_call 40; refine (HD.out _).mono ?_; rintro e w1 ⟨rfl, rfl⟩))
    go_ret
    exact ⟨rfl, rfl⟩

theorem all_from {s : ByteArray} {p : UInt8 → Bool} {k : Nat} (h : k < s.size) : ((bl s).drop k).all p = (p s[k] && ((bl s).drop (k + 1)).all p) := by
  rw [drop_at h, List.all_cons]

set_option maxHeartbeats 1000000 in
theorem rword_any (s : ByteArray) (w : World) (hs : s.size ≤ 1000000000) :
    Calls Tryd.prog 15 #[.string s] w fun e w' => e = .returned (.bool (word (bl s))) ∧ w' = w := by
  by_cases h0 : 0 < s.size
  · have HL := Lib.hid (fun w => letter_any s[0] w)
    have hw : word (bl s) = (decide (s.size ≤ 20) && isL s[0] && (bl s).all isP) := by
      have hd := drop_at h0
      rw [List.drop_zero] at hd
      have hlen := bl_len s
      unfold word
      rw [hlen]
      rw [hd]
      simp [show 1 ≤ s.size from h0]
    rw [hw]
    clear hw
    have f0 : ¬ (s.size : Int) < 1 := by omega
    by_cases h20 : s.size ≤ 20
    · have t20 : ¬ (20 : Int) < (s.size : Int) := by omega
      rw [decide_eq_true h20]
      cases hL : isL s[0] with
      | false =>
        rw [hL] at HL
        clear hL h20
        go_enter Tryd.func15, Tryd.ntmps15
        go_wp2_with (go_at_call 30; refine (HL.out _).mono ?_; rintro e w1 ⟨rfl, rfl⟩)
        go_ret
        exact ⟨rfl, rfl⟩
      | true =>
        rw [hL] at HL
        clear hL
        rw [Bool.true_and, Bool.true_and]
        generalize hv : (bl s).all isP = v
        have HV : Hid (((bl s).drop 0).all isP = v) := Lib.hid hv
        clear hv
        go_enter Tryd.func15, Tryd.ntmps15
        go_wp2_with (go_at_call 30; refine (HL.out _).mono ?_; rintro e w1 ⟨rfl, rfl⟩)
        go_loopw [2, 3] (fun _ iv wr => (∃ k : Nat, iv = .int .i64 k ∧ k ≤ s.size ∧ Hid (((bl s).drop k).all isP = v)) ∧ w1 = wr) (fun _ iv _ => s.size - (intOf iv).toNat)
        case atStart => exact ⟨⟨0, rfl, Nat.zero_le _, HV⟩, rfl⟩
        case round =>
          obtain ⟨⟨k, rfl, hk, HN⟩, rfl⟩ := hrel
          by_cases hlt : k < s.size
          · have hN := HN.out
            rw [all_from hlt] at hN
            have HP := Lib.hid (fun w => part9_any s[k] w)
            cases hp : isP s[k] with
            | false =>
              rw [hp] at HP hN
              have HW : Hid (v = false) := Lib.hid hN.symm
              clear hN hp HN
              go_wp2_with (go_at_call 31; refine (HP.out _).mono ?_; rintro e w1 ⟨rfl, rfl⟩)
              go_ret
              exact ⟨by rw [HW.out]; rfl, rfl⟩
            | true =>
              rw [hp, Bool.true_and] at hN
              rw [hp] at HP
              have HW := Lib.hid hN
              clear hN hp HN
              go_wp2_with (go_at_call 31; refine (HP.out _).mono ?_; rintro e w1 ⟨rfl, rfl⟩)
              go_roundw
              case rel => exact ⟨⟨k + 1, by simp, hlt, HW⟩, trivial⟩
              case measure => simp [intOf]; omega
          · obtain rfl : k = s.size := by omega
            have HW : Hid (v = true) := Lib.hid (by have := HN.out; rw [drop_end (Nat.le_refl _)] at this; exact this.symm)
            clear HN
            go_wp2_with fail
            go_ret
            exact ⟨by rw [HW.out]; rfl, rfl⟩
    · have t20 : (20 : Int) < (s.size : Int) := by omega
      rw [decide_eq_false h20]
      clear h20
      go_enter Tryd.func15, Tryd.ntmps15
      go_wp2_with fail
      go_ret
      exact ⟨rfl, rfl⟩
  · have hl := is_empty h0
    obtain rfl : s = ByteArray.empty := bl_inj (by rw [ByteArray.toList_eq] at hl; exact hl)
    clear hl h0
    go_enter Tryd.func15, Tryd.ntmps15
    go_wp2_with fail
    go_ret
    exact ⟨rfl, rfl⟩

end Lx
end Go.Proofs.YtjgaghapjlmcpaaDoor

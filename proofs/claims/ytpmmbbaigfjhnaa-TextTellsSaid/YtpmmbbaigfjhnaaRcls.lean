import Derived.Test.YtpmmbbaigfjhnaaMatc
namespace Go.Proofs.Ytpmmbbaigfjhnaa
open Go.RowKit Wire
set_option linter.unusedVariables false
set_option linter.unusedSimpArgs false
namespace Txt

/-- The place of the first ] that stands behind place f, or -1. -/
def clz (s : ByteArray) (f : Nat) : Int := match close 1 ((bl s).drop f) with | some e => ((f + e : Nat) : Int) | none => -1

theorem clz_none {s : ByteArray} {f k : Nat} (hk : s.size ≤ k) (h : ∀ j (h : j < s.size), f + 1 ≤ j → j < k → s[j] ≠ 93) : clz s f = -1 := by
  unfold clz
  rw [close_none.2]
  intro c hc
  rw [List.drop_drop] at hc
  obtain ⟨j, hj, e⟩ := List.mem_iff_getElem.1 hc
  have hj2 : f + 1 + j < s.size := by rw [List.length_drop, bl_len] at hj; omega
  rw [List.getElem_drop] at e
  have h2 := h (f + 1 + j) hj2 (by omega) (by omega)
  have h3 := bl_get hj2
  rw [List.getElem?_eq_getElem (by rw [bl_len]; exact hj2), e] at h3
  exact fun e2 => h2 (by rw [← Option.some.inj h3, e2])
theorem clz_some {s : ByteArray} {f k : Nat} (hk : k < s.size) (hf : f + 1 ≤ k) (hc : s[k] = 93) (h : ∀ j (h : j < s.size), f + 1 ≤ j → j < k → s[j] ≠ 93) : clz s f = (k : Int) := by
  unfold clz
  have : close 1 ((bl s).drop f) = some (k - f) := by
    refine close_some.2 ⟨by omega, ?_, fun j hj1 hj2 => ?_⟩
    · rw [List.getElem?_drop, show f + (k - f) = k from by omega, bl_get hk, hc]
    · rw [List.getElem?_drop, bl_get (by omega)]
      exact fun e => h (f + j) (by omega) (by omega) (by omega) (Option.some.inj e)
  rw [this]
  show ((f + (k - f) : Nat) : Int) = _
  rw [show f + (k - f) = k from by omega]

theorem clz_more {s : ByteArray} {f k : Nat} (hk : k < s.size) (hc : s[k] ≠ 93) (h : ∀ j (h : j < s.size), f + 1 ≤ j → j < k → s[j] ≠ 93) : ∀ j (h : j < s.size), f + 1 ≤ j → j < k + 1 → s[j] ≠ 93 := by
  intro j hj h1 h2
  by_cases e : j = k
  · subst e
    exact hc
  · exact h j hj h1 (by omega)

set_option maxHeartbeats 400000 in
theorem closing_any (s : ByteArray) (hs : s.size ≤ 1000000000) (f : Nat) (hf : f ≤ s.size) (w : World) :
    Calls Try.prog 45 #[.string s, .int .i64 f] w fun e w' => e = .returned (.int .i64 (clz s f)) ∧ w' = w := by
  go_enter Try.func45, Try.ntmps45
  go_wp2_with fail
  go_loopw [5] (fun iv wr => (∃ k : Nat, iv = .int .i64 k ∧ f + 1 ≤ k ∧ k ≤ s.size + 1 ∧ Hid (∀ j (h : j < s.size), f + 1 ≤ j → j < k → s[j] ≠ 93)) ∧ w = wr) (fun iv _ => s.size + 1 - (intOf iv).toNat)
  case atStart => exact ⟨⟨f + 1, by simp, Nat.le_refl _, by omega, Lib.hid (fun j _ h1 h2 => absurd h1 (by omega))⟩, rfl⟩
  case round =>
    obtain ⟨⟨k, rfl, hk1, hk2, HN⟩, rfl⟩ := hrel
    by_cases hlt : k < s.size
    · by_cases hc : s[k] = 93
      · have ht : ((s[k].toNat : Int) == 93) = true := by rw [hc]; rfl
        have HC := Lib.hid (clz_some hlt hk1 hc HN.out)
        clear hc
        go_wp2_with fail
        go_ret
        exact ⟨by rw [HC.out]; rfl, rfl⟩
      · have ht : ((s[k].toNat : Int) == 93) = false := byte_ne (k := 93) (by omega) hc
        have HC := Lib.hid (clz_more hlt hc HN.out)
        clear hc
        go_wp2_with fail
        go_roundw
        case rel => exact ⟨⟨k + 1, by simp, by omega, by omega, HC⟩, trivial⟩
        case measure => simp [intOf]; omega
    · have HC := Lib.hid (clz_none (f := f) (by omega : s.size ≤ k) HN.out)
      go_wp2_with fail
      go_ret
      exact ⟨by rw [HC.out]; rfl, rfl⟩

theorem in_one' {s : ByteArray} {k : Nat} {c : UInt8} (h : k < s.size) (hd : ∀ h : k + 2 < s.size, s[k + 1] ≠ 45) : inS ((bl s).drop k) c = ((decide (s[k] = c) && decide True) || inS ((bl s).drop (k + 1)) c) := by
  rw [in_one h hd]
  congr 1
  rw [Bool.eq_iff_iff, Bool.and_eq_true, Bool.and_eq_true, decide_eq_true_eq, decide_eq_true_eq, decide_eq_true_eq]
  exact ⟨fun h => ⟨UInt8.toNat_inj.1 (by omega), by simp⟩, fun h => by rw [h.1]; omega⟩

set_option maxHeartbeats 1000000 in
theorem rin_any (s : ByteArray) (hs : s.size ≤ 1000000000) (c : UInt8) (w : World) :
    Calls Try.prog 46 #[.string s, .int .u8 c.toNat] w fun e w' => e = .returned (.bool (inS (bl s) c)) ∧ w' = w := by
  go_enter Try.func46, Try.ntmps46
  go_wp2_with fail
  go_loopw [5] (fun iv wr => (∃ k : Nat, iv = .int .i64 k ∧ k ≤ s.size ∧ Hid (inS (bl s) c = inS ((bl s).drop k) c)) ∧ w = wr) (fun iv _ => s.size - (intOf iv).toNat)
  case atStart => exact ⟨⟨0, rfl, Nat.zero_le _, Lib.hid rfl⟩, rfl⟩
  case round =>
    obtain ⟨⟨k, rfl, hk, HN⟩, rfl⟩ := hrel
    by_cases hlt : k < s.size
    · by_cases hdash : ∃ h : k + 2 < s.size, s[k + 1] = 45
      · obtain ⟨h2, hd⟩ := hdash
        have hk1 : k + 1 < s.size := by omega
        have h2' : (k : Int) + 2 < (s.size : Int) := by omega
        have ht : ((s[k + 1].toNat : Int) == 45) = true := by rw [hd]; rfl
        have HR := Lib.hid (in_range (c := c) h2 hd)
        clear hd
        by_cases hx : s[k].toNat ≤ c.toNat
        · by_cases hy : c.toNat ≤ s[k + 2].toNat
          · have HC := Lib.hid (in_yes HN.out HR.out hx hy)
            go_wp2_with fail
            go_ret
            exact ⟨by rw [HC.out]; rfl, rfl⟩
          · have HC := Lib.hid (in_more HN.out HR.out (.inr hy))
            go_wp2_with fail
            go_roundw
            case rel => exact ⟨⟨k + 3, by simp, by omega, HC⟩, trivial⟩
            case measure => simp [intOf]; omega
        · have HC := Lib.hid (in_more HN.out HR.out (.inl hx))
          go_wp2_with fail
          go_roundw
          case rel => exact ⟨⟨k + 3, by simp, by omega, HC⟩, trivial⟩
          case measure => simp [intOf]; omega
      · have HR := Lib.hid (in_one' (c := c) hlt (fun h e => hdash ⟨h, e⟩))
        have hd : (¬ (k : Int) + 2 < (s.size : Int)) ∨ ∃ h : k + 1 < s.size, (k : Int) + 2 < (s.size : Int) ∧ ((s[k + 1].toNat : Int) == 45) = false := by
          by_cases h2 : k + 2 < s.size
          · exact .inr ⟨by omega, by omega, byte_ne (k := 45) (by omega) fun e => hdash ⟨h2, e⟩⟩
          · exact .inl (by omega)
        clear hdash
        by_cases hc : s[k] = c
        · have ht : ((s[k].toNat : Int) == (c.toNat : Int)) = true := by rw [hc]; simp
          have HC := Lib.hid (in_yes HN.out HR.out hc trivial)
          clear hc
          rcases hd with hd | ⟨hk1, hd1, hd2⟩
          all_goals
            go_wp2_with fail
            go_ret
            exact ⟨by rw [HC.out]; rfl, rfl⟩
        · have ht : ((s[k].toNat : Int) == (c.toNat : Int)) = false := beq_eq_false_iff_ne.2 fun e => hc (UInt8.toNat_inj.1 (by omega))
          have HC := Lib.hid (in_more HN.out HR.out (.inl hc))
          clear hc
          rcases hd with hd | ⟨hk1, hd1, hd2⟩
          all_goals
            go_wp2_with fail
            go_roundw
            case rel => exact ⟨⟨k + 1, by simp, by omega, HC⟩, trivial⟩
            case measure => simp [intOf]; omega
    · obtain rfl : k = s.size := by omega
      have HE : Hid (inS (bl s) c = false) := by
        show _ = _
        rw [HN.out, drop_end (Nat.le_refl _)]
        rfl
      go_wp2_with fail
      go_ret
      exact ⟨by rw [HE.out]; rfl, rfl⟩
end Txt
end Go.Proofs.Ytpmmbbaigfjhnaa

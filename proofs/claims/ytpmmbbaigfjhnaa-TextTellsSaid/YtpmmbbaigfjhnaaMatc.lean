import Derived.Test.YtpmmbbaigfjhnaaPartb
namespace Go.Proofs.Ytpmmbbaigfjhnaa
open Go.RowKit Wire
set_option linter.unusedVariables false
set_option linter.unusedSimpArgs false
namespace Txt

set_option maxHeartbeats 400000 in
theorem matches_3 (a b : ByteArray) (c : UInt8) (w : World) :
    Calls Try.prog 38 #[.agg #[.int .i64 3, .string a, .string b], .int .u8 c.toNat] w fun r w' => r = .returned (.bool true) ∧ Below w.heap.size w w' := by
  go_enter Try.func38, Try.ntmps38
  go_wp2_with fail
  go_ret
  exact ⟨rfl, (Below.refl _ _).alloc (Nat.le_refl _) _⟩

set_option maxHeartbeats 400000 in
theorem matches_4 (a b : ByteArray) (hb : b.size ≤ 1000000000) (c : UInt8) (w : World) :
    Calls Try.prog 38 #[.agg #[.int .i64 4, .string a, .string b], .int .u8 c.toNat] w fun r w' => r = .returned (.bool (inS (bl b) c)) ∧ Below w.heap.size w w' := by
  have HC := Lib.hid (inSet_any b hb c)
  generalize inS (bl b) c = x at *
  go_enter Try.func38, Try.ntmps38
  go_wp2_with fail
  go_quiet ((go_at_call 44; exact Calls.quiet_of (HC.out _)))
  go_wp2_with fail
  go_ret
  exact ⟨rfl, ((Below.refl _ w).alloc (Nat.le_refl _) _).trans ((below_drewN _ _).mono (by simp))⟩

set_option maxHeartbeats 400000 in
theorem matches_5 (a b : ByteArray) (hb : b.size ≤ 1000000000) (c : UInt8) (w : World) :
    Calls Try.prog 38 #[.agg #[.int .i64 5, .string a, .string b], .int .u8 c.toNat] w fun r w' => r = .returned (.bool (!inS (bl b) c)) ∧ Below w.heap.size w w' := by
  have HC := Lib.hid (inSet_any b hb c)
  generalize inS (bl b) c = x at *
  go_enter Try.func38, Try.ntmps38
  go_wp2_with fail
  go_quiet ((go_at_call 44; exact Calls.quiet_of (HC.out _)))
  go_wp2_with fail
  go_ret
  exact ⟨rfl, ((Below.refl _ w).alloc (Nat.le_refl _) _).trans ((below_drewN _ _).mono (by simp))⟩

theorem last_at {a : ByteArray} (h0 : 0 < a.size) (c : UInt8) : ((bl a).getLast? == some c) = ((a[a.size - 1].toNat : Int) == (c.toNat : Int)) := by
  rw [List.getLast?_eq_getElem?, bl_len, bl_get (by omega)]
  rw [Bool.eq_iff_iff, beq_iff_eq, beq_iff_eq]
  exact ⟨fun h => by rw [Option.some.inj h], fun h => congrArg some (UInt8.toNat_inj.1 (by omega))⟩

set_option maxHeartbeats 400000 in
theorem matches_0 (k : Nat) (hk : k < 2) (a b : ByteArray) (h0 : 0 < a.size) (ha : a.size ≤ 1000000000) (c : UInt8) (w : World) :
    Calls Try.prog 38 #[.agg #[.int .i64 k, .string a, .string b], .int .u8 c.toNat] w fun r w' => r = .returned (.bool ((bl a).getLast? == some c)) ∧ Below w.heap.size w w' := by
  have HL := Lib.hid (last_at h0 c)
  have k3 : ((k : Int) == 3) = false := by simp; omega
  have k4 : ((k : Int) == 4) = false := by simp; omega
  have k5 : ((k : Int) == 5) = false := by simp; omega
  have hi : a.size - 1 < a.size := by omega
  go_enter Try.func38, Try.ntmps38
  go_wp2_with fail
  go_ret
  exact ⟨by rw [HL.out]; rfl, (Below.refl _ _).alloc (Nat.le_refl _) _⟩

theorem src_pos (s : ByteArray) (i : Nat) (h : i < s.size) : 1 ≤ (partOf s i h).src.length ∧ (partOf s i h).src.length ≤ s.size - i ∧ (partOf s i h).kind ≤ 5 := by
  have hp := part_shape s[i] ((bl s).drop (i + 1))
  rw [List.length_drop, bl_len] at hp
  unfold partOf
  exact ⟨hp.1, by omega, hp.2.2⟩
theorem set_len (s : ByteArray) (i : Nat) (h : i < s.size) : (partOf s i h).set.length ≤ s.size := by
  unfold partOf part
  split
  · cases (bl s).drop (i + 1) <;> simp
  · split
    · simp
    · split
      · simp
      · split
        · have hl := bl_len s
          unfold clsOf
          split
          · rename_i q hq
            split at hq
            · obtain rfl := Option.some.inj hq
              simp only [List.length_drop, List.length_take]
              omega
            · split at hq
              · obtain rfl := Option.some.inj hq
                simp only [List.length_take, List.length_drop]
                omega
              · cases hq
          · simp
        · simp

/-- A part that is no star, at a byte. -/
theorem matches_any (q : Pt) (hk : q.kind ≠ 2) (hk5 : q.kind ≤ 5) (h1 : 1 ≤ q.src.length) (h2 : q.src.length ≤ 1000000000) (h3 : q.set.length ≤ 1000000000) (c : UInt8) (w : World) :
    Calls Try.prog 38 #[ptV q, .int .u8 c.toNat] w fun r w' => r = .returned (.bool (fit q c)) ∧ Below w.heap.size w w' := by
  obtain ⟨k, a, b⟩ := q
  simp only at hk hk5 h1 h2 h3
  by_cases e3 : k = 3
  · subst e3
    exact matches_3 _ _ c w
  · by_cases e4 : k = 4
    · subst e4
      exact matches_4 _ ⟨b.toArray⟩ h3 c w
    · by_cases e5 : k = 5
      · subst e5
        exact matches_5 _ ⟨b.toArray⟩ h3 c w
      · have e : fit ⟨k, a, b⟩ c = (a.getLast? == some c) := by
          unfold fit
          rw [if_neg e3, if_neg e4, if_neg e5]
        rw [e]
        exact matches_0 k (by omega) ⟨a.toArray⟩ ⟨b.toArray⟩ h1 h2 c w
end Txt
end Go.Proofs.Ytpmmbbaigfjhnaa

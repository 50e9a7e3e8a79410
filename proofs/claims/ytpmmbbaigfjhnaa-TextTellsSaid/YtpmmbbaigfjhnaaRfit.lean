import Derived.Test.YtpmmbbaigfjhnaaRcls
namespace Go.Proofs.Ytpmmbbaigfjhnaa
open Go.RowKit Wire
set_option linter.unusedVariables false
set_option linter.unusedSimpArgs false
namespace Txt

/-- A part as the reference has it. -/
def rkind (q : Pt) : Nat := if q.kind ≤ 1 then 0 else if q.kind = 2 then 1 else if q.kind = 3 then 2 else 3
def rbyte (q : Pt) : UInt8 := if 4 ≤ q.kind then 0 else q.src.getLast?.getD 0
abbrev refC (q : Pt) : List Value := [.int .i64 (rkind q : Nat), .int .u8 (rbyte q).toNat, str q.set, .bool (q.kind == 5), str q.src]
abbrev refV (q : Pt) : Value := .agg #[.int .i64 (rkind q : Nat), .int .u8 (rbyte q).toNat, str q.set, .bool (q.kind == 5), str q.src]

set_option maxHeartbeats 400000 in
theorem fits_2 (b : Int) (a d : ByteArray) (x : Bool) (c : UInt8) (w : World) :
    Calls Try.prog 40 #[.agg #[.int .i64 2, .int .u8 b, .string a, .bool x, .string d], .int .u8 c.toNat] w fun r w' => r = .returned (.bool true) ∧ Below w.heap.size w w' := by
  go_enter Try.func40, Try.ntmps40
  go_wp2_with fail
  go_ret
  exact ⟨rfl, (Below.refl _ _).alloc (Nat.le_refl _) _⟩

set_option maxHeartbeats 400000 in
theorem fits_3 (b : Int) (a d : ByteArray) (ha : a.size ≤ 1000000000) (x : Bool) (c : UInt8) (w : World) :
    Calls Try.prog 40 #[.agg #[.int .i64 3, .int .u8 b, .string a, .bool x, .string d], .int .u8 c.toNat] w fun r w' => r = .returned (.bool (inS (bl a) c != x)) ∧ Below w.heap.size w w' := by
  have HC := Lib.hid (rin_any a ha c)
  generalize inS (bl a) c = y at *
  go_enter Try.func40, Try.ntmps40
  go_wp2_with fail
  go_quiet ((go_at_call 46; exact Calls.quiet_of_same (HC.out _)))
  go_wp2_with fail
  go_ret
  exact ⟨rfl, ((Below.refl _ w).alloc (Nat.le_refl _) _).trans ((below_drewN _ _).mono (by simp))⟩

set_option maxHeartbeats 400000 in
theorem fits_0 (b : UInt8) (a d : ByteArray) (x : Bool) (c : UInt8) (w : World) :
    Calls Try.prog 40 #[.agg #[.int .i64 0, .int .u8 b.toNat, .string a, .bool x, .string d], .int .u8 c.toNat] w fun r w' => r = .returned (.bool ((b.toNat : Int) == (c.toNat : Int))) ∧ Below w.heap.size w w' := by
  go_enter Try.func40, Try.ntmps40
  go_wp2_with fail
  go_ret
  exact ⟨rfl, (Below.refl _ _).alloc (Nat.le_refl _) _⟩

theorem fits_any (q : Pt) (h2 : q.kind ≠ 2) (h5 : q.kind ≤ 5) (h1 : 1 ≤ q.src.length) (hs : q.set.length ≤ 1000000000) (c : UInt8) (w : World) :
    Calls Try.prog 40 #[refV q, .int .u8 c.toNat] w fun r w' => r = .returned (.bool (fit q c)) ∧ Below w.heap.size w w' := by
  obtain ⟨k, src, set⟩ := q
  have hk : k = 0 ∨ k = 1 ∨ k = 3 ∨ k = 4 ∨ k = 5 := by simp at h2 h5; omega
  have hl : ∀ n, n < 2 → (fit ⟨n, src, set⟩ c) = (((src.getLast?.getD 0).toNat : Int) == (c.toNat : Int)) := by
    intro n hn
    unfold fit
    rw [if_neg (by simp; omega), if_neg (by simp; omega), if_neg (by simp; omega)]
    obtain ⟨x, hx⟩ : ∃ x, src.getLast? = some x := by
      cases hh : src.getLast? with
      | some x => exact ⟨x, rfl⟩
      | none => rw [List.getLast?_eq_none_iff] at hh; rw [hh] at h1; simp at h1
    simp only [hx, Option.getD_some]
    rw [Bool.eq_iff_iff, beq_iff_eq, beq_iff_eq]
    exact ⟨fun h => by rw [Option.some.inj h], fun h => congrArg some (UInt8.toNat_inj.1 (by omega))⟩
  rcases hk with rfl | rfl | rfl | rfl | rfl
  · rw [hl 0 (by omega)]
    exact fits_0 _ _ _ _ _ _
  · rw [hl 1 (by omega)]
    exact fits_0 _ _ _ _ _ _
  · exact fits_2 _ _ _ _ _ _
  · have := fits_3 0 ⟨set.toArray⟩ ⟨src.toArray⟩ hs false c w
    rw [Bool.bne_false] at this
    exact this
  · have := fits_3 0 ⟨set.toArray⟩ ⟨src.toArray⟩ hs true c w
    rw [Bool.bne_true] at this
    exact this
end Txt
end Go.Proofs.Ytpmmbbaigfjhnaa

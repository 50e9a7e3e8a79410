/- Each call with its plain answer, whatever the index. -/
import Derived.Test.YtmhnifcohkamaaaNtL
namespace Go.Proofs.Ytmhnifcohkamaaa
open Go.RowKit Wire
open Txt (Row)
open Dsk (Only below_of_grown Grow.bare)
set_option linter.unusedVariables false
set_option linter.unusedSimpArgs false
namespace Ntw
section
variable {S : Nt} {i : Int}
theorem deliver_none (h : S.has i = false) : S.deliver i = (none, 4, S) := by unfold Nt.deliver; rw [if_pos h]
theorem drop_none (h : S.has i = false) : S.drop i = (4, S) := by unfold Nt.drop; rw [if_pos h]
theorem double_none (h : S.has i = false) : S.double i = (4, S) := by unfold Nt.double; rw [if_pos h]
theorem has_nat (h : S.has i = true) : ∃ (k : Nat) (q : Pk), i = k ∧ S.L[k]? = some q ∧ k < S.L.length := by
  obtain ⟨q, hq⟩ := has_at h
  have := of_decide_eq_true h
  exact ⟨i.toNat, q, by omega, hq, by omega⟩
theorem drop_some {k : Nat} (h : S.has (k : Int) = true) : S.drop (k : Int) = (0, { S with L := S.L.eraseIdx k }) := by
  unfold Nt.drop
  rw [if_neg (by simp [h])]
  simp
theorem double_some {k : Nat} {q : Pk} (h : S.has (k : Int) = true) (hq : S.L[k]? = some q) : S.double (k : Int) = if 500 ≤ S.L.length then (6, S) else (0, { S with L := S.L ++ [q] }) := by
  unfold Nt.double
  rw [if_neg (by simp [h])]
  have e : (k : Int).toNat = k := by simp
  simp only [e, hq]
end
section
variable {w : World} {p : Nat} {S : Nt} {F : Nat → Prop}
theorem nDeliver_any (h : NetAt 56 w p S F) (i : Int) :
    Calls Try.prog 21 #[ptr p, .int .i64 i] w fun e w' => e = .returned (.tuple #[((S.deliver i).1.getD Pk.zero).val, .int .i64 (S.deliver i).2.1]) ∧ NPost 56 p (S.deliver i).2.2 F w w' := by
  cases hi : S.has i
  · rw [deliver_none hi]
    exact (nDeliver_none h i hi).mono fun e w' ⟨he, hb⟩ => ⟨he, NPost.below h hb⟩
  · obtain ⟨k, q, rfl, hq, _⟩ := has_nat hi
    exact nDeliver_some h k q hq
theorem nDrop_any (h : NetAt 56 w p S F) (i : Int) :
    Calls Try.prog 25 #[ptr p, .int .i64 i] w fun e w' => e = .returned (.int .i64 (S.drop i).1) ∧ NPost 56 p (S.drop i).2 F w w' := by
  cases hi : S.has i
  · rw [drop_none hi]
    exact (nDrop_none h i hi).mono fun e w' ⟨he, hb⟩ => ⟨he, NPost.below h hb⟩
  · obtain ⟨k, q, rfl, hq, _⟩ := has_nat hi
    rw [drop_some hi]
    exact nDrop_some h k q hq
theorem nDouble_any (h : NetAt 56 w p S F) (i : Int) :
    Calls Try.prog 24 #[ptr p, .int .i64 i] w fun e w' => e = .returned (.int .i64 (S.double i).1) ∧ NPost 56 p (S.double i).2 F w w' := by
  cases hi : S.has i
  · rw [double_none hi]
    exact (nDouble_none h i hi).mono fun e w' ⟨he, hb⟩ => ⟨he, NPost.below h hb⟩
  · obtain ⟨k, q, rfl, hq, _⟩ := has_nat hi
    exact nDouble_some h k q hq
theorem qDeliver_any (h : NetAt 29 w p S F) (i : Int) :
    Calls Try.prog 26 #[ptr p, .int .i64 i] w fun e w' => e = .returned (.tuple #[((S.deliver i).1.getD Pk.zero).val, .int .i64 (S.deliver i).2.1]) ∧ NPost 29 p (S.deliver i).2.2 F w w' := by
  cases hi : S.has i
  · rw [deliver_none hi]
    exact (qDeliver_none h i hi).mono fun e w' ⟨he, hb⟩ => ⟨he, NPost.below h hb⟩
  · obtain ⟨k, q, rfl, hq, _⟩ := has_nat hi
    exact qDeliver_some h k q hq
theorem qDrop_any (h : NetAt 29 w p S F) (i : Int) :
    Calls Try.prog 27 #[ptr p, .int .i64 i] w fun e w' => e = .returned (.int .i64 (S.drop i).1) ∧ NPost 29 p (S.drop i).2 F w w' := by
  cases hi : S.has i
  · rw [drop_none hi]
    exact (qDrop_none h i hi).mono fun e w' ⟨he, hb⟩ => ⟨he, hb ▸ NPost.below h (Below.refl _ _)⟩
  · obtain ⟨k, q, rfl, hq, hk⟩ := has_nat hi
    rw [drop_some hi]
    exact qDrop_some h k hk
theorem qDouble_any (h : NetAt 29 w p S F) (i : Int) :
    Calls Try.prog 28 #[ptr p, .int .i64 i] w fun e w' => e = .returned (.int .i64 (S.double i).1) ∧ NPost 29 p (S.double i).2 F w w' := by
  cases hi : S.has i
  · rw [double_none hi]
    exact (qDouble_none h i hi).mono fun e w' ⟨he, hb⟩ => ⟨he, hb ▸ NPost.below h (Below.refl _ _)⟩
  · obtain ⟨k, q, rfl, hq, hk⟩ := has_nat hi
    rw [double_some hi hq]
    by_cases hl : 500 ≤ S.L.length
    · rw [if_pos hl]
      exact (qDouble_full h k hk hl).mono fun e w' ⟨he, hb⟩ => ⟨he, hb ▸ NPost.below h (Below.refl _ _)⟩
    · rw [if_neg hl]
      exact qDouble_ok h k q hq (by omega)
end
end Ntw
end Go.Proofs.Ytmhnifcohkamaaa

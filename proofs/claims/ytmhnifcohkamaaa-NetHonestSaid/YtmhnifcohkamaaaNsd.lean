/- NetSides, plainly. -/
import Derived.Test.YtmhnifcohkamaaaNsm
namespace Go.Proofs.Ytmhnifcohkamaaa
open Go.RowKit Wire
open Txt (Row)
set_option linter.unusedVariables false
set_option linter.unusedSimpArgs false
namespace Ntw
/-- The number of a split. -/
def maskN (mask : Int) : Nat := (mask % 65536).toNat
theorem bit_low (mask : Int) (k : Nat) (hk : k < 16) : ((mask % 65536).toNat : Int) / 2 ^ k % 2 = mask / 2 ^ k % 2 := by
  rw [Int.toNat_of_nonneg (by omega)]
  obtain rfl | rfl | rfl | rfl | rfl | rfl | rfl | rfl | rfl | rfl | rfl | rfl | rfl | rfl | rfl | rfl : k = 0 ∨ k = 1 ∨ k = 2 ∨ k = 3 ∨ k = 4 ∨ k = 5 ∨ k = 6 ∨ k = 7 ∨ k = 8 ∨ k = 9 ∨ k = 10 ∨ k = 11 ∨ k = 12 ∨ k = 13 ∨ k = 14 ∨ k = 15 := by omega
  all_goals omega
theorem shr_mask (mask : Int) (k : Nat) (hk : k < 16) : bits .and .i64 (mask / 2 ^ (min k 64)) 1 = (sideOf (maskN mask) (k : Int) : Nat) := by
  rw [and1, Nat.min_eq_left (by omega), ← bit_low mask k hk]
  unfold sideOf maskN
  push_cast
  simp
abbrev bX : ByteArray := ⟨#[120]⟩
abbrev bY : ByteArray := ⟨#[121]⟩
/-- A network without packets. -/
abbrev bare (m : Nat) : Nt := ⟨[], m⟩
section
variable {a b : Nat} {m : Nat}
theorem end_nat (h : a < 16) : isEnd (a : Int) = true := decide_eq_true (by omega)
theorem hear_of {L : List Pk} (ha : a < 16) (hb : b < 16) : (Nt.mk L m).hear a b = (sideOf m a == sideOf m b) := by
  unfold Nt.hear
  rw [end_nat ha, end_nat hb]
  rfl
theorem side_zero (x : Int) : sideOf 0 x = 0 := by
  unfold sideOf
  simp
theorem hear_zero {L : List Pk} (ha : a < 16) (hb : b < 16) : (Nt.mk L 0).hear a b = true := by
  rw [hear_of ha hb, side_zero, side_zero]
  rfl
theorem hear_self {L : List Pk} (ha : a < 16) : (Nt.mk L m).hear a a = true := by
  rw [hear_of ha ha]
  simp
theorem send_self (s : ByteArray) (L : List Pk) : (Nt.mk L m).send a a s = (1, Nt.mk L m) := by
  unfold Nt.send
  rw [if_pos (.inr rfl)]
theorem send_hear (ha : a < 16) (hb : b < 16) (hab : a ≠ b) {L : List Pk} (hl : L.length < 500) (s : ByteArray) (h : (Nt.mk L m).hear a b = true) : (Nt.mk L m).send a b s = (0, ⟨L ++ [⟨a, b, s⟩], m⟩) := by
  unfold Nt.send
  rw [if_neg (by rintro (e | e); rw [end_nat ha, end_nat hb] at e; cases e; omega), if_neg (by rw [h]; simp), if_neg (by show ¬ 500 ≤ L.length; omega)]
theorem send_full (ha : a < 16) (hb : b < 16) (hab : a ≠ b) {L : List Pk} (hl : 500 ≤ L.length) (s : ByteArray) (h : (Nt.mk L m).hear a b = true) : (Nt.mk L m).send a b s = (6, ⟨L, m⟩) := by
  unfold Nt.send
  rw [if_neg (by rintro (e | e); rw [end_nat ha, end_nat hb] at e; cases e; omega), if_neg (by rw [h]; simp), if_pos hl]
theorem send_lost (ha : a < 16) (hb : b < 16) (hab : a ≠ b) {L : List Pk} (s : ByteArray) (h : (Nt.mk L m).hear a b = false) : (Nt.mk L m).send a b s = (10, ⟨L, m⟩) := by
  unfold Nt.send
  rw [if_neg (by rintro (e | e); rw [end_nat ha, end_nat hb] at e; cases e; omega), if_pos h]
theorem deliver_bare (m : Nat) : (bare m).deliver 0 = (none, 4, bare m) := deliver_none rfl
theorem deliver_one (m : Nat) (p : Pk) : (Nt.mk [p] m).deliver 0 = if (Nt.mk [p] m).hear p.src p.dst then (some p, 0, bare m) else (none, 10, bare m) := by
  unfold Nt.deliver
  rw [if_neg (by simp [Nt.has])]
  rfl
end
theorem split_bare (L : List Pk) (m : Nat) (mask : Int) : (Nt.mk L m).splitBy mask = ⟨L, maskN mask⟩ := rfl
theorem split_zero (L : List Pk) (m : Nat) : (Nt.mk L m).splitBy 0 = ⟨L, 0⟩ := rfl
/-- What the last loop keeps. -/
structure Filled (S : Nt) (i : Nat) : Prop where
  m : S.m = 0
  len : S.L.length = min i 500
theorem Filled.nil : Filled (bare 0) 0 := ⟨rfl, rfl⟩
theorem mod16 (i : Nat) : ((i : Int) % 16) = ((i % 16 : Nat) : Int) := by omega
theorem Filled.next {S : Nt} {i : Nat} (h : Filled S i) : ∃ er S', S.send ((i % 16 : Nat) : Int) (((i + 1) % 16 : Nat) : Int) bY = (er, S') ∧ Filled S' (i + 1) ∧ ((i < 500 ∧ er = 0) ∨ (500 ≤ i ∧ er = 6)) := by
  obtain ⟨L, m⟩ := S
  obtain ⟨h1, h2⟩ := h
  dsimp only at h1 h2
  subst h1
  have ha : i % 16 < 16 := by omega
  have hb : (i + 1) % 16 < 16 := by omega
  have hh := hear_zero (L := L) ha hb
  by_cases hi : i < 500
  · exact ⟨_, _, send_hear ha hb (by omega) (by omega) bY hh, ⟨rfl, by show (L ++ [_]).length = _; rw [List.length_append, h2]; simp; omega⟩, .inl ⟨hi, rfl⟩⟩
  · exact ⟨_, _, send_full ha hb (by omega) (by omega) bY hh, ⟨rfl, by show L.length = _; omega⟩, .inr ⟨by omega, rfl⟩⟩
theorem Filled.double {S : Nt} {i : Nat} (h : Filled S i) (hi : 500 ≤ i) : S.double 3 = (6, S) := by
  have hl : S.L.length = 500 := by have := h.len; omega
  unfold Nt.double
  rw [if_neg (by simp [Nt.has, hl]), if_pos (by omega)]
theorem send_neg (S : Nt) (s : ByteArray) : S.send (-1) 0 s = (1, S) := by
  unfold Nt.send
  rw [if_pos (.inl (by rfl))]
theorem send_16 (S : Nt) (s : ByteArray) : S.send 0 16 s = (1, S) := by
  unfold Nt.send
  rw [if_pos (.inl (by rfl))]
end Ntw
end Go.Proofs.Ytmhnifcohkamaaa

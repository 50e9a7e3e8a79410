/- The reference's way to read an int, as plain functions. Nothing of the program is imported. -/
import Derived.Test.YtionidjhfcmgiaaCode
import Derived.IntWalk
namespace Go.Proofs.Ytionidjhfcmgiaa
open Go.RowKit
set_option linter.unusedVariables false
set_option linter.unusedSimpArgs false
namespace Wire

theorem dec_short : ∀ (k n : Nat), 1 ≤ k → k ≤ 20 → n < 10 ^ k → (dec n).length ≤ k
  | 0, n, h, _, _ => absurd h (by omega)
  | 1, n, _, _, hn => by rw [dec_small (by simpa using hn)]; simp
  | k + 2, n, _, hk, hn => by
    by_cases h : n < 10
    · rw [dec_small h]; simp
    · have hb : n < 10 ^ 20 := Nat.lt_of_lt_of_le hn (Nat.pow_le_pow_right (by omega) hk)
      have ih := dec_short (k + 1) (n / 10) (by omega) (by omega) (by rw [Nat.pow_succ] at hn; omega)
      rw [dec_big (by omega) hb]
      simp
      omega

/-- An int's encoding, without the byte behind it. -/
def encS (z : Int) : List UInt8 := if 0 ≤ z then dec z.toNat else 45 :: dec (-z).toNat
theorem encS_int (z : Int) : encInt z = encS z ++ [59] := by
  unfold encInt encS
  split <;> simp
theorem encS_len {z : Int} (h1 : -9223372036854775808 ≤ z) (h2 : z ≤ 9223372036854775807) : 1 ≤ (encS z).length ∧ (encS z).length ≤ 20 := by
  unfold encS
  split
  · have h3 := dec_short 19 z.toNat (by omega) (by omega) (by omega)
    have h4 := dec_pos z.toNat
    omega
  · have h3 := dec_short 19 (-z).toNat (by omega) (by omega) (by omega)
    have h4 := dec_pos (-z).toNat
    simp
    omega
theorem dec_digits {n : Nat} (hn : n < 10 ^ 20) : ∀ c ∈ dec n, isDig c = true := (dec_facts 19 n (by omega) hn).2.1
theorem encS_bytes {z : Int} (h1 : -9223372036854775808 ≤ z) (h2 : z ≤ 9223372036854775807) {e : UInt8} (he : isDig e = false) (he2 : e ≠ 45) : ∀ c ∈ encS z, c ≠ e := by
  intro c hc hce
  subst hce
  unfold encS at hc
  split at hc
  · rw [dec_digits (by omega) c hc] at he
    cases he
  · rcases List.mem_cons.1 hc with h | h
    · exact he2 h
    · rw [dec_digits (by omega) c h] at he
      cases he

/-- The number that the reference reckons: with Go's wraps. -/
def bk (x : Int) (l : List UInt8) : Int := l.foldl (fun a c => wrap64 (wrap64 (10 * a) - ((c.toNat : Int) - 48))) x
theorem bk_snoc (x : Int) (l : List UInt8) (c : UInt8) : bk x (l ++ [c]) = wrap64 (wrap64 (10 * bk x l) - ((c.toNat : Int) - 48)) := by simp [bk]

theorem bk_fold (l : List UInt8) (hd : ∀ c ∈ l, isDig c = true) (hf : fold 0 l ≤ 9223372036854775808) : ∀ k, k ≤ l.length → bk 0 (l.take k) = -((fold 0 (l.take k) : Nat) : Int)
  | 0, _ => rfl
  | k + 1, hk => by
    have ih := bk_fold l hd hf k (by omega)
    have hlt : k < l.length := by omega
    have e : l.take (k + 1) = l.take k ++ [l[k]] := List.take_succ_eq_append_getElem hlt
    have hc := hd l[k] (List.getElem_mem hlt)
    have hle : fold 0 (l.take (k + 1)) ≤ fold 0 l := by
      conv => rhs; rw [← List.take_append_drop (k + 1) l]
      unfold fold
      rw [List.foldl_append]
      exact fold_le _ _
    rw [e, fold_snoc] at hle
    rw [e, bk_snoc, fold_snoc, ih]
    have hb := (dig_byte hc).2
    have h48 : 48 ≤ l[k].toNat := by
      simp only [isDig, Bool.and_eq_true, decide_eq_true_eq] at hc
      exact hc.1
    unfold val at hle hb ⊢
    have e1 : wrap64 (10 * -((fold 0 (l.take k) : Nat) : Int)) = 10 * -((fold 0 (l.take k) : Nat) : Int) := IntWalk.wrap64_in _ ⟨by omega, by omega⟩
    rw [e1, IntWalk.wrap64_in _ ⟨by omega, by omega⟩]
    omega

theorem fold_dec {n : Nat} (hn : n < 10 ^ 20) : fold 0 (dec n) = n := (dec_facts 19 n (by omega) hn).1

/-- The value of a canonical encoding, reckoned so. -/
theorem bk_dec {n : Nat} (hn : n ≤ 9223372036854775808) : bk 0 (dec n) = -(n : Int) := by
  have h := bk_fold (dec n) (dec_digits (by omega)) (by rw [fold_dec (by omega)]; exact hn) (dec n).length (Nat.le_refl _)
  rw [List.take_length] at h
  rw [h, fold_dec (by omega)]

theorem encS_head {z : Int} (h1 : -9223372036854775808 ≤ z) (h2 : z ≤ 9223372036854775807) : (z < 0 → ∃ t, encS z = 45 :: t ∧ t = dec (-z).toNat) ∧ (0 ≤ z → encS z = dec z.toNat ∧ ∃ c t, encS z = c :: t ∧ c ≠ 45) := by
  refine ⟨fun h => ⟨_, if_neg (by omega), rfl⟩, fun h => ⟨if_pos h, ?_⟩⟩
  obtain ⟨i1, i2, c, t, i3, i4⟩ := dec_facts 19 z.toNat (by omega) (by omega)
  refine ⟨c, t, (if_pos h).trans i3, ?_⟩
  have := i2 c (by rw [i3]; simp)
  rintro rfl
  revert this
  decide

/-- l begins with the int z and the byte e; r is behind it. -/
structure IsInt (e : UInt8) (l : List UInt8) (z : Int) (r : List UInt8) : Prop where
  lo : -9223372036854775808 ≤ z
  hi : z ≤ 9223372036854775807
  eq : l = encS z ++ e :: r

theorem IsInt.at_ {e : UInt8} {l r : List UInt8} {z : Int} (h : IsInt e l z r) : l[(encS z).length]? = some e := by
  rw [h.eq, List.getElem?_append_right (Nat.le_refl _), Nat.sub_self]
  rfl
theorem IsInt.before {e : UInt8} {l r : List UInt8} {z : Int} (h : IsInt e l z r) (he : isDig e = false) (he2 : e ≠ 45) {j : Nat} (hj : j < (encS z).length) {c : UInt8} (hc : l[j]? = some c) : c ≠ e := by
  rw [h.eq, List.getElem?_append_left hj] at hc
  exact encS_bytes h.lo h.hi he he2 c (List.mem_of_getElem? hc)

/-- 'int' and 'num' by IsInt. -/
theorem int_is {l r : List UInt8} {z : Int} : int l = some (z, r) ↔ IsInt 59 l z r := by
  constructor
  · intro h
    obtain ⟨h1, h2, h3⟩ := int_read h
    exact ⟨h1, h2, by rw [h3, encS_int, List.append_assoc]; rfl⟩
  · intro h
    rw [h.eq, show encS z ++ 59 :: r = encInt z ++ r from by rw [encS_int, List.append_assoc]; rfl]
    exact int_enc h.lo h.hi r
theorem num_is {e : UInt8} (he : isDig e = false) {l r : List UInt8} {n : Nat} : num e l = some (n, r) ↔ IsInt e l n r := by
  constructor
  · intro h
    obtain ⟨h1, h2⟩ := num_sound h
    exact ⟨by omega, by omega, by rw [h1]; unfold encS; rw [if_pos (by omega)]; rfl⟩
  · intro h
    have e1 : encS (n : Int) = dec n := by unfold encS; rw [if_pos (by omega)]; rfl
    have h2 := h.hi
    rw [h.eq, e1]
    exact num_dec he (by omega) r
end Wire
end Go.Proofs.Ytionidjhfcmgiaa

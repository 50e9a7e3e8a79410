/- Decimals of ints as plain functions; nothing of the program is imported. -/
import Derived.Test.YtjgaghapjlmcpaaDoorDec
namespace Go.Proofs.YtjgaghapjlmcpaaDoor
open Go.RowKit Wire
namespace Txt

/-- An int of Go. -/
abbrev Fits (z : Int) : Prop := -9223372036854775808 ≤ z ∧ z ≤ 9223372036854775807

/-- The decimal of an int. -/
def decI (z : Int) : List UInt8 := if 0 ≤ z then dec z.toNat else 45 :: dec (-z).toNat

theorem decI_pos (n : Nat) : decI (n : Int) = dec n := by
  unfold decI
  rw [if_pos (by omega)]
  simp
theorem decI_neg (m : Nat) (h : 1 ≤ m) : decI (-(m : Int)) = 45 :: dec m := by
  unfold decI
  rw [if_neg (by omega)]
  simp

/-- The value of the bytes as digits, one after the other. -/
def valN : Nat → List UInt8 → Nat
  | n, [] => n
  | n, c :: r => valN (n * 10 + (c.toNat - 48)) r

theorem valN_append (a b : List UInt8) : ∀ n, valN n (a ++ b) = valN (valN n a) b := by
  induction a with
  | nil => intro n; rfl
  | cons c a ih => intro n; exact ih _

theorem dig_val {m : Nat} (h : m < 10) : (dig m).toNat = 48 + m := by
  unfold dig
  rw [UInt8.toNat_ofNat', Nat.mod_eq_of_lt (by omega)]

/-- Digits only. -/
def Digits (l : List UInt8) : Prop := ∀ c ∈ l, 48 ≤ c.toNat ∧ c.toNat ≤ 57

theorem decF_told (k n : Nat) (h : n < 10 ^ (k + 1)) : valN 0 (decF k n) = n ∧ Digits (decF k n) := by
  induction k generalizing n with
  | zero =>
    have h1 : n < 10 := by simpa using h
    have hd := dig_val (m := n % 10) (Nat.mod_lt _ (by omega))
    constructor
    · show 0 * 10 + ((dig (n % 10)).toNat - 48) = n
      omega
    · intro c hc
      obtain rfl : c = dig (n % 10) := by simpa [decF] using hc
      omega
  | succ k ih =>
    by_cases hn : n < 10
    · rw [decF_lt _ _ hn]
      have hd := dig_val hn
      constructor
      · show 0 * 10 + ((dig n).toNat - 48) = n
        omega
      · intro c hc
        obtain rfl : c = dig n := by simpa using hc
        omega
    · rw [decF_ge _ _ (by omega)]
      have ⟨h1, h2⟩ := ih (n / 10) (by rw [Nat.pow_succ] at h; omega)
      have hd := dig_val (m := n % 10) (Nat.mod_lt _ (by omega))
      constructor
      · rw [valN_append, h1]
        show n / 10 * 10 + ((dig (n % 10)).toNat - 48) = n
        omega
      · intro c hc
        rcases List.mem_append.1 hc with hc | hc
        · exact h2 c hc
        · obtain rfl : c = dig (n % 10) := by simpa using hc
          omega

theorem dec_told (n : Nat) (h : n < 10 ^ 20) : valN 0 (dec n) = n ∧ Digits (dec n) := decF_told 20 n (by omega)

/-! The calculation of the program wraps around at each step. -/

theorem wrap_mod (x : Int) : ∃ k : Int, wrap64 x = x + k * 18446744073709551616 := by
  refine ⟨(wrap64 x - x) / 18446744073709551616, ?_⟩
  unfold wrap64
  omega
theorem wrap_fits (x : Int) : Fits (wrap64 x) := by
  unfold Fits wrap64
  omega

/-- The value of a byte as a digit: a byte again. -/
def bv (c : UInt8) : Int := IntKind.u8.wrap ((c.toNat : Int) - 48)
theorem bv_bd (c : UInt8) : 0 ≤ bv c ∧ bv c ≤ 255 := by
  unfold bv
  simp [IntKind.wrap, IntKind.bits, IntKind.signed]
  omega
theorem bv_dig {c : UInt8} (h : 48 ≤ c.toNat ∧ c.toNat ≤ 57) : bv c = ((c.toNat - 48 : Nat) : Int) := by
  unfold bv
  simp [IntKind.wrap, IntKind.bits, IntKind.signed]
  omega

def valZ : Int → List UInt8 → Int
  | n, [] => n
  | n, c :: r => valZ (n * 10 + bv c) r
theorem valZ_snoc (l : List UInt8) (c : UInt8) : ∀ n, valZ n (l ++ [c]) = valZ n l * 10 + bv c := by
  induction l with
  | nil => intro n; rfl
  | cons d l ih => intro n; exact ih _
theorem valZ_dig (l : List UInt8) : ∀ n : Nat, Digits l → valZ n l = (valN n l : Nat) := by
  induction l with
  | nil => intro n _; rfl
  | cons c l ih =>
    intro n h
    have hc := bv_dig (h c (by simp))
    show valZ ((n : Int) * 10 + bv c) l = (valN (n * 10 + (c.toNat - 48)) l : Nat)
    rw [hc, ← ih _ (fun d hd => h d (by simp [hd]))]
    congr 1

/-- The same up to multiples of 2^64. -/
def Mod (a b : Int) : Prop := ∃ k : Int, a = b + k * 18446744073709551616
theorem Mod.refl (a : Int) : Mod a a := ⟨0, by omega⟩
theorem Mod.only {a b : Int} (h : Mod a b) (ha : Fits a) (hb : Fits b) : a = b := by
  obtain ⟨k, hk⟩ := h
  unfold Fits at ha hb
  omega
theorem Mod.wrap {a b : Int} (h : Mod a b) : Mod (wrap64 a) b := by
  obtain ⟨k, hk⟩ := h
  obtain ⟨j, hj⟩ := wrap_mod a
  exact ⟨k + j, by omega⟩
theorem Mod.add {a b c d : Int} (h : Mod a b) (g : Mod c d) : Mod (a + c) (b + d) := by
  obtain ⟨k, hk⟩ := h
  obtain ⟨j, hj⟩ := g
  exact ⟨k + j, by omega⟩
theorem Mod.neg {a b : Int} (h : Mod a b) : Mod (-a) (-b) := by
  obtain ⟨k, hk⟩ := h
  exact ⟨-k, by omega⟩
theorem Mod.sub {a b c d : Int} (h : Mod a b) (g : Mod c d) : Mod (a - c) (b - d) := by
  obtain ⟨k, hk⟩ := h
  obtain ⟨j, hj⟩ := g
  exact ⟨k - j, by omega⟩
theorem Mod.ten {a b : Int} (h : Mod a b) : Mod (a * 10) (b * 10) := by
  obtain ⟨k, hk⟩ := h
  exact ⟨k * 10, by omega⟩

/-- The number of which l can be the decimal. -/
def sval : List UInt8 → Int
  | [] => 0
  | c :: r => if c = 45 then -(valN 0 r : Nat) else (valN 0 (c :: r) : Nat)

theorem dec_head {n : Nat} (h : n < 10 ^ 20) : ∃ c r, dec n = c :: r ∧ c ≠ 45 := by
  have h1 := dec_pos n
  have h2 := (dec_told n h).2
  cases hd : dec n with
  | nil => rw [hd] at h1; simp at h1
  | cons c r =>
    refine ⟨c, r, rfl, ?_⟩
    rintro rfl
    have := h2 45 (by rw [hd]; simp)
    have e : (45 : UInt8).toNat = 45 := rfl
    omega

theorem sval_decI (z : Int) (h : Fits z) : sval (decI z) = z := by
  unfold Fits at h
  by_cases h0 : 0 ≤ z
  · obtain ⟨n, rfl⟩ := Int.eq_ofNat_of_zero_le h0
    have hn : n < 10 ^ 20 := by omega
    rw [decI_pos]
    obtain ⟨c, r, e, hc⟩ := dec_head hn
    have ht := (dec_told n hn).1
    rw [e] at ht ⊢
    show (if c = 45 then _ else _) = _
    rw [if_neg hc, ht]
  · obtain ⟨m, hm⟩ := Int.eq_ofNat_of_zero_le (show 0 ≤ -z by omega)
    obtain rfl : z = -(m : Int) := by omega
    rw [decI_neg m (by omega)]
    have e : sval (45 :: dec m) = -((valN 0 (dec m) : Nat) : Int) := rfl
    rw [e, (dec_told m (by omega)).1]

theorem decI_inj {a b : Int} (ha : Fits a) (hb : Fits b) (h : decI a = decI b) : a = b := by
  rw [← sval_decI a ha, ← sval_decI b hb, h]

/-- What reading l as a decimal gives: the number, and whether it is one. -/
def intB (l : List UInt8) : Bool := decide (Fits (sval l)) && decide (decI (sval l) = l)
def intV (l : List UInt8) : Int := if intB l = true then sval l else 0

theorem intB_iff (l : List UInt8) : intB l = true ↔ ∃ z, Fits z ∧ decI z = l := by
  unfold intB
  rw [Bool.and_eq_true, decide_eq_true_eq, decide_eq_true_eq]
  constructor
  · rintro ⟨h1, h2⟩
    exact ⟨_, h1, h2⟩
  · rintro ⟨z, h1, rfl⟩
    rw [sval_decI z h1]
    exact ⟨h1, rfl⟩

theorem int_of (z : Int) (h : Fits z) : intB (decI z) = true ∧ intV (decI z) = z := by
  have hb : intB (decI z) = true := (intB_iff _).2 ⟨z, h, rfl⟩
  refine ⟨hb, ?_⟩
  unfold intV
  rw [if_pos hb, sval_decI z h]

theorem int_no (l : List UInt8) (h : ∀ z, Fits z → decI z ≠ l) : intB l = false ∧ intV l = 0 := by
  have hb : intB l = false := by
    cases hb : intB l with
    | false => rfl
    | true =>
      obtain ⟨z, h1, h2⟩ := (intB_iff l).1 hb
      exact absurd h2 (h z h1)
  refine ⟨hb, ?_⟩
  unfold intV
  rw [hb]
  rfl

/-- What the program has calculated for the bytes of l: up to the sign, and up to multiples of 2^64, the value of its digits. -/
def Sum1 (l : List UInt8) (n : Int) : Prop := Fits n ∧ match l with
  | [] => Mod n 0
  | c :: r => if c = 45 then Mod n (-valZ 0 r) else Mod n (valZ 0 (c :: r))

theorem Sum1.is {l : List UInt8} {n z : Int} (h : Sum1 l n) (hz : Fits z) (e : decI z = l) : n = z := by
  subst e
  obtain ⟨h1, h2⟩ := h
  have hz' := hz
  unfold Fits at hz'
  by_cases h0 : 0 ≤ z
  · obtain ⟨k, rfl⟩ := Int.eq_ofNat_of_zero_le h0
    have hk : k < 10 ^ 20 := by omega
    rw [decI_pos] at h2
    obtain ⟨c, r, e, hc⟩ := dec_head hk
    have ht := dec_told k hk
    rw [e] at h2 ht
    simp only [if_neg hc] at h2
    rw [show (0 : Int) = ((0 : Nat) : Int) from rfl, valZ_dig _ _ ht.2, ht.1] at h2
    exact h2.only h1 hz
  · obtain ⟨m, hm⟩ := Int.eq_ofNat_of_zero_le (show 0 ≤ -z by omega)
    obtain rfl : z = -(m : Int) := by omega
    rw [decI_neg m (by omega)] at h2
    have ht := dec_told m (by omega)
    simp only [if_true] at h2
    rw [show (0 : Int) = ((0 : Nat) : Int) from rfl, valZ_dig _ _ ht.2, ht.1] at h2
    exact h2.only h1 hz

theorem Sum1.yes {l : List UInt8} {n : Int} (h : Sum1 l n) (e : decI n = l) : intB l = true ∧ intV l = n := by
  subst e
  exact int_of n h.1
theorem Sum1.no {l : List UInt8} {n : Int} (h : Sum1 l n) (e : decI n ≠ l) : intB l = false ∧ intV l = 0 :=
  int_no l fun z hz hd => by
    have := h.is hz hd
    subst this
    exact e hd

theorem decI_len (z : Int) : (decI z).length ≤ 22 := by
  unfold decI
  split
  · have := dec_len z.toNat
    omega
  · have := dec_len (-z).toNat
    simp
    omega
end Txt
end Go.Proofs.YtjgaghapjlmcpaaDoor

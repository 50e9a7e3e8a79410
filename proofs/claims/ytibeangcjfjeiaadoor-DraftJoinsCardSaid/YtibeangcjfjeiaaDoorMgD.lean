/- Plain facts on decimal digits; nothing of the program is imported. Decimals of ints as plain functions; nothing of the program is imported. Quoted strings as plain functions on bytes; nothing of the program is imported. The tokens of the floor language as plain functions on bytes; nothing of the program is imported. -/
import Derived.WalkKit
namespace Go.Proofs.YtibeangcjfjeiaaDoor
namespace Wire

/-- The byte of a digit. -/
def dig (n : Nat) : UInt8 := UInt8.ofNat (48 + n)

def decF : Nat → Nat → List UInt8
  | 0, n => [dig (n % 10)]
  | k + 1, n => if n < 10 then [dig n] else decF k (n / 10) ++ [dig (n % 10)]

/-- The decimal digits of a number below 10^20. -/
def dec (n : Nat) : List UInt8 := decF 20 n

theorem decF_lt (k n : Nat) (h : n < 10) : decF (k + 1) n = [dig n] := by rw [decF, if_pos h]
theorem decF_ge (k n : Nat) (h : 10 ≤ n) : decF (k + 1) n = decF k (n / 10) ++ [dig (n % 10)] := by rw [decF, if_neg (by omega)]

theorem decF_succ (k n : Nat) (h : n < 10 ^ (k + 1)) : decF (k + 1) n = decF k n := by
  induction k generalizing n with
  | zero =>
    have h1 : n < 10 := by simpa using h
    rw [decF_lt _ _ h1, decF, Nat.mod_eq_of_lt h1]
  | succ k ih =>
    by_cases hn : n < 10
    · rw [decF_lt _ _ hn, decF_lt _ _ hn]
    · rw [decF_ge (k + 1) n (by omega), decF_ge k n (by omega), ih (n / 10) (by rw [Nat.pow_succ] at h; omega)]

theorem dec_small {n : Nat} (h : n < 10) : dec n = [dig n] := by
  unfold dec decF
  rw [if_pos h]

theorem dec_big {n : Nat} (h : 10 ≤ n) (hb : n < 10 ^ 20) : dec n = dec (n / 10) ++ [dig (n % 10)] := by
  have e : dec n = decF 19 (n / 10) ++ [dig (n % 10)] := by
    unfold dec
    rw [decF, if_neg (by omega)]
  rw [e]
  unfold dec
  rw [decF_succ 19 (n / 10) (by omega)]

theorem decF_len (k n : Nat) : (decF k n).length ≤ k + 1 := by
  induction k generalizing n with
  | zero => simp [decF]
  | succ k ih =>
    by_cases h : n < 10
    · rw [decF_lt _ _ h]; simp
    · rw [decF_ge _ _ (by omega)]
      have := ih (n / 10)
      simp
      omega
theorem decF_pos (k n : Nat) : 1 ≤ (decF k n).length := by
  cases k with
  | zero => simp [decF]
  | succ k =>
    by_cases h : n < 10
    · rw [decF_lt _ _ h]; simp
    · rw [decF_ge _ _ (by omega)]; simp
theorem dec_len (n : Nat) : (dec n).length ≤ 21 := decF_len 20 n
theorem dec_pos (n : Nat) : 1 ≤ (dec n).length := decF_pos 20 n

theorem cat_bytes (a b : List UInt8) : (⟨a.toArray⟩ : ByteArray) ++ ⟨b.toArray⟩ = ⟨(a ++ b).toArray⟩ := by
  rw [ByteArray.mk_append_mk]

theorem bytes_extract (l : List UInt8) (a b : Nat) : (⟨l.toArray⟩ : ByteArray).extract a b = ⟨((l.take b).drop a).toArray⟩ := by
  apply ByteArray.ext
  rw [ByteArray.data_extract]
  simp
  rw [List.take_drop]
  by_cases h : a ≤ b
  · rw [show a + (b - a) = b from by omega]
  · rw [show a + (b - a) = a from by omega, List.drop_eq_nil_of_le (by simp; omega), List.drop_eq_nil_of_le (by simp; omega)]

end Wire
end Go.Proofs.YtibeangcjfjeiaaDoor

namespace Go.Proofs.YtibeangcjfjeiaaDoor
open Go.RowKit Wire
namespace Txt

/-- An int of Go. -/
abbrev Fits (z : Int) : Prop := -9223372036854775808 ≤ z ∧ z ≤ 9223372036854775807

/-- The decimal of an int. -/
def decI (z : Int) : List UInt8 := if 0 ≤ z then dec z.toNat else 45 :: dec (-z).toNat

theorem decI_pos (n : Nat) : decI (n : Int) = dec n := by
  unfold decI
  rw [if_pos (by omega)]
  simp
theorem decI_neg (m : Nat) (h : 1 ≤ m) : decI (-(m : Int)) = 45 :: dec m := by
  unfold decI
  rw [if_neg (by omega)]
  simp

/-- The value of the bytes as digits, one after the other. -/
def valN : Nat → List UInt8 → Nat
  | n, [] => n
  | n, c :: r => valN (n * 10 + (c.toNat - 48)) r

theorem valN_append (a b : List UInt8) : ∀ n, valN n (a ++ b) = valN (valN n a) b := by
  induction a with
  | nil => intro n; rfl
  | cons c a ih => intro n; exact ih _

theorem dig_val {m : Nat} (h : m < 10) : (dig m).toNat = 48 + m := by
  unfold dig
  rw [UInt8.toNat_ofNat', Nat.mod_eq_of_lt (by omega)]

/-- Digits only. -/
def Digits (l : List UInt8) : Prop := ∀ c ∈ l, 48 ≤ c.toNat ∧ c.toNat ≤ 57

theorem decF_told (k n : Nat) (h : n < 10 ^ (k + 1)) : valN 0 (decF k n) = n ∧ Digits (decF k n) := by
  induction k generalizing n with
  | zero =>
    have h1 : n < 10 := by simpa using h
    have hd := dig_val (m := n % 10) (Nat.mod_lt _ (by omega))
    constructor
    · show 0 * 10 + ((dig (n % 10)).toNat - 48) = n
      omega
    · intro c hc
      obtain rfl : c = dig (n % 10) := by simpa [decF] using hc
      omega
  | succ k ih =>
    by_cases hn : n < 10
    · rw [decF_lt _ _ hn]
      have hd := dig_val hn
      constructor
      · show 0 * 10 + ((dig n).toNat - 48) = n
        omega
      · intro c hc
        obtain rfl : c = dig n := by simpa using hc
        omega
    · rw [decF_ge _ _ (by omega)]
      have ⟨h1, h2⟩ := ih (n / 10) (by rw [Nat.pow_succ] at h; omega)
      have hd := dig_val (m := n % 10) (Nat.mod_lt _ (by omega))
      constructor
      · rw [valN_append, h1]
        show n / 10 * 10 + ((dig (n % 10)).toNat - 48) = n
        omega
      · intro c hc
        rcases List.mem_append.1 hc with hc | hc
        · exact h2 c hc
        · obtain rfl : c = dig (n % 10) := by simpa using hc
          omega

theorem dec_told (n : Nat) (h : n < 10 ^ 20) : valN 0 (dec n) = n ∧ Digits (dec n) := decF_told 20 n (by omega)

/-! The calculation of the program wraps around at each step. -/

theorem wrap_mod (x : Int) : ∃ k : Int, wrap64 x = x + k * 18446744073709551616 := by
  refine ⟨(wrap64 x - x) / 18446744073709551616, ?_⟩
  unfold wrap64
  omega
theorem wrap_fits (x : Int) : Fits (wrap64 x) := by
  unfold Fits wrap64
  omega

/-- The value of a byte as a digit: a byte again. -/
def bv (c : UInt8) : Int := IntKind.u8.wrap ((c.toNat : Int) - 48)
theorem bv_bd (c : UInt8) : 0 ≤ bv c ∧ bv c ≤ 255 := by
  unfold bv
  simp [IntKind.wrap, IntKind.bits, IntKind.signed]
  omega
theorem bv_dig {c : UInt8} (h : 48 ≤ c.toNat ∧ c.toNat ≤ 57) : bv c = ((c.toNat - 48 : Nat) : Int) := by
  unfold bv
  simp [IntKind.wrap, IntKind.bits, IntKind.signed]
  omega

def valZ : Int → List UInt8 → Int
  | n, [] => n
  | n, c :: r => valZ (n * 10 + bv c) r
theorem valZ_snoc (l : List UInt8) (c : UInt8) : ∀ n, valZ n (l ++ [c]) = valZ n l * 10 + bv c := by
  induction l with
  | nil => intro n; rfl
  | cons d l ih => intro n; exact ih _
theorem valZ_dig (l : List UInt8) : ∀ n : Nat, Digits l → valZ n l = (valN n l : Nat) := by
  induction l with
  | nil => intro n _; rfl
  | cons c l ih =>
    intro n h
    have hc := bv_dig (h c (by simp))
    show valZ ((n : Int) * 10 + bv c) l = (valN (n * 10 + (c.toNat - 48)) l : Nat)
    rw [hc, ← ih _ (fun d hd => h d (by simp [hd]))]
    congr 1

/-- The same up to multiples of 2^64. -/
def Mod (a b : Int) : Prop := ∃ k : Int, a = b + k * 18446744073709551616
theorem Mod.refl (a : Int) : Mod a a := ⟨0, by omega⟩
theorem Mod.only {a b : Int} (h : Mod a b) (ha : Fits a) (hb : Fits b) : a = b := by
  obtain ⟨k, hk⟩ := h
  unfold Fits at ha hb
  omega
theorem Mod.wrap {a b : Int} (h : Mod a b) : Mod (wrap64 a) b := by
  obtain ⟨k, hk⟩ := h
  obtain ⟨j, hj⟩ := wrap_mod a
  exact ⟨k + j, by omega⟩
theorem Mod.add {a b c d : Int} (h : Mod a b) (g : Mod c d) : Mod (a + c) (b + d) := by
  obtain ⟨k, hk⟩ := h
  obtain ⟨j, hj⟩ := g
  exact ⟨k + j, by omega⟩
theorem Mod.neg {a b : Int} (h : Mod a b) : Mod (-a) (-b) := by
  obtain ⟨k, hk⟩ := h
  exact ⟨-k, by omega⟩
theorem Mod.sub {a b c d : Int} (h : Mod a b) (g : Mod c d) : Mod (a - c) (b - d) := by
  obtain ⟨k, hk⟩ := h
  obtain ⟨j, hj⟩ := g
  exact ⟨k - j, by omega⟩
theorem Mod.ten {a b : Int} (h : Mod a b) : Mod (a * 10) (b * 10) := by
  obtain ⟨k, hk⟩ := h
  exact ⟨k * 10, by omega⟩

/-- The number of which l can be the decimal. -/
def sval : List UInt8 → Int
  | [] => 0
  | c :: r => if c = 45 then -(valN 0 r : Nat) else (valN 0 (c :: r) : Nat)

theorem dec_head {n : Nat} (h : n < 10 ^ 20) : ∃ c r, dec n = c :: r ∧ c ≠ 45 := by
  have h1 := dec_pos n
  have h2 := (dec_told n h).2
  cases hd : dec n with
  | nil => rw [hd] at h1; simp at h1
  | cons c r =>
    refine ⟨c, r, rfl, ?_⟩
    rintro rfl
    have := h2 45 (by rw [hd]; simp)
    have e : (45 : UInt8).toNat = 45 := rfl
    omega

theorem sval_decI (z : Int) (h : Fits z) : sval (decI z) = z := by
  unfold Fits at h
  by_cases h0 : 0 ≤ z
  · obtain ⟨n, rfl⟩ := Int.eq_ofNat_of_zero_le h0
    have hn : n < 10 ^ 20 := by omega
    rw [decI_pos]
    obtain ⟨c, r, e, hc⟩ := dec_head hn
    have ht := (dec_told n hn).1
    rw [e] at ht ⊢
    show (if c = 45 then _ else _) = _
    rw [if_neg hc, ht]
  · obtain ⟨m, hm⟩ := Int.eq_ofNat_of_zero_le (show 0 ≤ -z by omega)
    obtain rfl : z = -(m : Int) := by omega
    rw [decI_neg m (by omega)]
    have e : sval (45 :: dec m) = -((valN 0 (dec m) : Nat) : Int) := rfl
    rw [e, (dec_told m (by omega)).1]

theorem decI_inj {a b : Int} (ha : Fits a) (hb : Fits b) (h : decI a = decI b) : a = b := by
  rw [← sval_decI a ha, ← sval_decI b hb, h]

/-- What reading l as a decimal gives: the number, and whether it is one. -/
def intB (l : List UInt8) : Bool := decide (Fits (sval l)) && decide (decI (sval l) = l)
def intV (l : List UInt8) : Int := if intB l = true then sval l else 0

theorem intB_iff (l : List UInt8) : intB l = true ↔ ∃ z, Fits z ∧ decI z = l := by
  unfold intB
  rw [Bool.and_eq_true, decide_eq_true_eq, decide_eq_true_eq]
  constructor
  · rintro ⟨h1, h2⟩
    exact ⟨_, h1, h2⟩
  · rintro ⟨z, h1, rfl⟩
    rw [sval_decI z h1]
    exact ⟨h1, rfl⟩

theorem int_of (z : Int) (h : Fits z) : intB (decI z) = true ∧ intV (decI z) = z := by
  have hb : intB (decI z) = true := (intB_iff _).2 ⟨z, h, rfl⟩
  refine ⟨hb, ?_⟩
  unfold intV
  rw [if_pos hb, sval_decI z h]

theorem int_no (l : List UInt8) (h : ∀ z, Fits z → decI z ≠ l) : intB l = false ∧ intV l = 0 := by
  have hb : intB l = false := by
    cases hb : intB l with
    | false => rfl
    | true =>
      obtain ⟨z, h1, h2⟩ := (intB_iff l).1 hb
      exact absurd h2 (h z h1)
  refine ⟨hb, ?_⟩
  unfold intV
  rw [hb]
  rfl

/-- What the program has calculated for the bytes of l: up to the sign, and up to multiples of 2^64, the value of its digits. -/
def Sum1 (l : List UInt8) (n : Int) : Prop := Fits n ∧ match l with
  | [] => Mod n 0
  | c :: r => if c = 45 then Mod n (-valZ 0 r) else Mod n (valZ 0 (c :: r))

theorem Sum1.is {l : List UInt8} {n z : Int} (h : Sum1 l n) (hz : Fits z) (e : decI z = l) : n = z := by
  subst e
  obtain ⟨h1, h2⟩ := h
  have hz' := hz
  unfold Fits at hz'
  by_cases h0 : 0 ≤ z
  · obtain ⟨k, rfl⟩ := Int.eq_ofNat_of_zero_le h0
    have hk : k < 10 ^ 20 := by omega
    rw [decI_pos] at h2
    obtain ⟨c, r, e, hc⟩ := dec_head hk
    have ht := dec_told k hk
    rw [e] at h2 ht
    simp only [if_neg hc] at h2
    rw [show (0 : Int) = ((0 : Nat) : Int) from rfl, valZ_dig _ _ ht.2, ht.1] at h2
    exact h2.only h1 hz
  · obtain ⟨m, hm⟩ := Int.eq_ofNat_of_zero_le (show 0 ≤ -z by omega)
    obtain rfl : z = -(m : Int) := by omega
    rw [decI_neg m (by omega)] at h2
    have ht := dec_told m (by omega)
    simp only [if_true] at h2
    rw [show (0 : Int) = ((0 : Nat) : Int) from rfl, valZ_dig _ _ ht.2, ht.1] at h2
    exact h2.only h1 hz

theorem Sum1.yes {l : List UInt8} {n : Int} (h : Sum1 l n) (e : decI n = l) : intB l = true ∧ intV l = n := by
  subst e
  exact int_of n h.1
theorem Sum1.no {l : List UInt8} {n : Int} (h : Sum1 l n) (e : decI n ≠ l) : intB l = false ∧ intV l = 0 :=
  int_no l fun z hz hd => by
    have := h.is hz hd
    subst this
    exact e hd

theorem decI_len (z : Int) : (decI z).length ≤ 22 := by
  unfold decI
  split
  · have := dec_len z.toNat
    omega
  · have := dec_len (-z).toNat
    simp
    omega
end Txt
end Go.Proofs.YtibeangcjfjeiaaDoor

namespace Go.Proofs.YtibeangcjfjeiaaDoor
namespace Txt

def hexes : List UInt8 := [48, 49, 50, 51, 52, 53, 54, 55, 56, 57, 97, 98, 99, 100, 101, 102]
def hx (n : Nat) : UInt8 := hexes.getD n 0

/-- What stands for a byte in a quoted string. -/
def encB (c : UInt8) : List UInt8 :=
  if c = 34 ∨ c = 92 then [92, c]
  else if c = 10 then [92, 110]
  else if c.toNat < 32 ∨ 126 < c.toNat then [92, 120, hx (c.toNat / 16), hx (c.toNat % 16)]
  else [c]
/-- The quoted string. -/
def quo (l : List UInt8) : List UInt8 := 34 :: (l.flatMap encB ++ [34])

theorem encB_len (c : UInt8) : 1 ≤ (encB c).length ∧ (encB c).length ≤ 4 := by
  unfold encB
  split
  · simp
  · split
    · simp
    · split <;> simp
theorem flat_len (l : List UInt8) : (l.flatMap encB).length ≤ 4 * l.length := by
  induction l with
  | nil => simp
  | cons c l ih =>
    have := encB_len c
    simp only [List.flatMap_cons, List.length_append, List.length_cons]
    omega
theorem quo_len (l : List UInt8) : (quo l).length ≤ 4 * l.length + 2 := by
  have := flat_len l
  unfold quo
  rw [List.length_cons, List.length_append, List.length_singleton]
  omega

/-- The value of a hexadecimal digit, or 0. -/
def dgN (c : UInt8) : Nat := if hexes.contains c then hexes.idxOf c else 0

theorem dgN_lt (c : UInt8) : dgN c < 16 := by
  unfold dgN
  split
  · rename_i h
    have := List.idxOf_lt_length_of_mem (List.contains_iff_mem.1 h)
    simpa [hexes] using this
  · omega

/-- The byte for which the beginning stands, and how many bytes this takes. -/
def dq (c : UInt8) (r : List UInt8) : UInt8 × Nat :=
  if c = 92 then
    match r with
    | [] => (c, 1)
    | d :: r' =>
      if d = 110 then (10, 2)
      else if d = 120 then
        match r' with
        | a :: b :: _ => (UInt8.ofNat (16 * dgN a + dgN b), 4)
        | _ => (d, 2)
      else (d, 2)
  else (c, 1)

theorem dq_size (c : UInt8) (r : List UInt8) : 1 ≤ (dq c r).2 ∧ (dq c r).2 ≤ r.length + 1 := by
  unfold dq
  split
  · cases r with
    | nil => simp
    | cons d r' =>
      simp only
      split
      · simp
      · split
        · split <;> simp
        · simp
  · simp

def unqF : Nat → List UInt8 → List UInt8
  | 0, _ => []
  | _ + 1, [] => []
  | k + 1, c :: r => (dq c r).1 :: unqF k ((c :: r).drop (dq c r).2)
def unq (l : List UInt8) : List UInt8 := unqF l.length l

theorem unqF_more : ∀ (k : Nat) (l : List UInt8), l.length ≤ k → unqF k l = unqF l.length l
  | 0, l, h => by
    have : l = [] := List.eq_nil_of_length_eq_zero (by omega)
    subst this
    rfl
  | k + 1, [], _ => rfl
  | k + 1, c :: r, h => by
    have hs := dq_size c r
    simp only [List.length_cons] at h
    have hd : ((c :: r).drop (dq c r).2).length ≤ r.length := by
      rw [List.length_drop, List.length_cons]
      omega
    show _ :: _ = _ :: _
    congr 1
    rw [unqF_more k _ (by omega), unqF_more r.length _ hd]

theorem unq_nil : unq [] = [] := rfl
theorem unq_cons (c : UInt8) (r : List UInt8) : unq (c :: r) = (dq c r).1 :: unq ((c :: r).drop (dq c r).2) := by
  have hs := dq_size c r
  have hd : ((c :: r).drop (dq c r).2).length ≤ r.length := by
    rw [List.length_drop, List.length_cons]
    omega
  unfold unq
  show _ :: _ = _ :: _
  congr 1
  exact unqF_more r.length _ hd

theorem unq_len : ∀ (k : Nat) (l : List UInt8), (unqF k l).length ≤ l.length
  | 0, l => by simp [unqF]
  | k + 1, [] => by simp [unqF]
  | k + 1, c :: r => by
    have hs := dq_size c r
    have := unq_len k ((c :: r).drop (dq c r).2)
    rw [List.length_drop] at this
    simp only [List.length_cons] at this
    simp only [unqF, List.length_cons]
    omega

/-- The inside of a quoted string. -/
def inner (l : List UInt8) : List UInt8 := (l.take (l.length - 1)).drop 1
def unqT (l : List UInt8) : List UInt8 := unq (inner l)
def unqB (l : List UInt8) : Bool := decide (quo (unqT l) = l)
def unqV (l : List UInt8) : List UInt8 := if unqB l = true then unqT l else []

theorem hex_byte : ∀ n, n < 256 → dgN (hx (n / 16)) = n / 16 ∧ dgN (hx (n % 16)) = n % 16 ∧ UInt8.ofNat (16 * (n / 16) + n % 16) = UInt8.ofNat n := by
  decide +kernel

theorem unq_enc (c : UInt8) (r : List UInt8) : unq (encB c ++ r) = c :: unq r := by
  unfold encB
  split
  · rename_i h
    show unq (92 :: c :: r) = _
    have hd : dq 92 (c :: r) = (c, 2) := by
      unfold dq
      rcases h with rfl | rfl <;> rfl
    rw [unq_cons, hd]
    rfl
  · rename_i h
    split
    · rename_i h10
      subst h10
      show unq (92 :: 110 :: r) = _
      rw [unq_cons, show dq 92 (110 :: r) = (10, 2) from rfl]
      rfl
    · split
      · have hx' := hex_byte c.toNat (UInt8.toNat_lt c)
        show unq (92 :: 120 :: hx (c.toNat / 16) :: hx (c.toNat % 16) :: r) = _
        rw [unq_cons]
        have hd : dq 92 (120 :: hx (c.toNat / 16) :: hx (c.toNat % 16) :: r) = (c, 4) := by
          show (UInt8.ofNat (16 * dgN (hx (c.toNat / 16)) + dgN (hx (c.toNat % 16))), 4) = _
          rw [hx'.1, hx'.2.1, hx'.2.2, UInt8.ofNat_toNat]
        rw [hd]
        rfl
      · show unq (c :: r) = _
        have hd : dq c r = (c, 1) := by
          unfold dq
          rw [if_neg (fun e => h (.inr e))]
        rw [unq_cons, hd]
        rfl

theorem unq_flat (l : List UInt8) : unq (l.flatMap encB) = l := by
  induction l with
  | nil => rfl
  | cons c l ih => rw [List.flatMap_cons, unq_enc, ih]

theorem inner_quo (l : List UInt8) : inner (quo l) = l.flatMap encB := by
  unfold inner quo
  simp

theorem unq_quo (l : List UInt8) : unqB (quo l) = true ∧ unqV (quo l) = l := by
  have h : unqT (quo l) = l := by
    unfold unqT
    rw [inner_quo, unq_flat]
  have hb : unqB (quo l) = true := by
    unfold unqB
    rw [h]
    exact decide_eq_true rfl
  refine ⟨hb, ?_⟩
  unfold unqV
  rw [if_pos hb, h]

theorem unq_yes {l : List UInt8} (h : unqB l = true) : quo (unqV l) = l := by
  unfold unqV
  rw [if_pos h]
  exact of_decide_eq_true h
theorem unq_no {l : List UInt8} (h : unqB l = false) : unqV l = [] := by
  unfold unqV
  rw [h]
  rfl
theorem unq_is {l : List UInt8} (h : quo (unqT l) = l) : unqB l = true ∧ unqV l = unqT l := by
  have hb : unqB l = true := decide_eq_true h
  refine ⟨hb, ?_⟩
  unfold unqV
  rw [if_pos hb]
theorem unq_not {l : List UInt8} (h : quo (unqT l) ≠ l) : unqB l = false ∧ unqV l = [] := by
  have hb : unqB l = false := decide_eq_false h
  exact ⟨hb, unq_no hb⟩
theorem unqV_len (l : List UInt8) : (unqT l).length ≤ l.length := by
  have h1 := unq_len (inner l).length (inner l)
  have h2 : (inner l).length ≤ l.length := by
    unfold inner
    rw [List.length_drop, List.length_take]
    omega
  unfold unqT unq
  omega
end Txt
end Go.Proofs.YtibeangcjfjeiaaDoor

namespace Go.Proofs.YtibeangcjfjeiaaDoor
open Txt
set_option linter.unusedVariables false
set_option maxRecDepth 100000
set_option linter.unusedSimpArgs false
namespace Lx

/-- A token: its kind (0 a word, 1 a number, 2 a text, 3 an LF, 4 the end), its text, its number, its line. -/
structure Tk where
  kind : Nat
  text : List UInt8
  n : Int
  line : Nat
deriving DecidableEq

def isW (c : UInt8) : Bool := c == 32 || c == 9 || c == 13
def isL (c : UInt8) : Bool := (decide (97 ≤ c.toNat) && decide (c.toNat ≤ 122)) || (decide (65 ≤ c.toNat) && decide (c.toNat ≤ 90)) || c == 95
def isD (c : UInt8) : Bool := decide (48 ≤ c.toNat) && decide (c.toNat ≤ 57)
def isP (c : UInt8) : Bool := isL c || isD c || c == 45
def no10 (c : UInt8) : Bool := c != 10

def word (w : List UInt8) : Bool := decide (1 ≤ w.length) && decide (w.length ≤ 20) && (match w with | [] => false | c :: _ => isL c) && w.all isP

/-- What a reading of one token gives: an error; or its kind, text, number, and what is left. -/
inductive Tr where
  | bad (e : Nat)
  | got (kind : Nat) (text : List UInt8) (n : Int) (rest : List UInt8)

def wordT (w rest : List UInt8) : Tr :=
  if word w = true then .got 0 w 0 rest
  else if intB w = true then .got 1 w (intV w) rest
  else if (w.head? != some 48) && w.all isD then .bad 3 else .bad 11

/-- Where a text ends: how many bytes go up to the quotation mark, which is the last of them. -/
def clo : Bool → List UInt8 → Option Nat
  | _, [] => none
  | odd, c :: r => if c = 34 ∧ odd = false then some 1 else (clo (c == 92 && !odd) r).map (· + 1)

def textT (r : List UInt8) : Tr :=
  match clo false r with
  | none => .bad 11
  | some k => if unqB (34 :: r.take k) = true then .got 2 (unqV (34 :: r.take k)) 0 (r.drop k) else .bad 11

def tok (c : UInt8) (r : List UInt8) : Tr :=
  if c = 10 then .got 3 [] 0 r
  else if c = 34 then textT r
  else if isL c || isD c then wordT ((c :: r).takeWhile isP) ((c :: r).dropWhile isP)
  else .bad 11

/-- The tokens; or an error and its line. -/
inductive Lr where
  | bad (e line : Nat)
  | ok (l : List Tk)
deriving DecidableEq

def Lr.push (t : Tk) : Lr → Lr
  | .bad e k => .bad e k
  | .ok l => .ok (t :: l)
def Lr.join (T : List Tk) : Lr → Lr
  | .bad e k => .bad e k
  | .ok l => .ok (T ++ l)
def up (k : Nat) (t : Tk) : Tk := { t with line := t.line + k }
def Lr.shift (k : Nat) : Lr → Lr
  | .bad e m => .bad e (m + k)
  | .ok l => .ok (l.map (up k))

def fin (line : Nat) : Tk := ⟨4, [], 0, line⟩
def nxt (kind line : Nat) : Nat := if kind = 3 then line + 1 else line

def lexF : Nat → List UInt8 → Nat → Lr
  | 0, _, line => .ok [fin line]
  | _ + 1, [], line => .ok [fin line]
  | k + 1, c :: r, line =>
    if isW c = true then lexF k r line
    else if c = 35 then lexF k (r.dropWhile no10) line
    else match tok c r with
      | .bad e => .bad e line
      | .got kind text n rest => (lexF k rest (nxt kind line)).push ⟨kind, text, n, line⟩
def lexP (l : List UInt8) (line : Nat) : Lr := lexF l.length l line
def lexAll (l : List UInt8) : Lr := if 20000 < l.length then .bad 6 0 else lexP l 1

/-! Lengths. -/
theorem drop_len (p : UInt8 → Bool) (l : List UInt8) : (l.dropWhile p).length ≤ l.length := (List.dropWhile_suffix p).length_le
theorem clo_le : ∀ (r : List UInt8) (odd : Bool) (k : Nat), clo odd r = some k → 1 ≤ k ∧ k ≤ r.length
  | [], odd, k, h => by cases h
  | c :: r, odd, k, h => by
    unfold clo at h
    split at h
    · cases h
      simp
    · obtain ⟨j, hj, rfl⟩ := Option.map_eq_some_iff.1 h
      have := clo_le r _ j hj
      simp only [List.length_cons]
      omega
theorem isP_of {c : UInt8} (h : (isL c || isD c) = true) : isP c = true := by
  unfold isP
  rw [h]
  rfl
theorem tok_len {c : UInt8} {r : List UInt8} {kind : Nat} {text : List UInt8} {n : Int} {rest : List UInt8} (h : tok c r = .got kind text n rest) : rest.length ≤ r.length := by
  unfold tok at h
  split at h
  · cases h
    exact Nat.le_refl _
  · split at h
    · unfold textT at h
      split at h
      · cases h
      · split at h
        · cases h
          simp
        · cases h
    · split at h
      · rename_i hc
        have e : (c :: r).dropWhile isP = r.dropWhile isP := by rw [List.dropWhile_cons_of_pos (isP_of hc)]
        have := drop_len isP r
        unfold wordT at h
        split at h
        · cases h
          rw [e]
          exact this
        · split at h
          · cases h
            rw [e]
            exact this
          · split at h <;> cases h
      · cases h

theorem lexF_more : ∀ (k : Nat) (l : List UInt8) (line : Nat), l.length ≤ k → lexF k l line = lexF l.length l line
  | 0, l, line, h => by
    have : l = [] := List.eq_nil_of_length_eq_zero (by omega)
    subst this
    rfl
  | k + 1, [], line, _ => rfl
  | k + 1, c :: r, line, h => by
    simp only [List.length_cons] at h ⊢
    have hd := drop_len no10 r
    unfold lexF
    split
    · rw [lexF_more k r line (by omega)]
    · split
      · rw [lexF_more k _ line (by omega), lexF_more r.length _ line (by omega)]
      · split
        · rfl
        · rename_i kind text n rest ht
          have := tok_len ht
          rw [lexF_more k rest _ (by omega), lexF_more r.length rest _ (by omega)]

theorem lexP_nil (line : Nat) : lexP [] line = .ok [fin line] := rfl
theorem lexP_white {c : UInt8} {r : List UInt8} {line : Nat} (h : isW c = true) : lexP (c :: r) line = lexP r line := by
  show lexF (r.length + 1) (c :: r) line = _
  unfold lexF
  rw [if_pos h]
  rfl
theorem lexP_note {r : List UInt8} {line : Nat} : lexP (35 :: r) line = lexP (r.dropWhile no10) line := by
  show lexF (r.length + 1) (35 :: r) line = _
  unfold lexF
  rw [if_neg (by decide), if_pos rfl]
  exact lexF_more _ _ _ (drop_len _ _)
theorem lexP_bad {c : UInt8} {r : List UInt8} {line e : Nat} (hw : isW c = false) (h35 : c ≠ 35) (h : tok c r = .bad e) : lexP (c :: r) line = .bad e line := by
  show lexF (r.length + 1) (c :: r) line = _
  unfold lexF
  rw [if_neg (by rw [hw]; decide), if_neg h35, h]
theorem lexP_got {c : UInt8} {r : List UInt8} {line : Nat} {kind : Nat} {text : List UInt8} {n : Int} {rest : List UInt8} (hw : isW c = false) (h35 : c ≠ 35) (h : tok c r = .got kind text n rest) :
    lexP (c :: r) line = (lexP rest (nxt kind line)).push ⟨kind, text, n, line⟩ := by
  show lexF (r.length + 1) (c :: r) line = _
  unfold lexF
  rw [if_neg (by rw [hw]; decide), if_neg h35, h]
  show Lr.push _ (lexF r.length rest _) = _
  rw [lexF_more _ _ _ (tok_len h)]
  rfl

/-- The four ways of a source that is not empty. -/
theorem lexP_ind {M : List UInt8 → Nat → Prop} (h0 : ∀ line, M [] line) (h1 : ∀ c r line, isW c = true → M r line → M (c :: r) line) (h2 : ∀ r line, M (r.dropWhile no10) line → M (35 :: r) line)
    (h3 : ∀ c r line e, isW c = false → c ≠ 35 → tok c r = .bad e → M (c :: r) line)
    (h4 : ∀ c r line kind text n rest, isW c = false → c ≠ 35 → tok c r = .got kind text n rest → M rest (nxt kind line) → M (c :: r) line) : ∀ l line, M l line := by
  have key : ∀ (k : Nat) (l : List UInt8) (line : Nat), l.length ≤ k → M l line := by
    intro k
    induction k with
    | zero =>
      intro l line h
      have : l = [] := List.eq_nil_of_length_eq_zero (by omega)
      subst this
      exact h0 line
    | succ k ih =>
      intro l line h
      cases l with
      | nil => exact h0 line
      | cons c r =>
        simp only [List.length_cons] at h
        cases hw : isW c with
        | true => exact h1 c r line hw (ih r line (by omega))
        | false =>
          by_cases h35 : c = 35
          · subst h35
            have := drop_len no10 r
            exact h2 r line (ih _ line (by omega))
          · cases ht : tok c r with
            | bad e => exact h3 c r line e hw h35 ht
            | got kind text n rest =>
              have := tok_len ht
              exact h4 c r line kind text n rest hw h35 ht (ih _ _ (by omega))
  exact fun l line => key l.length l line (Nat.le_refl _)

/-! Joining and shifting. -/
theorem push_join (t : Tk) (x : Lr) : x.push t = x.join [t] := by cases x <;> rfl
theorem join_join (T U : List Tk) (x : Lr) : (x.join U).join T = x.join (T ++ U) := by
  cases x with
  | bad e k => rfl
  | ok l => simp [Lr.join]
theorem join_nil (x : Lr) : x.join [] = x := by cases x <;> rfl
theorem shift_push (k : Nat) (t : Tk) (x : Lr) : (x.push t).shift k = (x.shift k).push (up k t) := by cases x <;> rfl

theorem nxt_add (kind line k : Nat) : nxt kind (line + k) = nxt kind line + k := by
  unfold nxt
  split <;> omega

theorem lexP_shift (k : Nat) : ∀ l line, lexP l (line + k) = (lexP l line).shift k := by
  refine lexP_ind (fun line => rfl) (fun c r line hw ih => ?_) (fun r line ih => ?_) (fun c r line e hw h35 ht => ?_) (fun c r line kind text n rest hw h35 ht ih => ?_)
  · rw [lexP_white hw, lexP_white hw, ih]
  · rw [lexP_note, lexP_note, ih]
  · rw [lexP_bad hw h35 ht, lexP_bad hw h35 ht]
    rfl
  · rw [lexP_got hw h35 ht, lexP_got hw h35 ht, nxt_add, ih, shift_push]
    rfl

/-! What the blanks of a source are. -/
/-- Behind white bytes and a comment. -/
def skip (l : List UInt8) : List UInt8 :=
  match l.dropWhile isW with
  | 35 :: r => r.dropWhile no10
  | r => r
theorem lexP_drop (l : List UInt8) (line : Nat) : lexP (l.dropWhile isW) line = lexP l line := by
  induction l with
  | nil => rfl
  | cons c r ih =>
    cases hw : isW c with
    | true => rw [List.dropWhile_cons_of_pos hw, lexP_white hw, ih]
    | false => rw [List.dropWhile_cons_of_neg (by rw [hw]; decide)]
theorem lexP_skip (l : List UInt8) (line : Nat) : lexP (skip l) line = lexP l line := by
  rw [← lexP_drop l]
  unfold skip
  split
  · rename_i r h
    rw [h, lexP_note]
  · rfl
theorem drop_head {p : UInt8 → Bool} {l r : List UInt8} {c : UInt8} (h : l.dropWhile p = c :: r) : p c = false := by
  have := List.head?_dropWhile_not p l
  rw [h] at this
  simpa using this
theorem skip_head {l r : List UInt8} {c : UInt8} (h : skip l = c :: r) : isW c = false ∧ c ≠ 35 := by
  unfold skip at h
  split at h
  · rename_i r0 h0
    have := drop_head h
    obtain rfl : c = 10 := by simpa [no10] using this
    decide
  · rename_i r0 hn
    refine ⟨drop_head h, ?_⟩
    rintro rfl
    exact hn r h
theorem skip_len (l : List UInt8) : (skip l).length ≤ l.length := by
  have h1 := drop_len isW l
  unfold skip
  split
  · rename_i r h0
    have h2 := drop_len no10 r
    rw [h0] at h1
    simp only [List.length_cons] at h1
    omega
  · exact h1

end Lx
end Go.Proofs.YtibeangcjfjeiaaDoor

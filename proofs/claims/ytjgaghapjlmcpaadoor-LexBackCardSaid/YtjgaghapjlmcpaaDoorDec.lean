/- Plain facts on decimal digits; nothing of the program is imported. -/
import Derived.WalkKit
namespace Go.Proofs.YtjgaghapjlmcpaaDoor
namespace Wire

/-- The byte of a digit. -/
def dig (n : Nat) : UInt8 := UInt8.ofNat (48 + n)

def decF : Nat → Nat → List UInt8
  | 0, n => [dig (n % 10)]
  | k + 1, n => if n < 10 then [dig n] else decF k (n / 10) ++ [dig (n % 10)]

/-- The decimal digits of a number below 10^20. -/
def dec (n : Nat) : List UInt8 := decF 20 n

theorem decF_lt (k n : Nat) (h : n < 10) : decF (k + 1) n = [dig n] := by rw [decF, if_pos h]
theorem decF_ge (k n : Nat) (h : 10 ≤ n) : decF (k + 1) n = decF k (n / 10) ++ [dig (n % 10)] := by rw [decF, if_neg (by omega)]

theorem decF_succ (k n : Nat) (h : n < 10 ^ (k + 1)) : decF (k + 1) n = decF k n := by
  induction k generalizing n with
  | zero =>
    have h1 : n < 10 := by simpa using h
    rw [decF_lt _ _ h1, decF, Nat.mod_eq_of_lt h1]
  | succ k ih =>
    by_cases hn : n < 10
    · rw [decF_lt _ _ hn, decF_lt _ _ hn]
    · rw [decF_ge (k + 1) n (by omega), decF_ge k n (by omega), ih (n / 10) (by rw [Nat.pow_succ] at h; omega)]

theorem dec_small {n : Nat} (h : n < 10) : dec n = [dig n] := by
  unfold dec decF
  rw [if_pos h]

theorem dec_big {n : Nat} (h : 10 ≤ n) (hb : n < 10 ^ 20) : dec n = dec (n / 10) ++ [dig (n % 10)] := by
  have e : dec n = decF 19 (n / 10) ++ [dig (n % 10)] := by
    unfold dec
    rw [decF, if_neg (by omega)]
  rw [e]
  unfold dec
  rw [decF_succ 19 (n / 10) (by omega)]

theorem decF_len (k n : Nat) : (decF k n).length ≤ k + 1 := by
  induction k generalizing n with
  | zero => simp [decF]
  | succ k ih =>
    by_cases h : n < 10
    · rw [decF_lt _ _ h]; simp
    · rw [decF_ge _ _ (by omega)]
      have := ih (n / 10)
      simp
      omega
theorem decF_pos (k n : Nat) : 1 ≤ (decF k n).length := by
  cases k with
  | zero => simp [decF]
  | succ k =>
    by_cases h : n < 10
    · rw [decF_lt _ _ h]; simp
    · rw [decF_ge _ _ (by omega)]; simp
theorem dec_len (n : Nat) : (dec n).length ≤ 21 := decF_len 20 n
theorem dec_pos (n : Nat) : 1 ≤ (dec n).length := decF_pos 20 n

theorem cat_bytes (a b : List UInt8) : (⟨a.toArray⟩ : ByteArray) ++ ⟨b.toArray⟩ = ⟨(a ++ b).toArray⟩ := by
  rw [ByteArray.mk_append_mk]

theorem bytes_extract (l : List UInt8) (a b : Nat) : (⟨l.toArray⟩ : ByteArray).extract a b = ⟨((l.take b).drop a).toArray⟩ := by
  apply ByteArray.ext
  rw [ByteArray.data_extract]
  simp
  rw [List.take_drop]
  by_cases h : a ≤ b
  · rw [show a + (b - a) = b from by omega]
  · rw [show a + (b - a) = a from by omega, List.drop_eq_nil_of_le (by simp; omega), List.drop_eq_nil_of_le (by simp; omega)]

end Wire
end Go.Proofs.YtjgaghapjlmcpaaDoor

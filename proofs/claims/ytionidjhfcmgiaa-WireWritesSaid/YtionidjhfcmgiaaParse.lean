/- What a reader reads, as plain functions on lists of bytes. Nothing of the program is imported. -/
import Derived.Test.YtionidjhfcmgiaaDec
namespace Go.Proofs.Ytionidjhfcmgiaa
set_option linter.unusedVariables false
set_option linter.unusedSimpArgs false
namespace Wire

def isDig (c : UInt8) : Bool := decide (48 ≤ c.toNat) && decide (c.toNat ≤ 57)
def val (c : UInt8) : Nat := c.toNat - 48
def noDig (r : List UInt8) : Prop := ∀ c t, r = c :: t → isDig c = false

/-- The digits at the beginning, of an integer that is at most 'most'; n: what i digits before have made. -/
def scan (most : Nat) : Nat → Nat → List UInt8 → Option (Nat × List UInt8)
  | n, i, [] => if i = 0 then none else some (n, [])
  | n, i, c :: r =>
    if isDig c = true then (if (0 < i ∧ n = 0) ∨ (most - val c) / 10 < n then none else scan most (n * 10 + val c) (i + 1) r)
    else if i = 0 then none else some (n, c :: r)

theorem dig_byte {c : UInt8} (h : isDig c = true) : c = dig (val c) ∧ val c < 10 := by
  simp only [isDig, Bool.and_eq_true, decide_eq_true_eq] at h
  refine ⟨?_, by unfold val; omega⟩
  apply UInt8.toNat_inj.1
  unfold dig val
  rw [UInt8.toNat_ofNat', Nat.mod_eq_of_lt (by omega)]
  omega
theorem dig_val {d : Nat} (h : d < 10) : isDig (dig d) = true ∧ val (dig d) = d := by
  have e : (dig d).toNat = 48 + d := by
    unfold dig
    rw [UInt8.toNat_ofNat', Nat.mod_eq_of_lt (by omega)]
  refine ⟨?_, by unfold val; omega⟩
  simp only [isDig, Bool.and_eq_true, decide_eq_true_eq]
  omega

theorem dec_snoc (n d : Nat) (h0 : n ≠ 0) (hd : d < 10) (hb : n * 10 + d < 10 ^ 20) : dec (n * 10 + d) = dec n ++ [dig d] := by
  rw [dec_big (by omega) hb]
  congr 2
  · omega
  · congr 1
    omega

/-- Sound, behind the first digit. -/
theorem scan_sound_more {most : Nat} (hm : most < 10 ^ 20) : ∀ (l : List UInt8) (n i m : Nat) (r : List UInt8), 0 < i → n ≤ most → scan most n i l = some (m, r) → dec n ++ l = dec m ++ r ∧ m ≤ most ∧ noDig r
  | [], n, i, m, r, hi, hn, h => by
    rw [scan, if_neg (by omega)] at h
    simp only [Option.some.injEq, Prod.mk.injEq] at h
    obtain ⟨rfl, rfl⟩ := h
    exact ⟨rfl, hn, fun c t e => by cases e⟩
  | c :: l, n, i, m, r, hi, hn, h => by
    rw [scan] at h
    by_cases hc : isDig c = true
    · rw [if_pos hc] at h
      obtain ⟨e1, e2⟩ := dig_byte hc
      by_cases hb : (0 < i ∧ n = 0) ∨ (most - val c) / 10 < n
      · rw [if_pos hb] at h
        cases h
      · rw [if_neg hb] at h
        have h0 : n ≠ 0 := fun e => hb (.inl ⟨hi, e⟩)
        have h1 : n ≤ (most - val c) / 10 := by omega
        have ih := scan_sound_more hm l _ _ m r (by omega) (by omega) h
        rw [dec_snoc n _ h0 e2 (by omega), ← e1] at ih
        exact ⟨by simpa using ih.1, ih.2⟩
    · rw [if_neg hc, if_neg (by omega)] at h
      simp only [Option.some.injEq, Prod.mk.injEq] at h
      obtain ⟨rfl, rfl⟩ := h
      exact ⟨rfl, hn, fun c' t e => by injection e with e1 e2; subst e1; simpa using hc⟩

theorem scan_sound {most : Nat} (h9 : 9 ≤ most) (hm : most < 10 ^ 20) {l r : List UInt8} {m : Nat} (h : scan most 0 0 l = some (m, r)) : l = dec m ++ r ∧ m ≤ most ∧ noDig r := by
  cases l with
  | nil => simp [scan] at h
  | cons c l =>
    rw [scan] at h
    by_cases hc : isDig c = true
    · rw [if_pos hc, if_neg (by omega)] at h
      obtain ⟨e1, e2⟩ := dig_byte hc
      have ih := scan_sound_more hm l _ _ m r (by omega) (by omega) h
      rw [Nat.zero_mul, Nat.zero_add, dec_small e2, ← e1] at ih
      exact ih
    · rw [if_neg hc, if_pos rfl] at h
      cases h

def fold (n : Nat) (l : List UInt8) : Nat := l.foldl (fun a c => a * 10 + val c) n
theorem fold_snoc (n : Nat) (l : List UInt8) (c : UInt8) : fold n (l ++ [c]) = fold n l * 10 + val c := by simp [fold]
theorem fold_le (l : List UInt8) : ∀ n, n ≤ fold n l := by
  induction l with
  | nil => intro n; exact Nat.le_refl _
  | cons c l ih =>
    intro n
    have := ih (n * 10 + val c)
    show n ≤ fold (n * 10 + val c) l
    omega

theorem dec_facts : ∀ (k n : Nat), n < 10 ^ (k + 1) → n < 10 ^ 20 → fold 0 (dec n) = n ∧ (∀ c ∈ dec n, isDig c = true) ∧ ∃ c t, dec n = c :: t ∧ (val c ≠ 0 ∨ t = [])
  | 0, n, h, _ => by
    have h' : n < 10 := by simpa using h
    rw [dec_small h']
    have hv := dig_val h'
    exact ⟨by simp [fold, hv.2], fun c hc => by rw [List.mem_singleton.1 hc]; exact hv.1, _, _, rfl, .inr rfl⟩
  | k + 1, n, h, hb => by
    by_cases h' : n < 10
    · rw [dec_small h']
      have hv := dig_val h'
      exact ⟨by simp [fold, hv.2], fun c hc => by rw [List.mem_singleton.1 hc]; exact hv.1, _, _, rfl, .inr rfl⟩
    · obtain ⟨i1, i2, c, t, i3, i4⟩ := dec_facts k (n / 10) (by rw [Nat.pow_succ] at h; omega) (by omega)
      rw [dec_big (by omega) hb]
      have hv := dig_val (Nat.mod_lt n (show 0 < 10 by omega))
      refine ⟨by rw [fold_snoc, i1, hv.2]; omega, fun x hx => ?_, c, t ++ [dig (n % 10)], by rw [i3]; rfl, .inl ?_⟩
      · rcases List.mem_append.1 hx with hx | hx
        · exact i2 x hx
        · rw [List.mem_singleton.1 hx]
          exact hv.1
      · rcases i4 with i4 | i4
        · exact i4
        · subst i4
          intro e0
          rw [i3] at i1
          simp [fold, e0] at i1
          omega

theorem scan_digits {most : Nat} (r : List UInt8) (hr : noDig r) : ∀ (x : List UInt8) (n i : Nat), 0 < i → (n ≠ 0 ∨ x = []) → (∀ c ∈ x, isDig c = true) → fold n x ≤ most → scan most n i (x ++ r) = some (fold n x, r)
  | [], n, i, hi, _, _, _ => by
    cases r with
    | nil => simp [scan, fold]; omega
    | cons c r =>
      show scan most n i (c :: r) = _
      rw [scan, if_neg (by rw [hr c r rfl]; simp), if_neg (by omega)]
      rfl
  | c :: x, n, i, hi, h0, hd, hf => by
    have hn : n ≠ 0 := by rcases h0 with h | h; exact h; cases h
    have hc := hd c (by simp)
    have hle := fold_le x (n * 10 + val c)
    have hf' : fold (n * 10 + val c) x ≤ most := hf
    show scan most n i (c :: (x ++ r)) = _
    rw [scan, if_pos hc, if_neg (by omega)]
    exact scan_digits r hr x _ _ (by omega) (.inl (by omega)) (fun y hy => hd y (by simp [hy])) hf'

theorem scan_dec {most n : Nat} (hn : n ≤ most) (hm : most < 10 ^ 20) {r : List UInt8} (hr : noDig r) : scan most 0 0 (dec n ++ r) = some (n, r) := by
  obtain ⟨i1, i2, c, t, i3, i4⟩ := dec_facts 19 n (by omega) (by omega)
  rw [i3] at i1 i2 ⊢
  have hc := i2 c (by simp)
  have i1' : fold (val c) t = n := by simpa [fold] using i1
  show scan most 0 0 (c :: (t ++ r)) = _
  rw [scan, if_pos hc, if_neg (by omega)]
  rw [Nat.zero_mul, Nat.zero_add, scan_digits r hr t (val c) 1 (by omega) i4 (fun y hy => i2 y (by simp [hy])) (by omega), i1']

theorem dec_inj {a b : Nat} (ha : a < 10 ^ 20) (hb : b < 10 ^ 20) (h : dec a = dec b) : a = b := by
  have h1 := (dec_facts 19 a (by omega) ha).1
  have h2 := (dec_facts 19 b (by omega) hb).1
  rw [h] at h1
  omega
/-- A number, and the byte e after it. -/
def num (e : UInt8) (l : List UInt8) : Option (Nat × List UInt8) :=
  match scan 9223372036854775807 0 0 l with
  | some (n, c :: r) => if c = e then some (n, r) else none
  | _ => none

theorem num_some {e : UInt8} {l r : List UInt8} {n : Nat} : num e l = some (n, r) ↔ scan 9223372036854775807 0 0 l = some (n, e :: r) := by
  unfold num
  constructor
  · intro h
    split at h
    · split at h
      · simp only [Option.some.injEq, Prod.mk.injEq] at h
        obtain ⟨rfl, rfl⟩ := h
        subst_vars
        assumption
      · cases h
    · cases h
  · intro h
    rw [h]
    simp

theorem num_none {e : UInt8} {l : List UInt8} (h : num e l = none) : scan 9223372036854775807 0 0 l = none ∨ (∃ n, scan 9223372036854775807 0 0 l = some (n, [])) ∨ ∃ n c r, scan 9223372036854775807 0 0 l = some (n, c :: r) ∧ c ≠ e := by
  unfold num at h
  split at h
  · rename_i n c r hs
    split at h
    · cases h
    · exact .inr (.inr ⟨n, c, r, hs, by assumption⟩)
  · rename_i hs
    cases hx : scan 9223372036854775807 0 0 l with
    | none => exact .inl rfl
    | some p =>
      obtain ⟨n, r⟩ := p
      cases r with
      | nil => exact .inr (.inl ⟨n, rfl⟩)
      | cons c r => exact absurd hx (hs n c r)

theorem num_dec {e : UInt8} (he : isDig e = false) {n : Nat} (hn : n ≤ 9223372036854775807) (r : List UInt8) : num e (dec n ++ e :: r) = some (n, r) :=
  num_some.2 (scan_dec hn (by omega) (fun c t h => by injection h with h1 h2; subst h1; exact he))

theorem num_sound {e : UInt8} {l r : List UInt8} {n : Nat} (h : num e l = some (n, r)) : l = dec n ++ e :: r ∧ n ≤ 9223372036854775807 := by
  have := scan_sound (by omega) (by omega) (num_some.1 h)
  exact ⟨this.1, this.2.1⟩

end Wire
end Go.Proofs.Ytionidjhfcmgiaa

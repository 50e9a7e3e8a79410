/- What a reader reads, as plain functions on lists of bytes; reading inverts writing. -/
import Derived.Test.YtpogoalbnbekaaaDoorWrA
namespace Go.Proofs.YtpogoalbnbekaaaDoor
open Go.RowKit Wire
open Txt (str Row bytes_append info_byte bytes_size)
set_option linter.unusedVariables false
set_option linter.unusedSimpArgs false
namespace Wr


def isDig (c : UInt8) : Bool := decide (48 ≤ c.toNat) && decide (c.toNat ≤ 57)
def val (c : UInt8) : Nat := c.toNat - 48
def noDig (r : List UInt8) : Prop := ∀ c t, r = c :: t → isDig c = false

/-- The digits at the beginning, of an integer that is at most 'most'; n: what i digits before have made. -/
def scan (most : Nat) : Nat → Nat → List UInt8 → Option (Nat × List UInt8)
  | n, i, [] => if i = 0 then none else some (n, [])
  | n, i, c :: r =>
    if isDig c = true then (if (0 < i ∧ n = 0) ∨ (most - val c) / 10 < n then none else scan most (n * 10 + val c) (i + 1) r)
    else if i = 0 then none else some (n, c :: r)

theorem dig_byte {c : UInt8} (h : isDig c = true) : c = dig (val c) ∧ val c < 10 := by
  simp only [isDig, Bool.and_eq_true, decide_eq_true_eq] at h
  refine ⟨?_, by unfold val; omega⟩
  apply UInt8.toNat_inj.1
  unfold dig val
  rw [UInt8.toNat_ofNat', Nat.mod_eq_of_lt (by omega)]
  omega
theorem dig_val {d : Nat} (h : d < 10) : isDig (dig d) = true ∧ val (dig d) = d := by
  have e : (dig d).toNat = 48 + d := by
    unfold dig
    rw [UInt8.toNat_ofNat', Nat.mod_eq_of_lt (by omega)]
  refine ⟨?_, by unfold val; omega⟩
  simp only [isDig, Bool.and_eq_true, decide_eq_true_eq]
  omega

theorem dec_snoc (n d : Nat) (h0 : n ≠ 0) (hd : d < 10) (hb : n * 10 + d < 10 ^ 20) : dec (n * 10 + d) = dec n ++ [dig d] := by
  rw [dec_big (by omega) hb]
  congr 2
  · omega
  · congr 1
    omega

/-- Sound, behind the first digit. -/
theorem scan_sound_more {most : Nat} (hm : most < 10 ^ 20) : ∀ (l : List UInt8) (n i m : Nat) (r : List UInt8), 0 < i → n ≤ most → scan most n i l = some (m, r) → dec n ++ l = dec m ++ r ∧ m ≤ most ∧ noDig r
  | [], n, i, m, r, hi, hn, h => by
    rw [scan, if_neg (by omega)] at h
    simp only [Option.some.injEq, Prod.mk.injEq] at h
    obtain ⟨rfl, rfl⟩ := h
    exact ⟨rfl, hn, fun c t e => by cases e⟩
  | c :: l, n, i, m, r, hi, hn, h => by
    rw [scan] at h
    by_cases hc : isDig c = true
    · rw [if_pos hc] at h
      obtain ⟨e1, e2⟩ := dig_byte hc
      by_cases hb : (0 < i ∧ n = 0) ∨ (most - val c) / 10 < n
      · rw [if_pos hb] at h
        cases h
      · rw [if_neg hb] at h
        have h0 : n ≠ 0 := fun e => hb (.inl ⟨hi, e⟩)
        have h1 : n ≤ (most - val c) / 10 := by omega
        have ih := scan_sound_more hm l _ _ m r (by omega) (by omega) h
        rw [dec_snoc n _ h0 e2 (by omega), ← e1] at ih
        exact ⟨by simpa using ih.1, ih.2⟩
    · rw [if_neg hc, if_neg (by omega)] at h
      simp only [Option.some.injEq, Prod.mk.injEq] at h
      obtain ⟨rfl, rfl⟩ := h
      exact ⟨rfl, hn, fun c' t e => by injection e with e1 e2; subst e1; simpa using hc⟩

theorem scan_sound {most : Nat} (h9 : 9 ≤ most) (hm : most < 10 ^ 20) {l r : List UInt8} {m : Nat} (h : scan most 0 0 l = some (m, r)) : l = dec m ++ r ∧ m ≤ most ∧ noDig r := by
  cases l with
  | nil => simp [scan] at h
  | cons c l =>
    rw [scan] at h
    by_cases hc : isDig c = true
    · rw [if_pos hc, if_neg (by omega)] at h
      obtain ⟨e1, e2⟩ := dig_byte hc
      have ih := scan_sound_more hm l _ _ m r (by omega) (by omega) h
      rw [Nat.zero_mul, Nat.zero_add, dec_small e2, ← e1] at ih
      exact ih
    · rw [if_neg hc, if_pos rfl] at h
      cases h

def fold (n : Nat) (l : List UInt8) : Nat := l.foldl (fun a c => a * 10 + val c) n
theorem fold_snoc (n : Nat) (l : List UInt8) (c : UInt8) : fold n (l ++ [c]) = fold n l * 10 + val c := by simp [fold]
theorem fold_le (l : List UInt8) : ∀ n, n ≤ fold n l := by
  induction l with
  | nil => intro n; exact Nat.le_refl _
  | cons c l ih =>
    intro n
    have := ih (n * 10 + val c)
    show n ≤ fold (n * 10 + val c) l
    omega

theorem dec_facts : ∀ (k n : Nat), n < 10 ^ (k + 1) → n < 10 ^ 20 → fold 0 (dec n) = n ∧ (∀ c ∈ dec n, isDig c = true) ∧ ∃ c t, dec n = c :: t ∧ (val c ≠ 0 ∨ t = [])
  | 0, n, h, _ => by
    have h' : n < 10 := by simpa using h
    rw [dec_small h']
    have hv := dig_val h'
    exact ⟨by simp [fold, hv.2], fun c hc => by rw [List.mem_singleton.1 hc]; exact hv.1, _, _, rfl, .inr rfl⟩
  | k + 1, n, h, hb => by
    by_cases h' : n < 10
    · rw [dec_small h']
      have hv := dig_val h'
      exact ⟨by simp [fold, hv.2], fun c hc => by rw [List.mem_singleton.1 hc]; exact hv.1, _, _, rfl, .inr rfl⟩
    · obtain ⟨i1, i2, c, t, i3, i4⟩ := dec_facts k (n / 10) (by rw [Nat.pow_succ] at h; omega) (by omega)
      rw [dec_big (by omega) hb]
      have hv := dig_val (Nat.mod_lt n (show 0 < 10 by omega))
      refine ⟨by rw [fold_snoc, i1, hv.2]; omega, fun x hx => ?_, c, t ++ [dig (n % 10)], by rw [i3]; rfl, .inl ?_⟩
      · rcases List.mem_append.1 hx with hx | hx
        · exact i2 x hx
        · rw [List.mem_singleton.1 hx]
          exact hv.1
      · rcases i4 with i4 | i4
        · exact i4
        · subst i4
          intro e0
          rw [i3] at i1
          simp [fold, e0] at i1
          omega

theorem scan_digits {most : Nat} (r : List UInt8) (hr : noDig r) : ∀ (x : List UInt8) (n i : Nat), 0 < i → (n ≠ 0 ∨ x = []) → (∀ c ∈ x, isDig c = true) → fold n x ≤ most → scan most n i (x ++ r) = some (fold n x, r)
  | [], n, i, hi, _, _, _ => by
    cases r with
    | nil => simp [scan, fold]; omega
    | cons c r =>
      show scan most n i (c :: r) = _
      rw [scan, if_neg (by rw [hr c r rfl]; simp), if_neg (by omega)]
      rfl
  | c :: x, n, i, hi, h0, hd, hf => by
    have hn : n ≠ 0 := by rcases h0 with h | h; exact h; cases h
    have hc := hd c (by simp)
    have hle := fold_le x (n * 10 + val c)
    have hf' : fold (n * 10 + val c) x ≤ most := hf
    show scan most n i (c :: (x ++ r)) = _
    rw [scan, if_pos hc, if_neg (by omega)]
    exact scan_digits r hr x _ _ (by omega) (.inl (by omega)) (fun y hy => hd y (by simp [hy])) hf'

theorem scan_dec {most n : Nat} (hn : n ≤ most) (hm : most < 10 ^ 20) {r : List UInt8} (hr : noDig r) : scan most 0 0 (dec n ++ r) = some (n, r) := by
  obtain ⟨i1, i2, c, t, i3, i4⟩ := dec_facts 19 n (by omega) (by omega)
  rw [i3] at i1 i2 ⊢
  have hc := i2 c (by simp)
  have i1' : fold (val c) t = n := by simpa [fold] using i1
  show scan most 0 0 (c :: (t ++ r)) = _
  rw [scan, if_pos hc, if_neg (by omega)]
  rw [Nat.zero_mul, Nat.zero_add, scan_digits r hr t (val c) 1 (by omega) i4 (fun y hy => i2 y (by simp [hy])) (by omega), i1']

theorem dec_inj {a b : Nat} (ha : a < 10 ^ 20) (hb : b < 10 ^ 20) (h : dec a = dec b) : a = b := by
  have h1 := (dec_facts 19 a (by omega) ha).1
  have h2 := (dec_facts 19 b (by omega) hb).1
  rw [h] at h1
  omega
/-- A number, and the byte e after it. -/
def num (e : UInt8) (l : List UInt8) : Option (Nat × List UInt8) :=
  match scan 9223372036854775807 0 0 l with
  | some (n, c :: r) => if c = e then some (n, r) else none
  | _ => none

theorem num_some {e : UInt8} {l r : List UInt8} {n : Nat} : num e l = some (n, r) ↔ scan 9223372036854775807 0 0 l = some (n, e :: r) := by
  unfold num
  constructor
  · intro h
    split at h
    · split at h
      · simp only [Option.some.injEq, Prod.mk.injEq] at h
        obtain ⟨rfl, rfl⟩ := h
        subst_vars
        assumption
      · cases h
    · cases h
  · intro h
    rw [h]
    simp

theorem num_none {e : UInt8} {l : List UInt8} (h : num e l = none) : scan 9223372036854775807 0 0 l = none ∨ (∃ n, scan 9223372036854775807 0 0 l = some (n, [])) ∨ ∃ n c r, scan 9223372036854775807 0 0 l = some (n, c :: r) ∧ c ≠ e := by
  unfold num at h
  split at h
  · rename_i n c r hs
    split at h
    · cases h
    · exact .inr (.inr ⟨n, c, r, hs, by assumption⟩)
  · rename_i hs
    cases hx : scan 9223372036854775807 0 0 l with
    | none => exact .inl rfl
    | some p =>
      obtain ⟨n, r⟩ := p
      cases r with
      | nil => exact .inr (.inl ⟨n, rfl⟩)
      | cons c r => exact absurd hx (hs n c r)

theorem num_dec {e : UInt8} (he : isDig e = false) {n : Nat} (hn : n ≤ 9223372036854775807) (r : List UInt8) : num e (dec n ++ e :: r) = some (n, r) :=
  num_some.2 (scan_dec hn (by omega) (fun c t h => by injection h with h1 h2; subst h1; exact he))

theorem num_sound {e : UInt8} {l r : List UInt8} {n : Nat} (h : num e l = some (n, r)) : l = dec n ++ e :: r ∧ n ≤ 9223372036854775807 := by
  have := scan_sound (by omega) (by omega) (num_some.1 h)
  exact ⟨this.1, this.2.1⟩

/-- What stands behind a minus: a number that is not 0, and a semicolon. -/
def neg (l : List UInt8) : Option (Nat × List UInt8) :=
  match scan 9223372036854775808 0 0 l with
  | some (n, c :: r) => if n ≠ 0 ∧ c = 59 then some (n, r) else none
  | _ => none

theorem neg_some {l r : List UInt8} {n : Nat} : neg l = some (n, r) ↔ scan 9223372036854775808 0 0 l = some (n, 59 :: r) ∧ n ≠ 0 := by
  unfold neg
  constructor
  · intro h
    split at h
    · split at h
      · rename_i h1 h2
        simp only [Option.some.injEq, Prod.mk.injEq] at h
        obtain ⟨rfl, rfl⟩ := h
        obtain ⟨h3, rfl⟩ := h2
        exact ⟨h1, h3⟩
      · cases h
    · cases h
  · rintro ⟨h, h0⟩
    rw [h]
    simp [h0]

theorem neg_none {l : List UInt8} (h : neg l = none) : scan 9223372036854775808 0 0 l = none ∨ (∃ r, scan 9223372036854775808 0 0 l = some (0, r)) ∨ (∃ n, n ≠ 0 ∧ scan 9223372036854775808 0 0 l = some (n, [])) ∨ ∃ n c r, n ≠ 0 ∧ scan 9223372036854775808 0 0 l = some (n, c :: r) ∧ c ≠ 59 := by
  unfold neg at h
  cases hx : scan 9223372036854775808 0 0 l with
  | none => exact .inl rfl
  | some p =>
    obtain ⟨n, r⟩ := p
    by_cases h0 : n = 0
    · subst h0
      exact .inr (.inl ⟨r, rfl⟩)
    · cases r with
      | nil => exact .inr (.inr (.inl ⟨n, h0, rfl⟩))
      | cons c r =>
        rw [hx] at h
        by_cases hc : c = 59
        · subst hc
          simp [h0] at h
        · exact .inr (.inr (.inr ⟨n, c, r, h0, rfl, hc⟩))

theorem neg_sound {l r : List UInt8} {n : Nat} (h : neg l = some (n, r)) : l = dec n ++ 59 :: r ∧ 1 ≤ n ∧ n ≤ 9223372036854775808 := by
  obtain ⟨h1, h2⟩ := neg_some.1 h
  have := scan_sound (by omega) (by omega) h1
  exact ⟨this.1, by omega, this.2.1⟩

theorem neg_dec {n : Nat} (h1 : 1 ≤ n) (hn : n ≤ 9223372036854775808) (r : List UInt8) : neg (dec n ++ 59 :: r) = some (n, r) :=
  neg_some.2 ⟨scan_dec hn (by omega) (fun c t h => by injection h with h1 h2; subst h1; decide), by omega⟩

/-- An int. -/
def int : List UInt8 → Option (Int × List UInt8)
  | [] => none
  | c :: r => if c = 45 then (neg r).map fun p => (-(p.1 : Int), p.2) else (num 59 (c :: r)).map fun p => ((p.1 : Int), p.2)

theorem int_cons (c : UInt8) (r : List UInt8) : int (c :: r) = if c = 45 then (neg r).map fun p => (-(p.1 : Int), p.2) else (num 59 (c :: r)).map fun p => ((p.1 : Int), p.2) := rfl

/-- A string. -/
def text (l : List UInt8) : Option (List UInt8 × List UInt8) :=
  match num 58 l with
  | some (n, r) => (match r.drop n with | c :: r' => if c = 44 then some (r.take n, r') else none | [] => none)
  | none => none

theorem text_some {l t r' : List UInt8} (h : text l = some (t, r')) : ∃ n r, num 58 l = some (n, r) ∧ n ≤ r.length ∧ r.drop n = 44 :: r' ∧ t = r.take n := by
  unfold text at h
  split at h
  · rename_i n r hn
    split at h
    · rename_i c r'' hd
      split at h
      · rename_i hc
        subst hc
        simp only [Option.some.injEq, Prod.mk.injEq] at h
        obtain ⟨rfl, rfl⟩ := h
        refine ⟨n, r, hn, ?_, hd, rfl⟩
        rcases Nat.lt_or_ge r.length n with hlt | hge
        · rw [List.drop_eq_nil_of_le (by omega)] at hd
          cases hd
        · exact hge
      · cases h
    · cases h
  · cases h

theorem text_none {l : List UInt8} (h : text l = none) : num 58 l = none ∨ ∃ n r, num 58 l = some (n, r) ∧ (r.length < n ∨ (n ≤ r.length ∧ (r.drop n = [] ∨ ∃ c r', r.drop n = c :: r' ∧ c ≠ 44))) := by
  unfold text at h
  cases hx : num 58 l with
  | none => exact .inl rfl
  | some p =>
    obtain ⟨n, r⟩ := p
    refine .inr ⟨n, r, rfl, ?_⟩
    rw [hx] at h
    rcases Nat.lt_or_ge r.length n with hlt | hge
    · exact .inl hlt
    · refine .inr ⟨hge, ?_⟩
      cases hd : r.drop n with
      | nil => exact .inl rfl
      | cons c r' =>
        refine .inr ⟨c, r', rfl, fun hc => ?_⟩
        subst hc
        simp [hd] at h

theorem text_sound {l t r : List UInt8} (h : text l = some (t, r)) : l = dec t.length ++ (58 :: (t ++ (44 :: r))) := by
  obtain ⟨n, r0, h1, h2, h3, rfl⟩ := text_some h
  obtain ⟨h4, _⟩ := num_sound h1
  have h5 : r0 = r0.take n ++ (44 :: r) := by rw [← h3, List.take_append_drop]
  rw [List.length_take, Nat.min_eq_left h2, h4, ← h5]

theorem text_enc {t : List UInt8} (ht : t.length ≤ 9223372036854775807) (r : List UInt8) : text (dec t.length ++ (58 :: (t ++ (44 :: r)))) = some (t, r) := by
  unfold text
  rw [num_dec (by decide) ht]
  simp

theorem int_pos_enc {n : Nat} (hn : n ≤ 9223372036854775807) (r : List UInt8) : int (dec n ++ 59 :: r) = some ((n : Int), r) := by
  obtain ⟨i1, i2, c, t, i3, i4⟩ := dec_facts 19 n (by omega) (by omega)
  have hc : c ≠ 45 := by
    have := i2 c (by rw [i3]; simp)
    rintro rfl
    revert this
    decide
  have h := num_dec (e := 59) (by decide) hn r
  rw [i3] at h ⊢
  show int (c :: (t ++ 59 :: r)) = _
  rw [int_cons, if_neg hc]
  rw [show c :: (t ++ 59 :: r) = c :: t ++ 59 :: r from rfl, h]
  rfl

theorem int_neg_enc {n : Nat} (h1 : 1 ≤ n) (hn : n ≤ 9223372036854775808) (r : List UInt8) : int (45 :: (dec n ++ 59 :: r)) = some (-(n : Int), r) := by
  rw [int_cons, if_pos rfl, neg_dec h1 hn]
  rfl

theorem int_sound {l r : List UInt8} {z : Int} (h : int l = some (z, r)) : (0 ≤ z ∧ z ≤ 9223372036854775807 ∧ l = dec z.toNat ++ 59 :: r) ∨ (z < 0 ∧ -9223372036854775808 ≤ z ∧ l = 45 :: (dec (-z).toNat ++ 59 :: r)) := by
  cases l with
  | nil => cases h
  | cons c l =>
    rw [int_cons] at h
    by_cases hc : c = 45
    · subst hc
      rw [if_pos rfl] at h
      obtain ⟨⟨n, r'⟩, h1, h2⟩ := Option.map_eq_some_iff.1 h
      simp only [Prod.mk.injEq] at h2
      obtain ⟨rfl, rfl⟩ := h2
      obtain ⟨h3, h4, h5⟩ := neg_sound h1
      exact .inr ⟨by omega, by omega, by rw [Int.neg_neg, Int.toNat_natCast, ← h3]⟩
    · rw [if_neg hc] at h
      obtain ⟨⟨n, r'⟩, h1, h2⟩ := Option.map_eq_some_iff.1 h
      simp only [Prod.mk.injEq] at h2
      obtain ⟨rfl, rfl⟩ := h2
      obtain ⟨h3, h4⟩ := num_sound h1
      exact .inl ⟨by omega, by omega, by rw [Int.toNat_natCast, ← h3]⟩

/-- n elements. -/
def rep {α : Type} (p : List UInt8 → Option (α × List UInt8)) : Nat → List UInt8 → Option (List α × List UInt8)
  | 0, r => some ([], r)
  | n + 1, r => match p r with
    | some (x, r') => (rep p n r').map fun q => (x :: q.1, q.2)
    | none => none

/-- A list. -/
def list {α : Type} (p : List UInt8 → Option (α × List UInt8)) (l : List UInt8) : Option (List α × List UInt8) :=
  match num 91 l with
  | some (n, r) => (match rep p n r with | some (xs, c :: r') => if c = 93 then some (xs, r') else none | _ => none)
  | none => none



theorem int_enc {z : Int} (h1 : -9223372036854775808 ≤ z) (h2 : z ≤ 9223372036854775807) (r : List UInt8) : int (encInt z ++ r) = some (z, r) := by
  unfold encInt
  by_cases h : 0 ≤ z
  · obtain ⟨n, rfl⟩ := Int.eq_ofNat_of_zero_le h
    rw [if_pos h, Int.toNat_natCast, List.append_assoc]
    exact int_pos_enc (by omega) r
  · obtain ⟨n, hn⟩ := Int.eq_ofNat_of_zero_le (show 0 ≤ -z by omega)
    obtain rfl : z = -(n : Int) := by omega
    rw [if_neg h, Int.neg_neg, Int.toNat_natCast]
    have := int_neg_enc (n := n) (by omega) (by omega) r
    simpa using this

theorem int_read {l r : List UInt8} {z : Int} (h : int l = some (z, r)) : -9223372036854775808 ≤ z ∧ z ≤ 9223372036854775807 ∧ l = encInt z ++ r := by
  unfold encInt
  rcases int_sound h with ⟨h1, h2, h3⟩ | ⟨h1, h2, h3⟩
  · rw [if_pos h1, h3]
    exact ⟨by omega, h2, by simp⟩
  · rw [if_neg (by omega), h3]
    exact ⟨h2, by omega, by simp⟩

theorem size_bytes (s : ByteArray) : s.data.toList.length = s.size := by rw [Array.length_toList]; rfl

theorem text_back {s : ByteArray} (hs : s.size ≤ 9223372036854775807) (r : List UInt8) : text (encText s ++ r) = some (s.data.toList, r) := by
  unfold encText
  have h := text_enc (t := s.data.toList) (by rw [size_bytes]; exact hs) r
  rw [size_bytes] at h
  simpa using h

theorem rep_ints : ∀ (zs : List Int) (r : List UInt8), (∀ z ∈ zs, -9223372036854775808 ≤ z ∧ z ≤ 9223372036854775807) → rep int zs.length (zs.flatMap encInt ++ r) = some (zs, r)
  | [], r, _ => rfl
  | z :: zs, r, h => by
    have hz := h z (by simp)
    rw [List.length_cons, rep, List.flatMap_cons, List.append_assoc, int_enc hz.1 hz.2]
    simp only [rep_ints zs r (fun y hy => h y (by simp [hy]))]
    rfl

theorem rep_texts : ∀ (ss : List ByteArray) (r : List UInt8), (∀ s ∈ ss, s.size ≤ 9223372036854775807) → rep text ss.length (ss.flatMap encText ++ r) = some (ss.map (·.data.toList), r)
  | [], r, _ => rfl
  | s :: ss, r, h => by
    rw [List.length_cons, rep, List.flatMap_cons, List.append_assoc, text_back (h s (by simp))]
    simp only [rep_texts ss r (fun y hy => h y (by simp [hy]))]
    rfl

theorem list_enc {α β : Type} {p : List UInt8 → Option (β × List UInt8)} {enc : α → List UInt8} {xs : List α} {ys : List β} (hn : xs.length ≤ 9223372036854775807) (r : List UInt8) (h : rep p xs.length (xs.flatMap enc ++ (93 :: r)) = some (ys, 93 :: r)) :
    list p (encList enc xs ++ r) = some (ys, r) := by
  unfold list encList
  have e : dec xs.length ++ (91 :: (xs.flatMap enc ++ [93])) ++ r = dec xs.length ++ (91 :: (xs.flatMap enc ++ (93 :: r))) := by simp
  rw [e, num_dec (by decide) hn]
  simp [h]

theorem list_ints {zs : List Int} (hn : zs.length ≤ 9223372036854775807) (hz : ∀ z ∈ zs, -9223372036854775808 ≤ z ∧ z ≤ 9223372036854775807) (r : List UInt8) : list int (encList encInt zs ++ r) = some (zs, r) :=
  list_enc hn r (rep_ints zs _ hz)
theorem list_texts {ss : List ByteArray} (hn : ss.length ≤ 9223372036854775807) (hz : ∀ s ∈ ss, s.size ≤ 9223372036854775807) (r : List UInt8) : list text (encList encText ss ++ r) = some (ss.map (·.data.toList), r) :=
  list_enc hn r (rep_texts ss _ hz)

/-- What is read has its encoding. -/
theorem rep_read {α : Type} {p : List UInt8 → Option (α × List UInt8)} {enc : α → List UInt8} (hp : ∀ l x r, p l = some (x, r) → l = enc x ++ r) : ∀ (n : Nat) (l : List UInt8) (xs : List α) (r : List UInt8), rep p n l = some (xs, r) → l = xs.flatMap enc ++ r ∧ xs.length = n
  | 0, l, xs, r, h => by
    simp only [rep, Option.some.injEq, Prod.mk.injEq] at h
    obtain ⟨rfl, rfl⟩ := h
    exact ⟨rfl, rfl⟩
  | n + 1, l, xs, r, h => by
    rw [rep] at h
    split at h
    · rename_i x r' hx
      obtain ⟨⟨ys, r2⟩, h1, h2⟩ := Option.map_eq_some_iff.1 h
      simp only [Prod.mk.injEq] at h2
      obtain ⟨rfl, rfl⟩ := h2
      obtain ⟨h3, h4⟩ := rep_read hp n r' ys r2 h1
      exact ⟨by rw [hp l x r' hx, h3, List.flatMap_cons, List.append_assoc], by simp [h4]⟩
    · cases h

theorem list_read {α : Type} {p : List UInt8 → Option (α × List UInt8)} {enc : α → List UInt8} (hp : ∀ l x r, p l = some (x, r) → l = enc x ++ r) {l r : List UInt8} {xs : List α} (h : list p l = some (xs, r)) : l = encList enc xs ++ r := by
  unfold list at h
  split at h
  · rename_i n r0 hn
    split at h
    · rename_i ys c r1 hr
      split at h
      · rename_i hc
        subst hc
        simp only [Option.some.injEq, Prod.mk.injEq] at h
        obtain ⟨rfl, rfl⟩ := h
        obtain ⟨h1, h2⟩ := rep_read hp n r0 ys _ hr
        rw [(num_sound hn).1, h1, ← h2]
        unfold encList
        simp
      · cases h
    · cases h
  · cases h

end Wr
end Go.Proofs.YtpogoalbnbekaaaDoor

/- Patterns as plain functions on bytes; nothing of the program is imported. -/
import Derived.WalkKit
namespace Go.Proofs.Ytpmmbbaigfjhnaa
namespace Txt

/-- A part of a pattern: its kind (0 itself, 1 escaped, 2 any string, 3 any byte, 4 one of, 5 none of), its source, its set. -/
structure Pt where
  kind : Nat
  src : List UInt8
  set : List UInt8

/-- The place of the first 93 from place k on. -/
def close : Nat → List UInt8 → Option Nat
  | 0, [] => none
  | 0, c :: r => if c = 93 then some 0 else (close 0 r).map (· + 1)
  | _ + 1, [] => none
  | k + 1, _ :: r => (close k r).map (· + 1)

/-- The class that begins with a [ before r. -/
def clsOf (r : List UInt8) : Option Pt :=
  match (if r.head? = some 33 then close 2 r else none) with
  | some e => some ⟨5, 91 :: r.take (e + 1), (r.take e).drop 1⟩
  | none => match close 1 r with
    | some e => some ⟨4, 91 :: r.take (e + 1), r.take e⟩
    | none => none

/-- The part at the head of c :: r. -/
def part (c : UInt8) (r : List UInt8) : Pt :=
  if c = 92 then (match r with | d :: _ => ⟨1, [c, d], []⟩ | [] => ⟨0, [c], []⟩)
  else if c = 42 then ⟨2, [c], []⟩
  else if c = 63 then ⟨3, [c], []⟩
  else if c = 91 then (match clsOf r with | some q => q | none => ⟨0, [c], []⟩)
  else ⟨0, [c], []⟩

def parseF : Nat → List UInt8 → List Pt
  | 0, _ => []
  | _ + 1, [] => []
  | k + 1, c :: r => part c r :: parseF k ((c :: r).drop (part c r).src.length)

/-- The parts of a pattern. -/
def parse (l : List UInt8) : List Pt := parseF l.length l

/-- Whether a set has a byte. -/
def inS : List UInt8 → UInt8 → Bool
  | [], _ => false
  | [a], c => a == c
  | [a, b], c => a == c || b == c
  | a :: d :: b :: r, c => if d = 45 then (decide (a ≤ c) && decide (c ≤ b)) || inS r c else a == c || inS (d :: b :: r) c

/-- Whether a part that is no star matches a byte. -/
def fit (q : Pt) (c : UInt8) : Bool :=
  if q.kind = 3 then true
  else if q.kind = 4 then inS q.set c
  else if q.kind = 5 then !inS q.set c
  else q.src.getLast? == some c

/-- Whether a part matches a beginning of which the rest satisfies f. -/
def mtq (q : Pt) (f : List UInt8 → Bool) (s : List UInt8) : Bool :=
  if q.kind = 2 then (List.range (s.length + 1)).any fun k => f (s.drop k)
  else match s with
    | [] => false
    | c :: r => fit q c && f r

def mt : List Pt → List UInt8 → Bool
  | [], s => s.isEmpty
  | q :: ps, s => mtq q (mt ps) s

theorem close_lt : ∀ {k : Nat} {l : List UInt8} {e : Nat}, close k l = some e → k ≤ e ∧ e < l.length
  | 0, [], e, h => by simp [close] at h
  | 0, c :: r, e, h => by
    unfold close at h
    split at h
    · obtain rfl : 0 = e := by simpa using h
      simp
    · cases hc : close 0 r with
      | none => simp [hc] at h
      | some x =>
        rw [hc] at h
        have := close_lt hc
        simp at h
        subst h
        simp
        omega
  | k + 1, [], e, h => by simp [close] at h
  | k + 1, c :: r, e, h => by
    unfold close at h
    cases hc : close k r with
    | none => simp [hc] at h
    | some x =>
      rw [hc] at h
      have := close_lt hc
      simp at h
      subst h
      simp
      omega

theorem close_none : ∀ {k : Nat} {l : List UInt8}, close k l = none ↔ ∀ c ∈ l.drop k, c ≠ 93
  | 0, [] => by simp [close]
  | 0, c :: r => by
    unfold close
    split
    · rename_i h
      simp [h]
    · rename_i h
      simp only [Option.map_eq_none_iff, close_none, List.drop_zero, List.forall_mem_cons]
      simp [h]
  | k + 1, [] => by simp [close]
  | k + 1, c :: r => by
    unfold close
    simp only [Option.map_eq_none_iff, close_none, List.drop_succ_cons]

theorem close_some : ∀ {k : Nat} {l : List UInt8} {e : Nat}, close k l = some e ↔ k ≤ e ∧ l[e]? = some 93 ∧ ∀ j, k ≤ j → j < e → l[j]? ≠ some 93
  | 0, [], e => by simp [close]
  | 0, c :: r, e => by
    unfold close
    split
    · rename_i h
      constructor
      · intro h2
        obtain rfl : 0 = e := by simpa using h2
        simp [h]
      · rintro ⟨_, h2, h3⟩
        cases e with
        | zero => rfl
        | succ e => exact absurd (by simp [h]) (h3 0 (Nat.le_refl _) (by omega))
    · rename_i h
      cases e with
      | zero => simp [h]
      | succ e =>
        simp only [Option.map_eq_some_iff, Nat.add_right_cancel_iff, exists_eq_right, close_some, List.getElem?_cons_succ, Nat.zero_le, true_and]
        constructor
        · rintro ⟨h1, h2⟩
          refine ⟨h1, fun j _ hj => ?_⟩
          cases j with
          | zero => simp [h]
          | succ j => simpa using h2 j (by simp) (by omega)
        · rintro ⟨h1, h2⟩
          exact ⟨h1, fun j _ hj => by simpa using h2 (j + 1) (by simp) (by omega)⟩
  | k + 1, [], e => by simp [close]
  | k + 1, c :: r, e => by
    unfold close
    cases e with
    | zero => simp
    | succ e =>
      simp only [Option.map_eq_some_iff, Nat.add_right_cancel_iff, exists_eq_right, close_some, List.getElem?_cons_succ]
      constructor
      · rintro ⟨h0, h1, h2⟩
        refine ⟨by omega, h1, fun j hj1 hj => ?_⟩
        cases j with
        | zero => omega
        | succ j => simpa using h2 j (by omega) (by omega)
      · rintro ⟨h0, h1, h2⟩
        exact ⟨by omega, h1, fun j hj1 hj => by simpa using h2 (j + 1) (by omega) (by omega)⟩

theorem clsOf_shape {r : List UInt8} {q : Pt} (h : clsOf r = some q) : (q.kind = 4 ∨ q.kind = 5) ∧ 1 ≤ q.src.length ∧ q.src.length ≤ r.length + 1 := by
  unfold clsOf at h
  split at h
  · rename_i e he
    obtain rfl := Option.some.inj h
    simp
    omega
  · split at h
    · rename_i e he
      obtain rfl := Option.some.inj h
      simp
      omega
    · cases h

theorem part_shape (c : UInt8) (r : List UInt8) : 1 ≤ (part c r).src.length ∧ (part c r).src.length ≤ r.length + 1 ∧ (part c r).kind ≤ 5 := by
  unfold part
  split
  · cases r <;> simp
  · split
    · simp
    · split
      · simp
      · split
        · split
          · rename_i q hq
            have := clsOf_shape hq
            omega
          · simp
        · simp

/-- A part that is not one of the classes has one byte to match: the last of its source. -/
theorem parseF_more : ∀ (k : Nat) (l : List UInt8), l.length ≤ k → parseF k l = parseF l.length l
  | 0, l, h => by
    have : l = [] := List.eq_nil_of_length_eq_zero (by omega)
    subst this
    rfl
  | k + 1, [], _ => rfl
  | k + 1, c :: r, h => by
    have hs := part_shape c r
    simp only [List.length_cons] at h
    have hd : ((c :: r).drop (part c r).src.length).length ≤ r.length := by
      rw [List.length_drop, List.length_cons]
      omega
    show _ :: _ = _ :: _
    congr 1
    rw [parseF_more k _ (by omega), parseF_more r.length _ hd]

theorem parse_nil : parse [] = [] := rfl
theorem parse_cons (c : UInt8) (r : List UInt8) : parse (c :: r) = part c r :: parse ((c :: r).drop (part c r).src.length) := by
  have hs := part_shape c r
  have hd : ((c :: r).drop (part c r).src.length).length ≤ r.length := by
    rw [List.length_drop, List.length_cons]
    omega
  unfold parse
  show _ :: _ = _ :: _
  congr 1
  exact parseF_more r.length _ hd

theorem parse_one {c : UInt8} {r : List UInt8} {q : Pt} (h : part c r = q) (hl : q.src.length = 1) : parse (c :: r) = q :: parse r := by
  rw [parse_cons, h, hl]
  rfl

theorem mt_star {q : Pt} (h : q.kind = 2) (ps : List Pt) (s : List UInt8) : mt (q :: ps) s = true ↔ ∃ k, k ≤ s.length ∧ mt ps (s.drop k) = true := by
  show mtq q (mt ps) s = true ↔ _
  unfold mtq
  rw [if_pos h, List.any_eq_true]
  constructor
  · rintro ⟨k, hk, h1⟩
    exact ⟨k, by simp at hk; omega, h1⟩
  · rintro ⟨k, hk, h1⟩
    exact ⟨k, by simp; omega, h1⟩

theorem mt_one {q : Pt} (h : q.kind ≠ 2) (ps : List Pt) (c : UInt8) (r : List UInt8) : mt (q :: ps) (c :: r) = (fit q c && mt ps r) := by
  show mtq q (mt ps) (c :: r) = _
  unfold mtq
  rw [if_neg h]
theorem mt_end {q : Pt} (h : q.kind ≠ 2) (ps : List Pt) : mt (q :: ps) [] = false := by
  show mtq q (mt ps) [] = _
  unfold mtq
  rw [if_neg h]

/-- Parts one after the other match strings one after the other. -/
theorem mt_append (qs : List Pt) : ∀ (ps : List Pt) (s : List UInt8), mt (ps ++ qs) s = true ↔ ∃ k, k ≤ s.length ∧ mt ps (s.take k) = true ∧ mt qs (s.drop k) = true
  | [], s => by
    constructor
    · intro h
      exact ⟨0, Nat.zero_le _, by simp [mt], by simpa using h⟩
    · rintro ⟨k, hk, h1, h2⟩
      have h3 : s.take k = [] := by simpa [mt] using h1
      have hk0 : k = 0 ∨ s = [] := by simpa using h3
      rcases hk0 with rfl | rfl
      · simpa using h2
      · simpa using h2
  | q :: ps, s => by
    by_cases hq : q.kind = 2
    · rw [List.cons_append, mt_star hq]
      constructor
      · rintro ⟨k, hk, h⟩
        obtain ⟨j, hj, h1, h2⟩ := (mt_append qs ps (s.drop k)).1 h
        rw [List.length_drop] at hj
        refine ⟨k + j, by omega, (mt_star hq _ _).2 ⟨k, by rw [List.length_take]; omega, ?_⟩, by rwa [List.drop_drop] at h2⟩
        rw [List.drop_take]
        rwa [show k + j - k = j from by omega]
      · rintro ⟨k, hk, h1, h2⟩
        obtain ⟨j, hj, h3⟩ := (mt_star hq _ _).1 h1
        rw [List.length_take] at hj
        refine ⟨j, by omega, (mt_append qs ps (s.drop j)).2 ⟨k - j, by rw [List.length_drop]; omega, ?_, ?_⟩⟩
        · rwa [List.drop_take] at h3
        · rw [List.drop_drop, show j + (k - j) = k from by omega]
          exact h2
    · cases s with
      | nil =>
        rw [List.cons_append, mt_end hq]
        constructor
        · intro h
          cases h
        · rintro ⟨k, hk, h1, h2⟩
          simp only [List.take_nil, mt_end hq] at h1
          cases h1
      | cons c r =>
        rw [List.cons_append, mt_one hq, Bool.and_eq_true, mt_append qs ps r]
        constructor
        · rintro ⟨h0, k, hk, h1, h2⟩
          exact ⟨k + 1, by simp; omega, by rw [List.take_succ_cons, mt_one hq, h0, h1]; rfl, by simpa using h2⟩
        · rintro ⟨k, hk, h1, h2⟩
          cases k with
          | zero =>
            rw [List.take_zero, mt_end hq] at h1
            cases h1
          | succ k =>
            rw [List.take_succ_cons, mt_one hq, Bool.and_eq_true] at h1
            exact ⟨h1.1, k, by simp at hk; omega, h1.2, by simpa using h2⟩

/-- Escaping. -/
def escB (c : UInt8) : List UInt8 := if c = 42 ∨ c = 63 ∨ c = 91 ∨ c = 92 then [92, c] else [c]
def esc (s : List UInt8) : List UInt8 := s.flatMap escB
def plainPt (q : Pt) : List UInt8 := if q.kind = 1 then q.src.drop 1 else q.src
def plain (p : List UInt8) : List UInt8 := (parse p).flatMap plainPt
def magic (p : List UInt8) : Bool := (parse p).any fun q => !(q.kind == 0) && !(q.kind == 1)

/-- An escaped byte before a pattern. -/
theorem parse_escB (c : UInt8) (p : List UInt8) : ∃ q, parse (escB c ++ p) = q :: parse p ∧ (q.kind = 0 ∨ q.kind = 1) ∧ plainPt q = [c] ∧ ∀ b, fit q b = (c == b) := by
  unfold escB
  split
  · refine ⟨⟨1, [92, c], []⟩, ?_, .inr rfl, rfl, fun b => by simp [fit]⟩
    show parse (92 :: c :: p) = _
    rw [parse_cons, show part 92 (c :: p) = ⟨1, [92, c], []⟩ from rfl]
    rfl
  · rename_i h
    have hp : part c p = ⟨0, [c], []⟩ := by
      unfold part
      rw [if_neg (by intro e; exact h (.inr (.inr (.inr e)))), if_neg (by intro e; exact h (.inl e)), if_neg (by intro e; exact h (.inr (.inl e))), if_neg (by intro e; exact h (.inr (.inr (.inl e))))]
    exact ⟨⟨0, [c], []⟩, parse_one hp rfl, .inl rfl, rfl, fun b => by simp [fit]⟩

theorem esc_mt (t p s : List UInt8) : mt (parse (esc t ++ p)) (t ++ s) = mt (parse p) s := by
  induction t with
  | nil => rfl
  | cons c t ih =>
    obtain ⟨q, h1, h2, _, h3⟩ := parse_escB c (esc t ++ p)
    have e : esc (c :: t) ++ p = escB c ++ (esc t ++ p) := by simp [esc]
    rw [e, h1, List.cons_append, mt_one (by omega), h3, ih]
    simp

theorem esc_plain (t : List UInt8) : plain (esc t) = t := by
  induction t with
  | nil => rfl
  | cons c t ih =>
    obtain ⟨q, h1, h2, h3, _⟩ := parse_escB c (esc t)
    have e : esc (c :: t) = escB c ++ esc t := by simp [esc]
    unfold plain
    rw [e, h1, List.flatMap_cons, h3]
    show c :: plain (esc t) = _
    rw [ih]

theorem esc_magic (t : List UInt8) : magic (esc t) = false := by
  induction t with
  | nil => rfl
  | cons c t ih =>
    obtain ⟨q, h1, h2, h3, _⟩ := parse_escB c (esc t)
    have e : esc (c :: t) = escB c ++ esc t := by simp [esc]
    unfold magic
    rw [e, h1, List.any_cons]
    have : (!(q.kind == 0) && !(q.kind == 1)) = false := by rcases h2 with h | h <;> simp [h]
    rw [this]
    exact ih

theorem esc_self (t : List UInt8) : mt (parse (esc t)) t = true := by
  have h := esc_mt t [] []
  rw [List.append_nil, List.append_nil] at h
  rw [h]
  rfl

/-- What the parts of a pattern look like. -/
theorem part_lit (c : UInt8) (r : List UInt8) (h : (part c r).kind = 0 ∨ (part c r).kind = 1) : ∃ b, plainPt (part c r) = [b] ∧ ∀ x, fit (part c r) x = (b == x) := by
  unfold part at h ⊢
  split
  · cases r with
    | nil => exact ⟨c, rfl, fun x => by simp [fit]⟩
    | cons d r => exact ⟨d, rfl, fun x => by simp [fit]⟩
  · rename_i h92
    rw [if_neg h92] at h
    split
    · rename_i h42
      rw [if_pos h42] at h
      simp at h
    · rename_i h42
      rw [if_neg h42] at h
      split
      · rename_i h63
        rw [if_pos h63] at h
        simp at h
      · rename_i h63
        rw [if_neg h63] at h
        split
        · rename_i h91
          rw [if_pos h91] at h
          split
          · rename_i q hq
            rw [hq] at h
            have := clsOf_shape hq
            simp only at h
            omega
          · exact ⟨c, rfl, fun x => by simp [fit]⟩
        · exact ⟨c, rfl, fun x => by simp [fit]⟩

theorem plain_mt : ∀ (k : Nat) (p : List UInt8), p.length ≤ k → magic p = false → ∀ s, mt (parse p) s = (s == plain p)
  | _, [], _, _, s => by
    show s.isEmpty = _
    cases s <;> rfl
  | 0, c :: r, h, _, _ => by simp at h
  | k + 1, c :: r, h, hm, s => by
    have hs := part_shape c r
    unfold magic at hm
    rw [parse_cons, List.any_cons, Bool.or_eq_false_iff] at hm
    have hk : (part c r).kind = 0 ∨ (part c r).kind = 1 := by
      have := hm.1
      by_cases h0 : (part c r).kind = 0
      · exact .inl h0
      · by_cases h1 : (part c r).kind = 1
        · exact .inr h1
        · simp [h0, h1] at this
    obtain ⟨b, h1, h2⟩ := part_lit c r hk
    have ih := plain_mt k ((c :: r).drop (part c r).src.length) (by rw [List.length_drop, List.length_cons]; simp at h; omega) hm.2
    have hp : plain (c :: r) = b :: plain ((c :: r).drop (part c r).src.length) := by
      unfold plain
      rw [parse_cons, List.flatMap_cons, h1]
      rfl
    rw [hp, parse_cons]
    cases s with
    | nil =>
      rw [mt_end (by omega)]
      rfl
    | cons x s =>
      rw [mt_one (by omega), h2, ih]
      show _ = ((x :: s) == _ :: _)
      rw [List.cons_beq_cons]
      congr 1
      rw [Bool.eq_iff_iff, beq_iff_eq, beq_iff_eq]
      exact eq_comm

theorem plain_only (p s : List UInt8) (h : magic p = false) : mt (parse p) s = (s == plain p) := plain_mt p.length p (Nat.le_refl _) h s

/-- A star and a question mark before a pattern. -/
theorem star_before (p s : List UInt8) : mt (parse (42 :: p)) s = true ↔ ∃ k, k ≤ s.length ∧ mt (parse p) (s.drop k) = true := by
  rw [parse_one (q := ⟨2, [42], []⟩) rfl rfl, mt_star rfl]
theorem any_before (p s : List UInt8) : mt (parse (63 :: p)) s = (!s.isEmpty && mt (parse p) (s.drop 1)) := by
  rw [parse_one (q := ⟨3, [63], []⟩) rfl rfl]
  cases s with
  | nil => rw [mt_end (by decide)]; rfl
  | cons c r => rw [mt_one (by decide)]; rfl

/-! A star behind a pattern. -/

theorem close_snoc : ∀ (k : Nat) (l : List UInt8), close k (l ++ [42]) = close k l
  | 0, [] => rfl
  | 0, c :: r => by
    rw [List.cons_append, close, close]
    split
    · rfl
    · rw [close_snoc 0 r]
  | 1, [] => rfl
  | k + 2, [] => rfl
  | k + 1, c :: r => by
    rw [List.cons_append, close, close, close_snoc k r]

theorem part_snoc (c : UInt8) (r : List UInt8) (h : ¬ (c = 92 ∧ r = [])) : part c (r ++ [42]) = part c r := by
  unfold part
  split
  · rename_i h92
    cases r with
    | nil => exact absurd ⟨h92, rfl⟩ h
    | cons d r => rfl
  · split
    · rfl
    · split
      · rfl
      · split
        · have e : clsOf (r ++ [42]) = clsOf r := by
            unfold clsOf
            rw [close_snoc, close_snoc]
            have hh : (if (r ++ [42]).head? = some 33 then close 2 r else none) = (if r.head? = some 33 then close 2 r else none) := by
              cases r with
              | nil => rfl
              | cons d r => rfl
            rw [hh]
            cases h2 : (if r.head? = some 33 then close 2 r else none) with
            | some e =>
              have hlt : e < r.length := by
                split at h2
                · exact (close_lt h2).2
                · cases h2
              simp only
              rw [List.take_append_of_le_length (by omega), List.take_append_of_le_length (by omega)]
            | none =>
              simp only
              cases h3 : close 1 r with
              | none => rfl
              | some e =>
                have hlt := (close_lt h3).2
                simp only
                rw [List.take_append_of_le_length (by omega), List.take_append_of_le_length (by omega)]
          rw [e]
        · rfl

theorem parse_snoc : ∀ (k : Nat) (p : List UInt8), p.length ≤ k → p.getLast? ≠ some 92 → parse (p ++ [42]) = parse p ++ [⟨2, [42], []⟩]
  | _, [], _, _ => rfl
  | 0, c :: r, h, _ => by simp at h
  | k + 1, c :: r, h, hl => by
    have hs := part_shape c r
    have hn : ¬ (c = 92 ∧ r = []) := by
      rintro ⟨rfl, rfl⟩
      simp at hl
    have hpt : part c (r ++ [42]) = part c r := part_snoc c r hn
    rw [List.cons_append, parse_cons, hpt, parse_cons, ← List.cons_append, List.drop_append_of_le_length (by simp; omega)]
    show _ = part c r :: (_ ++ _)
    congr 1
    refine parse_snoc k _ (by rw [List.length_drop, List.length_cons]; simp at h; omega) ?_
    rw [List.getLast?_drop]
    split
    · simp
    · exact hl

theorem star_behind (p s : List UInt8) (h : p.getLast? ≠ some 92) : mt (parse (p ++ [42])) s = true ↔ ∃ k, k ≤ s.length ∧ mt (parse p) (s.take k) = true := by
  rw [parse_snoc p.length p (Nat.le_refl _) h, mt_append]
  constructor
  · rintro ⟨k, hk, h1, _⟩
    exact ⟨k, hk, h1⟩
  · rintro ⟨k, hk, h1⟩
    exact ⟨k, hk, h1, (mt_star rfl _ _).2 ⟨(s.drop k).length, Nat.le_refl _, by rw [List.drop_length]; rfl⟩⟩
end Txt
end Go.Proofs.Ytpmmbbaigfjhnaa

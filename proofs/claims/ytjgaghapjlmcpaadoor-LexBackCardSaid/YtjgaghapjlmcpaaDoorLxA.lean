/- The tokens of the floor language as plain functions on bytes; nothing of the program is imported. -/
import Derived.Test.YtjgaghapjlmcpaaDoorNumb
import Derived.Test.YtjgaghapjlmcpaaDoorQuo
namespace Go.Proofs.YtjgaghapjlmcpaaDoor
open Txt
set_option linter.unusedVariables false
set_option linter.unusedSimpArgs false
namespace Lx

/-- A token: its kind (0 a word, 1 a number, 2 a text, 3 an LF, 4 the end), its text, its number, its line. -/
structure Tk where
  kind : Nat
  text : List UInt8
  n : Int
  line : Nat
deriving DecidableEq

def isW (c : UInt8) : Bool := c == 32 || c == 9 || c == 13
def isL (c : UInt8) : Bool := (decide (97 ≤ c.toNat) && decide (c.toNat ≤ 122)) || (decide (65 ≤ c.toNat) && decide (c.toNat ≤ 90)) || c == 95
def isD (c : UInt8) : Bool := decide (48 ≤ c.toNat) && decide (c.toNat ≤ 57)
def isP (c : UInt8) : Bool := isL c || isD c || c == 45
def no10 (c : UInt8) : Bool := c != 10

def word (w : List UInt8) : Bool := decide (1 ≤ w.length) && decide (w.length ≤ 20) && (match w with | [] => false | c :: _ => isL c) && w.all isP

/-- What a reading of one token gives: an error; or its kind, text, number, and what is left. -/
inductive Tr where
  | bad (e : Nat)
  | got (kind : Nat) (text : List UInt8) (n : Int) (rest : List UInt8)

def wordT (w rest : List UInt8) : Tr :=
  if word w = true then .got 0 w 0 rest
  else if intB w = true then .got 1 w (intV w) rest
  else if (w.head? != some 48) && w.all isD then .bad 3 else .bad 11

/-- Where a text ends: how many bytes go up to the quotation mark, which is the last of them. -/
def clo : Bool → List UInt8 → Option Nat
  | _, [] => none
  | odd, c :: r => if c = 34 ∧ odd = false then some 1 else (clo (c == 92 && !odd) r).map (· + 1)

def textT (r : List UInt8) : Tr :=
  match clo false r with
  | none => .bad 11
  | some k => if unqB (34 :: r.take k) = true then .got 2 (unqV (34 :: r.take k)) 0 (r.drop k) else .bad 11

def tok (c : UInt8) (r : List UInt8) : Tr :=
  if c = 10 then .got 3 [] 0 r
  else if c = 34 then textT r
  else if isL c || isD c then wordT ((c :: r).takeWhile isP) ((c :: r).dropWhile isP)
  else .bad 11

/-- The tokens; or an error and its line. -/
inductive Lr where
  | bad (e line : Nat)
  | ok (l : List Tk)
deriving DecidableEq

def Lr.push (t : Tk) : Lr → Lr
  | .bad e k => .bad e k
  | .ok l => .ok (t :: l)
def Lr.join (T : List Tk) : Lr → Lr
  | .bad e k => .bad e k
  | .ok l => .ok (T ++ l)
def up (k : Nat) (t : Tk) : Tk := { t with line := t.line + k }
def Lr.shift (k : Nat) : Lr → Lr
  | .bad e m => .bad e (m + k)
  | .ok l => .ok (l.map (up k))

def fin (line : Nat) : Tk := ⟨4, [], 0, line⟩
def nxt (kind line : Nat) : Nat := if kind = 3 then line + 1 else line

def lexF : Nat → List UInt8 → Nat → Lr
  | 0, _, line => .ok [fin line]
  | _ + 1, [], line => .ok [fin line]
  | k + 1, c :: r, line =>
    if isW c = true then lexF k r line
    else if c = 35 then lexF k (r.dropWhile no10) line
    else match tok c r with
      | .bad e => .bad e line
      | .got kind text n rest => (lexF k rest (nxt kind line)).push ⟨kind, text, n, line⟩
def lexP (l : List UInt8) (line : Nat) : Lr := lexF l.length l line
def lexAll (l : List UInt8) : Lr := if 20000 < l.length then .bad 6 0 else lexP l 1

/-! Lengths. -/
theorem drop_len (p : UInt8 → Bool) (l : List UInt8) : (l.dropWhile p).length ≤ l.length := (List.dropWhile_suffix p).length_le
theorem clo_le : ∀ (r : List UInt8) (odd : Bool) (k : Nat), clo odd r = some k → 1 ≤ k ∧ k ≤ r.length
  | [], odd, k, h => by cases h
  | c :: r, odd, k, h => by
    unfold clo at h
    split at h
    · cases h
      simp
    · obtain ⟨j, hj, rfl⟩ := Option.map_eq_some_iff.1 h
      have := clo_le r _ j hj
      simp only [List.length_cons]
      omega
theorem isP_of {c : UInt8} (h : (isL c || isD c) = true) : isP c = true := by
  unfold isP
  rw [h]
  rfl
theorem tok_len {c : UInt8} {r : List UInt8} {kind : Nat} {text : List UInt8} {n : Int} {rest : List UInt8} (h : tok c r = .got kind text n rest) : rest.length ≤ r.length := by
  unfold tok at h
  split at h
  · cases h
    exact Nat.le_refl _
  · split at h
    · unfold textT at h
      split at h
      · cases h
      · split at h
        · cases h
          simp
        · cases h
    · split at h
      · rename_i hc
        have e : (c :: r).dropWhile isP = r.dropWhile isP := by rw [List.dropWhile_cons_of_pos (isP_of hc)]
        have := drop_len isP r
        unfold wordT at h
        split at h
        · cases h
          rw [e]
          exact this
        · split at h
          · cases h
            rw [e]
            exact this
          · split at h <;> cases h
      · cases h

theorem lexF_more : ∀ (k : Nat) (l : List UInt8) (line : Nat), l.length ≤ k → lexF k l line = lexF l.length l line
  | 0, l, line, h => by
    have : l = [] := List.eq_nil_of_length_eq_zero (by omega)
    subst this
    rfl
  | k + 1, [], line, _ => rfl
  | k + 1, c :: r, line, h => by
    simp only [List.length_cons] at h ⊢
    have hd := drop_len no10 r
    unfold lexF
    split
    · rw [lexF_more k r line (by omega)]
    · split
      · rw [lexF_more k _ line (by omega), lexF_more r.length _ line (by omega)]
      · split
        · rfl
        · rename_i kind text n rest ht
          have := tok_len ht
          rw [lexF_more k rest _ (by omega), lexF_more r.length rest _ (by omega)]

theorem lexP_nil (line : Nat) : lexP [] line = .ok [fin line] := rfl
theorem lexP_white {c : UInt8} {r : List UInt8} {line : Nat} (h : isW c = true) : lexP (c :: r) line = lexP r line := by
  show lexF (r.length + 1) (c :: r) line = _
  unfold lexF
  rw [if_pos h]
  rfl
theorem lexP_note {r : List UInt8} {line : Nat} : lexP (35 :: r) line = lexP (r.dropWhile no10) line := by
  show lexF (r.length + 1) (35 :: r) line = _
  unfold lexF
  rw [if_neg (by decide), if_pos rfl]
  exact lexF_more _ _ _ (drop_len _ _)
theorem lexP_bad {c : UInt8} {r : List UInt8} {line e : Nat} (hw : isW c = false) (h35 : c ≠ 35) (h : tok c r = .bad e) : lexP (c :: r) line = .bad e line := by
  show lexF (r.length + 1) (c :: r) line = _
  unfold lexF
  rw [if_neg (by rw [hw]; decide), if_neg h35, h]
theorem lexP_got {c : UInt8} {r : List UInt8} {line : Nat} {kind : Nat} {text : List UInt8} {n : Int} {rest : List UInt8} (hw : isW c = false) (h35 : c ≠ 35) (h : tok c r = .got kind text n rest) :
    lexP (c :: r) line = (lexP rest (nxt kind line)).push ⟨kind, text, n, line⟩ := by
  show lexF (r.length + 1) (c :: r) line = _
  unfold lexF
  rw [if_neg (by rw [hw]; decide), if_neg h35, h]
  show Lr.push _ (lexF r.length rest _) = _
  rw [lexF_more _ _ _ (tok_len h)]
  rfl

/-- The four ways of a source that is not empty. -/
theorem lexP_ind {M : List UInt8 → Nat → Prop} (h0 : ∀ line, M [] line) (h1 : ∀ c r line, isW c = true → M r line → M (c :: r) line) (h2 : ∀ r line, M (r.dropWhile no10) line → M (35 :: r) line)
    (h3 : ∀ c r line e, isW c = false → c ≠ 35 → tok c r = .bad e → M (c :: r) line)
    (h4 : ∀ c r line kind text n rest, isW c = false → c ≠ 35 → tok c r = .got kind text n rest → M rest (nxt kind line) → M (c :: r) line) : ∀ l line, M l line := by
  have key : ∀ (k : Nat) (l : List UInt8) (line : Nat), l.length ≤ k → M l line := by
    intro k
    induction k with
    | zero =>
      intro l line h
      have : l = [] := List.eq_nil_of_length_eq_zero (by omega)
      subst this
      exact h0 line
    | succ k ih =>
      intro l line h
      cases l with
      | nil => exact h0 line
      | cons c r =>
        simp only [List.length_cons] at h
        cases hw : isW c with
        | true => exact h1 c r line hw (ih r line (by omega))
        | false =>
          by_cases h35 : c = 35
          · subst h35
            have := drop_len no10 r
            exact h2 r line (ih _ line (by omega))
          · cases ht : tok c r with
            | bad e => exact h3 c r line e hw h35 ht
            | got kind text n rest =>
              have := tok_len ht
              exact h4 c r line kind text n rest hw h35 ht (ih _ _ (by omega))
  exact fun l line => key l.length l line (Nat.le_refl _)

/-! Joining and shifting. -/
theorem push_join (t : Tk) (x : Lr) : x.push t = x.join [t] := by cases x <;> rfl
theorem join_join (T U : List Tk) (x : Lr) : (x.join U).join T = x.join (T ++ U) := by
  cases x with
  | bad e k => rfl
  | ok l => simp [Lr.join]
theorem join_nil (x : Lr) : x.join [] = x := by cases x <;> rfl
theorem shift_push (k : Nat) (t : Tk) (x : Lr) : (x.push t).shift k = (x.shift k).push (up k t) := by cases x <;> rfl

theorem nxt_add (kind line k : Nat) : nxt kind (line + k) = nxt kind line + k := by
  unfold nxt
  split <;> omega

theorem lexP_shift (k : Nat) : ∀ l line, lexP l (line + k) = (lexP l line).shift k := by
  refine lexP_ind (fun line => rfl) (fun c r line hw ih => ?_) (fun r line ih => ?_) (fun c r line e hw h35 ht => ?_) (fun c r line kind text n rest hw h35 ht ih => ?_)
  · rw [lexP_white hw, lexP_white hw, ih]
  · rw [lexP_note, lexP_note, ih]
  · rw [lexP_bad hw h35 ht, lexP_bad hw h35 ht]
    rfl
  · rw [lexP_got hw h35 ht, lexP_got hw h35 ht, nxt_add, ih, shift_push]
    rfl

/-! What the blanks of a source are. -/
/-- Behind white bytes and a comment. -/
def skip (l : List UInt8) : List UInt8 :=
  match l.dropWhile isW with
  | 35 :: r => r.dropWhile no10
  | r => r
theorem lexP_drop (l : List UInt8) (line : Nat) : lexP (l.dropWhile isW) line = lexP l line := by
  induction l with
  | nil => rfl
  | cons c r ih =>
    cases hw : isW c with
    | true => rw [List.dropWhile_cons_of_pos hw, lexP_white hw, ih]
    | false => rw [List.dropWhile_cons_of_neg (by rw [hw]; decide)]
theorem lexP_skip (l : List UInt8) (line : Nat) : lexP (skip l) line = lexP l line := by
  rw [← lexP_drop l]
  unfold skip
  split
  · rename_i r h
    rw [h, lexP_note]
  · rfl
theorem drop_head {p : UInt8 → Bool} {l r : List UInt8} {c : UInt8} (h : l.dropWhile p = c :: r) : p c = false := by
  have := List.head?_dropWhile_not p l
  rw [h] at this
  simpa using this
theorem skip_head {l r : List UInt8} {c : UInt8} (h : skip l = c :: r) : isW c = false ∧ c ≠ 35 := by
  unfold skip at h
  split at h
  · rename_i r0 h0
    have := drop_head h
    obtain rfl : c = 10 := by simpa [no10] using this
    decide
  · rename_i r0 hn
    refine ⟨drop_head h, ?_⟩
    rintro rfl
    exact hn r h
theorem skip_len (l : List UInt8) : (skip l).length ≤ l.length := by
  have h1 := drop_len isW l
  unfold skip
  split
  · rename_i r h0
    have h2 := drop_len no10 r
    rw [h0] at h1
    simp only [List.length_cons] at h1
    omega
  · exact h1

end Lx
end Go.Proofs.YtjgaghapjlmcpaaDoor

/- What Write makes of tokens, and that its tokens are the same; what the tokens of a source are like; the examples; nothing of the program is imported. Drafts plainly: forms, reading of lines of tokens, the text of a draft as lines of pieces; nothing of the program is imported. The text of a draft as lines of pieces, and its tokens; that it is read as it was; nothing of the program is imported. That items, rows and decks are read from their pieces; nothing of the program is imported. That a draft is read from its text as it was; nothing of the program is imported. What is read is right; nothing of the program is imported. -/
import Derived.Test.YtibeangcjfjeiaaDoorLxB
namespace Go.Proofs.YtibeangcjfjeiaaDoor
open Txt Wire
set_option linter.unusedVariables false
set_option maxRecDepth 100000
set_option linter.unusedSimpArgs false
namespace Lx

/-- What is written for one token. -/
def wr1 (t : Tk) : List UInt8 :=
  if t.kind = 0 ∨ t.kind = 1 then t.text ++ [32]
  else if t.kind = 2 then quo t.text ++ [32]
  else if t.kind = 3 then [10]
  else []
def wrP (l : List Tk) : List UInt8 := l.flatMap wr1

/-- What the tokens from a line on are like. -/
def Fine : Nat → List Tk → Prop
  | _, [] => False
  | line, [t] => t = fin line
  | line, t :: u :: r => t.line = line ∧ t.kind < 4 ∧ (t.kind ≠ 1 → t.n = 0) ∧ (t.kind = 0 → word t.text = true) ∧ (t.kind = 1 → 0 ≤ t.n ∧ t.n ≤ 9223372036854775807 ∧ decI t.n = t.text) ∧ Fine (nxt t.kind line) (u :: r)

theorem fine_cons {line : Nat} {t : Tk} {l : List Tk} (h : Fine (nxt t.kind line) l) (h1 : t.line = line) (h2 : t.kind < 4) (h3 : t.kind ≠ 1 → t.n = 0) (h4 : t.kind = 0 → word t.text = true) (h5 : t.kind = 1 → 0 ≤ t.n ∧ t.n ≤ 9223372036854775807 ∧ decI t.n = t.text) : Fine line (t :: l) := by
  cases l with
  | nil => exact h.elim
  | cons u r => exact ⟨h1, h2, h3, h4, h5, h⟩

theorem wordT_is {w r : List UInt8} {kind : Nat} {text : List UInt8} {n : Int} {rest : List UInt8} (h : wordT w r = .got kind text n rest) (hh : ∃ c s, w = c :: s ∧ c ≠ 45) :
    rest = r ∧ text = w ∧ ((kind = 0 ∧ n = 0 ∧ word w = true) ∨ (kind = 1 ∧ ∃ m : Nat, m ≤ 9223372036854775807 ∧ n = m ∧ w = dec m)) := by
  unfold wordT at h
  split at h
  · cases h
    exact ⟨rfl, rfl, .inl ⟨rfl, rfl, ‹_›⟩⟩
  · split at h
    · rename_i hi
      cases h
      refine ⟨rfl, rfl, .inr ⟨rfl, ?_⟩⟩
      obtain ⟨z, hz, e⟩ := (intB_iff _).1 hi
      have h2 := (int_of z hz).2
      rw [e] at h2
      unfold Fits at hz
      by_cases h0 : 0 ≤ z
      · obtain ⟨m, rfl⟩ := Int.eq_ofNat_of_zero_le h0
        exact ⟨m, by omega, h2, by rw [← e, decI_pos]⟩
      · obtain ⟨m, hm⟩ := Int.eq_ofNat_of_zero_le (show 0 ≤ -z by omega)
        obtain rfl : z = -(m : Int) := by omega
        rw [decI_neg m (by omega)] at e
        obtain ⟨c, s, e2, hc⟩ := hh
        rw [← e] at e2
        cases e2
        exact absurd rfl hc
    · split at h <;> cases h

/-- What one token that is read is like: what it is, and how many bytes it takes. -/
theorem tok_is {c : UInt8} {r : List UInt8} {kind : Nat} {text : List UInt8} {n : Int} {rest : List UInt8} (h : tok c r = .got kind text n rest) :
    (kind = 3 ∧ text = [] ∧ n = 0 ∧ rest.length = r.length) ∨ (kind = 2 ∧ n = 0 ∧ (quo text).length + rest.length = r.length + 1) ∨ (kind = 0 ∧ n = 0 ∧ word text = true ∧ text.length + rest.length = r.length + 1) ∨
      (kind = 1 ∧ (∃ m : Nat, m ≤ 9223372036854775807 ∧ n = m ∧ text = dec m) ∧ text.length + rest.length = r.length + 1) := by
  unfold tok at h
  split at h
  · cases h
    exact .inl ⟨rfl, rfl, rfl, rfl⟩
  · split at h
    · unfold textT at h
      split at h
      · cases h
      · rename_i k hk
        have hl := clo_le _ _ _ hk
        split at h
        · rename_i hb
          cases h
          refine .inr (.inl ⟨rfl, rfl, ?_⟩)
          rw [unq_yes hb, List.length_cons, List.length_take, List.length_drop]
          omega
        · cases h
    · split at h
      · rename_i hc
        have hw : ((c :: r).takeWhile isP).length + ((c :: r).dropWhile isP).length = r.length + 1 := by
          rw [← List.length_append, List.takeWhile_append_dropWhile]
          rfl
        have hd : ∃ d s, (c :: r).takeWhile isP = d :: s ∧ d ≠ 45 := by
          refine ⟨c, r.takeWhile isP, by rw [List.takeWhile_cons_of_pos (isP_of hc)], ?_⟩
          rintro rfl
          exact absurd hc (by decide)
        obtain ⟨rfl, rfl, ⟨rfl, rfl, h3⟩ | ⟨rfl, h3⟩⟩ := wordT_is h hd
        · exact .inr (.inr (.inl ⟨rfl, rfl, h3, hw⟩))
        · exact .inr (.inr (.inr ⟨rfl, h3, hw⟩))
      · cases h

/-- The tokens of what Write makes of the tokens of a source are these tokens. -/
theorem lexP_back : ∀ a line, ∀ x, lexP a line = .ok x → lexP (wrP x) line = .ok x ∧ (wrP x).length ≤ 2 * a.length ∧ Fine line x := by
  refine lexP_ind (fun line x h => ?_) (fun c r line hw ih x h => ?_) (fun r line ih x h => ?_) (fun c r line e hw h35 ht x h => ?_) (fun c r line kind text n rest hw h35 ht ih x h => ?_)
  · rw [lexP_nil] at h
    cases h
    exact ⟨rfl, Nat.zero_le _, rfl⟩
  · rw [lexP_white hw] at h
    obtain ⟨h1, h2, h3⟩ := ih x h
    exact ⟨h1, by simp only [List.length_cons]; omega, h3⟩
  · rw [lexP_note] at h
    obtain ⟨h1, h2, h3⟩ := ih x h
    have := drop_len no10 r
    exact ⟨h1, by simp only [List.length_cons]; omega, h3⟩
  · rw [lexP_bad hw h35 ht] at h
    cases h
  · rw [lexP_got hw h35 ht] at h
    cases hr : lexP rest (nxt kind line) with
    | bad e k => rw [hr] at h; cases h
    | ok l =>
      rw [hr] at h
      cases h
      obtain ⟨h1, h2, h3⟩ := ih l hr
      have hsp : ∀ c s, (32 :: wrP l) = c :: s → isP c = false := by
        intro c s e
        cases e
        decide
      have h32 : ∀ line, lexP (32 :: wrP l) line = lexP (wrP l) line := fun line => lexP_white (by decide)
      have e0 : ∀ t : Tk, wrP (t :: l) = wr1 t ++ wrP l := fun t => rfl
      rcases tok_is ht with ⟨rfl, rfl, rfl, h4⟩ | ⟨rfl, rfl, h4⟩ | ⟨rfl, rfl, h5, h4⟩ | ⟨rfl, ⟨m, hm, rfl, rfl⟩, h4⟩
      · refine ⟨?_, ?_, fine_cons h3 rfl (by simp) (fun _ => rfl) (fun e => by cases e) (fun e => by cases e)⟩
        · rw [e0]
          show lexP (10 :: wrP l) line = _
          rw [lexP_got (by decide) (by decide) (rfl : tok 10 (wrP l) = .got 3 [] 0 (wrP l)), h1]
          rfl
        · rw [e0]
          show (10 :: wrP l).length ≤ _
          simp only [List.length_cons]
          omega
      · refine ⟨?_, ?_, fine_cons h3 rfl (by simp) (fun _ => rfl) (fun e => by cases e) (fun e => by cases e)⟩
        · rw [e0]
          show lexP (quo text ++ [32] ++ wrP l) line = _
          obtain ⟨q, e, hq⟩ := tok_quo text (32 :: wrP l)
          rw [e, List.append_assoc, List.cons_append]
          show lexP (34 :: (q ++ 32 :: wrP l)) line = _
          rw [lexP_got (by decide) (by decide) hq, h32, show nxt 2 line = line from rfl] at *
          rw [h1]
          rfl
        · rw [e0]
          show (quo text ++ [32] ++ wrP l).length ≤ _
          simp only [List.length_append, List.length_cons, List.length_nil]
          have : 2 ≤ (quo text).length := by unfold quo; simp
          omega
      · refine ⟨?_, ?_, fine_cons h3 rfl (by simp) (fun _ => rfl) (fun _ => h5) (fun e => by cases e)⟩
        · rw [e0]
          show lexP (text ++ [32] ++ wrP l) line = _
          obtain ⟨c, s, rfl, hw, h35, hq⟩ := tok_word h5 hsp
          rw [List.append_assoc, List.cons_append]
          show lexP (c :: (s ++ 32 :: wrP l)) line = _
          rw [lexP_got hw h35 hq, h32, h1]
          rfl
        · rw [e0]
          show (text ++ [32] ++ wrP l).length ≤ _
          simp only [List.length_append, List.length_cons, List.length_nil]
          obtain ⟨c, s, rfl, _⟩ := word_head h5
          simp only [List.length_cons] at h4 ⊢
          omega
      · refine ⟨?_, ?_, fine_cons h3 rfl (by simp) (fun e => absurd rfl e) (fun e => by cases e) (fun _ => ⟨by show (0 : Int) ≤ m; omega, by show (m : Int) ≤ _; omega, by show decI (m : Int) = dec m; exact decI_pos m⟩)⟩
        · rw [e0]
          show lexP (dec m ++ [32] ++ wrP l) line = _
          obtain ⟨c, s, e, hw, h35, hq⟩ := tok_dec hm hsp
          rw [e, List.append_assoc, List.cons_append]
          show lexP (c :: (s ++ 32 :: wrP l)) line = _
          rw [lexP_got hw h35 hq, h32, h1, e]
          rfl
        · rw [e0]
          show (dec m ++ [32] ++ wrP l).length ≤ _
          have := dec_pos m
          simp only [List.length_append, List.length_cons, List.length_nil]
          omega

/-! How the tokens go on. -/
theorem fine_ne {line : Nat} {l : List Tk} (h : Fine line l) : l ≠ [] := by
  rintro rfl
  exact h
/-- How long what is written may be. -/
theorem wr_fine {a : List UInt8} {line : Nat} {x : List Tk} (h : lexP a line = .ok x) : ∀ t ∈ x, t.text.length ≤ a.length ∧ t.line ≤ line + a.length ∧ t.kind ≤ 4 := by
  have key : ∀ a line, ∀ x, lexP a line = .ok x → ∀ t ∈ x, t.text.length ≤ a.length ∧ t.line ≤ line + a.length ∧ t.kind ≤ 4 := by
    refine lexP_ind (fun line x h => ?_) (fun c r line hw ih x h => ?_) (fun r line ih x h => ?_) (fun c r line e hw h35 ht x h => ?_) (fun c r line kind text n rest hw h35 ht ih x h => ?_)
    · rw [lexP_nil] at h
      cases h
      intro t ht
      obtain rfl : t = fin line := by simpa using ht
      simp [fin]
    · rw [lexP_white hw] at h
      intro t ht
      have := ih x h t ht
      simp only [List.length_cons]
      omega
    · rw [lexP_note] at h
      have hl := drop_len no10 r
      intro t ht
      have := ih x h t ht
      simp only [List.length_cons]
      omega
    · rw [lexP_bad hw h35 ht] at h
      cases h
    · rw [lexP_got hw h35 ht] at h
      cases hr : lexP rest (nxt kind line) with
      | bad e k => rw [hr] at h; cases h
      | ok l =>
        rw [hr] at h
        cases h
        have hq : ∀ text : List UInt8, text.length ≤ (quo text).length := by
          intro text
          have h1 := unqV_len (quo text)
          have h2 := (unq_is (l := quo text) (by unfold unqT; rw [inner_quo, unq_flat]))
          rw [← h2.2, (unq_quo text).2] at h1
          exact h1
        have hlen := tok_len ht
        have ht2 : text.length ≤ r.length + 1 ∧ kind ≤ 4 := by
          rcases tok_is ht with ⟨rfl, rfl, rfl, h4⟩ | ⟨rfl, rfl, h4⟩ | ⟨rfl, rfl, h5, h4⟩ | ⟨rfl, _, h4⟩
          · simp
          · have := hq text
            omega
          · omega
          · omega
        intro t hm
        rcases List.mem_cons.1 hm with rfl | hm
        · simp only [List.length_cons]
          omega
        · have := ih l hr t hm
          have hn : nxt kind line ≤ line + 1 := by unfold nxt; split <;> omega
          simp only [List.length_cons]
          omega
  exact key a line x h

/-! The examples. -/
theorem ex_a : lexAll [122, 111, 110, 101, 32, 99, 111, 108, 100, 45, 49, 32, 49, 50, 32, 35, 32, 99] = .ok [⟨0, [122, 111, 110, 101], 0, 1⟩, ⟨0, [99, 111, 108, 100, 45, 49], 0, 1⟩, ⟨1, [49, 50], 12, 1⟩, fin 1] := by decide +kernel
theorem ex_b : lexAll [114, 111, 119, 32, 34, 35, 35, 46, 80, 34] = .ok [⟨0, [114, 111, 119], 0, 1⟩, ⟨2, [35, 35, 46, 80], 0, 1⟩, fin 1] := by decide +kernel
theorem ex_c : lexAll [48, 49] = .bad 11 1 := by decide +kernel
theorem ex_d : lexAll [49, 97] = .bad 11 1 := by decide +kernel
theorem ex_e : lexAll [45, 49] = .bad 11 1 := by decide +kernel
theorem ex_f : lexAll [34, 97] = .bad 11 1 := by decide +kernel
theorem ex_g : word [97, 45, 49] = true ∧ word [45, 97] = false := by decide +kernel

end Lx
end Go.Proofs.YtibeangcjfjeiaaDoor

namespace Go.Proofs.YtibeangcjfjeiaaDoor
open Txt Wire Lx
set_option linter.unusedVariables false
set_option maxRecDepth 100000
set_option linter.unusedSimpArgs false
namespace Drf

structure It where
  kind : Int
  name : List UInt8
  other : List UInt8
  n : List Int
  line : Int
deriving DecidableEq
structure Df where
  decks : List (List (List UInt8))
  items : List It
deriving DecidableEq

/-- The form of the lines of a kind: the word, how many numbers (a direction is the fourth one), how many names, whether a further name may follow. -/
structure Form where
  word : List UInt8
  count : Nat
  names : Nat
  more : Bool
def form : Nat → Option Form
  | 0 => some ⟨[122, 111, 110, 101], 7, 1, false⟩
  | 1 => some ⟨[115, 104, 105, 102, 116], 2, 1, false⟩
  | 2 => some ⟨[111, 110, 101, 119, 97, 121], 4, 0, false⟩
  | 3 => some ⟨[97, 112, 97, 114, 116], 0, 2, false⟩
  | 4 => some ⟨[115, 104, 101, 108, 102], 3, 0, true⟩
  | 5 => some ⟨[114, 111, 98, 111, 116], 4, 0, false⟩
  | _ => none
def wDeck : List UInt8 := [100, 101, 99, 107]
def wRow : List UInt8 := [114, 111, 119]
def wordOf (k : Nat) : List UInt8 := match form k with
  | some f => f.word
  | none => []
def kindOf (w : List UInt8) : Option Nat := (List.range 6).find? fun k => wordOf k == w
def dirW : Nat → List UInt8
  | 0 => [101, 97, 115, 116]
  | 1 => [115, 111, 117, 116, 104]
  | 2 => [119, 101, 115, 116]
  | 3 => [110, 111, 114, 116, 104]
  | 4 => [117, 112]
  | 5 => [100, 111, 119, 110]
  | _ => []
def dirOf (w : List UInt8) : Option Nat := (List.range 6).find? fun k => dirW k == w

/-! Reading lines of tokens. -/
/-- What reading gives: nothing, and the line of the token that cannot stand there; or something, and what is left. -/
inductive Rd (α : Type) where
  | bad (line : Nat)
  | got (a : α) (rest : List Tk)
def Rd.then {α β : Type} : Rd α → (α → List Tk → Rd β) → Rd β
  | .bad L, _ => .bad L
  | .got a r, f => f a r
def takeT (kind : Nat) : List Tk → Rd Tk
  | [] => .bad 0
  | t :: r => if t.kind = kind then .got t r else .bad t.line
def numsR : Nat → List Tk → Rd (List Int)
  | 0, l => .got [] l
  | k + 1, l => (takeT 1 l).then fun t r => (numsR k r).then fun ns r' => .got (t.n :: ns) r'
def namesR : Nat → List Tk → Rd (List (List UInt8))
  | 0, l => .got [] l
  | k + 1, l => (takeT 0 l).then fun t r => (namesR k r).then fun ns r' => .got (t.text :: ns) r'
def dirR : List Tk → Rd Int
  | [] => .bad 0
  | t :: r => if t.kind = 0 then (match dirOf t.text with
    | some d => .got (d : Int) r
    | none => .bad t.line) else .bad t.line
/-- The numbers of a kind: those of an ItOneway end with a direction. -/
def allR (k : Nat) (count : Nat) (l : List Tk) : Rd (List Int) :=
  if k = 2 then (numsR 3 l).then fun ns r => (dirR r).then fun d r' => .got (ns ++ [d]) r' else numsR count l
/-- A further name, if there is one. -/
def moreR (more : Bool) (l : List Tk) : List UInt8 × List Tk :=
  match more, l with
  | true, t :: r => if t.kind = 0 then (t.text, r) else ([], t :: r)
  | _, _ => ([], l)
def itemR (k : Nat) (line : Nat) (l : List Tk) : Rd It :=
  match form k with
  | none => .bad 0
  | some f => (namesR f.names l).then fun nm r => (allR k f.count r).then fun ns r' =>
    .got ⟨k, if f.more then (moreR f.more r').1 else nm.headD [], nm.getD 1 [], ns, line⟩ (moreR f.more r').2

inductive Pr where
  | bad (e line : Nat)
  | ok (d : Df)
deriving DecidableEq
def Df.row (d : Df) (s : List UInt8) : Df := { d with decks := d.decks.dropLast ++ [d.decks.getLastD [] ++ [s]] }
/-- What the line with the first word t gives, up to its last token. -/
def lineR (d : Df) (t : Tk) (r : List Tk) : Nat × Nat ⊕ Df × List Tk :=
  if t.kind ≠ 0 then .inl (11, t.line)
  else if t.text = wDeck then (if 4 ≤ d.decks.length then .inl (6, t.line) else .inr ({ d with decks := d.decks ++ [[]] }, r))
  else if t.text = wRow ∧ d.decks ≠ [] then
    (if 4096 ≤ (d.decks.getLastD []).length then .inl (6, t.line) else match takeT 2 r with
      | .bad L => .inl (11, L)
      | .got u r' => if 4096 < u.text.length then .inl (6, t.line) else .inr (d.row u.text, r'))
  else match kindOf t.text with
    | none => .inl (11, t.line)
    | some k => if 5000 ≤ d.items.length then .inl (6, t.line) else match itemR k t.line r with
      | .bad L => .inl (11, L)
      | .got x r' => .inr ({ d with items := d.items ++ [x] }, r')
def stop (t : Tk) : Bool := t.kind == 3 || t.kind == 4
def parseF : Nat → Df → List Tk → Pr
  | 0, d, _ => .ok d
  | _ + 1, d, [] => .ok d
  | k + 1, d, t :: r =>
    if t.kind = 4 then .ok d
    else if t.kind = 3 then parseF k d r
    else match lineR d t r with
      | .inl (e, L) => .bad e L
      | .inr (d', []) => .bad 11 0
      | .inr (d', u :: r') => if stop u = true then parseF k d' (u :: r') else .bad 11 u.line
def parseT (d : Df) (l : List Tk) : Pr := parseF l.length d l
def parseP (src : List UInt8) : Pr :=
  match lexAll src with
  | .bad e L => .bad e L
  | .ok l => parseT ⟨[], []⟩ l

theorem takeT_cons (kind : Nat) (t : Tk) (r : List Tk) : takeT kind (t :: r) = if t.kind = kind then .got t r else .bad t.line := rfl
theorem dirR_cons (t : Tk) (r : List Tk) : dirR (t :: r) = if t.kind = 0 then (match dirOf t.text with
    | some d => .got (d : Int) r
    | none => .bad t.line) else .bad t.line := rfl

/-! Lengths. -/
theorem take_len {kind : Nat} {l r : List Tk} {t : Tk} (h : takeT kind l = .got t r) : l = t :: r ∧ t.kind = kind := by
  cases l with
  | nil => cases h
  | cons u l =>
    rw [takeT_cons] at h
    by_cases hk : u.kind = kind
    · rw [if_pos hk] at h
      cases h
      exact ⟨rfl, hk⟩
    · rw [if_neg hk] at h
      cases h
theorem nums_len : ∀ (k : Nat) (l r : List Tk) (ns : List Int), numsR k l = .got ns r → r.length + k = l.length ∧ ns.length = k
  | 0, l, r, ns, h => by
    cases h
    exact ⟨rfl, rfl⟩
  | k + 1, l, r, ns, h => by
    unfold numsR at h
    cases ht : takeT 1 l with
    | bad L => rw [ht] at h; cases h
    | got t l1 =>
      rw [ht] at h
      simp only [Rd.then] at h
      cases hn : numsR k l1 with
      | bad L => rw [hn] at h; cases h
      | got ms l2 =>
        rw [hn] at h
        cases h
        have h1 := nums_len k l1 _ ms hn
        obtain ⟨rfl, _⟩ := take_len ht
        simp only [List.length_cons]
        omega
theorem names_len : ∀ (k : Nat) (l r : List Tk) (ns : List (List UInt8)), namesR k l = .got ns r → r.length + k = l.length ∧ ns.length = k
  | 0, l, r, ns, h => by
    cases h
    exact ⟨rfl, rfl⟩
  | k + 1, l, r, ns, h => by
    unfold namesR at h
    cases ht : takeT 0 l with
    | bad L => rw [ht] at h; cases h
    | got t l1 =>
      rw [ht] at h
      simp only [Rd.then] at h
      cases hn : namesR k l1 with
      | bad L => rw [hn] at h; cases h
      | got ms l2 =>
        rw [hn] at h
        cases h
        have h1 := names_len k l1 _ ms hn
        obtain ⟨rfl, _⟩ := take_len ht
        simp only [List.length_cons]
        omega
theorem dir_len {l r : List Tk} {d : Int} (h : dirR l = .got d r) : r.length + 1 = l.length := by
  cases l with
  | nil => cases h
  | cons t l =>
    rw [dirR_cons] at h
    by_cases hk : t.kind = 0
    · rw [if_pos hk] at h
      cases hd : dirOf t.text with
      | none => rw [hd] at h; cases h
      | some e =>
        rw [hd] at h
        cases h
        rfl
    · rw [if_neg hk] at h
      cases h
theorem all_len {k count : Nat} {l r : List Tk} {ns : List Int} (h : allR k count l = .got ns r) : r.length ≤ l.length := by
  unfold allR at h
  split at h
  · cases hn : numsR 3 l with
    | bad L => rw [hn] at h; cases h
    | got ms l1 =>
      rw [hn] at h
      simp only [Rd.then] at h
      cases hd : dirR l1 with
      | bad L => rw [hd] at h; cases h
      | got d l2 =>
        rw [hd] at h
        cases h
        have := (nums_len _ _ _ _ hn).1
        have := dir_len hd
        omega
  · have := (nums_len _ _ _ _ h).1
    omega
theorem more_len (more : Bool) (l : List Tk) : (moreR more l).2.length ≤ l.length := by
  unfold moreR
  split
  · split
    · simp
    · simp
  · simp
theorem item_len {k line : Nat} {l r : List Tk} {x : It} (h : itemR k line l = .got x r) : r.length ≤ l.length := by
  unfold itemR at h
  cases hf : form k with
  | none => rw [hf] at h; cases h
  | some f =>
    rw [hf] at h
    simp only at h
    cases hn : namesR f.names l with
    | bad L => rw [hn] at h; cases h
    | got nm l1 =>
      rw [hn] at h
      simp only [Rd.then] at h
      cases ha : allR k f.count l1 with
      | bad L => rw [ha] at h; cases h
      | got ns l2 =>
        rw [ha] at h
        cases h
        have h1 := (names_len _ _ _ _ hn).1
        have h2 := all_len ha
        have h3 := more_len f.more l2
        omega
theorem line_len {d d' : Df} {t : Tk} {r r' : List Tk} (h : lineR d t r = .inr (d', r')) : r'.length ≤ r.length := by
  unfold lineR at h
  split at h
  · cases h
  · split at h
    · split at h
      · cases h
      · cases h
        exact Nat.le_refl _
    · split at h
      · split at h
        · cases h
        · split at h
          · cases h
          · rename_i u r2 hu
            split at h
            · cases h
            · cases h
              obtain ⟨rfl, _⟩ := take_len hu
              simp
      · split at h
        · cases h
        · split at h
          · cases h
          · split at h
            · cases h
            · rename_i x r2 hx
              cases h
              exact item_len hx
theorem parseF_more : ∀ (k : Nat) (d : Df) (l : List Tk), l.length ≤ k → parseF k d l = parseF l.length d l
  | 0, d, l, h => by
    have : l = [] := List.eq_nil_of_length_eq_zero (by omega)
    subst this
    rfl
  | k + 1, d, [], _ => rfl
  | k + 1, d, t :: r, h => by
    simp only [List.length_cons] at h ⊢
    unfold parseF
    split
    · rfl
    · split
      · exact parseF_more k d r (by omega)
      · split
        · rfl
        · rfl
        · rename_i d' u r' hl
          have h1 := line_len hl
          rw [parseF_more k d' (u :: r') (by omega), parseF_more r.length d' (u :: r') h1]
theorem parse_end {d : Df} {t : Tk} {r : List Tk} (h : t.kind = 4) : parseT d (t :: r) = .ok d := by
  show parseF (r.length + 1) d (t :: r) = _
  unfold parseF
  rw [if_pos h]
theorem parse_lf {d : Df} {t : Tk} {r : List Tk} (h : t.kind = 3) : parseT d (t :: r) = parseT d r := by
  show parseF (r.length + 1) d (t :: r) = _
  unfold parseF
  rw [if_neg (by omega), if_pos h]
  rfl
theorem parse_line {d d' : Df} {t u : Tk} {r r' : List Tk} (h3 : t.kind ≠ 3) (h4 : t.kind ≠ 4) (h : lineR d t r = .inr (d', u :: r')) (hu : stop u = true) : parseT d (t :: r) = parseT d' (u :: r') := by
  show parseF (r.length + 1) d (t :: r) = _
  unfold parseF
  rw [if_neg h4, if_neg h3, h]
  simp only [hu, if_true]
  exact parseF_more _ _ _ (line_len h)

end Drf
end Go.Proofs.YtibeangcjfjeiaaDoor

namespace Go.Proofs.YtibeangcjfjeiaaDoor
open Txt Wire Lx
set_option linter.unusedVariables false
set_option maxRecDepth 100000
set_option linter.unusedSimpArgs false
namespace Drf

/-- A piece of a line: a word, a number, a text. -/
inductive Pc where
  | w (b : List UInt8)
  | num (n : Nat)
  | txt (b : List UInt8)
def Pc.bytes : Pc → List UInt8
  | .w b => b
  | .num n => dec n
  | .txt b => quo b
def Pc.okay : Pc → Prop
  | .w b => word b = true
  | .num n => n ≤ 9223372036854775807
  | .txt _ => True
def Pc.tk (line : Nat) : Pc → Tk
  | .w b => ⟨0, b, 0, line⟩
  | .num n => ⟨1, dec n, n, line⟩
  | .txt b => ⟨2, b, 0, line⟩
def lfT (line : Nat) : Tk := ⟨3, [], 0, line⟩
def tailB (ps : List Pc) : List UInt8 := ps.flatMap fun q => 32 :: q.bytes
def lineB : List Pc → List UInt8
  | [] => [10]
  | p :: ps => p.bytes ++ (tailB ps ++ [10])
def textOf (ls : List (List Pc)) : List UInt8 := ls.flatMap lineB
def toksOf : List (List Pc) → Nat → List Tk
  | [], line => [fin line]
  | ps :: ls, line => ps.map (Pc.tk line) ++ lfT line :: toksOf ls (line + 1)
def Okay (ls : List (List Pc)) : Prop := ∀ ps ∈ ls, ∀ p ∈ ps, p.okay

theorem pc_lex {p : Pc} (hp : p.okay) {rest : List UInt8} (hr : ∀ c s, rest = c :: s → isP c = false) (line : Nat) : lexP (p.bytes ++ rest) line = (lexP rest line).push (p.tk line) := by
  cases p with
  | w b =>
    obtain ⟨c, s, e, hw, h35, ht⟩ := tok_word (w := b) hp hr
    show lexP (b ++ rest) line = _
    rw [e] at ht ⊢
    rw [List.cons_append, lexP_got hw h35 ht]
    rfl
  | num n =>
    obtain ⟨c, s, e, hw, h35, ht⟩ := tok_dec (n := n) hp hr
    show lexP (dec n ++ rest) line = _
    rw [e] at ht ⊢
    rw [List.cons_append, lexP_got hw h35 ht]
    rw [← e]
    rfl
  | txt b =>
    obtain ⟨q, e, ht⟩ := tok_quo b rest
    show lexP (quo b ++ rest) line = _
    rw [e, List.cons_append, lexP_got (by decide) (by decide) ht]
    rfl
theorem not_part_tail (ps : List Pc) (rest : List UInt8) : ∀ c s, tailB ps ++ 10 :: rest = c :: s → isP c = false := by
  intro c s e
  cases ps with
  | nil =>
    cases e
    decide
  | cons p ps =>
    have e2 : (32 :: p.bytes ++ tailB ps) ++ 10 :: rest = c :: s := e
    cases e2
    decide
theorem tail_lex : ∀ (ps : List Pc), (∀ p ∈ ps, p.okay) → ∀ (rest : List UInt8) (line : Nat), lexP (tailB ps ++ 10 :: rest) line = ((lexP rest (line + 1)).push (lfT line)).join (ps.map (Pc.tk line))
  | [], _, rest, line => by
    show lexP (10 :: rest) line = _
    rw [lexP_got (by decide) (by decide) (rfl : tok 10 rest = .got 3 [] 0 rest)]
    show Lr.push _ (lexP rest (line + 1)) = (Lr.push (lfT line) (lexP rest (line + 1))).join []
    rw [join_nil]
    rfl
  | p :: ps, h, rest, line => by
    have ih := tail_lex ps (fun q hq => h q (by simp [hq])) rest line
    show lexP ((32 :: p.bytes ++ tailB ps) ++ 10 :: rest) line = _
    have e : (32 :: p.bytes ++ tailB ps) ++ 10 :: rest = 32 :: (p.bytes ++ (tailB ps ++ 10 :: rest)) := by simp
    rw [e, lexP_white (by decide), pc_lex (h p (by simp)) (not_part_tail ps rest), ih, push_join, join_join]
    rfl
theorem line_lex {ps : List Pc} (h : ∀ p ∈ ps, p.okay) (rest : List UInt8) (line : Nat) : lexP (lineB ps ++ rest) line = ((lexP rest (line + 1)).push (lfT line)).join (ps.map (Pc.tk line)) := by
  cases ps with
  | nil => exact tail_lex [] (fun p hp => by cases hp) rest line
  | cons p ps =>
    have e : lineB (p :: ps) ++ rest = p.bytes ++ (tailB ps ++ 10 :: rest) := by
      show (p.bytes ++ (tailB ps ++ [10])) ++ rest = _
      simp
    rw [e, pc_lex (h p (by simp)) (not_part_tail ps rest), tail_lex ps (fun q hq => h q (by simp [hq])), push_join, join_join]
    rfl
theorem text_lex : ∀ (ls : List (List Pc)), Okay ls → ∀ line, lexP (textOf ls) line = .ok (toksOf ls line)
  | [], _, line => rfl
  | ps :: ls, h, line => by
    have ih := text_lex ls (fun qs hq => h qs (by simp [hq])) (line + 1)
    show lexP (lineB ps ++ textOf ls) line = _
    rw [line_lex (h ps (by simp)), ih]
    rfl

/-! The pieces of a draft. -/
def formI (z : Int) : Option Form := if 0 ≤ z then form z.toNat else none
def rightIt (x : It) : Bool :=
  match formI x.kind with
  | none => false
  | some f => x.n.length == f.count && (decide (2 ≤ f.names) || x.other == []) && (decide (1 ≤ f.names) || f.more || x.name == []) && (f.names == 0 || word x.name) && (decide (f.names < 2) || word x.other) &&
    (!(f.more && x.name != []) || word x.name) && x.n.all (fun z => decide (0 ≤ z)) && (x.kind != 2 || decide (x.n.getD 3 0 ≤ 5))
def right (d : Df) : Bool :=
  decide (d.decks.length ≤ 4) && d.decks.all (fun rows => decide (rows.length ≤ 4096) && rows.all fun r => decide (r.length ≤ 4096)) && decide (d.items.length ≤ 5000) && d.items.all rightIt
def numP (z : Int) : Pc := .num z.toNat
/-- The pieces of an item: its word, its names, its numbers, and a direction or a further name. -/
def itemPs (x : It) : List Pc :=
  match formI x.kind with
  | none => []
  | some f => .w f.word :: ((if 1 ≤ f.names then [Pc.w x.name] else []) ++ (if 2 ≤ f.names then [Pc.w x.other] else []) ++
    (if x.kind = 2 then (x.n.take 3).map numP ++ [Pc.w (dirW (x.n.getD 3 0).toNat)] else x.n.map numP) ++ (if f.names = 0 ∧ x.name ≠ [] then [Pc.w x.name] else []))
def linesOf (d : Df) : List (List Pc) := d.decks.flatMap (fun rows => [Pc.w wDeck] :: rows.map fun r => [Pc.w wRow, Pc.txt r]) ++ d.items.map itemPs
def printP (d : Df) : List UInt8 := if right d = true then textOf (linesOf d) else []

theorem dir_word : ∀ k, k < 6 → word (dirW k) = true ∧ dirOf (dirW k) = some k := by decide +kernel
theorem form_word : ∀ k, k < 6 → word (wordOf k) = true ∧ kindOf (wordOf k) = some k ∧ wordOf k ≠ wDeck ∧ wordOf k ≠ wRow := by decide +kernel

/-- An int that a number can be. -/
abbrev Nn (z : Int) : Prop := 0 ≤ z ∧ z ≤ 9223372036854775807
theorem num_tk {z : Int} (h : Nn z) (line : Nat) : (Pc.tk line (numP z)).kind = 1 ∧ (Pc.tk line (numP z)).n = z := by
  obtain ⟨n, rfl⟩ := Int.eq_ofNat_of_zero_le h.1
  exact ⟨rfl, rfl⟩
theorem nums_back : ∀ (ns : List Int) (line : Nat) (rest : List Tk), (∀ z ∈ ns, Nn z) → numsR ns.length (ns.map (fun z => Pc.tk line (numP z)) ++ rest) = .got ns rest
  | [], line, rest, _ => rfl
  | z :: ns, line, rest, h => by
    have h1 := num_tk (h z (by simp)) line
    have ih := nums_back ns line rest fun y hy => h y (by simp [hy])
    show (takeT 1 (Pc.tk line (numP z) :: (ns.map (fun z => Pc.tk line (numP z)) ++ rest))).then _ = _
    rw [takeT_cons, if_pos h1.1]
    show (numsR ns.length (ns.map (fun z => Pc.tk line (numP z)) ++ rest)).then _ = _
    rw [ih]
    show Rd.got (_ :: ns) rest = _
    rw [h1.2]

end Drf
end Go.Proofs.YtibeangcjfjeiaaDoor

namespace Go.Proofs.YtibeangcjfjeiaaDoor
open Txt Wire Lx
set_option linter.unusedVariables false
set_option maxRecDepth 100000
set_option linter.unusedSimpArgs false
namespace Drf

theorem map_num (ns : List Int) (line : Nat) : (ns.map numP).map (Pc.tk line) = ns.map fun z => Pc.tk line (numP z) := by rw [List.map_map]; rfl
theorem numP_okay {z : Int} (h : Nn z) : (numP z).okay := by
  show z.toNat ≤ _
  obtain ⟨h1, h2⟩ := h
  omega

/-- What an item that is right looks like. -/
inductive Shape : It → Prop where
  | zone (name : List UInt8) (n : List Int) (ln : Int) : word name = true → n.length = 7 → Shape ⟨0, name, [], n, ln⟩
  | shift (name : List UInt8) (n : List Int) (ln : Int) : word name = true → n.length = 2 → Shape ⟨1, name, [], n, ln⟩
  | oneway (a b c d : Int) (ln : Int) : 0 ≤ d → d ≤ 5 → Shape ⟨2, [], [], [a, b, c, d], ln⟩
  | apart (name other : List UInt8) (ln : Int) : word name = true → word other = true → Shape ⟨3, name, other, [], ln⟩
  | shelf (name : List UInt8) (n : List Int) (ln : Int) : (name = [] ∨ word name = true) → n.length = 3 → Shape ⟨4, name, [], n, ln⟩
  | robot (n : List Int) (ln : Int) : n.length = 4 → Shape ⟨5, [], [], n, ln⟩

theorem shape_of {x : It} (h : rightIt x = true) : Shape x ∧ ∀ z ∈ x.n, 0 ≤ z := by
  obtain ⟨kind, name, other, n, ln⟩ := x
  unfold rightIt at h
  simp only at h
  unfold formI at h
  by_cases h0 : 0 ≤ kind
  case neg => rw [if_neg h0] at h; cases h
  rw [if_pos h0] at h
  obtain ⟨k, rfl⟩ := Int.eq_ofNat_of_zero_le h0
  simp only [Int.toNat_natCast] at h
  have all : ∀ {l : List Int}, l.all (fun z => decide (0 ≤ z)) = true → ∀ z ∈ l, 0 ≤ z := fun hl z hz => of_decide_eq_true (List.all_eq_true.1 hl z hz)
  match k with
  | 0 =>
    simp [form] at h
    obtain ⟨⟨⟨h1, h2⟩, h3⟩, h4⟩ := h
    subst h2
    exact ⟨.zone _ _ _ h3 h1, h4⟩
  | 1 =>
    simp [form] at h
    obtain ⟨⟨⟨h1, h2⟩, h3⟩, h4⟩ := h
    subst h2
    exact ⟨.shift _ _ _ h3 h1, h4⟩
  | 2 =>
    simp [form] at h
    obtain ⟨⟨⟨⟨h1, h2⟩, h3⟩, h4⟩, h5⟩ := h
    subst h2 h3
    match n, h1 with
    | [a, b, c, d], _ =>
      exact ⟨.oneway a b c d _ (h4 d (by simp)) (by simpa using h5), h4⟩
  | 3 =>
    simp [form] at h
    obtain ⟨⟨⟨h1, h2⟩, h3⟩, h4⟩ := h
    subst h1
    exact ⟨.apart _ _ _ h2 h3, fun z hz => by cases hz⟩
  | 4 =>
    simp [form] at h
    obtain ⟨⟨⟨h1, h2⟩, h3⟩, h4⟩ := h
    subst h2
    exact ⟨.shelf _ _ _ h3 h1, h4⟩
  | 5 =>
    simp [form] at h
    obtain ⟨⟨⟨h1, h2⟩, h3⟩, h4⟩ := h
    subst h2 h3
    exact ⟨.robot _ _ h1, h4⟩
  | k + 6 => simp [form] at h

theorem shape_okay {x : It} (h : Shape x) (hn : ∀ z ∈ x.n, Nn z) : ∀ p ∈ itemPs x, p.okay := by
  have num : ∀ {l : List Int} {p : Pc}, (∀ z ∈ l, Nn z) → p ∈ l.map numP → p.okay := fun hl hp => by
    obtain ⟨z, hz, rfl⟩ := List.mem_map.1 hp
    exact numP_okay (hl z hz)
  have fw : ∀ k, k < 6 → Pc.okay (.w (wordOf k)) := fun k hk => (form_word k hk).1
  intro p hp
  cases h with
  | zone name n ln hw hl =>
    have hp' : p ∈ Pc.w (wordOf 0) :: Pc.w name :: n.map numP := by simpa [itemPs, formI, form, wordOf] using hp
    simp only [List.mem_cons] at hp'
    rcases hp' with rfl | rfl | hp'
    · exact fw 0 (by decide)
    · exact hw
    · exact num hn hp'
  | shift name n ln hw hl =>
    have hp' : p ∈ Pc.w (wordOf 1) :: Pc.w name :: n.map numP := by simpa [itemPs, formI, form, wordOf] using hp
    simp only [List.mem_cons] at hp'
    rcases hp' with rfl | rfl | hp'
    · exact fw 1 (by decide)
    · exact hw
    · exact num hn hp'
  | oneway a b c d ln h0 h5 =>
    have hp' : p ∈ [Pc.w (wordOf 2), numP a, numP b, numP c, Pc.w (dirW d.toNat)] := by simpa [itemPs, formI, form, wordOf] using hp
    simp only [List.mem_cons, List.mem_nil_iff, or_false] at hp'
    rcases hp' with rfl | rfl | rfl | rfl | rfl
    · exact fw 2 (by decide)
    · exact numP_okay (hn a (by simp))
    · exact numP_okay (hn b (by simp))
    · exact numP_okay (hn c (by simp))
    · exact (dir_word d.toNat (by omega)).1
  | apart name other ln hw ho =>
    have hp' : p ∈ [Pc.w (wordOf 3), Pc.w name, Pc.w other] := by simpa [itemPs, formI, form, wordOf] using hp
    simp only [List.mem_cons, List.mem_nil_iff, or_false] at hp'
    rcases hp' with rfl | rfl | rfl
    · exact fw 3 (by decide)
    · exact hw
    · exact ho
  | shelf name n ln hw hl =>
    rcases hw with rfl | hw
    · have hp' : p ∈ Pc.w (wordOf 4) :: n.map numP := by simpa [itemPs, formI, form, wordOf] using hp
      simp only [List.mem_cons] at hp'
      rcases hp' with rfl | hp'
      · exact fw 4 (by decide)
      · exact num hn hp'
    · have hne : name ≠ [] := by
        rintro rfl
        exact absurd hw (by decide)
      have hp' : p ∈ Pc.w (wordOf 4) :: (n.map numP ++ [Pc.w name]) := by simpa [itemPs, formI, form, wordOf, hne] using hp
      simp only [List.mem_cons, List.mem_append, List.mem_nil_iff, or_false] at hp'
      rcases hp' with rfl | hp' | rfl
      · exact fw 4 (by decide)
      · exact num hn hp'
      · exact hw
  | robot n ln hl =>
    have hp' : p ∈ Pc.w (wordOf 5) :: n.map numP := by simpa [itemPs, formI, form, wordOf] using hp
    simp only [List.mem_cons] at hp'
    rcases hp' with rfl | hp'
    · exact fw 5 (by decide)
    · exact num hn hp'

theorem nums_back' {ns : List Int} {k : Nat} (hk : ns.length = k) (line : Nat) (rest : List Tk) (h : ∀ z ∈ ns, Nn z) : numsR k (ns.map (fun z => Pc.tk line (numP z)) ++ rest) = .got ns rest := by
  rw [← hk]
  exact nums_back ns line rest h
theorem name_back (b : List UInt8) (line : Nat) (rest : List Tk) : takeT 0 (Pc.tk line (.w b) :: rest) = .got ⟨0, b, 0, line⟩ rest := rfl
theorem dir_back {d : Int} (h0 : 0 ≤ d) (h5 : d ≤ 5) (line : Nat) (rest : List Tk) : dirR (Pc.tk line (.w (dirW d.toNat)) :: rest) = .got d rest := by
  show dirR (⟨0, dirW d.toNat, 0, line⟩ :: rest) = _
  rw [dirR_cons, if_pos rfl]
  simp only [(dir_word d.toNat (by omega)).2]
  rw [show ((d.toNat : Nat) : Int) = d from by omega]

theorem item_zone (name : List UInt8) (line : Nat) (l : List Tk) : itemR 0 line (Pc.tk line (.w name) :: l) = (numsR 7 l).then fun ns r' => .got ⟨0, name, [], ns, line⟩ r' := rfl
theorem item_shift (name : List UInt8) (line : Nat) (l : List Tk) : itemR 1 line (Pc.tk line (.w name) :: l) = (numsR 2 l).then fun ns r' => .got ⟨1, name, [], ns, line⟩ r' := rfl
/-- An item is read from its pieces as it was, but for the line. -/
theorem item_back {x : It} (h : Shape x) (hn : ∀ z ∈ x.n, Nn z) (line : Nat) (u : Tk) (rest : List Tk) (hu : u.kind ≠ 0) :
    ∃ k ps, k < 6 ∧ itemPs x = .w (wordOf k) :: ps ∧ itemR k line (ps.map (Pc.tk line) ++ u :: rest) = .got { x with line := line } (u :: rest) := by
  cases h with
  | zone name n ln hw hl =>
    refine ⟨0, Pc.w name :: n.map numP, by decide, by simp [itemPs, formI, form, wordOf], ?_⟩
    rw [List.map_cons, map_num, List.cons_append]
    rw [item_zone, nums_back' hl line (u :: rest) hn]
    rfl
  | shift name n ln hw hl =>
    refine ⟨1, Pc.w name :: n.map numP, by decide, by simp [itemPs, formI, form, wordOf], ?_⟩
    rw [List.map_cons, map_num, List.cons_append]
    rw [item_shift, nums_back' hl line (u :: rest) hn]
    rfl
  | oneway a b c d ln h0 h5 =>
    refine ⟨2, [a, b, c].map numP ++ [Pc.w (dirW d.toNat)], by decide, by simp [itemPs, formI, form, wordOf], ?_⟩
    have h3 := nums_back' (ns := [a, b, c]) (k := 3) rfl line (Pc.tk line (.w (dirW d.toNat)) :: u :: rest) fun z hz => hn z (by
      simp only [List.mem_cons, List.mem_nil_iff, or_false] at hz ⊢
      rcases hz with h | h | h
      · exact .inl h
      · exact .inr (.inl h)
      · exact .inr (.inr (.inl h)))
    have e : ([a, b, c].map numP ++ [Pc.w (dirW d.toNat)]).map (Pc.tk line) ++ u :: rest = [a, b, c].map (fun z => Pc.tk line (numP z)) ++ Pc.tk line (.w (dirW d.toNat)) :: u :: rest := by simp
    rw [e]
    show (allR 2 4 _).then _ = _
    simp only [allR, if_true]
    rw [h3]
    simp only [Rd.then]
    rw [dir_back h0 h5]
    rfl
  | apart name other ln hw ho =>
    refine ⟨3, [Pc.w name, Pc.w other], by decide, by simp [itemPs, formI, form, wordOf], ?_⟩
    rfl
  | shelf name n ln hw hl =>
    rcases hw with rfl | hw
    · refine ⟨4, n.map numP, by decide, by simp [itemPs, formI, form, wordOf], ?_⟩
      rw [map_num]
      show (allR 4 3 _).then _ = _
      simp only [allR]
      rw [if_neg (by decide), nums_back' hl line (u :: rest) hn]
      have hm : moreR true (u :: rest) = ([], u :: rest) := by
        show (if u.kind = 0 then _ else _) = _
        rw [if_neg hu]
      show Rd.got (⟨4, (moreR true (u :: rest)).1, [], n, line⟩ : It) (moreR true (u :: rest)).2 = _
      rw [hm]
    · have hne : name ≠ [] := by
        rintro rfl
        exact absurd hw (by decide)
      refine ⟨4, n.map numP ++ [Pc.w name], by decide, by simp [itemPs, formI, form, wordOf, hne], ?_⟩
      rw [List.map_append, map_num, List.append_assoc]
      show (allR 4 3 _).then _ = _
      simp only [allR]
      rw [if_neg (by decide), nums_back' hl line _ hn]
      rfl
  | robot n ln hl =>
    refine ⟨5, n.map numP, by decide, by simp [itemPs, formI, form, wordOf], ?_⟩
    rw [map_num]
    show (allR 5 4 _).then _ = _
    simp only [allR]
    rw [if_neg (by decide), nums_back' hl line (u :: rest) hn]
    rfl

end Drf
end Go.Proofs.YtibeangcjfjeiaaDoor

namespace Go.Proofs.YtibeangcjfjeiaaDoor
open Txt Wire Lx
set_option linter.unusedVariables false
set_option maxRecDepth 100000
set_option linter.unusedSimpArgs false
namespace Drf

theorem toks_head (ls : List (List Pc)) (line : Nat) (ps : List Pc) : toksOf (ps :: ls) line = ps.map (Pc.tk line) ++ lfT line :: toksOf ls (line + 1) := rfl
theorem parse_deck {d : Df} (h : d.decks.length < 4) (ls : List (List Pc)) (line : Nat) : parseT d (toksOf ([Pc.w wDeck] :: ls) line) = parseT { d with decks := d.decks ++ [[]] } (toksOf ls (line + 1)) := by
  have hl : lineR d ⟨0, wDeck, 0, line⟩ (lfT line :: toksOf ls (line + 1)) = .inr ({ d with decks := d.decks ++ [[]] }, lfT line :: toksOf ls (line + 1)) := by
    unfold lineR
    rw [if_neg (by simp), if_pos rfl, if_neg (by omega)]
  show parseT d (⟨0, wDeck, 0, line⟩ :: lfT line :: toksOf ls (line + 1)) = _
  rw [parse_line (by simp) (by simp) hl (by rfl), parse_lf (by rfl)]
theorem parse_row {d : Df} (h0 : d.decks ≠ []) (h1 : (d.decks.getLastD []).length < 4096) {r : List UInt8} (h2 : r.length ≤ 4096) (ls : List (List Pc)) (line : Nat) :
    parseT d (toksOf ([Pc.w wRow, Pc.txt r] :: ls) line) = parseT (d.row r) (toksOf ls (line + 1)) := by
  have hl : lineR d ⟨0, wRow, 0, line⟩ (⟨2, r, 0, line⟩ :: lfT line :: toksOf ls (line + 1)) = .inr (d.row r, lfT line :: toksOf ls (line + 1)) := by
    unfold lineR
    rw [if_neg (by simp), if_neg (by show wRow ≠ wDeck; decide), if_pos ⟨rfl, h0⟩, if_neg (by omega)]
    simp only [takeT_cons, if_true]
    rw [if_neg (by omega)]
  show parseT d (⟨0, wRow, 0, line⟩ :: ⟨2, r, 0, line⟩ :: lfT line :: toksOf ls (line + 1)) = _
  rw [parse_line (by simp) (by simp) hl (by rfl), parse_lf (by rfl)]
theorem parse_item {d : Df} (h0 : d.items.length < 5000) {x : It} (h : Shape x) (hn : ∀ z ∈ x.n, Nn z) (ls : List (List Pc)) (line : Nat) :
    parseT d (toksOf (itemPs x :: ls) line) = parseT { d with items := d.items ++ [{ x with line := line }] } (toksOf ls (line + 1)) := by
  obtain ⟨k, ps, hk, e, hr⟩ := item_back h hn line (lfT line) (toksOf ls (line + 1)) (by show (3 : Nat) ≠ 0; decide)
  have hf := form_word k hk
  have hl : lineR d ⟨0, wordOf k, 0, line⟩ (ps.map (Pc.tk line) ++ lfT line :: toksOf ls (line + 1)) = .inr ({ d with items := d.items ++ [{ x with line := line }] }, lfT line :: toksOf ls (line + 1)) := by
    unfold lineR
    rw [if_neg (by simp), if_neg hf.2.2.1, if_neg (fun e => hf.2.2.2 e.1)]
    simp only [hf.2.1]
    rw [if_neg (by omega), hr]
  rw [toks_head, e]
  show parseT d (⟨0, wordOf k, 0, line⟩ :: (ps.map (Pc.tk line) ++ lfT line :: toksOf ls (line + 1))) = _
  rw [parse_line (by simp) (by simp) hl (by rfl), parse_lf (by rfl)]

theorem row_of (D : List (List (List UInt8))) (acc : List (List UInt8)) (I : List It) (r : List UInt8) : (⟨D ++ [acc], I⟩ : Df).row r = ⟨D ++ [acc ++ [r]], I⟩ := by
  unfold Df.row
  simp
theorem parse_rows (D : List (List (List UInt8))) (I : List It) (ls : List (List Pc)) : ∀ (rows acc : List (List UInt8)) (line : Nat), acc.length + rows.length ≤ 4096 → (∀ r ∈ rows, r.length ≤ 4096) →
    parseT ⟨D ++ [acc], I⟩ (toksOf (rows.map (fun r => [Pc.w wRow, Pc.txt r]) ++ ls) line) = parseT ⟨D ++ [acc ++ rows], I⟩ (toksOf ls (line + rows.length))
  | [], acc, line, _, _ => by simp
  | r :: rows, acc, line, h, hr => by
    simp only [List.length_cons] at h
    have ih := parse_rows D I ls rows (acc ++ [r]) (line + 1) (by simp; omega) fun q hq => hr q (by simp [hq])
    show parseT ⟨D ++ [acc], I⟩ (toksOf ([Pc.w wRow, Pc.txt r] :: (rows.map (fun r => [Pc.w wRow, Pc.txt r]) ++ ls)) line) = _
    rw [parse_row (by simp) (by simp; omega) (hr r (by simp)), row_of, ih]
    simp only [List.append_assoc, List.singleton_append, List.length_cons]
    rw [show line + 1 + rows.length = line + (rows.length + 1) by omega]
def deckLs (decks : List (List (List UInt8))) : List (List Pc) := decks.flatMap fun rows => [Pc.w wDeck] :: rows.map fun r => [Pc.w wRow, Pc.txt r]
theorem parse_decks (I : List It) (ls : List (List Pc)) : ∀ (decks D : List (List (List UInt8))) (line : Nat), D.length + decks.length ≤ 4 → (∀ rows ∈ decks, rows.length ≤ 4096 ∧ ∀ r ∈ rows, r.length ≤ 4096) →
    parseT ⟨D, I⟩ (toksOf (deckLs decks ++ ls) line) = parseT ⟨D ++ decks, I⟩ (toksOf ls (line + (deckLs decks).length))
  | [], D, line, _, _ => by simp [deckLs]
  | rows :: decks, D, line, h, hr => by
    simp only [List.length_cons] at h
    have hrows := hr rows (by simp)
    have ih := parse_decks I ls decks (D ++ [rows]) (line + 1 + rows.length) (by simp; omega) fun q hq => hr q (by simp [hq])
    have e : deckLs (rows :: decks) ++ ls = [Pc.w wDeck] :: (rows.map (fun r => [Pc.w wRow, Pc.txt r]) ++ (deckLs decks ++ ls)) := by simp [deckLs]
    have el : (deckLs (rows :: decks)).length = 1 + rows.length + (deckLs decks).length := by simp [deckLs]; omega
    rw [e, parse_deck (by show D.length < 4; omega)]
    show parseT ⟨D ++ [[]], I⟩ _ = _
    rw [parse_rows D I (deckLs decks ++ ls) rows [] (line + 1) (by simp; exact hrows.1) hrows.2, List.nil_append, ih, el]
    simp only [List.append_assoc, List.singleton_append]
    rw [show line + 1 + rows.length + (deckLs decks).length = line + (1 + rows.length + (deckLs decks).length) by omega]
/-- The items, with the lines on which they are read. -/
def lined : List It → Nat → List It
  | [], _ => []
  | x :: l, line => { x with line := line } :: lined l (line + 1)
theorem parse_items (D : List (List (List UInt8))) : ∀ (items I : List It) (line : Nat), I.length + items.length ≤ 5000 → (∀ x ∈ items, Shape x ∧ ∀ z ∈ x.n, Nn z) →
    parseT ⟨D, I⟩ (toksOf (items.map itemPs) line) = .ok ⟨D, I ++ lined items line⟩
  | [], I, line, _, _ => by
    rw [show I ++ lined [] line = I from List.append_nil I]
    exact parse_end rfl
  | x :: items, I, line, h, hr => by
    simp only [List.length_cons] at h
    have ih := parse_items D items (I ++ [{ x with line := line }]) (line + 1) (by simp; omega) fun q hq => hr q (by simp [hq])
    have hx := hr x (by simp)
    show parseT ⟨D, I⟩ (toksOf (itemPs x :: items.map itemPs) line) = _
    rw [parse_item (by show I.length < 5000; omega) hx.1 hx.2, ih]
    simp [lined]

/-- All numbers are ints of Go. -/
def Ints (d : Df) : Prop := ∀ x ∈ d.items, ∀ z ∈ x.n, z ≤ 9223372036854775807
theorem right_parts {d : Df} (h : right d = true) : d.decks.length ≤ 4 ∧ (∀ rows ∈ d.decks, rows.length ≤ 4096 ∧ ∀ r ∈ rows, r.length ≤ 4096) ∧ d.items.length ≤ 5000 ∧ ∀ x ∈ d.items, rightIt x = true := by
  unfold right at h
  simp only [Bool.and_eq_true, decide_eq_true_eq, List.all_eq_true] at h
  exact ⟨h.1.1.1, h.1.1.2, h.1.2, h.2⟩
theorem lines_of (d : Df) : linesOf d = deckLs d.decks ++ d.items.map itemPs := rfl
theorem lines_okay {d : Df} (h : right d = true) (hi : Ints d) : Okay (linesOf d) := by
  obtain ⟨h1, h2, h3, h4⟩ := right_parts h
  intro ps hps p hp
  rw [lines_of] at hps
  rcases List.mem_append.1 hps with hps | hps
  · obtain ⟨rows, _, hps⟩ := List.mem_flatMap.1 hps
    rcases List.mem_cons.1 hps with rfl | hps
    · obtain rfl : p = Pc.w wDeck := by simpa using hp
      show word wDeck = true
      decide
    · obtain ⟨r, _, rfl⟩ := List.mem_map.1 hps
      simp only [List.mem_cons, List.mem_nil_iff, or_false] at hp
      rcases hp with rfl | rfl
      · show word wRow = true
        decide
      · trivial
  · obtain ⟨x, hx, rfl⟩ := List.mem_map.1 hps
    obtain ⟨hs, h0⟩ := shape_of (h4 x hx)
    exact shape_okay hs (fun z hz => ⟨h0 z hz, hi x hx z hz⟩) p hp
/-- A right draft is read from its text as it was, but for the lines. -/
theorem parse_back {d : Df} (h : right d = true) (hi : Ints d) (hl : (printP d).length ≤ 20000) : parseP (printP d) = .ok ⟨d.decks, lined d.items (1 + (deckLs d.decks).length)⟩ := by
  obtain ⟨h1, h2, h3, h4⟩ := right_parts h
  unfold parseP lexAll
  rw [if_neg (by omega)]
  unfold printP
  rw [if_pos h, text_lex _ (lines_okay h hi)]
  show parseT ⟨[], []⟩ (toksOf (linesOf d) 1) = _
  rw [lines_of, parse_decks [] _ d.decks [] 1 (by simpa using h1) h2, parse_items _ d.items [] _ (by simpa using h3) fun x hx => ⟨(shape_of (h4 x hx)).1, fun z hz => ⟨(shape_of (h4 x hx)).2 z hz, hi x hx z hz⟩⟩]
  simp

end Drf
end Go.Proofs.YtibeangcjfjeiaaDoor

namespace Go.Proofs.YtibeangcjfjeiaaDoor
open Txt Wire Lx
set_option linter.unusedVariables false
set_option maxRecDepth 100000
set_option linter.unusedSimpArgs false
namespace Drf

/-- What the tokens of a source are like. -/
def TokOk (t : Tk) : Prop := (t.kind = 0 → word t.text = true) ∧ (t.kind = 1 → Nn t.n)
theorem lex_toks : ∀ a line, ∀ l, lexP a line = .ok l → ∀ t ∈ l, TokOk t := by
  refine lexP_ind (fun line x h => ?_) (fun c r line hw ih x h => ?_) (fun r line ih x h => ?_) (fun c r line e hw h35 ht x h => ?_) (fun c r line kind text n rest hw h35 ht ih x h => ?_)
  · rw [lexP_nil] at h
    cases h
    intro t ht
    obtain rfl : t = fin line := by simpa using ht
    exact ⟨fun e => (by cases e), fun e => (by cases e)⟩
  · rw [lexP_white hw] at h
    exact ih x h
  · rw [lexP_note] at h
    exact ih x h
  · rw [lexP_bad hw h35 ht] at h
    cases h
  · rw [lexP_got hw h35 ht] at h
    cases hr : lexP rest (nxt kind line) with
    | bad e k => rw [hr] at h; cases h
    | ok l =>
      rw [hr] at h
      cases h
      intro t hm
      rcases List.mem_cons.1 hm with rfl | hm
      · rcases tok_is ht with ⟨rfl, _⟩ | ⟨rfl, _⟩ | ⟨rfl, _, h5, _⟩ | ⟨rfl, ⟨m, hm, rfl, _⟩, _⟩
        · exact ⟨fun e => (by cases e), fun e => (by cases e)⟩
        · exact ⟨fun e => (by cases e), fun e => (by cases e)⟩
        · exact ⟨fun _ => h5, fun e => (by cases e)⟩
        · exact ⟨fun e => (by cases e), fun _ => ⟨(by show (0 : Int) ≤ m; omega), (by show (m : Int) ≤ _; omega)⟩⟩
      · exact ih l hr t hm

theorem then_got {α β : Type} {a : Rd α} {f : α → List Tk → Rd β} {b : β} {r : List Tk} (h : a.then f = .got b r) : ∃ x r1, a = .got x r1 ∧ f x r1 = .got b r := by
  cases a with
  | bad L => cases h
  | got x r1 => exact ⟨x, r1, rfl, h⟩
abbrev AllOk (l : List Tk) : Prop := ∀ t ∈ l, TokOk t
theorem nums_ok : ∀ (k : Nat) (l r : List Tk) (ns : List Int), numsR k l = .got ns r → AllOk l → AllOk r ∧ ns.length = k ∧ ∀ z ∈ ns, Nn z
  | 0, l, r, ns, h, ho => by
    cases h
    exact ⟨ho, rfl, fun z hz => by cases hz⟩
  | k + 1, l, r, ns, h, ho => by
    obtain ⟨t, r1, ht, h⟩ := then_got h
    obtain ⟨ms, r2, hn, h⟩ := then_got h
    cases h
    obtain ⟨rfl, hk⟩ := take_len ht
    obtain ⟨h1, h2, h3⟩ := nums_ok k r1 _ ms hn fun u hu => ho u (by simp [hu])
    refine ⟨h1, by simp [h2], fun z hz => ?_⟩
    rcases List.mem_cons.1 hz with rfl | hz
    · exact (ho t (by simp)).2 hk
    · exact h3 z hz
theorem name_ok {l r : List Tk} {t : Tk} (h : takeT 0 l = .got t r) (ho : AllOk l) : AllOk r ∧ word t.text = true := by
  obtain ⟨rfl, hk⟩ := take_len h
  exact ⟨fun u hu => ho u (by simp [hu]), (ho t (by simp)).1 hk⟩
theorem dirOf_lt {w : List UInt8} {d : Nat} (h : dirOf w = some d) : d < 6 := List.mem_range.1 (List.mem_of_find?_eq_some h)
theorem kindOf_lt {w : List UInt8} {k : Nat} (h : kindOf w = some k) : k < 6 := List.mem_range.1 (List.mem_of_find?_eq_some h)
theorem dir_ok {l r : List Tk} {d : Int} (h : dirR l = .got d r) (ho : AllOk l) : AllOk r ∧ 0 ≤ d ∧ d ≤ 5 := by
  cases l with
  | nil => cases h
  | cons t l =>
    rw [dirR_cons] at h
    by_cases hk : t.kind = 0
    · rw [if_pos hk] at h
      cases hd : dirOf t.text with
      | none => rw [hd] at h; cases h
      | some e =>
        rw [hd] at h
        cases h
        have := dirOf_lt hd
        exact ⟨fun u hu => ho u (by simp [hu]), by omega, by omega⟩
    · rw [if_neg hk] at h
      cases h
theorem more_ok (l : List Tk) (ho : AllOk l) : AllOk (moreR true l).2 ∧ ((moreR true l).1 = [] ∨ word (moreR true l).1 = true) := by
  cases l with
  | nil => exact ⟨ho, .inl rfl⟩
  | cons t r =>
    have e : moreR true (t :: r) = if t.kind = 0 then (t.text, r) else ([], t :: r) := rfl
    rw [e]
    by_cases hk : t.kind = 0
    · rw [if_pos hk]
      exact ⟨fun u hu => ho u (by simp [hu]), .inr ((ho t (by simp)).1 hk)⟩
    · rw [if_neg hk]
      exact ⟨ho, .inl rfl⟩
theorem all_nn {ns : List Int} (h : ∀ z ∈ ns, Nn z) : ns.all (fun z => decide (0 ≤ z)) = true := List.all_eq_true.2 fun z hz => decide_eq_true (h z hz).1

theorem item_ok {k line : Nat} (hk : k < 6) {l r : List Tk} {x : It} (h : itemR k line l = .got x r) (ho : AllOk l) : AllOk r ∧ rightIt x = true ∧ ∀ z ∈ x.n, z ≤ 9223372036854775807 := by
  match k, hk with
  | 0, _ =>
    obtain ⟨nm, r1, h1, h⟩ := then_got h
    obtain ⟨ns, r2, h2, h⟩ := then_got h
    cases h
    obtain ⟨t, r0, ht, h1⟩ := then_got h1
    obtain ⟨ms, r3, hm, h1⟩ := then_got h1
    cases hm
    cases h1
    obtain ⟨o1, hw⟩ := name_ok ht ho
    obtain ⟨o2, hl, hn⟩ := nums_ok 7 _ _ ns h2 o1
    refine ⟨o2, ?_, fun z hz => (hn z hz).2⟩
    have ha := all_nn hn
    simp [rightIt, formI, form, hl, hw] at ha ⊢
    exact ha
  | 1, _ =>
    obtain ⟨nm, r1, h1, h⟩ := then_got h
    obtain ⟨ns, r2, h2, h⟩ := then_got h
    cases h
    obtain ⟨t, r0, ht, h1⟩ := then_got h1
    obtain ⟨ms, r3, hm, h1⟩ := then_got h1
    cases hm
    cases h1
    obtain ⟨o1, hw⟩ := name_ok ht ho
    obtain ⟨o2, hl, hn⟩ := nums_ok 2 _ _ ns h2 o1
    refine ⟨o2, ?_, fun z hz => (hn z hz).2⟩
    have ha := all_nn hn
    simp [rightIt, formI, form, hl, hw] at ha ⊢
    exact ha
  | 2, _ =>
    obtain ⟨ns, r2, h2, h⟩ := then_got h
    cases h
    obtain ⟨ms, r3, hm, h2⟩ := then_got (show (numsR 3 l).then _ = .got ns r2 from h2)
    obtain ⟨d, r4, hd, h2⟩ := then_got h2
    cases h2
    obtain ⟨o1, hl, hn⟩ := nums_ok 3 _ _ ms hm ho
    obtain ⟨o2, d0, d5⟩ := dir_ok hd o1
    match ms, hl with
    | [a, b, c], _ =>
      have ha := hn a (by simp)
      have hb := hn b (by simp)
      have hc := hn c (by simp)
      refine ⟨o2, ?_, fun z hz => ?_⟩
      · simp [rightIt, formI, form, ha.1, hb.1, hc.1, d0, d5]
      · simp at hz
        rcases hz with rfl | rfl | rfl | rfl
        · exact ha.2
        · exact hb.2
        · exact hc.2
        · omega
  | 3, _ =>
    obtain ⟨nm, r1, h1, h⟩ := then_got h
    obtain ⟨ns, r2, h2, h⟩ := then_got h
    cases h
    cases h2
    obtain ⟨t, r0, ht, h1⟩ := then_got h1
    obtain ⟨ms, r3, hm, h1⟩ := then_got h1
    cases h1
    obtain ⟨u, r5, hu, hm⟩ := then_got hm
    obtain ⟨ms2, r6, hm2, hm⟩ := then_got hm
    cases hm2
    cases hm
    obtain ⟨o1, hw⟩ := name_ok ht ho
    obtain ⟨o2, hw2⟩ := name_ok hu o1
    refine ⟨o2, ?_, fun z hz => by cases hz⟩
    simp [rightIt, formI, form, hw, hw2]
  | 4, _ =>
    obtain ⟨ns, r2, h2, h⟩ := then_got h
    cases h
    obtain ⟨o2, hl, hn⟩ := nums_ok 3 _ _ ns h2 ho
    obtain ⟨o3, hm⟩ := more_ok r2 o2
    refine ⟨o3, ?_, fun z hz => (hn z hz).2⟩
    have ha := all_nn hn
    show rightIt ⟨4, (moreR true r2).1, [], ns, line⟩ = true
    simp [rightIt, formI, form, hl] at ha ⊢
    exact ⟨hm, ha⟩
  | 5, _ =>
    obtain ⟨ns, r2, h2, h⟩ := then_got h
    cases h
    obtain ⟨o2, hl, hn⟩ := nums_ok 4 _ _ ns h2 ho
    refine ⟨o2, ?_, fun z hz => (hn z hz).2⟩
    have ha := all_nn hn
    simp [rightIt, formI, form, hl] at ha ⊢
    exact ha

end Drf
end Go.Proofs.YtibeangcjfjeiaaDoor

/- What the tokens of two sources, of a source with blanks, of what Write makes, and of one token are; nothing of the program is imported. -/
import Derived.Test.YtibeangcjfjeiaaDoorMgD
namespace Go.Proofs.YtibeangcjfjeiaaDoor
open Txt Wire
set_option linter.unusedVariables false
set_option maxRecDepth 100000
set_option linter.unusedSimpArgs false
namespace Lx

/-! A source with something behind it. -/
theorem clo_more : ∀ (r : List UInt8) (odd : Bool) (k : Nat) (x : List UInt8), clo odd r = some k → clo odd (r ++ x) = some k
  | [], odd, k, x, h => by cases h
  | c :: r, odd, k, x, h => by
    unfold clo at h
    show clo odd (c :: (r ++ x)) = _
    unfold clo
    split at h
    · rw [if_pos ‹_›]
      exact h
    · rw [if_neg ‹_›]
      obtain ⟨j, hj, rfl⟩ := Option.map_eq_some_iff.1 h
      rw [clo_more r _ j x hj]
      rfl

theorem take_stop (p : UInt8 → Bool) (l x : List UInt8) (hx : ∀ c r, x = c :: r → p c = false) : (l ++ x).takeWhile p = l.takeWhile p ∧ (l ++ x).dropWhile p = l.dropWhile p ++ x := by
  induction l with
  | nil =>
    cases x with
    | nil => exact ⟨rfl, rfl⟩
    | cons c r =>
      have := hx c r rfl
      simp [this]
  | cons c l ih =>
    cases hc : p c with
    | true => simp [hc, ih.1, ih.2]
    | false => simp [hc]

theorem wordT_rest {w rest : List UInt8} {kind : Nat} {text : List UInt8} {n : Int} {rest' : List UInt8} (x : List UInt8) (h : wordT w rest = .got kind text n rest') : rest' = rest ∧ wordT w x = .got kind text n x := by
  unfold wordT at h ⊢
  split at h
  · cases h
    rw [if_pos ‹_›]
    exact ⟨rfl, rfl⟩
  · split at h
    · cases h
      rw [if_neg ‹_›, if_pos ‹_›]
      exact ⟨rfl, rfl⟩
    · split at h <;> cases h

theorem tok_more {c : UInt8} {r : List UInt8} {kind : Nat} {text : List UInt8} {n : Int} {rest : List UInt8} (x : List UInt8) (hx : ∀ d s, x = d :: s → isP d = false) (h : tok c r = .got kind text n rest) :
    tok c (r ++ x) = .got kind text n (rest ++ x) := by
  unfold tok at h ⊢
  split at h
  · cases h
    rw [if_pos ‹_›]
  · rw [if_neg ‹_›]
    split at h
    · rw [if_pos ‹_›]
      unfold textT at h ⊢
      split at h
      · cases h
      · rename_i k hk
        have hl := clo_le _ _ _ hk
        rw [clo_more _ _ _ x hk]
        simp only
        rw [List.take_append_of_le_length hl.2, List.drop_append_of_le_length hl.2]
        split at h
        · cases h
          rw [if_pos ‹_›]
        · cases h
    · rw [if_neg ‹_›]
      split at h
      · rw [if_pos ‹_›]
        have hs := take_stop isP (c :: r) x hx
        rw [List.cons_append] at hs
        obtain ⟨rfl, h2⟩ := wordT_rest ((c :: r).dropWhile isP ++ x) h
        rw [hs.1, hs.2]
        exact h2
      · cases h

theorem isP_10 : isP 10 = false := by decide
theorem isW_10 : isW 10 = false := by decide

/-- What the tokens of a source end with. -/
theorem lexP_last : ∀ a line x, lexP a line = .ok x → ∃ init L, x = init ++ [fin L] ∧ line ≤ L := by
  have key : ∀ a line, ∀ x, lexP a line = .ok x → ∃ init L, x = init ++ [fin L] ∧ line ≤ L := by
    refine lexP_ind (fun line x h => ?_) (fun c r line hw ih x h => ?_) (fun r line ih x h => ?_) (fun c r line e hw h35 ht x h => ?_) (fun c r line kind text n rest hw h35 ht ih x h => ?_)
    · rw [lexP_nil] at h
      cases h
      exact ⟨[], line, rfl, Nat.le_refl _⟩
    · rw [lexP_white hw] at h
      exact ih x h
    · rw [lexP_note] at h
      exact ih x h
    · rw [lexP_bad hw h35 ht] at h
      cases h
    · rw [lexP_got hw h35 ht] at h
      cases hr : lexP rest (nxt kind line) with
      | bad e k => rw [hr] at h; cases h
      | ok l =>
        rw [hr] at h
        cases h
        obtain ⟨init, L, rfl, hL⟩ := ih l hr
        refine ⟨_ :: init, L, rfl, ?_⟩
        unfold nxt at hL
        split at hL <;> omega
  exact key

/-- Two sources with an LF between them. -/
theorem lexP_lf (b : List UInt8) : ∀ a line, ∀ init L, lexP a line = .ok (init ++ [fin L]) → lexP (a ++ 10 :: b) line = ((lexP b (L + 1)).push ⟨3, [], 0, L⟩).join init := by
  refine lexP_ind (fun line init L h => ?_) (fun c r line hw ih init L h => ?_) (fun r line ih init L h => ?_) (fun c r line e hw h35 ht init L h => ?_) (fun c r line kind text n rest hw h35 ht ih init L h => ?_)
  · rw [lexP_nil] at h
    injection h with h
    have hl : init.length = 0 := by
      have := congrArg List.length h
      simp at this
      rw [this]
      rfl
    obtain rfl := List.eq_nil_of_length_eq_zero hl
    simp only [List.nil_append, List.cons.injEq, and_true] at h
    have hL : line = L := congrArg Tk.line h
    subst hL
    rw [join_nil]
    exact lexP_got isW_10 (by decide) rfl
  · rw [lexP_white hw] at h
    rw [List.cons_append, lexP_white hw]
    exact ih init L h
  · rw [lexP_note] at h
    rw [List.cons_append, lexP_note, (take_stop no10 r (10 :: b) (by intro c r h; cases h; decide)).2]
    exact ih init L h
  · rw [lexP_bad hw h35 ht] at h
    cases h
  · rw [lexP_got hw h35 ht] at h
    rw [List.cons_append, lexP_got hw h35 (tok_more (10 :: b) (by intro d s h; cases h; exact isP_10) ht)]
    cases hr : lexP rest (nxt kind line) with
    | bad e k => rw [hr] at h; cases h
    | ok l =>
      rw [hr] at h
      obtain ⟨i2, L2, rfl, _⟩ := lexP_last _ _ _ hr
      simp only [Lr.push, Lr.ok.injEq] at h
      obtain ⟨rfl, hl⟩ : init = ⟨kind, text, n, line⟩ :: i2 ∧ L = L2 := by
        have h' : (⟨kind, text, n, line⟩ :: i2) ++ [fin L2] = init ++ [fin L] := h
        have := List.append_inj' h' rfl
        refine ⟨this.1.symm, ?_⟩
        have h3 : fin L2 = fin L := by simpa using this.2
        exact (congrArg Tk.line h3).symm
      subst hl
      rw [ih i2 L hr, push_join, join_join]
      rfl

/-- White bytes and a comment, in front of which a word ends. -/
theorem lexP_tail (t : List UInt8) (h10 : ∀ c ∈ t, c ≠ 10) (hp : ∀ c r, t = c :: r → isP c = false) (ht0 : ∀ line, lexP t line = .ok [fin line]) : ∀ a line, ∀ x, lexP a line = .ok x → lexP (a ++ t) line = .ok x := by
  refine lexP_ind (fun line x h => ?_) (fun c r line hw ih x h => ?_) (fun r line ih x h => ?_) (fun c r line e hw h35 ht x h => ?_) (fun c r line kind text n rest hw h35 ht ih x h => ?_)
  · rw [lexP_nil] at h
    rw [List.nil_append, ht0]
    exact h
  · rw [lexP_white hw] at h
    rw [List.cons_append, lexP_white hw]
    exact ih x h
  · rw [lexP_note] at h
    rw [List.cons_append, lexP_note]
    cases hd : r.dropWhile no10 with
    | nil =>
      have e : (r ++ t).dropWhile no10 = [] := by
        rw [List.dropWhile_append, hd]
        simp only [List.isEmpty_nil, if_true]
        apply List.eq_nil_iff_forall_not_mem.2
        intro c hc
        cases he : t.dropWhile no10 with
        | nil => rw [he] at hc; cases hc
        | cons d s =>
          have h1 := drop_head he
          have h2 : d ∈ t := (List.dropWhile_suffix no10).subset (by rw [he]; exact List.mem_cons_self)
          have := h10 d h2
          simp [no10] at h1
          exact this h1
      rw [e]
      rw [hd] at h
      exact h
    | cons d s =>
      have e : (r ++ t).dropWhile no10 = r.dropWhile no10 ++ t := by
        rw [List.dropWhile_append, hd]
        rfl
      rw [e]
      exact ih x h
  · rw [lexP_bad hw h35 ht] at h
    cases h
  · rw [lexP_got hw h35 ht] at h
    rw [List.cons_append, lexP_got hw h35 (tok_more t hp ht)]
    cases hr : lexP rest (nxt kind line) with
    | bad e k => rw [hr] at h; cases h
    | ok l =>
      rw [hr] at h
      rw [ih l hr]
      exact h

theorem drop_all {l x : List UInt8} {p : UInt8 → Bool} (h : ∀ c ∈ l, p c = true) : (l ++ x).dropWhile p = x.dropWhile p := by
  induction l with
  | nil => rfl
  | cons c l ih =>
    rw [List.cons_append, List.dropWhile_cons_of_pos (h c (by simp))]
    exact ih fun d hd => h d (by simp [hd])
theorem lexP_whites {ws : List UInt8} (h : ∀ c ∈ ws, isW c = true) (x : List UInt8) (line : Nat) : lexP (ws ++ x) line = lexP x line := by
  rw [← lexP_drop, drop_all h, lexP_drop]
/-- White bytes before it and behind it, and a comment. -/
theorem lexP_blank {ws com a : List UInt8} {line : Nat} {x : List Tk} (h0 : 1 ≤ ws.length) (h : ∀ c ∈ ws, isW c = true) (hc : ∀ c ∈ com, c ≠ 10) (ha : lexP a line = .ok x) : lexP (ws ++ a ++ ws ++ 35 :: com) line = .ok x := by
  rw [List.append_assoc, List.append_assoc, lexP_whites h]
  refine lexP_tail _ ?_ ?_ ?_ _ _ _ ha
  · intro c hm
    rcases List.mem_append.1 hm with hm | hm
    · have := h c hm
      rintro rfl
      exact absurd this (by decide)
    · rcases List.mem_cons.1 hm with rfl | hm
      · decide
      · exact hc c hm
  · intro c r e
    cases ws with
    | nil => simp at h0
    | cons d ws =>
      have hd := h d (by simp)
      obtain rfl : d = c := by
        have := congrArg List.head? e
        simpa using this
      unfold isW at hd
      simp only [Bool.or_eq_true, beq_iff_eq] at hd
      rcases hd with (rfl | rfl) | rfl <;> decide
  · intro line
    rw [lexP_whites h, lexP_note]
    have e : com.dropWhile no10 = [] := by
      have := drop_all (l := com) (x := []) (p := no10) (fun c hm => by simp [no10, hc c hm])
      simpa using this
    rw [e, lexP_nil]

/-! One token. -/
theorem hx_not : ∀ n, n < 16 → hx n ≠ 34 ∧ hx n ≠ 92 := by decide +kernel
theorem clo_enc (c : UInt8) (r : List UInt8) : clo false (encB c ++ r) = (clo false r).map (· + (encB c).length) := by
  have step : ∀ (d : UInt8) (odd : Bool) (s : List UInt8), ¬ (d = 34 ∧ odd = false) → clo odd (d :: s) = (clo (d == 92 && !odd) s).map (· + 1) := by
    intro d odd s h
    show (if d = 34 ∧ odd = false then some 1 else _) = _
    rw [if_neg h]
  have two : ∀ (z : Option Nat) (a b : Nat), (z.map (· + a)).map (· + b) = z.map (· + (a + b)) := by
    intro z a b
    cases z <;> simp [Nat.add_assoc]
  unfold encB
  split
  · rename_i h
    show clo false (92 :: c :: r) = _
    rw [step _ _ _ (by decide), show ((92 : UInt8) == 92 && !false) = true from rfl, step _ _ _ (by simp), show (c == 92 && !true) = false by simp, two]
    rfl
  · rename_i h
    split
    · show clo false (92 :: 110 :: r) = _
      rw [step _ _ _ (by decide), step _ _ _ (by decide), two]
      rfl
    · split
      · have h1 := hx_not (c.toNat / 16) (by have := UInt8.toNat_lt c; omega)
        have h2 := hx_not (c.toNat % 16) (Nat.mod_lt _ (by omega))
        show clo false (92 :: 120 :: hx (c.toNat / 16) :: hx (c.toNat % 16) :: r) = _
        rw [step _ _ _ (by decide), step _ _ _ (by decide), show ((120 : UInt8) == 92 && !((92 : UInt8) == 92 && !false)) = false from rfl, step _ _ _ (fun e => h1.1 e.1),
          show (hx (c.toNat / 16) == 92 && !false) = false by simp [h1.2], step _ _ _ (fun e => h2.1 e.1), show (hx (c.toNat % 16) == 92 && !false) = false by simp [h2.2], two, two, two]
        rfl
      · show clo false (c :: r) = _
        rw [step _ _ _ (fun e => h (.inl e.1)), show (c == 92 && !false) = false by simp; exact fun e => h (.inr e)]
        rfl
theorem clo_flat (t r : List UInt8) : clo false (t.flatMap encB ++ 34 :: r) = some ((t.flatMap encB).length + 1) := by
  induction t with
  | nil => rfl
  | cons c t ih =>
    rw [List.flatMap_cons, List.append_assoc, clo_enc, ih]
    simp
    omega
theorem clo_none {r : List UInt8} (h : clo false r = none) : unqB (34 :: r) = false := by
  cases hb : unqB (34 :: r) with
  | false => rfl
  | true =>
    have e := unq_yes hb
    unfold quo at e
    injection e with _ e
    have := clo_flat (unqV (34 :: r)) []
    rw [e, h] at this
    cases this

theorem tok_quo (t r : List UInt8) : ∃ q, quo t = 34 :: q ∧ tok 34 (q ++ r) = .got 2 t 0 r := by
  refine ⟨t.flatMap encB ++ [34], rfl, ?_⟩
  have e : t.flatMap encB ++ [34] ++ r = t.flatMap encB ++ 34 :: r := by simp
  have hu := unq_quo t
  show (if (34 : UInt8) = 10 then _ else if (34 : UInt8) = 34 then textT _ else _) = _
  rw [if_neg (by decide), if_pos rfl, e]
  unfold textT
  rw [clo_flat]
  simp only
  have h1 : (t.flatMap encB ++ 34 :: r).take ((t.flatMap encB).length + 1) = t.flatMap encB ++ [34] := by
    generalize t.flatMap encB = u
    rw [List.take_append]
    simp
    exact List.take_of_length_le (by omega)
  have h2 : (t.flatMap encB ++ 34 :: r).drop ((t.flatMap encB).length + 1) = r := by
    generalize t.flatMap encB = u
    rw [List.drop_append]
    simp
  rw [h1, h2]
  have h3 : (34 :: (t.flatMap encB ++ [34])) = quo t := rfl
  rw [h3, if_pos hu.1, hu.2]

theorem isL_not {c : UInt8} (h : (isL c || isD c) = true) : isW c = false ∧ c ≠ 35 ∧ c ≠ 10 ∧ c ≠ 34 := by
  have key : ∀ n, n < 256 → (isL (UInt8.ofNat n) || isD (UInt8.ofNat n)) = true → isW (UInt8.ofNat n) = false ∧ UInt8.ofNat n ≠ 35 ∧ UInt8.ofNat n ≠ 10 ∧ UInt8.ofNat n ≠ 34 := by decide +kernel
  have := key c.toNat (UInt8.toNat_lt c)
  rw [UInt8.ofNat_toNat] at this
  exact this h

theorem word_head {w : List UInt8} (h : word w = true) : ∃ c r, w = c :: r ∧ isL c = true ∧ w.length ≤ 20 ∧ ∀ d ∈ w, isP d = true := by
  unfold word at h
  cases w with
  | nil => simp at h
  | cons c r =>
    simp only [Bool.and_eq_true, decide_eq_true_eq] at h
    exact ⟨c, r, rfl, h.1.2, h.1.1.2, fun d hd => List.all_eq_true.1 h.2 d hd⟩

theorem take_all {l x : List UInt8} {p : UInt8 → Bool} (h : ∀ c ∈ l, p c = true) (hx : ∀ c r, x = c :: r → p c = false) : (l ++ x).takeWhile p = l ∧ (l ++ x).dropWhile p = x := by
  have := take_stop p l x hx
  rw [this.1, this.2]
  have h1 : l.takeWhile p = l := by
    have h3 := List.takeWhile_append_dropWhile (p := p) (l := l)
    have h2 : l.dropWhile p = [] := by
      have := drop_all (x := []) h
      simpa using this
    rw [h2, List.append_nil] at h3
    exact h3
  have h2 : l.dropWhile p = [] := by
    have := drop_all (x := []) h
    simpa using this
  rw [h1, h2]
  exact ⟨rfl, rfl⟩

theorem tok_word {w r : List UInt8} (h : word w = true) (hr : ∀ c s, r = c :: s → isP c = false) : ∃ c s, w = c :: s ∧ isW c = false ∧ c ≠ 35 ∧ tok c (s ++ r) = .got 0 w 0 r := by
  obtain ⟨c, s, rfl, hl, _, hp⟩ := word_head h
  have hn := isL_not (c := c) (by rw [hl]; rfl)
  refine ⟨c, s, rfl, hn.1, hn.2.1, ?_⟩
  unfold tok
  rw [if_neg hn.2.2.1, if_neg hn.2.2.2, if_pos (by rw [hl]; rfl)]
  have ht := take_all hp hr
  rw [List.cons_append] at ht
  rw [ht.1, ht.2]
  unfold wordT
  rw [if_pos h]

theorem isD_of {c : UInt8} (h : 48 ≤ c.toNat ∧ c.toNat ≤ 57) : isD c = true ∧ isL c = false := by
  unfold isD isL
  have h95 : c ≠ 95 := by
    rintro rfl
    exact absurd h.2 (by decide)
  constructor
  · simp [h.1, h.2]
  · simp [h95]
    omega
theorem dec_digits {n : Nat} (h : n ≤ 9223372036854775808) : ∀ c ∈ dec n, 48 ≤ c.toNat ∧ c.toNat ≤ 57 := (dec_told n (by omega)).2
theorem dec_not_word {n : Nat} (h : n ≤ 9223372036854775808) : word (dec n) = false := by
  cases hw : word (dec n) with
  | false => rfl
  | true =>
    obtain ⟨c, r, e, hl, _⟩ := word_head hw
    have := isD_of (dec_digits h c (by rw [e]; simp))
    rw [this.2] at hl
    cases hl
theorem tok_dec {n : Nat} {r : List UInt8} (h : n ≤ 9223372036854775807) (hr : ∀ c s, r = c :: s → isP c = false) : ∃ c s, dec n = c :: s ∧ isW c = false ∧ c ≠ 35 ∧ tok c (s ++ r) = .got 1 (dec n) n r := by
  have h1 := dec_pos n
  cases hd : dec n with
  | nil => rw [hd] at h1; simp at h1
  | cons c s =>
    have hdig := dec_digits (n := n) (by omega)
    rw [hd] at hdig
    have hc := isD_of (hdig c (by simp))
    have hn := isL_not (c := c) (by rw [hc.1]; simp)
    refine ⟨c, s, rfl, hn.1, hn.2.1, ?_⟩
    unfold tok
    rw [if_neg hn.2.2.1, if_neg hn.2.2.2, if_pos (by rw [hc.1]; simp)]
    have ht := take_all (l := c :: s) (p := isP) (fun d hd2 => isP_of (by rw [(isD_of (hdig d hd2)).1]; simp)) hr
    rw [List.cons_append] at ht
    rw [ht.1, ht.2]
    unfold wordT
    have hw := dec_not_word (n := n) (by omega)
    have hi := int_of (n : Int) ⟨by omega, by omega⟩
    rw [decI_pos, hd] at hi
    rw [hd] at hw
    rw [if_neg (by rw [hw]; decide), if_pos hi.1, hi.2]

theorem lexP_quo (t : List UInt8) : lexP (quo t) 1 = .ok [⟨2, t, 0, 1⟩, fin 1] := by
  obtain ⟨q, e, ht⟩ := tok_quo t []
  rw [List.append_nil] at ht
  rw [e, lexP_got (by decide) (by decide) ht, lexP_nil]
  rfl
theorem lexP_word {w : List UInt8} (h : word w = true) : lexP w 1 = .ok [⟨0, w, 0, 1⟩, fin 1] := by
  obtain ⟨c, s, rfl, hw, h35, ht⟩ := tok_word (r := []) h (by intro c s h; cases h)
  rw [List.append_nil] at ht
  rw [lexP_got hw h35 ht, lexP_nil]
  rfl
theorem lexP_dec {n : Nat} (h : n ≤ 9223372036854775807) : lexP (dec n) 1 = .ok [⟨1, dec n, n, 1⟩, fin 1] := by
  obtain ⟨c, s, e, hw, h35, ht⟩ := tok_dec (r := []) h (by intro c s h; cases h)
  rw [List.append_nil] at ht
  rw [e] at ht ⊢
  rw [lexP_got hw h35 ht, lexP_nil]
  rfl
theorem lexP_neg {n : Int} (h : n < 0) : lexP (decI n) 1 = .bad 11 1 := by
  unfold decI
  rw [if_neg (by omega)]
  exact lexP_bad (by decide) (by decide) rfl

theorem word_snoc {w : List UInt8} (h : word w = true) (c : UInt8) : word (w ++ [c]) = (isP c && decide (w.length < 20)) := by
  obtain ⟨d, r, rfl, hl, hn, hp⟩ := word_head h
  unfold word
  have hall : ((d :: r) ++ [c]).all isP = isP c := by
    rw [List.all_append, List.all_eq_true.2 hp]
    simp
  have hlen : ((d :: r) ++ [c]).length = (d :: r).length + 1 := by simp
  rw [hall, hlen]
  show (decide _ && decide _ && isL d && isP c) = _
  rw [hl]
  have h1 : decide (1 ≤ (d :: r).length + 1) = true := by simp
  have h2 : decide ((d :: r).length + 1 ≤ 20) = decide ((d :: r).length < 20) := by
    congr 1
  rw [h1, h2]
  cases isP c <;> simp

end Lx
end Go.Proofs.YtibeangcjfjeiaaDoor

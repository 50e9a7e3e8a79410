/- What is read of a source is right; nothing of the program is imported. Reading goes through lines: an induction; greater lines give greater lines; nothing of the program is imported. Two sources one behind the other; empty lines and comments; nothing of the program is imported. Joins and blanks of sources; nothing of the program is imported. Same drafts, whatever the lines; when there is a text; nothing of the program is imported. Reading with a flag, plainly: a reader that stands still after what does not fit; nothing of the program is imported. -/
import Derived.Test.YtibeangcjfjeiaaDoorMgF
namespace Go.Proofs.YtibeangcjfjeiaaDoor
open Txt Wire Lx
set_option linter.unusedVariables false
set_option maxRecDepth 100000
set_option linter.unusedSimpArgs false
namespace Drf

/-- Right, and the numbers are ints, part by part. -/
structure Good (d : Df) : Prop where
  decks : d.decks.length ≤ 4
  rows : ∀ rows ∈ d.decks, rows.length ≤ 4096 ∧ ∀ r ∈ rows, r.length ≤ 4096
  items : d.items.length ≤ 5000
  each : ∀ x ∈ d.items, rightIt x = true
  ints : Ints d
theorem Good.right {d : Df} (h : Good d) : right d = true := by
  unfold Drf.right
  simp only [Bool.and_eq_true, decide_eq_true_eq, List.all_eq_true]
  exact ⟨⟨⟨h.decks, h.rows⟩, h.items⟩, h.each⟩
theorem Good.of {d : Df} (h : Drf.right d = true) (hi : Ints d) : Good d :=
  ⟨(right_parts h).1, (right_parts h).2.1, (right_parts h).2.2.1, (right_parts h).2.2.2, hi⟩
theorem good_nil : Good ⟨[], []⟩ := ⟨by simp, fun _ h => (by cases h), by simp, fun _ h => (by cases h), fun _ h => (by cases h)⟩
theorem good_deck {d : Df} (h : Good d) (h4 : ¬ 4 ≤ d.decks.length) : Good { d with decks := d.decks ++ [[]] } := by
  refine ⟨by simp; omega, fun rows hr => ?_, h.items, h.each, h.ints⟩
  rcases List.mem_append.1 hr with hr | hr
  · exact h.rows rows hr
  · obtain rfl : rows = [] := by simpa using hr
    exact ⟨by simp, fun _ h => (by cases h)⟩
theorem good_row {d : Df} {s : List UInt8} (h : Good d) (hd : d.decks ≠ []) (hl : ¬ 4096 ≤ (d.decks.getLastD []).length) (hs : ¬ 4096 < s.length) : Good (d.row s) := by
  have hpos : 0 < d.decks.length := List.length_pos_iff.2 hd
  refine ⟨?_, fun rows hr => ?_, h.items, h.each, h.ints⟩
  · have := h.decks
    show (d.decks.dropLast ++ [d.decks.getLastD [] ++ [s]]).length ≤ 4
    simp
    omega
  · have hr : rows ∈ d.decks.dropLast ++ [d.decks.getLastD [] ++ [s]] := hr
    rcases List.mem_append.1 hr with hr | hr
    · exact h.rows rows (List.dropLast_subset _ hr)
    · obtain rfl : rows = d.decks.getLastD [] ++ [s] := by simpa using hr
      have hm : d.decks.getLastD [] ∈ d.decks := by
        rw [List.getLastD_eq_getLast?, List.getLast?_eq_some_getLast hd]
        exact List.getLast_mem hd
      refine ⟨by rw [List.length_append, List.length_singleton]; omega, fun r hr => ?_⟩
      rcases List.mem_append.1 hr with hr | hr
      · exact (h.rows _ hm).2 r hr
      · obtain rfl : r = s := by simpa using hr
        omega
theorem good_item {d : Df} {x : It} (h : Good d) (hl : ¬ 5000 ≤ d.items.length) (hx : rightIt x = true) (hi : ∀ z ∈ x.n, z ≤ 9223372036854775807) : Good { d with items := d.items ++ [x] } := by
  refine ⟨h.decks, h.rows, by simp; omega, fun y hy => ?_, fun y hy => ?_⟩
  · rcases List.mem_append.1 hy with hy | hy
    · exact h.each y hy
    · obtain rfl : y = x := by simpa using hy
      exact hx
  · rcases List.mem_append.1 hy with hy | hy
    · exact h.ints y hy
    · obtain rfl : y = x := by simpa using hy
      exact hi

theorem line_good {d d' : Df} {t : Tk} {r r' : List Tk} (h : lineR d t r = .inr (d', r')) (ho : AllOk r) (hg : Good d) : Good d' ∧ AllOk r' := by
  unfold lineR at h
  split at h
  · cases h
  · split at h
    · split at h
      · cases h
      · rename_i h4
        cases h
        exact ⟨good_deck hg h4, ho⟩
    · split at h
      · rename_i hrow
        split at h
        · cases h
        · rename_i hl
          split at h
          · cases h
          · rename_i u r2 hu
            split at h
            · cases h
            · rename_i hs
              cases h
              obtain ⟨rfl, _⟩ := take_len hu
              exact ⟨good_row hg hrow.2 hl hs, fun v hv => ho v (by simp [hv])⟩
      · split at h
        · cases h
        · rename_i k hk
          split at h
          · cases h
          · rename_i hl
            split at h
            · cases h
            · rename_i x r2 hx
              cases h
              obtain ⟨h1, h2, h3⟩ := item_ok (kindOf_lt hk) hx ho
              exact ⟨good_item hg hl h2 h3, h1⟩
theorem parseF_good : ∀ (k : Nat) (d : Df) (l : List Tk) (d' : Df), parseF k d l = .ok d' → AllOk l → Good d → Good d'
  | 0, d, l, d', h, _, hg => by
    cases h
    exact hg
  | k + 1, d, [], d', h, _, hg => by
    cases h
    exact hg
  | k + 1, d, t :: r, d', h, ho, hg => by
    have hor : AllOk r := fun u hu => ho u (by simp [hu])
    unfold parseF at h
    split at h
    · cases h
      exact hg
    · split at h
      · exact parseF_good k d r d' h hor hg
      · split at h
        · cases h
        · cases h
        · rename_i d2 u r2 hl
          split at h
          · obtain ⟨hg2, ho2⟩ := line_good hl hor hg
            exact parseF_good k d2 _ d' h ho2 hg2
          · cases h
/-- What is read of a source is right. -/
theorem parse_good {src : List UInt8} {d : Df} (h : parseP src = .ok d) : Good d := by
  unfold parseP at h
  split at h
  · cases h
  · rename_i l hl
    unfold lexAll at hl
    split at hl
    · cases hl
    · exact parseF_good _ _ _ _ h (lex_toks src 1 l hl) good_nil
/-- And it is read again from its own text, with lines 1, 2, .. behind the decks. -/
theorem parse_again {src : List UInt8} {d : Df} (h : parseP src = .ok d) (hl : (printP d).length ≤ 20000) : right d = true ∧ parseP (printP d) = .ok ⟨d.decks, lined d.items (1 + (deckLs d.decks).length)⟩ :=
  ⟨(parse_good h).right, parse_back (parse_good h).right (parse_good h).ints hl⟩

end Drf
end Go.Proofs.YtibeangcjfjeiaaDoor

namespace Go.Proofs.YtibeangcjfjeiaaDoor
open Txt Wire Lx
set_option linter.unusedVariables false
set_option maxRecDepth 100000
set_option linter.unusedSimpArgs false
namespace Drf

theorem got_then {α β : Type} {a : Rd α} {f : α → List Tk → Rd β} {x : α} {r : List Tk} {y : Rd β} (h : a = .got x r) (h2 : f x r = y) : a.then f = y := by
  subst h
  exact h2
/-- What is read without an error is read line by line. -/
theorem parse_ind {M : Df → List Tk → Df → Prop} (h0 : ∀ d, M d [] d) (h1 : ∀ d t r, t.kind = 4 → M d (t :: r) d) (h2 : ∀ d t r y, t.kind = 3 → parseT d r = .ok y → M d r y → M d (t :: r) y)
    (h3 : ∀ d t r d' u r' y, t.kind ≠ 3 → t.kind ≠ 4 → lineR d t r = .inr (d', u :: r') → stop u = true → parseT d' (u :: r') = .ok y → M d' (u :: r') y → M d (t :: r) y) :
    ∀ (k : Nat) (l : List Tk), l.length ≤ k → ∀ d y, parseT d l = .ok y → M d l y
  | k, [], _, d, y, h => by
    cases h
    exact h0 d
  | 0, t :: r, hk, d, y, h => by simp at hk
  | k + 1, t :: r, hk, d, y, h => by
    have hk' : r.length ≤ k := by simpa using hk
    by_cases h4 : t.kind = 4
    · rw [parse_end h4] at h
      cases h
      exact h1 d t r h4
    · by_cases hl : t.kind = 3
      · rw [parse_lf hl] at h
        exact h2 d t r y hl h (parse_ind h0 h1 h2 h3 k r hk' d y h)
      · have h' : parseF (r.length + 1) d (t :: r) = .ok y := h
        unfold parseF at h'
        rw [if_neg h4, if_neg hl] at h'
        split at h'
        · cases h'
        · cases h'
        · rename_i d' u r' hr
          split at h'
          · rename_i hs
            have hy : parseT d' (u :: r') = .ok y := by
              rw [← parse_line hl h4 hr hs]
              exact h
            exact h3 d t r d' u r' y hl h4 hr hs hy (parse_ind h0 h1 h2 h3 k (u :: r') (by have := line_len hr; omega) d' y hy)
          · cases h'

/-! Greater lines. -/
def upI (s : Nat) (x : It) : It := { x with line := x.line + s }
def upD (s : Nat) (d : Df) : Df := ⟨d.decks, d.items.map (upI s)⟩
theorem take_up {s kind : Nat} {l r : List Tk} {t : Tk} (h : takeT kind l = .got t r) : takeT kind (l.map (up s)) = .got (up s t) (r.map (up s)) := by
  obtain ⟨rfl, hk⟩ := take_len h
  show takeT kind (up s t :: r.map (up s)) = _
  rw [takeT_cons, if_pos (show (up s t).kind = kind from hk)]
theorem nums_up {s : Nat} : ∀ {k : Nat} {l r : List Tk} {ns : List Int}, numsR k l = .got ns r → numsR k (l.map (up s)) = .got ns (r.map (up s))
  | 0, l, r, ns, h => by
    cases h
    rfl
  | k + 1, l, r, ns, h => by
    obtain ⟨t, r1, ht, h⟩ := then_got h
    obtain ⟨ms, r2, hn, h⟩ := then_got h
    cases h
    exact got_then (take_up ht) (got_then (nums_up hn) rfl)
theorem names_up {s : Nat} : ∀ {k : Nat} {l r : List Tk} {ns : List (List UInt8)}, namesR k l = .got ns r → namesR k (l.map (up s)) = .got ns (r.map (up s))
  | 0, l, r, ns, h => by
    cases h
    rfl
  | k + 1, l, r, ns, h => by
    obtain ⟨t, r1, ht, h⟩ := then_got h
    obtain ⟨ms, r2, hn, h⟩ := then_got h
    cases h
    exact got_then (take_up ht) (got_then (names_up hn) rfl)
theorem dir_up {s : Nat} {l r : List Tk} {d : Int} (h : dirR l = .got d r) : dirR (l.map (up s)) = .got d (r.map (up s)) := by
  cases l with
  | nil => cases h
  | cons t l =>
    show dirR (up s t :: l.map (up s)) = _
    rw [dirR_cons] at h ⊢
    by_cases hk : t.kind = 0
    · rw [if_pos hk] at h
      rw [if_pos (show (up s t).kind = 0 from hk)]
      show (match dirOf t.text with
        | some d => Rd.got (d : Int) (l.map (up s))
        | none => .bad (up s t).line) = _
      cases hd : dirOf t.text with
      | none => rw [hd] at h; cases h
      | some e =>
        rw [hd] at h
        cases h
        rfl
    · rw [if_neg hk] at h
      cases h
theorem all_up {s k count : Nat} {l r : List Tk} {ns : List Int} (h : allR k count l = .got ns r) : allR k count (l.map (up s)) = .got ns (r.map (up s)) := by
  unfold allR at h ⊢
  by_cases hk : k = 2
  · rw [if_pos hk] at h ⊢
    obtain ⟨ms, r1, hn, h⟩ := then_got h
    obtain ⟨d, r2, hd, h⟩ := then_got h
    cases h
    exact got_then (nums_up hn) (got_then (dir_up hd) rfl)
  · rw [if_neg hk] at h ⊢
    exact nums_up h
theorem more_up (s : Nat) (more : Bool) (l : List Tk) : moreR more (l.map (up s)) = ((moreR more l).1, (moreR more l).2.map (up s)) := by
  cases more with
  | false => cases l <;> rfl
  | true =>
    cases l with
    | nil => rfl
    | cons t r =>
      show (if t.kind = 0 then (t.text, r.map (up s)) else ([], up s t :: r.map (up s))) = ((if t.kind = 0 then (t.text, r) else ([], t :: r)).1, (if t.kind = 0 then (t.text, r) else ([], t :: r)).2.map (up s))
      by_cases hk : t.kind = 0
      · rw [if_pos hk, if_pos hk]
      · rw [if_neg hk, if_neg hk]
        rfl
theorem item_up {s k line : Nat} {l r : List Tk} {x : It} (h : itemR k line l = .got x r) : itemR k (line + s) (l.map (up s)) = .got (upI s x) (r.map (up s)) := by
  unfold itemR at h ⊢
  cases hf : form k with
  | none => rw [hf] at h; cases h
  | some f =>
    rw [hf] at h
    obtain ⟨nm, r1, hn, h⟩ := then_got h
    obtain ⟨ns, r2, ha, h⟩ := then_got h
    cases h
    refine got_then (names_up hn) (got_then (all_up ha) ?_)
    rw [more_up]
    show Rd.got _ _ = Rd.got _ _
    unfold upI
    simp
theorem line_up {s : Nat} {d d' : Df} {t : Tk} {r r' : List Tk} (h : lineR d t r = .inr (d', r')) : lineR (upD s d) (up s t) (r.map (up s)) = .inr (upD s d', r'.map (up s)) := by
  unfold lineR at h ⊢
  rw [show (up s t).kind = t.kind from rfl, show (up s t).text = t.text from rfl, show (up s t).line = t.line + s from rfl, show (upD s d).decks = d.decks from rfl,
    show (upD s d).items = d.items.map (upI s) from rfl, List.length_map]
  split at h
  · cases h
  · rename_i hk
    rw [if_neg hk]
    split at h
    · rename_i hw
      rw [if_pos hw]
      split at h
      · cases h
      · rename_i h4
        rw [if_neg h4]
        cases h
        rfl
    · rename_i hw
      rw [if_neg hw]
      split at h
      · rename_i hrow
        rw [if_pos hrow]
        split at h
        · cases h
        · rename_i hl
          rw [if_neg hl]
          split at h
          · cases h
          · rename_i u r2 hu
            rw [take_up hu]
            split at h
            · cases h
            · rename_i hs
              cases h
              show (if 4096 < u.text.length then _ else _) = _
              rw [if_neg hs]
              rfl
      · rename_i hrow
        rw [if_neg hrow]
        split at h
        · cases h
        · rename_i k hk
          split at h
          · cases h
          · rename_i hl
            rw [if_neg hl]
            split at h
            · cases h
            · rename_i x r2 hx
              cases h
              rw [item_up hx]
              show _ = Sum.inr ((⟨d.decks, (d.items ++ [x]).map (upI s)⟩ : Df), _)
              rw [List.map_append]
              rfl
theorem parse_up (s : Nat) {d y : Df} {l : List Tk} (h : parseT d l = .ok y) : parseT (upD s d) (l.map (up s)) = .ok (upD s y) := by
  refine parse_ind (M := fun d l y => parseT (upD s d) (l.map (up s)) = .ok (upD s y)) (fun d => rfl) (fun d t r h4 => ?_) (fun d t r y h3 _ ih => ?_) (fun d t r d' u r' y h3 h4 hl hu _ ih => ?_) l.length l (Nat.le_refl _) d y h
  · exact parse_end (show (up s t).kind = 4 from h4)
  · show parseT (upD s d) (up s t :: r.map (up s)) = _
    rw [parse_lf (show (up s t).kind = 3 from h3)]
    exact ih
  · show parseT (upD s d) (up s t :: r.map (up s)) = _
    rw [parse_line (t := up s t) (u := up s u) (r' := r'.map (up s)) h3 h4 (line_up hl) hu]
    exact ih

end Drf
end Go.Proofs.YtibeangcjfjeiaaDoor

namespace Go.Proofs.YtibeangcjfjeiaaDoor
open Txt Wire Lx
set_option linter.unusedVariables false
set_option maxRecDepth 100000
set_option linter.unusedSimpArgs false
namespace Drf

/-! What a line gives, part by part. -/
/-- The four ways of a line: a deck, a row, an item. -/
inductive Way (d : Df) (t : Tk) (r : List Tk) : Df → List Tk → Prop where
  | deck (hw : t.text = wDeck) (h4 : ¬ 4 ≤ d.decks.length) : Way d t r { d with decks := d.decks ++ [[]] } r
  | row (u : Tk) (r' : List Tk) (hw : t.text ≠ wDeck) (hrow : t.text = wRow ∧ d.decks ≠ []) (hl : ¬ 4096 ≤ (d.decks.getLastD []).length) (hu : takeT 2 r = .got u r') (hs : ¬ 4096 < u.text.length) : Way d t r (d.row u.text) r'
  | item (k : Nat) (x : It) (r' : List Tk) (hw : t.text ≠ wDeck) (hrow : ¬ (t.text = wRow ∧ d.decks ≠ [])) (hk : kindOf t.text = some k) (hl : ¬ 5000 ≤ d.items.length) (hx : itemR k t.line r = .got x r') : Way d t r { d with items := d.items ++ [x] } r'
theorem line_way {d d' : Df} {t : Tk} {r r' : List Tk} (h : lineR d t r = .inr (d', r')) : t.kind = 0 ∧ Way d t r d' r' := by
  unfold lineR at h
  split at h
  · cases h
  · rename_i hk0
    refine ⟨by omega, ?_⟩
    split at h
    · rename_i hw
      split at h
      · cases h
      · rename_i h4
        cases h
        exact .deck hw h4
    · rename_i hw
      split at h
      · rename_i hrow
        split at h
        · cases h
        · rename_i hl
          split at h
          · cases h
          · rename_i u r2 hu
            split at h
            · cases h
            · rename_i hs
              cases h
              exact .row u _ hw hrow hl hu hs
      · rename_i hrow
        split at h
        · cases h
        · rename_i k hk
          split at h
          · cases h
          · rename_i hl
            split at h
            · cases h
            · rename_i x r2 hx
              cases h
              exact .item k x _ hw hrow hk hl hx
theorem way_line {d d' : Df} {t : Tk} {r r' : List Tk} (h0 : t.kind = 0) (h : Way d t r d' r') : lineR d t r = .inr (d', r') := by
  unfold lineR
  rw [if_neg (by omega)]
  cases h with
  | deck hw h4 => rw [if_pos hw, if_neg h4]
  | row u _ hw hrow hl hu hs =>
    rw [if_neg hw, if_pos hrow, if_neg hl, hu]
    show (if 4096 < u.text.length then _ else _) = _
    rw [if_neg hs]
  | item k x _ hw hrow hk hl hx =>
    rw [if_neg hw, if_neg hrow, hk]
    show (if 5000 ≤ d.items.length then _ else _) = _
    rw [if_neg hl, hx]

/-! How many items, and that decks stay. -/
theorem item_more {k line : Nat} {l r : List Tk} {x : It} (hk : k < 6) (h : itemR k line l = .got x r) : r.length + 1 ≤ l.length := by
  unfold itemR at h
  cases hf : form k with
  | none => rw [hf] at h; cases h
  | some f =>
    rw [hf] at h
    obtain ⟨nm, r1, hn, h⟩ := then_got h
    obtain ⟨ns, r2, ha, h⟩ := then_got h
    cases h
    have h1 := (names_len _ _ _ _ hn).1
    have h2 := all_len ha
    have h3 := more_len f.more r2
    by_cases h0 : f.names = 0
    · have h4 : r2.length + 1 ≤ r1.length := by
        unfold allR at ha
        by_cases h2 : k = 2
        · rw [if_pos h2] at ha
          obtain ⟨ms, r3, hm, ha⟩ := then_got ha
          obtain ⟨d, r4, hd, ha⟩ := then_got ha
          cases ha
          have := (nums_len _ _ _ _ hm).1
          have := dir_len hd
          omega
        · rw [if_neg h2] at ha
          have h5 := (nums_len _ _ _ _ ha).1
          have : 1 ≤ f.count := by
            match k, hk with
            | 0, _ => cases hf; simp at h0
            | 1, _ => cases hf; simp at h0
            | 2, _ => exact absurd rfl h2
            | 3, _ => cases hf; simp at h0
            | 4, _ => cases hf; decide
            | 5, _ => cases hf; decide
          omega
      omega
    · omega
theorem line_grow {d d' : Df} {t : Tk} {r r' : List Tk} (h : lineR d t r = .inr (d', r')) : d.items.length ≤ d'.items.length ∧ 2 * d'.items.length + r'.length ≤ 2 * d.items.length + (r.length + 1) ∧ d.decks.length ≤ d'.decks.length := by
  obtain ⟨_, hw⟩ := line_way h
  cases hw with
  | deck hw h4 =>
    refine ⟨Nat.le_refl _, ?_, ?_⟩
    · show 2 * d.items.length + _ ≤ _
      omega
    · show _ ≤ (d.decks ++ [[]]).length
      simp
  | row u _ hw hrow hl hu hs =>
    obtain ⟨rfl, _⟩ := take_len hu
    have hpos : 0 < d.decks.length := List.length_pos_iff.2 hrow.2
    refine ⟨Nat.le_refl _, ?_, ?_⟩
    · show 2 * d.items.length + _ ≤ _
      simp only [List.length_cons]
      omega
    · show _ ≤ (d.decks.dropLast ++ [d.decks.getLastD [] ++ [u.text]]).length
      simp
      omega
  | item k x _ hw hrow hk hl hx =>
    have := item_more (kindOf_lt hk) hx
    refine ⟨?_, ?_, Nat.le_refl _⟩
    · show _ ≤ (d.items ++ [x]).length
      simp
    · show 2 * (d.items ++ [x]).length + _ ≤ _
      simp only [List.length_append, List.length_singleton]
      omega
theorem parse_grow {d y : Df} {l : List Tk} (h : parseT d l = .ok y) : d.items.length ≤ y.items.length ∧ 2 * y.items.length ≤ 2 * d.items.length + l.length ∧ d.decks.length ≤ y.decks.length := by
  refine parse_ind (M := fun d l y => d.items.length ≤ y.items.length ∧ 2 * y.items.length ≤ 2 * d.items.length + l.length ∧ d.decks.length ≤ y.decks.length) (fun d => ⟨Nat.le_refl _, Nat.le_add_right _ _, Nat.le_refl _⟩) (fun d t r h4 => ⟨Nat.le_refl _, Nat.le_add_right _ _, Nat.le_refl _⟩) (fun d t r y h3 _ ih => ?_) (fun d t r d' u r' y h3 h4 hl hu _ ih => ?_) l.length l (Nat.le_refl _) d y h
  · obtain ⟨a, b, c⟩ := ih
    simp only [List.length_cons]
    omega
  · obtain ⟨a, b, c⟩ := ih
    obtain ⟨a2, b2, c2⟩ := line_grow hl
    simp only [List.length_cons] at b b2 ⊢
    omega

/-! Items behind others. -/
theorem row_kind : kindOf wRow = none := by decide +kernel
theorem parse_over {d y : Df} {l : List Tk} (h : parseT d l = .ok y) (hd : y.decks = []) (D : List (List (List UInt8))) (I0 : List It) (hb : I0.length + y.items.length ≤ 5000) : parseT ⟨D, I0 ++ d.items⟩ l = .ok ⟨D, I0 ++ y.items⟩ := by
  refine parse_ind (M := fun d l y => y.decks = [] → I0.length + y.items.length ≤ 5000 → parseT ⟨D, I0 ++ d.items⟩ l = .ok ⟨D, I0 ++ y.items⟩) (fun d _ _ => rfl) (fun d t r h4 _ _ => parse_end h4) (fun d t r y h3 _ ih hd hb => ?_) (fun d t r d' u r' y h3 h4 hl hu hy ih hd hb => ?_) l.length l (Nat.le_refl _) d y h hd hb
  · rw [parse_lf h3]
    exact ih hd hb
  · have hg := parse_grow hy
    have h' : d'.decks = [] := List.eq_nil_of_length_eq_zero (by have := hg.2.2; rw [hd] at this; simpa using this)
    obtain ⟨h0, hw⟩ := line_way hl
    rw [parse_line (d' := ⟨D, I0 ++ d'.items⟩) (u := u) (r' := r') h3 h4 (way_line h0 ?_) hu]
    · exact ih hd hb
    · generalize hur : u :: r' = z at hw
      cases hw with
      | deck hw h4 => simp at h'
      | row u _ hw hrow hl hu hs =>
        have h' : d.decks.dropLast ++ [d.decks.getLastD [] ++ [u.text]] = [] := h'
        simp at h'
      | item k x _ hw hrow hk hl hx =>
        have h1 : (d.items ++ [x]).length ≤ y.items.length := hg.1
        simp only [List.length_append, List.length_singleton] at h1
        have e : I0 ++ (d.items ++ [x]) = (I0 ++ d.items) ++ [x] := by simp
        show Way _ _ _ ⟨D, I0 ++ (d.items ++ [x])⟩ _
        rw [e]
        refine Way.item (d := ⟨D, I0 ++ d.items⟩) k x z hw ?_ hk ?_ hx
        · rintro ⟨e, _⟩
          rw [e, row_kind] at hk
          cases hk
        · show ¬ 5000 ≤ (I0 ++ d.items).length
          rw [List.length_append]
          omega

end Drf
end Go.Proofs.YtibeangcjfjeiaaDoor

namespace Go.Proofs.YtibeangcjfjeiaaDoor
open Txt Wire Lx
set_option linter.unusedVariables false
set_option maxRecDepth 100000
set_option linter.unusedSimpArgs false
namespace Drf

/-! A line looks at its own tokens only, and at whether the next one is a word. -/
theorem take_loc {kind : Nat} {l r : List Tk} {t : Tk} (h : takeT kind l = .got t r) : ∃ c, l = c ++ r ∧ ∀ z, takeT kind (c ++ z) = .got t z := by
  obtain ⟨rfl, hk⟩ := take_len h
  exact ⟨[t], rfl, fun z => by rw [List.singleton_append, takeT_cons, if_pos hk]⟩
theorem nums_loc : ∀ {k : Nat} {l r : List Tk} {ns : List Int}, numsR k l = .got ns r → ∃ c, l = c ++ r ∧ ∀ z, numsR k (c ++ z) = .got ns z
  | 0, l, r, ns, h => by
    cases h
    exact ⟨[], rfl, fun z => rfl⟩
  | k + 1, l, r, ns, h => by
    obtain ⟨t, r1, ht, h⟩ := then_got h
    obtain ⟨ms, r2, hn, h⟩ := then_got h
    cases h
    obtain ⟨c1, rfl, h1⟩ := take_loc ht
    obtain ⟨c2, rfl, h2⟩ := nums_loc hn
    exact ⟨c1 ++ c2, by simp, fun z => by rw [List.append_assoc]; exact got_then (h1 _) (got_then (h2 _) rfl)⟩
theorem names_loc : ∀ {k : Nat} {l r : List Tk} {ns : List (List UInt8)}, namesR k l = .got ns r → ∃ c, l = c ++ r ∧ ∀ z, namesR k (c ++ z) = .got ns z
  | 0, l, r, ns, h => by
    cases h
    exact ⟨[], rfl, fun z => rfl⟩
  | k + 1, l, r, ns, h => by
    obtain ⟨t, r1, ht, h⟩ := then_got h
    obtain ⟨ms, r2, hn, h⟩ := then_got h
    cases h
    obtain ⟨c1, rfl, h1⟩ := take_loc ht
    obtain ⟨c2, rfl, h2⟩ := names_loc hn
    exact ⟨c1 ++ c2, by simp, fun z => by rw [List.append_assoc]; exact got_then (h1 _) (got_then (h2 _) rfl)⟩
theorem dir_loc {l r : List Tk} {d : Int} (h : dirR l = .got d r) : ∃ c, l = c ++ r ∧ ∀ z, dirR (c ++ z) = .got d z := by
  cases l with
  | nil => cases h
  | cons t l =>
    rw [dirR_cons] at h
    by_cases hk : t.kind = 0
    · rw [if_pos hk] at h
      cases hd : dirOf t.text with
      | none => rw [hd] at h; cases h
      | some e =>
        rw [hd] at h
        cases h
        exact ⟨[t], rfl, fun z => by rw [List.singleton_append, dirR_cons, if_pos hk, hd]⟩
    · rw [if_neg hk] at h
      cases h
theorem all_loc {k count : Nat} {l r : List Tk} {ns : List Int} (h : allR k count l = .got ns r) : ∃ c, l = c ++ r ∧ ∀ z, allR k count (c ++ z) = .got ns z := by
  unfold allR at h ⊢
  by_cases hk : k = 2
  · rw [if_pos hk] at h
    obtain ⟨ms, r1, hn, h⟩ := then_got h
    obtain ⟨d, r2, hd, h⟩ := then_got h
    cases h
    obtain ⟨c1, rfl, h1⟩ := nums_loc hn
    obtain ⟨c2, rfl, h2⟩ := dir_loc hd
    exact ⟨c1 ++ c2, by simp, fun z => by rw [if_pos hk, List.append_assoc]; exact got_then (h1 _) (got_then (h2 _) rfl)⟩
  · rw [if_neg hk] at h
    obtain ⟨c1, rfl, h1⟩ := nums_loc h
    exact ⟨c1, rfl, fun z => by rw [if_neg hk]; exact h1 z⟩
theorem more_loc (more : Bool) (l : List Tk) : ∃ c, l = c ++ (moreR more l).2 ∧ ∀ v z, v.kind ≠ 0 → moreR more (c ++ v :: z) = ((moreR more l).1, v :: z) := by
  have none : ∀ (v : Tk) (z : List Tk), v.kind ≠ 0 → moreR more (v :: z) = ([], v :: z) := by
    intro v z hv
    cases more with
    | false => rfl
    | true =>
      show (if v.kind = 0 then (v.text, z) else ([], v :: z)) = _
      rw [if_neg hv]
  cases more with
  | false => cases l <;> exact ⟨[], rfl, none⟩
  | true =>
    cases l with
    | nil => exact ⟨[], rfl, none⟩
    | cons t r =>
      have e : moreR true (t :: r) = if t.kind = 0 then (t.text, r) else ([], t :: r) := rfl
      rw [e]
      by_cases hk : t.kind = 0
      · rw [if_pos hk]
        exact ⟨[t], rfl, fun v z hv => by
          show (if t.kind = 0 then (t.text, v :: z) else ([], t :: v :: z)) = _
          rw [if_pos hk]⟩
      · rw [if_neg hk]
        exact ⟨[], rfl, none⟩
theorem item_loc {k line : Nat} {l r : List Tk} {x : It} (h : itemR k line l = .got x r) : ∃ c, l = c ++ r ∧ ∀ v z, v.kind ≠ 0 → itemR k line (c ++ v :: z) = .got x (v :: z) := by
  unfold itemR at h ⊢
  cases hf : form k with
  | none => rw [hf] at h; cases h
  | some f =>
    rw [hf] at h
    obtain ⟨nm, r1, hn, h⟩ := then_got h
    obtain ⟨ns, r2, ha, h⟩ := then_got h
    cases h
    obtain ⟨c1, rfl, h1⟩ := names_loc hn
    obtain ⟨c2, rfl, h2⟩ := all_loc ha
    obtain ⟨c3, h3, h4⟩ := more_loc f.more r2
    refine ⟨c1 ++ (c2 ++ c3), ?_, fun v z hv => ?_⟩
    · rw [List.append_assoc, List.append_assoc, ← h3]
    · rw [List.append_assoc, List.append_assoc]
      refine got_then (h1 _) (got_then (h2 _) ?_)
      rw [h4 v z hv]
theorem line_loc {d d' : Df} {t : Tk} {r r' : List Tk} (h : lineR d t r = .inr (d', r')) : ∃ c, r = c ++ r' ∧ ∀ v z, v.kind ≠ 0 → lineR d t (c ++ v :: z) = .inr (d', v :: z) := by
  obtain ⟨h0, hw⟩ := line_way h
  cases hw with
  | deck hw h4 => exact ⟨[], rfl, fun v z _ => way_line h0 (.deck hw h4)⟩
  | row u _ hw hrow hl hu hs =>
    obtain ⟨c, hc, h1⟩ := take_loc hu
    exact ⟨c, hc, fun v z _ => way_line h0 (.row u _ hw hrow hl (h1 _) hs)⟩
  | item k x _ hw hrow hk hl hx =>
    obtain ⟨c, hc, h1⟩ := item_loc hx
    exact ⟨c, hc, fun v z hv => way_line h0 (.item k x _ hw hrow hk hl (h1 v z hv))⟩

theorem stop_not {t : Tk} (h : stop t = true) : t.kind ≠ 0 := by
  unfold stop at h
  simp only [Bool.or_eq_true, beq_iff_eq] at h
  omega
/-- What stands behind the end of a source, with an LF between. -/
theorem parse_then {e : Tk} (he : e.kind = 3) (m : List Tk) {d x : Df} {init : List Tk} {L : Nat} (h : parseT d (init ++ [fin L]) = .ok x) (hi : ∀ t ∈ init, t.kind ≠ 4) : parseT d (init ++ e :: m) = parseT x m := by
  refine parse_ind (M := fun d l x => ∀ init, l = init ++ [fin L] → (∀ t ∈ init, t.kind ≠ 4) → parseT d (init ++ e :: m) = parseT x m) (fun d init hl _ => ?_) (fun d t r h4 init hl hi => ?_) (fun d t r y h3 _ ih init hl hi => ?_) (fun d t r d' u r' y h3 h4 hl hu _ ih init hl2 hi => ?_) (init ++ [fin L]).length _ (Nat.le_refl _) d x h init rfl hi
  · simp at hl
  · cases init with
    | nil => exact parse_lf he
    | cons u init =>
      obtain ⟨rfl, _⟩ := List.cons.inj hl
      exact absurd h4 (hi t (by simp))
  · cases init with
    | nil =>
      obtain ⟨rfl, _⟩ := List.cons.inj hl
      cases h3
    | cons u init =>
      obtain ⟨rfl, rfl⟩ := List.cons.inj hl
      rw [List.cons_append, parse_lf h3]
      exact ih init rfl fun v hv => hi v (by simp [hv])
  · cases init with
    | nil =>
      obtain ⟨rfl, _⟩ := List.cons.inj hl2
      exact absurd rfl h4
    | cons w init =>
      obtain ⟨rfl, rfl⟩ := List.cons.inj hl2
      obtain ⟨c, hc, hloc⟩ := line_loc hl
      have hne : u :: r' ≠ [] := by simp
      have hsplit : init = c ++ (u :: r').dropLast ∧ (u :: r').getLast hne = fin L := by
        rw [← List.dropLast_concat_getLast hne, ← List.append_assoc] at hc
        have := List.append_inj' hc rfl
        exact ⟨this.1, by simpa using this.2.symm⟩
      have hur : u :: r' = (u :: r').dropLast ++ [fin L] := by
        rw [← hsplit.2]
        exact (List.dropLast_concat_getLast hne).symm
      generalize hi2 : (u :: r').dropLast = i2 at hsplit hur
      have hi' : ∀ v ∈ i2, v.kind ≠ 4 := fun v hv => hi v (by rw [hsplit.1]; simp [hv])
      have hgoal := ih i2 hur hi'
      rw [← hgoal, List.cons_append, hsplit.1, List.append_assoc]
      cases i2 with
      | nil => exact parse_line h3 h4 (hloc e m (by omega)) (by unfold stop; rw [he]; rfl)
      | cons v i2 =>
        obtain ⟨rfl, _⟩ := List.cons.inj hur
        exact parse_line h3 h4 (hloc u (i2 ++ e :: m) (stop_not hu)) hu

theorem fine_init : ∀ (init : List Tk) (line L : Nat), Fine line (init ++ [fin L]) → ∀ t ∈ init, t.kind ≠ 4
  | [], _, _, _, t, h => by cases h
  | a :: init, line, L, hf, t, h => by
    have hf' : a.kind < 4 ∧ Fine (nxt a.kind line) (init ++ [fin L]) := by
      cases init with
      | nil => exact ⟨hf.2.1, hf.2.2.2.2.2⟩
      | cons b init => exact ⟨hf.2.1, hf.2.2.2.2.2⟩
    rcases List.mem_cons.1 h with rfl | h
    · omega
    · exact fine_init init _ L hf'.2 t h
theorem parseP_of {src : List UInt8} {d : Df} (h : parseP src = .ok d) : ∃ init L, lexP src 1 = .ok (init ++ [fin L]) ∧ 1 ≤ L ∧ src.length ≤ 20000 ∧ parseT ⟨[], []⟩ (init ++ [fin L]) = .ok d ∧ ∀ t ∈ init, t.kind ≠ 4 := by
  unfold parseP at h
  split at h
  · cases h
  · rename_i l hl
    unfold lexAll at hl
    split at hl
    · cases hl
    · rename_i hn
      obtain ⟨init, L, rfl, hL⟩ := lexP_last _ _ _ hl
      exact ⟨init, L, hl, hL, by omega, h, fine_init init 1 L (lexP_back _ _ _ hl).2.2⟩
theorem parseP_is {src : List UInt8} {l : List Tk} (hs : src.length ≤ 20000) (h : lexP src 1 = .ok l) : parseP src = parseT ⟨[], []⟩ l := by
  unfold parseP lexAll
  rw [if_neg (by omega), h]

/-- How many tokens a source has. -/
theorem lex_count : ∀ a line, ∀ x, lexP a line = .ok x → x.length ≤ a.length + 1 := by
  refine lexP_ind (fun line x h => ?_) (fun c r line hw ih x h => ?_) (fun r line ih x h => ?_) (fun c r line e hw h35 ht x h => ?_) (fun c r line kind text n rest hw h35 ht ih x h => ?_)
  · rw [lexP_nil] at h
    cases h
    simp
  · rw [lexP_white hw] at h
    have := ih x h
    simp only [List.length_cons]
    omega
  · rw [lexP_note] at h
    have := ih x h
    have := drop_len no10 r
    simp only [List.length_cons]
    omega
  · rw [lexP_bad hw h35 ht] at h
    cases h
  · rw [lexP_got hw h35 ht] at h
    cases hr : lexP rest (nxt kind line) with
    | bad e k => rw [hr] at h; cases h
    | ok l =>
      rw [hr] at h
      cases h
      have := ih l hr
      have := tok_len ht
      simp only [List.length_cons]
      omega

/-- Two sources with an LF between them. -/
theorem parse_join {a b : List UInt8} {x y : Df} (ha : parseP a = .ok x) (hb : parseP b = .ok y) (hy : y.decks = []) (la : a.length ≤ 2500) (lb : b.length ≤ 2500) :
    ∃ init L, lexAll a = .ok (init ++ [fin L]) ∧ parseP (a ++ 10 :: b) = .ok ⟨x.decks, x.items ++ y.items.map (upI L)⟩ := by
  obtain ⟨init, L, h1, h2, _, h3, h4⟩ := parseP_of ha
  obtain ⟨init2, L2, g1, g2, _, g3, g4⟩ := parseP_of hb
  refine ⟨init, L, by unfold lexAll; rw [if_neg (by omega), h1], ?_⟩
  have hl := lexP_lf b a 1 init L h1
  rw [show L + 1 = 1 + L by omega, lexP_shift, g1] at hl
  rw [parseP_is (by simp; omega) hl, parse_then (e := ⟨3, [], 0, L⟩) rfl _ h3 h4]
  have hu := parse_up L g3
  have c1 := lex_count _ _ _ h1
  have c2 := lex_count _ _ _ g1
  have n1 := (parse_grow h3).2.1
  have n2 := (parse_grow g3).2.1
  simp only [List.length_nil] at n1 n2
  have := parse_over hu (show (upD L y).decks = [] from hy) x.decks x.items (by show x.items.length + (y.items.map (upI L)).length ≤ 5000; rw [List.length_map]; omega)
  rw [show x.items ++ (upD L ⟨[], []⟩).items = x.items from List.append_nil _] at this
  exact this

theorem lf_lex (b : List UInt8) (line : Nat) : lexP (10 :: b) line = (lexP b (line + 1)).push ⟨3, [], 0, line⟩ := by
  have := lexP_lf b [] line [] line (lexP_nil line)
  rw [List.nil_append, join_nil] at this
  exact this
theorem lfs_parse (l : List Tk) (d : Df) (b : List UInt8) : ∀ (n line : Nat), lexP b (line + n) = .ok l → ∃ m, lexP (List.replicate n 10 ++ b) line = .ok m ∧ parseT d m = parseT d l
  | 0, line, h => ⟨l, h, rfl⟩
  | n + 1, line, h => by
    obtain ⟨m, h1, h2⟩ := lfs_parse l d b n (line + 1) (by rw [← h]; congr 1; omega)
    refine ⟨⟨3, [], 0, line⟩ :: m, ?_, ?_⟩
    · rw [List.replicate_succ, List.cons_append, lf_lex, h1]
      rfl
    · rw [parse_lf (by rfl), h2]
/-- Empty lines and a comment before it, blanks and a comment behind it. -/
theorem parse_blank {src com : List UInt8} {d : Df} {n : Nat} (h : parseP src = .ok d) (hc : ∀ c ∈ com, c ≠ 10) (ls : src.length ≤ 2500) (ln : n ≤ 50) (lc : com.length ≤ 100) :
    parseP (35 :: com ++ [10] ++ List.replicate n 10 ++ src ++ [32, 32, 32, 35] ++ com) = .ok (upD (n + 1) d) := by
  obtain ⟨init, L, h1, h2, _, h3, h4⟩ := parseP_of h
  have e : (35 :: com ++ [10] ++ List.replicate n 10 ++ src ++ [32, 32, 32, 35] ++ com : List UInt8) = 35 :: (com ++ 10 :: (List.replicate n 10 ++ (src ++ [32, 32, 32, 35] ++ com))) := by simp
  rw [e]
  have htail : lexP (src ++ ([32, 32, 32, 35] ++ com)) 1 = .ok (init ++ [fin L]) := by
    refine lexP_tail _ ?_ ?_ ?_ _ _ _ h1
    · intro c hm
      rcases List.mem_append.1 hm with hm | hm
      · have key : ∀ c ∈ ([32, 32, 32, 35] : List UInt8), c ≠ 10 := by decide
        exact key c hm
      · exact hc c hm
    · intro c r e
      obtain ⟨rfl, _⟩ := List.cons.inj e
      decide
    · intro line
      show lexP (32 :: 32 :: 32 :: 35 :: com) line = _
      rw [lexP_white (by decide), lexP_white (by decide), lexP_white (by decide), lexP_note]
      have e : com.dropWhile no10 = [] := by
        have := drop_all (l := com) (x := []) (p := no10) (fun c hm => by simp [no10, hc c hm])
        simpa using this
      rw [e, lexP_nil]
  rw [← List.append_assoc] at htail
  have hs := lexP_shift (n + 1) (src ++ [32, 32, 32, 35] ++ com) 1
  rw [htail] at hs
  have hs' : lexP (src ++ [32, 32, 32, 35] ++ com) (1 + 1 + n) = .ok ((init ++ [fin L]).map (up (n + 1))) := by
    rw [show 1 + 1 + n = 1 + (n + 1) by omega, hs]
    rfl
  obtain ⟨m, m1, m2⟩ := lfs_parse _ ⟨[], []⟩ _ n (1 + 1) hs'
  have hl : lexP (35 :: (com ++ 10 :: (List.replicate n 10 ++ (src ++ [32, 32, 32, 35] ++ com)))) 1 = .ok (⟨3, [], 0, 1⟩ :: m) := by
    rw [lexP_note, drop_all (fun c hm => by simp [no10, hc c hm])]
    show lexP (10 :: _) 1 = _
    rw [lf_lex, m1]
    rfl
  rw [parseP_is (by simp; omega) hl, parse_lf (by rfl), m2]
  exact parse_up (n + 1) h3

end Drf
end Go.Proofs.YtibeangcjfjeiaaDoor

namespace Go.Proofs.YtibeangcjfjeiaaDoor
open Txt Wire Lx
set_option linter.unusedVariables false
set_option maxRecDepth 100000
set_option linter.unusedSimpArgs false
namespace Drf

def noline (x : It) : It := { x with line := 0 }
def sameP (a b : Df) : Bool := decide (a.decks = b.decks) && decide (a.items.map noline = b.items.map noline)
theorem same_iff {a b : Df} : sameP a b = true ↔ a.decks = b.decks ∧ a.items.map noline = b.items.map noline := by
  unfold sameP
  simp
theorem same_refl (a : Df) : sameP a a = true := same_iff.2 ⟨rfl, rfl⟩
theorem lined_noline : ∀ (l : List It) (k : Nat), (lined l k).map noline = l.map noline
  | [], _ => rfl
  | x :: l, k => by
    show noline { x with line := k } :: (lined l (k + 1)).map noline = noline x :: l.map noline
    rw [lined_noline l (k + 1)]
    rfl
theorem same_lined (d : Df) (k : Nat) : sameP d ⟨d.decks, lined d.items k⟩ = true := same_iff.2 ⟨rfl, (lined_noline d.items k).symm⟩
theorem up_noline (s : Nat) (l : List It) : (l.map (upI s)).map noline = l.map noline := by
  rw [List.map_map]
  rfl
theorem same_up (s : Nat) (d : Df) : sameP (upD s d) d = true := same_iff.2 ⟨rfl, up_noline s d.items⟩
theorem same_over (s : Nat) (x y : Df) (D : List (List (List UInt8))) : sameP ⟨D, x.items ++ y.items.map (upI s)⟩ ⟨D, x.items ++ y.items⟩ = true := by
  refine same_iff.2 ⟨rfl, ?_⟩
  show (x.items ++ y.items.map (upI s)).map noline = (x.items ++ y.items).map noline
  rw [List.map_append, List.map_append, up_noline]
theorem rightIt_noline (x : It) : rightIt (noline x) = rightIt x := rfl

/-- There is a text when the draft is right and has something. -/
theorem text_some : ∀ (ls : List (List Pc)), ls ≠ [] → textOf ls ≠ []
  | [], h => absurd rfl h
  | l :: ls, _ => by
    intro e
    unfold textOf at e
    rw [List.flatMap_cons] at e
    have e1 := (List.append_eq_nil_iff.1 e).1
    cases l <;> simp [lineB] at e1
theorem lines_none {d : Df} (h : linesOf d = []) : d.decks = [] ∧ d.items = [] := by
  rw [lines_of] at h
  obtain ⟨h1, h2⟩ := List.append_eq_nil_iff.1 h
  refine ⟨?_, List.map_eq_nil_iff.1 h2⟩
  cases hd : d.decks with
  | nil => rfl
  | cons r rs =>
    rw [hd] at h1
    simp [deckLs] at h1
theorem print_some {d : Df} : right d = true ↔ (printP d ≠ [] ∨ (d.decks = [] ∧ d.items = [])) := by
  constructor
  · intro h
    by_cases hl : linesOf d = []
    · exact .inr (lines_none hl)
    · refine .inl ?_
      unfold printP
      rw [if_pos h]
      exact text_some _ hl
  · rintro (h | ⟨h1, h2⟩)
    · by_cases hr : right d = true
      · exact hr
      · unfold printP at h
        rw [if_neg hr] at h
        exact absurd rfl h
    · have : d = ⟨[], []⟩ := by
        cases d
        simp only at h1 h2
        rw [h1, h2]
      subst this
      decide +kernel

end Drf
end Go.Proofs.YtibeangcjfjeiaaDoor

namespace Go.Proofs.YtibeangcjfjeiaaDoor
open Txt Wire Lx
set_option linter.unusedVariables false
set_option maxRecDepth 100000
set_option linter.unusedSimpArgs false
namespace Drf

def tz : Tk := ⟨0, [], 0, 0⟩
/-- Where a reader is, and whether something did not fit. -/
structure Rs where
  l : List Tk
  bad : Bool
deriving DecidableEq
def Rs.hd (s : Rs) : Tk := s.l.headD tz
def Rs.take (kind : Nat) (s : Rs) : Tk × Rs := if s.bad = true ∨ s.hd.kind ≠ kind then (tz, ⟨s.l, true⟩) else (s.hd, ⟨s.l.tail, false⟩)
/-- A reading and a reader agree: on what is read, or on the line at which something did not fit. -/
def Ag {α : Type} : Rd α → α → Rs → Prop
  | .got b r, a, s => s = ⟨r, false⟩ ∧ a = b
  | .bad L, _, s => s.bad = true ∧ s.l ≠ [] ∧ s.hd.line = L
/-- A list that ends with an end. -/
def Ends (l : List Tk) : Prop := ∃ init L, l = init ++ [fin L]
theorem Ends.ne {l : List Tk} (h : Ends l) : l ≠ [] := by
  obtain ⟨init, L, rfl⟩ := h
  simp
theorem Ends.tail {t : Tk} {l : List Tk} (h : Ends (t :: l)) (ht : t.kind ≠ 4) : Ends l := by
  obtain ⟨init, L, e⟩ := h
  cases init with
  | nil =>
    obtain ⟨rfl, _⟩ := List.cons.inj e
    exact absurd rfl ht
  | cons u init =>
    obtain ⟨_, rfl⟩ := List.cons.inj e
    exact ⟨init, L, rfl⟩
theorem Rs.take_bad {s : Rs} {kind : Nat} (h : s.bad = true) : s.take kind = (tz, s) := by
  unfold Rs.take
  rw [if_pos (.inl h)]
  obtain ⟨l, b⟩ := s
  cases h
  rfl
theorem take_ag {kind : Nat} {l : List Tk} (h : Ends l) : Ag (takeT kind l) (Rs.take kind ⟨l, false⟩).1 (Rs.take kind ⟨l, false⟩).2 := by
  cases l with
  | nil => exact absurd rfl h.ne
  | cons t r =>
    rw [takeT_cons]
    unfold Rs.take
    by_cases hk : t.kind = kind
    · rw [if_pos hk, if_neg (by rintro (h | h); cases h; exact h hk)]
      exact ⟨rfl, rfl⟩
    · rw [if_neg hk, if_pos (.inr hk)]
      exact ⟨rfl, by simp, rfl⟩
/-- A reading behind another one. -/
theorem Ag.then {α β : Type} {x : Rd α} {a : α} {s : Rs} (h : Ag x a s) {f : α → List Tk → Rd β} {b : β} {s' : Rs} (hg : ∀ r, s = ⟨r, false⟩ → Ag (f a r) b s') (hb : s.bad = true → s' = s) : Ag (x.then f) b s' := by
  cases x with
  | got c r =>
    obtain ⟨h1, rfl⟩ := h
    exact hg r h1
  | bad L =>
    obtain ⟨h1, h2, h3⟩ := h
    rw [hb h1]
    exact ⟨h1, h2, h3⟩
/-- k numbers, one behind the other. -/
def numsB : Nat → Rs → List Int × Rs
  | 0, s => ([], s)
  | k + 1, s => let p := s.take 1; let q := numsB k p.2; (p.1.n :: q.1, q.2)
theorem numsB_bad : ∀ (k : Nat) {s : Rs}, s.bad = true → (numsB k s).2 = s
  | 0, s, h => rfl
  | k + 1, s, h => by
    show (numsB k (s.take 1).2).2 = s
    rw [Rs.take_bad h]
    exact numsB_bad k h
theorem take_ends {kind : Nat} {l r : List Tk} {t : Tk} (hk : kind ≠ 4) (h : takeT kind l = .got t r) (he : Ends l) : Ends r := by
  obtain ⟨rfl, h1⟩ := take_len h
  exact he.tail (by omega)
theorem numsB_ag : ∀ (k : Nat) {l : List Tk}, Ends l → Ag (numsR k l) (numsB k ⟨l, false⟩).1 (numsB k ⟨l, false⟩).2
  | 0, l, h => ⟨rfl, rfl⟩
  | k + 1, l, h => by
    have h1 := take_ag (kind := 1) h
    refine h1.then (fun r hr => ?_) (fun hb => numsB_bad k hb)
    have he : Ends r := by
      cases ht : takeT 1 l with
      | bad L => rw [ht] at h1; rw [hr] at h1; cases h1.1
      | got t r' =>
        rw [ht] at h1
        have := h1.1
        rw [hr] at this
        cases this
        exact take_ends (by decide) ht h
    show Ag ((numsR k r).then fun ns r' => .got ((Rs.take 1 ⟨l, false⟩).1.n :: ns) r') ((Rs.take 1 ⟨l, false⟩).1.n :: (numsB k (Rs.take 1 ⟨l, false⟩).2).1) (numsB k (Rs.take 1 ⟨l, false⟩).2).2
    rw [hr]
    refine (numsB_ag k he).then (fun r2 hr2 => ?_) (fun _ => rfl)
    exact ⟨hr2, rfl⟩

theorem Ag.ends {α : Type} {x : Rd α} {a : α} {s : Rs} (h : Ag x a s) {r : List Tk} (hr : s = ⟨r, false⟩) : x = .got a r := by
  cases x with
  | bad L =>
    have := h.1
    rw [hr] at this
    cases this
  | got c r' =>
    obtain ⟨h1, rfl⟩ := h
    rw [hr] at h1
    cases h1
    rfl
/-- k names, one behind the other. -/
def namesB : Nat → Rs → List (List UInt8) × Rs
  | 0, s => ([], s)
  | k + 1, s => let p := s.take 0; let q := namesB k p.2; (p.1.text :: q.1, q.2)
theorem namesB_bad : ∀ (k : Nat) {s : Rs}, s.bad = true → (namesB k s).2 = s
  | 0, s, h => rfl
  | k + 1, s, h => by
    show (namesB k (s.take 0).2).2 = s
    rw [Rs.take_bad h]
    exact namesB_bad k h
theorem namesB_ag : ∀ (k : Nat) {l : List Tk}, Ends l → Ag (namesR k l) (namesB k ⟨l, false⟩).1 (namesB k ⟨l, false⟩).2
  | 0, l, h => ⟨rfl, rfl⟩
  | k + 1, l, h => by
    have h1 := take_ag (kind := 0) h
    refine h1.then (fun r hr => ?_) (fun hb => namesB_bad k hb)
    have he : Ends r := take_ends (by decide) (h1.ends hr) h
    show Ag ((namesR k r).then fun ns r' => .got ((Rs.take 0 ⟨l, false⟩).1.text :: ns) r') ((Rs.take 0 ⟨l, false⟩).1.text :: (namesB k (Rs.take 0 ⟨l, false⟩).2).1) (namesB k (Rs.take 0 ⟨l, false⟩).2).2
    rw [hr]
    refine (namesB_ag k he).then (fun r2 hr2 => ?_) (fun _ => rfl)
    exact ⟨hr2, rfl⟩
theorem names_ends : ∀ {k : Nat} {l r : List Tk} {ns : List (List UInt8)}, namesR k l = .got ns r → Ends l → Ends r
  | 0, l, r, ns, h, he => by
    cases h
    exact he
  | k + 1, l, r, ns, h, he => by
    obtain ⟨t, r1, ht, h⟩ := then_got h
    obtain ⟨ms, r2, hn, h⟩ := then_got h
    cases h
    exact names_ends hn (take_ends (by decide) ht he)
theorem nums_ends : ∀ {k : Nat} {l r : List Tk} {ns : List Int}, numsR k l = .got ns r → Ends l → Ends r
  | 0, l, r, ns, h, he => by
    cases h
    exact he
  | k + 1, l, r, ns, h, he => by
    obtain ⟨t, r1, ht, h⟩ := then_got h
    obtain ⟨ms, r2, hn, h⟩ := then_got h
    cases h
    exact nums_ends hn (take_ends (by decide) ht he)
/-- The number of a direction; -1, if it is none. -/
def dirI (w : List UInt8) : Int := match dirOf w with
  | some d => d
  | none => -1
def dirB (s : Rs) : Int × Rs := if dirI s.hd.text < 0 ∨ s.hd.kind ≠ 0 then (dirI s.hd.text, ⟨s.l, true⟩) else (dirI s.hd.text, (s.take 0).2)
theorem dirB_bad {s : Rs} (h : s.bad = true) : (dirB s).2 = s := by
  unfold dirB
  split
  · obtain ⟨l, b⟩ := s
    cases h
    rfl
  · show (s.take 0).2 = s
    rw [Rs.take_bad h]
theorem dirB_ag {l : List Tk} (h : Ends l) : Ag (dirR l) (dirB ⟨l, false⟩).1 (dirB ⟨l, false⟩).2 := by
  cases l with
  | nil => exact absurd rfl h.ne
  | cons t r =>
    rw [dirR_cons]
    unfold dirB
    rw [show Rs.hd ⟨t :: r, false⟩ = t from rfl]
    by_cases hk : t.kind = 0
    · rw [if_pos hk]
      cases hd : dirOf t.text with
      | none =>
        have e : dirI t.text = -1 := by unfold dirI; rw [hd]
        show Ag (.bad t.line) _ _
        rw [e, if_pos (.inl (by decide))]
        exact ⟨rfl, by simp, rfl⟩
      | some d =>
        have e : dirI t.text = d := by unfold dirI; rw [hd]
        show Ag (.got (d : Int) r) _ _
        rw [e, if_neg (by rintro (h | h); omega; exact h hk)]
        refine ⟨?_, rfl⟩
        show (Rs.take 0 ⟨t :: r, false⟩).2 = _
        unfold Rs.take
        rw [if_neg (by rintro (h | h); cases h; exact h hk)]
        rfl
    · rw [if_neg hk, if_pos (.inr hk)]
      exact ⟨rfl, by simp, rfl⟩
theorem dir_ends {l r : List Tk} {d : Int} (h : dirR l = .got d r) (he : Ends l) : Ends r := by
  cases l with
  | nil => cases h
  | cons t l =>
    rw [dirR_cons] at h
    by_cases hk : t.kind = 0
    · rw [if_pos hk] at h
      cases hd : dirOf t.text with
      | none => rw [hd] at h; cases h
      | some e =>
        rw [hd] at h
        cases h
        exact he.tail (by omega)
    · rw [if_neg hk] at h
      cases h
def allB (k count : Nat) (s : Rs) : List Int × Rs :=
  if k = 2 then let p := numsB 3 s; let q := dirB p.2; (p.1 ++ [q.1], q.2) else numsB count s
theorem allB_bad {k count : Nat} {s : Rs} (h : s.bad = true) : (allB k count s).2 = s := by
  unfold allB
  split
  · show (dirB (numsB 3 s).2).2 = s
    rw [numsB_bad 3 h, dirB_bad h]
  · exact numsB_bad count h
theorem allB_ag {k count : Nat} {l : List Tk} (h : Ends l) : Ag (allR k count l) (allB k count ⟨l, false⟩).1 (allB k count ⟨l, false⟩).2 := by
  unfold allR allB
  by_cases hk : k = 2
  · rw [if_pos hk, if_pos hk]
    have h1 := numsB_ag 3 h
    refine h1.then (fun r hr => ?_) (fun hb => dirB_bad hb)
    show Ag _ ((numsB 3 ⟨l, false⟩).1 ++ [(dirB (numsB 3 ⟨l, false⟩).2).1]) (dirB (numsB 3 ⟨l, false⟩).2).2
    rw [hr]
    refine (dirB_ag (nums_ends (h1.ends hr) h)).then (fun r2 hr2 => ?_) (fun _ => rfl)
    exact ⟨hr2, rfl⟩
  · rw [if_neg hk, if_neg hk]
    exact numsB_ag count h
theorem all_ends {k count : Nat} {l r : List Tk} {ns : List Int} (h : allR k count l = .got ns r) (he : Ends l) : Ends r := by
  unfold allR at h
  by_cases hk : k = 2
  · rw [if_pos hk] at h
    obtain ⟨ms, r1, hn, h⟩ := then_got h
    obtain ⟨d, r2, hd, h⟩ := then_got h
    cases h
    exact dir_ends hd (nums_ends hn he)
  · rw [if_neg hk] at h
    exact nums_ends h he
/-- A further name, if there is one and nothing was wrong. -/
def moreB (more : Bool) (s : Rs) : List UInt8 × Rs := if more = true ∧ s.bad = false ∧ s.hd.kind = 0 then ((s.take 0).1.text, (s.take 0).2) else ([], s)
theorem moreB_bad {more : Bool} {s : Rs} (h : s.bad = true) : moreB more s = ([], s) := by
  unfold moreB
  rw [if_neg (by rw [h]; simp)]
theorem moreB_is {more : Bool} {l : List Tk} (h : Ends l) : moreB more ⟨l, false⟩ = ((moreR more l).1, ⟨(moreR more l).2, false⟩) := by
  cases l with
  | nil => exact absurd rfl h.ne
  | cons t r =>
    unfold moreB
    cases more with
    | false => rfl
    | true =>
      have e : moreR true (t :: r) = if t.kind = 0 then (t.text, r) else ([], t :: r) := rfl
      rw [e]
      by_cases hk : t.kind = 0
      · rw [if_pos ⟨rfl, rfl, hk⟩, if_pos hk]
        unfold Rs.take
        rw [if_neg (by rintro (h | h); cases h; exact h hk)]
        rfl
      · rw [if_neg (by rintro ⟨_, _, h⟩; exact hk h), if_neg hk]
/-- The line of an item, after its first word. -/
def itemB (k line : Nat) (s : Rs) : It × Rs :=
  match form k with
  | none => (⟨k, [], [], [], line⟩, s)
  | some f => let p := namesB f.names s; let q := allB k f.count p.2; let m := moreB f.more q.2
    (⟨k, if f.more then m.1 else p.1.headD [], p.1.getD 1 [], q.1, line⟩, m.2)
theorem itemB_ag {k line : Nat} (hk : k < 6) {l : List Tk} (h : Ends l) : Ag (itemR k line l) (itemB k line ⟨l, false⟩).1 (itemB k line ⟨l, false⟩).2 := by
  unfold itemR itemB
  cases hf : form k with
  | none => match k, hk with
    | 0, _ | 1, _ | 2, _ | 3, _ | 4, _ | 5, _ => cases hf
  | some f =>
    have h1 := namesB_ag f.names h
    have hm : ∀ {s : Rs}, s.bad = true → (moreB f.more (allB k f.count s).2).2 = s := by
      intro s hs
      rw [moreB_bad (by rw [allB_bad hs]; exact hs), allB_bad hs]
    refine h1.then (fun r hr => ?_) (fun hb => hm hb)
    have he := names_ends (h1.ends hr) h
    have h2 := allB_ag (k := k) (count := f.count) he
    show Ag _ (It.mk k (if f.more then (moreB f.more (allB k f.count (namesB f.names ⟨l, false⟩).2).2).1 else (namesB f.names ⟨l, false⟩).1.headD []) ((namesB f.names ⟨l, false⟩).1.getD 1 []) (allB k f.count (namesB f.names ⟨l, false⟩).2).1 line) (moreB f.more (allB k f.count (namesB f.names ⟨l, false⟩).2).2).2
    rw [hr]
    refine h2.then (fun r2 hr2 => ?_) (fun hb => by rw [moreB_bad hb])
    have he2 := all_ends (h2.ends hr2) he
    rw [hr2, moreB_is he2]
    exact ⟨rfl, rfl⟩
theorem itemB_ends {k line : Nat} {l r : List Tk} {x : It} (h : itemR k line l = .got x r) (he : Ends l) : Ends r := by
  obtain ⟨c, rfl, _⟩ := item_loc h
  obtain ⟨init, L, e⟩ := he
  have hr : r ≠ [] := by
    rintro rfl
    unfold itemR at h
    cases hf : form k with
    | none => rw [hf] at h; cases h
    | some f =>
      rw [hf] at h
      obtain ⟨nm, r1, hn, h⟩ := then_got h
      obtain ⟨ns, r2, ha, h⟩ := then_got h
      have he2 : Ends r2 := all_ends ha (names_ends hn ⟨init, L, e⟩)
      have h3 : (moreR f.more r2).2 = [] := (Rd.got.inj (show Rd.got _ (moreR f.more r2).2 = Rd.got x [] from h)).2
      obtain ⟨c2, hc2, _⟩ := more_loc f.more r2
      cases hm : f.more with
      | false =>
        rw [hm] at h3
        cases r2 with
        | nil => exact he2.ne rfl
        | cons a b => cases h3
      | true =>
        rw [hm] at h3
        cases r2 with
        | nil => exact he2.ne rfl
        | cons a b =>
          have e2 : moreR true (a :: b) = if a.kind = 0 then (a.text, b) else ([], a :: b) := rfl
          rw [e2] at h3
          by_cases hk : a.kind = 0
          · rw [if_pos hk] at h3
            have h3 : b = [] := h3
            exact (he2.tail (by omega)).ne h3
          · rw [if_neg hk] at h3
            cases h3
  rw [← List.dropLast_concat_getLast hr, ← List.append_assoc] at e
  have := List.append_inj' e rfl
  refine ⟨r.dropLast, L, ?_⟩
  conv => lhs; rw [← List.dropLast_concat_getLast hr]
  rw [this.2]

end Drf
end Go.Proofs.YtibeangcjfjeiaaDoor

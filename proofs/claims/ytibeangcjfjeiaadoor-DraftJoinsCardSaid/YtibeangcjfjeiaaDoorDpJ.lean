/- What reads a line, word by word. -/
import Derived.Test.YtibeangcjfjeiaaDoorDpI
namespace Go.Proofs.YtibeangcjfjeiaaDoor
open Go.RowKit Txt Wire Lx
set_option linter.unusedVariables false
set_option maxRecDepth 100000
set_option linter.unusedSimpArgs false
namespace Drf

/-- What a reader of lines leaves. -/
def LPost (W : World) (b : Nat) : (Nat × Nat ⊕ Df × List Tk) → Ending → World → Prop
  | .inl (er, L), e, w' => e = .returned (.int .i64 er) ∧ (er = 6 ∨ er = 11) ∧ ∃ dx u r, PS W w' b (u :: r) dx ∧ u.line = L
  | .inr (d', r), e, w' => e = .returned (.int .i64 0) ∧ PS W w' b r d'
theorem lpost_inl {W w' : World} {b er L : Nat} {e : Ending} {dx : Df} {u : Tk} {r : List Tk} (he : e = .returned (.int .i64 er)) (h2 : er = 6 ∨ er = 11) (h : PS W w' b (u :: r) dx) (hL : u.line = L) : LPost W b (.inl (er, L)) e w' := ⟨he, h2, dx, u, r, h, hL⟩
theorem lpost_inr {W w' : World} {b : Nat} {e : Ending} {d : Df} {r : List Tk} (he : e = .returned (.int .i64 0)) (h : PS W w' b r d) : LPost W b (.inr (d, r)) e w' := ⟨he, h⟩

theorem lineR_deck {d : Df} {t : Tk} {l : List Tk} (hk : t.kind = 0) (ht : t.text = wDeck) : lineR d t l = if 4 ≤ d.decks.length then .inl (6, t.line) else .inr ({ d with decks := d.decks ++ [[]] }, l) := by
  unfold lineR
  rw [if_neg (by omega), if_pos ht]
theorem lineR_row {d : Df} {t u : Tk} {l : List Tk} (hk : t.kind = 0) (ht : t.text = wRow) (hd : d.decks ≠ []) : lineR d t (u :: l) = if 4096 ≤ (d.decks.getLastD []).length then .inl (6, t.line) else if u.kind = 2 then (if 4096 < u.text.length then .inl (6, t.line) else .inr (d.row u.text, l)) else .inl (11, u.line) := by
  unfold lineR
  rw [if_neg (by omega), if_neg (by rw [ht]; decide), if_pos ⟨ht, hd⟩, takeT_cons]
  by_cases h : 4096 ≤ (d.decks.getLastD []).length
  · rw [if_pos h, if_pos h]
  · rw [if_neg h, if_neg h]
    by_cases h2 : u.kind = 2
    · rw [if_pos h2, if_pos h2]
    · rw [if_neg h2, if_neg h2]
theorem lineR_none {d : Df} {t : Tk} {l : List Tk} (hk : t.kind = 0) (h1 : t.text ≠ wDeck) (h2 : ¬ (t.text = wRow ∧ d.decks ≠ [])) (h3 : kindOf t.text = none) : lineR d t l = .inl (11, t.line) := by
  unfold lineR
  rw [if_neg (by omega), if_neg h1, if_neg h2, h3]
theorem lineR_item {d : Df} {t : Tk} {l : List Tk} {k : Nat} (hk : t.kind = 0) (h1 : t.text ≠ wDeck) (h2 : t.text ≠ wRow) (h3 : kindOf t.text = some k) : lineR d t l = if 5000 ≤ d.items.length then .inl (6, t.line) else match itemR k t.line l with | .bad L => .inl (11, L) | .got x r => .inr ({ d with items := d.items ++ [x] }, r) := by
  unfold lineR
  rw [if_neg (by omega), if_neg h1, if_neg (fun h => h2 h.1), h3]
  show (if 5000 ≤ d.items.length then _ else _) = _
  cases itemR k t.line l <;> rfl

theorem read_deck {W w : World} {b : Nat} {t : Tk} {l : List Tk} {d : Df} (h : PS W w b (t :: l) d) (hs : Sml d) (he : Ends l) (hll : l.length ≤ 900000000) (hk : t.kind = 0) (ht : t.text = wDeck) :
    Calls Tryd.prog 65 #[ptr b] w (LPost W b (lineR d t l)) := by
  rw [lineR_deck hk ht]
  by_cases h4 : 4 ≤ d.decks.length
  · rw [if_pos h4]
    refine (deck_full h (by have := hs.decks; omega)).mono ?_
    rintro e w' ⟨rfl, rfl⟩
    exact lpost_inl rfl (.inl rfl) h rfl
  · rw [if_neg h4]
    refine (deck_more h (List.length_pos_iff.2 he.ne) (by omega) (by omega)).mono ?_
    rintro e w' ⟨rfl, h2⟩
    exact lpost_inr rfl h2
theorem read_row {W w : World} {b : Nat} {t : Tk} {l : List Tk} {d : Df} (h : PS W w b (t :: l) d) (hs : Sml d) (he : Ends l) (hll : l.length ≤ 900000000) (hk : t.kind = 0) (ht : t.text = wRow) :
    Calls Tryd.prog 66 #[ptr b] w (LPost W b (lineR d t l)) := by
  by_cases hd : d.decks = []
  · rw [lineR_none hk (by rw [ht]; decide) (fun h => h.2 hd) (by rw [ht]; decide)]
    refine (row_none h hd).mono ?_
    rintro e w' ⟨rfl, rfl⟩
    exact lpost_inl rfl (.inr rfl) h rfl
  · obtain ⟨u, r, rfl⟩ := List.exists_cons_of_ne_nil he.ne
    rw [lineR_row hk ht hd]
    refine (row_some h hd hs (fun hu => List.length_pos_iff.2 (he.tail hu).ne) (by simp at hll; omega)).mono ?_
    intro e w' hp
    unfold RowPost at hp
    by_cases h1 : 4096 ≤ (d.decks.getLastD []).length
    · rw [if_pos (.inl h1)] at hp
      rw [if_pos h1]
      exact lpost_inl hp.1 (.inl rfl) hp.2 rfl
    · rw [if_neg h1]
      by_cases h2 : u.kind = 2
      · rw [if_pos h2]
        by_cases h3 : 4096 < u.text.length
        · rw [if_pos (.inr ⟨h2, h3⟩)] at hp
          rw [if_pos h3]
          exact lpost_inl hp.1 (.inl rfl) hp.2 rfl
        · rw [if_neg (by rintro (h | ⟨_, h⟩); exact h1 h; exact h3 h), if_neg (fun h => h h2)] at hp
          rw [if_neg h3]
          exact lpost_inr hp.1 hp.2
      · rw [if_neg (by rintro (h | ⟨h, _⟩); exact h1 h; exact h2 h), if_pos h2] at hp
        rw [if_neg h2]
        exact lpost_inl hp.1 (.inr rfl) hp.2 rfl
theorem read_item {W w : World} {b : Nat} {t : Tk} {l : List Tk} {d : Df} {k : Nat} (h : PS W w b (t :: l) d) (hs : Sml d) (he : Ends l) (hll : l.length ≤ 900000000) (hv : VD w) (hf : VF w) (hgd : 1 < b) (hgf : 0 < b) (hk : t.kind = 0) (ht : kindOf t.text = some k) (h1 : t.text ≠ wDeck) (h2 : t.text ≠ wRow) :
    Calls Tryd.prog 68 #[ptr b, .int .i64 k] w (LPost W b (lineR d t l)) := by
  rw [lineR_item hk h1 h2 ht]
  by_cases h5 : 5000 ≤ d.items.length
  · rw [if_pos h5]
    refine (item_full h (by have := hs.items; omega)).mono ?_
    rintro e w' ⟨rfl, rfl⟩
    exact lpost_inl rfl (.inl rfl) h rfl
  · rw [if_neg h5]
    refine (item_some h (kindOf_lt ht) (by omega) he hll hv hf hgd hgf).mono ?_
    intro e w' hp
    unfold IPost at hp
    cases hi : itemR k t.line l with
    | bad L =>
      rw [hi] at hp
      obtain ⟨he, u, r, h1, h2⟩ := hp
      exact lpost_inl he (.inr rfl) h1 h2
    | got x r =>
      rw [hi] at hp
      exact lpost_inr hp.1 hp.2
set_option maxHeartbeats 1000000 in
theorem closure_any {w : World} {b q g : Nat} {k : Nat} {R : Ending → World → Prop} (hq : w.cell? ⟨q, 0, none⟩ = some (ptr b)) (hg : w.cell? ⟨g, 0, none⟩ = some (.int .i64 k)) (hc : Calls Tryd.prog 68 #[ptr b, .int .i64 k] w fun e w' => ∃ z : Int, e = .returned (.int .i64 z) ∧ R e w') :
    Calls Tryd.prog 67 #[ptr q, ptr g] w R := by
  have HC := Lib.hid hc
  clear hc
  go_enter Tryd.func67, Tryd.ntmps67
  go_wp2_with (go_at_call 68; go_must (
    refine HC.out.mono ?_; rintro e w1 ⟨z, rfl, h1⟩))
  exact h1
theorem lpost_int {W w' : World} {b : Nat} {x : Nat × Nat ⊕ Df × List Tk} {e : Ending} (h : LPost W b x e w') : ∃ z : Int, e = .returned (.int .i64 z) ∧ LPost W b x e w' := by
  cases x with
  | inl p => exact ⟨_, h.1, h⟩
  | inr p => exact ⟨_, h.1, h⟩
end Drf
end Go.Proofs.YtibeangcjfjeiaaDoor

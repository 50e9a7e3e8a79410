/- Of the parts: what is asked of them. -/
import Derived.Test.YtgophgnfiboefaaDoorRwS
namespace Go.Proofs.YtgophgnfiboefaaDoor
open Go.RowKit Wire
open Txt (Row)
open Go.Proofs.YtgophgnfiboefaaDoor.Own Flo
open Dsk (Only nth)
set_option linter.unusedVariables false
set_option linter.unusedSimpArgs false
set_option linter.unusedSectionVars false
namespace Rgn
/-- The first parts in one. -/
def UU (P : Nat → List Nat) : Nat → List Nat
  | 0 => []
  | i + 1 => uniR (UU P i) (P i)
theorem reg_nil : Reg [] := ⟨List.Pairwise.nil, by simp⟩
theorem UU_reg (P : Nat → List Nat) (i : Nat) : Reg (UU P i) := by
  cases i
  · exact reg_nil
  · exact Reg.of _
theorem UU_mem {P : Nat → List Nat} {N : Nat} (h : ∀ i, i < N → Reg (P i)) : ∀ {i : Nat}, i ≤ N → ∀ x, x ∈ UU P i ↔ ∃ k, k < i ∧ x ∈ P k
  | 0, _, x => by simp [UU]
  | i + 1, hi, x => by
    show x ∈ uniR (UU P i) (P i) ↔ _
    rw [uni_mem (UU_reg P i) (h i (by omega)), UU_mem h (by omega) x]
    constructor
    · rintro (⟨k, hk, hx⟩ | hx)
      · exact ⟨k, by omega, hx⟩
      · exact ⟨i, by omega, hx⟩
    · rintro ⟨k, hk, hx⟩
      by_cases e : k = i
      · exact .inr (e ▸ hx)
      · exact .inl ⟨k, by omega, hx⟩
/-- Those that one can stand on. -/
def wantB (f : Fl) (x : Nat) : Bool := decide (x < f.Kind.length) && f.kindAt x != 0
def wantL (f : Fl) (a : List Nat) : List Nat := a.filter (wantB f)
theorem opn_usL {f : Fl} {a : List Nat} {x : Nat} : opn (usL f a) x ↔ x < f.Kind.length ∧ x ∈ a ∧ f.kindAt x ≠ 0 := by
  constructor
  · intro h
    have h2 := opn_lt h
    rw [usL_len] at h2
    unfold opn at h
    rw [usL_at f a h2] at h
    unfold usB at h
    simp at h
    exact ⟨h2, h.1, h.2⟩
  · rintro ⟨h1, h2, h3⟩
    unfold opn
    rw [usL_at f a h1]
    unfold usB
    simp [h2, h3]
theorem want_mem {f : Fl} {a : List Nat} {x : Nat} : x ∈ wantL f a ↔ opn (usL f a) x := by
  unfold wantL wantB
  rw [List.mem_filter, opn_usL]
  simp
  constructor
  · rintro ⟨h1, h2, h3⟩
    exact ⟨h2, h1, h3⟩
  · rintro ⟨h1, h2, h3⟩
    exact ⟨h2, h1, h3⟩
structure Good (f : Fl) (a : List Nat) (N : Nat) (P : Nat → List Nat) : Prop where
  cnt : N ≤ 4096
  reg : ∀ i, i < N → Reg (P i)
  ne : ∀ i, i < N → 0 < (P i).length
  lnk : ∀ i, i < N → lnkB f (P i) = true
  sep : ∀ i k, k < i → i < N → lnkB f (uniR (P i) (P k)) = false
  hd : ∀ i, i + 1 < N → (P i).getD 0 0 < (P (i + 1)).getD 0 0
  dis : ∀ i, i < N → intR (UU P i) (P i) = []
  last : UU P N = wantL f a
  only : lnkB f a = (decide (a.length = 0) || (decide (N = 1) && decide (P 0 = a)))
section
variable {f : Fl} (ho : f.ok) {a : List Nat} (ha : Reg a) {Ps : List (List Nat)} (h : IsParts (stE f.next) (opn (usL f a)) Ps)
include ho ha h
theorem part_in {x : Nat} {p : List Nat} (hp : p ∈ Ps) (hx : x ∈ p) : opn (usL f a) x := ((h.cls p hp x hx x).1 hx).1
theorem part_open {x : Nat} {p : List Nat} (hp : p ∈ Ps) : opn (usL f p) x ↔ x ∈ p := by
  rw [opn_usL]
  constructor
  · exact fun k => k.2.1
  · intro hx
    have := opn_usL.1 (part_in ho ha h hp hx)
    exact ⟨this.1, hx, this.2.2⟩
theorem part_way {x : Nat} {p : List Nat} (hp : p ∈ Ps) (hx : x ∈ p) {z : Nat} (k : Rch (stE f.next) (opn (usL f a)) x z) : Rch (stE f.next) (opn (usL f a)) z x → Rch (stE f.next) (opn (usL f p)) x z := by
  induction k with
  | refl => exact fun _ => .refl
  | step k1 e pz ih =>
    intro hb
    refine (ih (Rch.head e pz hb)).step e ?_
    rw [part_open ho ha h hp]
    exact (h.cls p hp x hx _).2 ⟨pz, k1.step e pz, hb⟩
theorem part_one {p : List Nat} (hp : p ∈ Ps) : partsOf f p = [p] := by
  refine (partsOf_eq (f := f) (r := p) (Ps := [p]) ⟨?_, ?_, ?_, ?_, ?_⟩).symm
  · intro q hq
    rw [List.mem_singleton] at hq
    subst hq
    exact h.asc q hp
  · intro q hq
    rw [List.mem_singleton] at hq
    subst hq
    exact h.ne q hp
  · intro q hq x hx y
    rw [List.mem_singleton] at hq
    subst hq
    rw [part_open ho ha h hp]
    constructor
    · intro hy
      obtain ⟨_, h1, h2⟩ := (h.cls q hp x hx y).1 hy
      exact ⟨hy, part_way ho ha h hp hx h1 h2, part_way ho ha h hp hy h2 h1⟩
    · exact fun k => k.1
  · intro x hx
    exact ⟨p, by simp, (part_open ho ha h hp).1 hx⟩
  · simp
theorem part_apart {p q : List Nat} (hp : p ∈ Ps) (hq : q ∈ Ps) {x : Nat} (hx : x ∈ p) (hy : x ∈ q) : p = q :=
  asc_unique (h.asc p hp) (h.asc q hq) fun y => by rw [h.cls p hp x hx y, h.cls q hq x hy y]
theorem part_two {p q : List Nat} (hp : p ∈ Ps) (hq : q ∈ Ps) (hne : p ≠ q) : lnkB f (uniR p q) = false := by
  have rp := (usL_small ho h hp).1
  have rq := (usL_small ho h hq).1
  obtain ⟨x, hx⟩ := List.exists_mem_of_ne_nil p (h.ne p hp)
  obtain ⟨y, hy⟩ := List.exists_mem_of_ne_nil q (h.ne q hq)
  have hxv : x ∈ uniR p q := (uni_mem rp rq).2 (.inl hx)
  have hyv : y ∈ uniR p q := (uni_mem rp rq).2 (.inr hy)
  cases hb : lnkB f (uniR p q) with
  | false => rfl
  | true =>
    exfalso
    have := of_decide_eq_true hb
    rcases this with e | e
    · rw [e] at hxv
      simp at hxv
    · unfold partsOf at e
      by_cases hex : ∃ Qs, IsParts (stE f.next) (opn (usL f (uniR p q))) Qs
      · rw [dif_pos hex] at e
        have hs := hex.choose_spec
        rw [e] at hs
        obtain ⟨_, h1, h2⟩ := (hs.cls _ (by simp) x hxv y).1 hyv
        have sub : ∀ z, opn (usL f (uniR p q)) z → opn (usL f a) z := fun z hz => by
          rcases (uni_mem rp rq).1 (opn_usL.1 hz).2.1 with k | k
          · exact part_in ho ha h hp k
          · exact part_in ho ha h hq k
        exact hne (part_apart ho ha h hp hq ((h.cls p hp x hx y).2 ⟨part_in ho ha h hq hy, h1.mono (fun _ _ e => e) sub, h2.mono (fun _ _ e => e) sub⟩) hy)
      · rw [dif_neg hex] at e
        simp at e
theorem good_of : Good f a Ps.length (fun i => Ps.getD i []) := by
  have hm : ∀ i, i < Ps.length → Ps.getD i [] ∈ Ps := fun i hi => by
    rw [List.getD_eq_getElem?_getD, List.getElem?_eq_getElem hi]
    exact List.getElem_mem hi
  have hr : ∀ i, i < Ps.length → Reg (Ps.getD i []) := fun i hi => (usL_small ho h (hm i hi)).1
  have hh : ∀ i k, k < i → i < Ps.length → (Ps.getD k []).headD 0 < (Ps.getD i []).headD 0 := fun i k hk hi => by
    have := List.pairwise_iff_getElem.1 h.ord k i (by omega) hi hk
    rw [List.getD_eq_getElem?_getD, List.getD_eq_getElem?_getD, List.getElem?_eq_getElem hi, List.getElem?_eq_getElem (show k < Ps.length by omega)]
    exact this
  have hne : ∀ i k, k < i → i < Ps.length → Ps.getD i [] ≠ Ps.getD k [] := fun i k hk hi e => by
    have := hh i k hk hi
    rw [e] at this
    omega
  have h0 : ∀ l : List Nat, l.getD 0 0 = l.headD 0 := fun l => by cases l <;> rfl
  constructor
  · have h1 : (Ps.map fun p => p.headD 0).Pairwise (· < ·) := List.pairwise_map.2 h.ord
    have h2 := asc_len (n := 4096) h1 (fun x hx => by
      obtain ⟨p, hp, rfl⟩ := List.mem_map.1 hx
      have hn := h.ne p hp
      cases p with
      | nil => exact absurd rfl hn
      | cons c p => exact (usL_small ho h hp).1.lt c (by simp))
    rw [List.length_map] at h2
    exact h2
  · exact hr
  · intro i hi
    exact List.length_pos_iff.2 (h.ne _ (hm i hi))
  · intro i hi
    exact decide_eq_true (.inr (part_one ho ha h (hm i hi)))
  · intro i k hk hi
    exact part_two ho ha h (hm i hi) (hm k (by omega)) (hne i k hk hi)
  · intro i hi
    rw [h0, h0]
    exact hh (i + 1) i (by omega) hi
  · intro i hi
    refine reg_ext (Reg.of _) reg_nil fun x => ?_
    rw [int_mem (UU_reg _ _), UU_mem hr (Nat.le_of_lt hi)]
    constructor
    · rintro ⟨⟨k, hk, hx⟩, hy⟩
      exact absurd (part_apart ho ha h (hm i hi) (hm k (by omega)) hy hx) (hne i k hk hi)
    · intro hx
      simp at hx
  · refine reg_ext (UU_reg _ _) ⟨ha.asc.filter _, fun x hx => ha.lt x (List.mem_filter.1 hx).1⟩ fun x => ?_
    rw [UU_mem hr (Nat.le_refl _), want_mem]
    constructor
    · rintro ⟨k, hk, hx⟩
      exact part_in ho ha h (hm k hk) hx
    · intro hx
      obtain ⟨p, hp, hxp⟩ := h.all x hx
      obtain ⟨k, hk, e⟩ := List.getElem_of_mem hp
      refine ⟨k, hk, ?_⟩
      rw [List.getD_eq_getElem?_getD, List.getElem?_eq_getElem hk, e]
      exact hxp
  · unfold lnkB
    rw [← partsOf_eq h, Bool.eq_iff_iff]
    simp only [decide_eq_true_iff, Bool.or_eq_true, Bool.and_eq_true]
    constructor
    · rintro (e | e)
      · exact .inl (by rw [e]; rfl)
      · exact .inr (by rw [e]; exact ⟨rfl, rfl⟩)
    · rintro (e | ⟨e1, e2⟩)
      · exact .inl (List.length_eq_zero_iff.1 e)
      · obtain ⟨q, rfl⟩ := List.length_eq_one_iff.1 e1
        exact .inr (by rw [show q = a from e2])
end
/-- What a call of Parts leaves, laid out. -/
def PackP (f : Fl) (a : List Nat) (w : World) (e : Ending) (w' : World) : Prop :=
  ∃ (A : Option Addr) (c N : Nat) (P : Nat → List Nat) (PV : Nat → Option Addr) (PQ : Nat → Nat), e = .returned (.slice A N c) ∧ Good f a N P ∧
    (∃ b o, ∀ i, i < N → A = some ⟨b, o, none⟩ ∧ ∀ w2, Below w'.heap.size w' w2 → w2.cell? ⟨b, o + i, none⟩ = some (.slice (PV i) (P i).length (PQ i))) ∧
    (∀ i, i < N → ∀ w2, Below w'.heap.size w' w2 → Row w2 w2.heap.size (PV i) (qvs (P i))) ∧ Below w.heap.size w w'
theorem pack_of {f : Fl} (ho : f.ok) {a : List Nat} (ha : Reg a) {w : World} {fn : FuncId} {args : Array Value} (h : Calls Tryd.prog fn args w (PartsOf f a w)) : Calls Tryd.prog fn args w (PackP f a w) := by
  refine h.mono ?_
  rintro e w' ⟨A, c, qs, rfl, h1, h2, h3, h4, h5⟩
  have hsl : ∀ i, i < qs.length → ∃ (AV : Option Addr) (AC : Nat), (qs.getD i default).1 = .slice AV (qs.getD i default).2.length AC ∧ Row w' w'.heap.size AV (qvs (qs.getD i default).2) := fun i hi => h4 _ (by
    rw [List.getD_eq_getElem?_getD, List.getElem?_eq_getElem hi]
    exact List.getElem_mem hi)
  have hch : ∀ i, ∃ x : Option Addr × Nat, i < qs.length → (qs.getD i default).1 = .slice x.1 (qs.getD i default).2.length x.2 ∧ Row w' w'.heap.size x.1 (qvs (qs.getD i default).2) := fun i => by
    by_cases hi : i < qs.length
    · obtain ⟨x, y, k⟩ := hsl i hi
      exact ⟨(x, y), fun _ => k⟩
    · exact ⟨default, fun k => absurd k hi⟩
  obtain ⟨X, hX⟩ := Classical.axiomOfChoice hch
  have hg := good_of ho ha h2
  have hP : ∀ i, i < qs.length → (qs.map (·.2)).getD i [] = (qs.getD i default).2 := fun i hi => by
    rw [List.getD_eq_getElem?_getD, List.getElem?_map, List.getD_eq_getElem?_getD, List.getElem?_eq_getElem hi]
    rfl
  rw [List.length_map] at hg
  refine ⟨A, c, qs.length, fun i => (qs.map (·.2)).getD i [], fun i => (X i).1, fun i => (X i).2, rfl, hg, ?_, fun i hi w2 b => ?_, h5⟩
  · have key : ∀ i, i < qs.length → ∃ b o, A = some ⟨b, o, none⟩ ∧ ∀ w2, Below w'.heap.size w' w2 → w2.cell? ⟨b, o + i, none⟩ = some (.slice (X i).1 ((qs.map (·.2)).getD i []).length (X i).2) := fun i hi => by
      obtain ⟨b, o, e, hlt, hc⟩ := h3 i (qs.getD i default).1 (by
        rw [List.getElem?_map, List.getD_eq_getElem?_getD, List.getElem?_eq_getElem hi]
        rfl)
      refine ⟨b, o, e, fun w2 hb => ?_⟩
      rw [hP i hi, ← (hX i hi).1]
      exact (hb.cell (p := ⟨b, o + i, none⟩) hlt).trans hc
    by_cases h0 : 0 < qs.length
    · obtain ⟨b, o, e, _⟩ := key 0 h0
      refine ⟨b, o, fun i hi => ⟨e, ?_⟩⟩
      obtain ⟨b', o', e', hc⟩ := key i hi
      rw [e] at e'
      injection e' with e'
      injection e' with e1 e2
      subst e1
      subst e2
      exact hc
    · exact ⟨0, 0, fun i hi => absurd hi (by omega)⟩
  · dsimp only
    rw [hP i hi]
    exact (hX i hi).2.lift b
theorem want_succ {f : Fl} {a : List Nat} {i : Nat} (h : i < a.length) : wantL f (a.take (i + 1)) = wantL f (a.take i) ++ if wantB f (a.getD i 0) then [a.getD i 0] else [] := filter_take_succ h _
end Rgn
end Go.Proofs.YtgophgnfiboefaaDoor

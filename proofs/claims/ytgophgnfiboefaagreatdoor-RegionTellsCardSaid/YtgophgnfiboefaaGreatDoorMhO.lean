/- Of Inside: what is asked of the distances. The reference's spread, plainly: what is shut is what is not marked. The reference's Parts, plainly: one part after the other, by the least cell that is left. The cells that one reaches and that reach one; linked; plainly. -/
import Derived.Test.YtgophgnfiboefaaGreatDoorMhN
import Derived.Test.YtgophgnfiboefaaGreatDoorRpK
import Derived.Test.YtgophgnfiboefaaGreatDoorMhK
namespace Go.Proofs.YtgophgnfiboefaaGreatDoor
open Go.RowKit Wire
open Txt (Row)
open Go.Proofs.YtgophgnfiboefaaGreatDoor.Own Flo
open Dsk (Only nth)
set_option linter.unusedVariables false
set_option linter.unusedSimpArgs false
set_option linter.unusedSectionVars false
namespace Rgn
theorem may_both {f : Fl} {c n d : Int} (h : f.may c n d = true) : f.kindAt c ≠ 0 ∧ f.kindAt n ≠ 0 ∧ bitOf (f.outAt c) d ≠ 0 := by
  rw [may_eq] at h
  simp only [Bool.and_eq_true, bne_iff_ne] at h
  exact ⟨h.1.1.1, h.1.1.2, h.1.2⟩
/-- What the distances are, cell by cell. -/
structure DLoc (f : Fl) (src avoid l : List Int) : Prop where
  zero : ∀ c : Nat, c < f.Kind.length → (gt l c = 0 ↔ ((c : Int) ∈ src ∧ shutB f avoid c = false))
  shut : ∀ c : Nat, c < f.Kind.length → shutB f avoid c = true → gt l c = -1
  low : ∀ c : Nat, c < f.Kind.length → -1 ≤ gt l c ∧ gt l c < f.Kind.length
  step : ∀ c d m : Nat, c < f.Kind.length → f.next c d = some (m : Int) → 0 ≤ gt l c → (m : Int) ∉ avoid → 0 ≤ gt l m ∧ gt l m ≤ gt l c + 1
  pred : ∀ c : Nat, c < f.Kind.length → 0 < gt l c → ∃ d p : Nat, d < 6 ∧ f.back c d = some (p : Int) ∧ gt l p = gt l c - 1
theorem dist_loc {f : Fl} {src avoid l : List Int} (ho : f.ok) (h : IsDist f.Kind.length (spSrc f src avoid) (spE f avoid false) l) : DLoc f src avoid l := by
  have some' : ∀ c : Nat, c < f.Kind.length → 0 ≤ gt l c → ∃ k : Nat, gt l c = k ∧ Walk (spSrc f src avoid) (spE f avoid false) k c ∧ ∀ j, j < k → ¬ Walk (spSrc f src avoid) (spE f avoid false) j c := fun c hc h0 => h.some_ c hc (by omega)
  refine ⟨fun c hc => ⟨fun e => ?_, fun ⟨e1, e2⟩ => ?_⟩, fun c hc hs => ?_, fun c hc => ?_, fun c d m hc hm h0 hma => ?_, fun c hc h0 => ?_⟩
  · obtain ⟨k, h1, h2, _⟩ := some' c hc (by omega)
    obtain rfl : k = 0 := by omega
    cases h2 with
    | src hs => exact ⟨hs.2.1, hs.2.2⟩
  · have hw : Walk (spSrc f src avoid) (spE f avoid false) 0 c := .src ⟨hc, e1, e2⟩
    obtain ⟨k, h1, _, h3⟩ := h.some_ c hc (fun e => h.none_ c hc e 0 hw)
    have : k = 0 := by
      apply Classical.byContradiction
      intro e
      exact h3 0 (by omega) hw
    omega
  · apply Classical.byContradiction
    intro e
    obtain ⟨k, _, h2, _⟩ := h.some_ c hc e
    have := (walk_open ho h2).2
    rw [hs] at this
    cases this
  · by_cases e : gt l c = -1
    · rw [e]
      have := ho.kinds
      omega
    · obtain ⟨k, h1, _, _⟩ := h.some_ c hc e
      have := dist_lt ho h hc h1
      omega
  · obtain ⟨k, h1, h2, h3⟩ := some' c hc h0
    have hml := (next_lt ho hm).1
    have hmo : shutB f avoid m = false := by
      unfold shutB
      obtain ⟨_, s2, _⟩ := may_both (Fl.next_some hm).2.2
      rw [decide_eq_false hma, Bool.false_or]
      exact ne_b s2
    have hw : Walk (spSrc f src avoid) (spE f avoid false) (k + 1) m := .step h2 (spE_fw.2 ⟨d, (next_lt ho hm).2.2, hm, hmo⟩)
    obtain ⟨y, g1, g2, g3⟩ := h.some_ m hml (fun e => h.none_ m hml e _ hw)
    have : y ≤ k + 1 := Classical.byContradiction fun e => g3 (k + 1) (by omega) hw
    omega
  · obtain ⟨k, h1, h2, h3⟩ := some' c hc (by omega)
    obtain ⟨k', rfl⟩ : ∃ k', k = k' + 1 := ⟨k - 1, by omega⟩
    cases h2 with
    | @step _ p _ hw he =>
      obtain ⟨d, q1, q2, q3⟩ := spE_fw.1 he
      have hp := (walk_open ho hw).1
      obtain ⟨y, g1, g2, g3⟩ := h.some_ p hp (fun e => h.none_ p hp e _ hw)
      have a1 : y ≤ k' := Classical.byContradiction fun e => g3 k' (by omega) hw
      have a2 : k' ≤ y := Classical.byContradiction fun e => h3 (y + 1) (by omega) (.step g2 he)
      exact ⟨d, p, q1, Fl.next_back ho q2, by rw [g1, h1]; push_cast; omega⟩
/-- Of the distances O over a region's cells: Q k d x = by d one gets from the k-th cell to x. -/
structure InsF (f : Fl) (a : List Nat) (src : List Int) (O : Nat → Int) : Prop where
  zero : ∀ i, i < a.length → decide (O i = 0) = (decide (((a.getD i 0 : Nat) : Int) ∈ src) && decide (a.getD i 0 < f.Kind.length) && f.kindAt (a.getD i 0) != 0)
  low : ∀ i, i < a.length → -1 ≤ O i ∧ O i ≤ f.Kind.length
  q1 : ∀ i k d : Nat, i < a.length → k < a.length → f.next (a.getD k 0) d = some ((a.getD i 0 : Nat) : Int) → 0 ≤ O k → 0 ≤ O i ∧ O i ≤ O k + 1
  q2 : ∀ i, i < a.length → 0 < O i → ∃ k d : Nat, k < a.length ∧ d < 6 ∧ f.next (a.getD k 0) d = some ((a.getD i 0 : Nat) : Int) ∧ O k = O i - 1
theorem off_mem {f : Fl} (ho : f.ok) {a : List Nat} {x : Nat} : ((x : Nat) : Int) ∈ ivn (offR f a) ↔ x < f.Kind.length ∧ x ∉ a := by
  have hn4 : f.Kind.length ≤ 4096 := by have := ho.kinds; have := ho.size; omega
  unfold ivn offR
  rw [List.mem_map]
  constructor
  · rintro ⟨y, hy, e⟩
    obtain rfl : y = x := by omega
    have := (dif_mem (b := a) (x := y) ⟨List.pairwise_lt_range, fun x hx => by have := List.mem_range.1 hx; omega⟩).1 hy
    exact ⟨List.mem_range.1 this.1, this.2⟩
  · rintro ⟨h1, h2⟩
    exact ⟨x, (dif_mem (b := a) ⟨List.pairwise_lt_range, fun x hx => by have := List.mem_range.1 hx; omega⟩).2 ⟨List.mem_range.2 h1, h2⟩, rfl⟩
theorem ins_facts {f : Fl} (ho : f.ok) {a : List Nat} {src out : List Int} (h : InsideIs f a src out) : out.length = a.length ∧ InsF f a src (fun i => out.getD i 0) := by
  obtain ⟨D, hd, rfl⟩ := h
  have hl := dist_loc ho hd
  have hO : ∀ i, i < a.length → (a.map (fun c => if c < f.Kind.length then gt D c else -1)).getD i 0 = if a.getD i 0 < f.Kind.length then gt D (a.getD i 0) else -1 := fun i hi => by
    rw [List.getD_eq_getElem?_getD, List.getElem?_map, List.getD_eq_getElem?_getD, List.getElem?_eq_getElem hi]
    rfl
  have hin : ∀ i, i < a.length → a.getD i 0 ∈ a := fun i hi => by
    rw [List.getD_eq_getElem?_getD, List.getElem?_eq_getElem hi]
    exact List.getElem_mem hi
  have hna : ∀ i, i < a.length → ((a.getD i 0 : Nat) : Int) ∉ ivn (offR f a) := fun i hi hm => ((off_mem ho).1 hm).2 (hin i hi)
  refine ⟨List.length_map .., ⟨fun i hi => ?_, fun i hi => ?_, fun i k d hi hk hn h0 => ?_, fun i hi h0 => ?_⟩⟩
  · rw [hO i hi]
    by_cases hx : a.getD i 0 < f.Kind.length
    · rw [if_pos hx, decide_eq_true hx, Bool.and_true, Bool.eq_iff_iff, decide_eq_true_iff, hl.zero _ hx]
      unfold shutB
      rw [decide_eq_false (hna i hi), Bool.false_or]
      simp
    · rw [if_neg hx, decide_eq_false hx, Bool.and_false, Bool.false_and]
      simp
  · try dsimp only
    rw [hO i hi]
    by_cases hx : a.getD i 0 < f.Kind.length
    · rw [if_pos hx]
      have := hl.low _ hx
      omega
    · rw [if_neg hx]
      omega
  · try dsimp only at h0 ⊢
    have hx := next_lt ho hn
    rw [hO k hk, if_pos hx.2.1] at h0
    rw [hO i hi, if_pos hx.1, hO k hk, if_pos hx.2.1]
    exact hl.step _ d _ hx.2.1 hn h0 (hna i hi)
  · try dsimp only at h0 ⊢
    rw [hO i hi] at h0
    by_cases hx : a.getD i 0 < f.Kind.length
    · rw [if_pos hx] at h0
      obtain ⟨d, p, hd6, hb, hp⟩ := hl.pred _ hx h0
      have hn := Fl.back_some ho hb
      have hpl := next_lt ho hn
      have hpa : p ∈ a := Classical.byContradiction fun hna' => by
        have : shutB f (ivn (offR f a)) p = true := by
          unfold shutB
          rw [decide_eq_true ((off_mem ho).2 ⟨hpl.2.1, hna'⟩), Bool.true_or]
        have := hl.shut p hpl.2.1 this
        omega
      obtain ⟨k, hk, e⟩ := List.getElem_of_mem hpa
      have ek : a.getD k 0 = p := by
        rw [List.getD_eq_getElem?_getD, List.getElem?_eq_getElem hk]
        exact e
      refine ⟨k, d, hk, hd6, by rw [ek]; exact hn, ?_⟩
      rw [hO k hk, hO i hi, if_pos hx, ek, if_pos hpl.2.1]
      exact hp
    · rw [if_neg hx] at h0
      omega
/-- The least distance of those already looked at that lead to x. -/
structure LeaI (NX : Int → Int → Option Int) (a : List Nat) (O : Nat → Int) (x : Nat) (k d : Nat) (lv : Int) : Prop where
  low : -1 ≤ lv
  le : ∀ k' d' : Nat, (k' < k ∨ k' = k ∧ d' < d) → d' < 6 → NX (a.getD k' 0) d' = some (x : Int) → 0 ≤ O k' → 0 ≤ lv ∧ lv ≤ O k'
  hit : 0 ≤ lv → ∃ k' d' : Nat, k' < a.length ∧ NX (a.getD k' 0) d' = some (x : Int) ∧ O k' = lv
section
variable {NX : Int → Int → Option Int} {a : List Nat} {O : Nat → Int} {x k d : Nat} {lv : Int}
theorem LeaI.start : LeaI NX a O x 0 0 (-1) := ⟨by omega, fun k' d' h => by omega, fun h => by omega⟩
theorem LeaI.row (h : LeaI NX a O x k 6 lv) : LeaI NX a O x (k + 1) 0 lv := ⟨h.low, fun k' d' hv hd => h.le k' d' (by omega) hd, h.hit⟩
theorem LeaI.miss (h : LeaI NX a O x k d lv) (hn : NX (a.getD k 0) d = some (x : Int) → ¬ 0 ≤ O k) : LeaI NX a O x k (d + 1) lv := ⟨h.low, fun k' d' hv hd hq h0 => by
  by_cases e : k' = k ∧ d' = d
  · obtain ⟨rfl, rfl⟩ := e
    exact absurd h0 (hn hq)
  · exact h.le k' d' (by omega) hd hq h0, h.hit⟩
theorem LeaI.worse (h : LeaI NX a O x k d lv) (h0 : 0 ≤ lv) (hk : lv ≤ O k) : LeaI NX a O x k (d + 1) lv := ⟨h.low, fun k' d' hv hd hq h1 => by
  by_cases e : k' = k ∧ d' = d
  · obtain ⟨rfl, rfl⟩ := e
    exact ⟨h0, hk⟩
  · exact h.le k' d' (by omega) hd hq h1, h.hit⟩
theorem LeaI.better (h : LeaI NX a O x k d lv) (hk : k < a.length) (hq : NX (a.getD k 0) d = some (x : Int)) (h0 : 0 ≤ O k) (hb : lv < 0 ∨ O k < lv) : LeaI NX a O x k (d + 1) (O k) := ⟨by omega, fun k' d' hv hd hq' h1 => by
  by_cases e : k' = k ∧ d' = d
  · obtain ⟨rfl, rfl⟩ := e
    exact ⟨h0, Int.le_refl _⟩
  · have := h.le k' d' (by omega) hd hq' h1
    exact ⟨h0, by omega⟩, fun _ => ⟨k, d, hk, hq, rfl⟩⟩
end
theorem LeaI.done {f : Fl} {a : List Nat} {src : List Int} {O : Nat → Int} (hf : InsF f a src O) {i : Nat} (hi : i < a.length) {lv : Int} (h : LeaI f.next a O (a.getD i 0) a.length 0 lv) : (0 < O i → lv = O i - 1) ∧ (O i < 0 → lv < 0) := by
  constructor
  · intro h0
    obtain ⟨k, d, hk, hd, hq, he⟩ := hf.q2 i hi h0
    obtain ⟨h1, h2⟩ := h.le k d (.inl hk) hd hq (by omega)
    obtain ⟨k', d', hk', hq', he'⟩ := h.hit h1
    have := hf.q1 i k' d' hi hk' hq' (by omega)
    omega
  · intro h0
    refine Classical.byContradiction fun hn => ?_
    obtain ⟨k', d', hk', hq', he'⟩ := h.hit (by omega)
    have := hf.q1 i k' d' hi hk' hq' (by omega)
    omega
end Rgn
end Go.Proofs.YtgophgnfiboefaaGreatDoor

namespace Go.Proofs.YtgophgnfiboefaaGreatDoor
open Go.RowKit Wire
open Txt (Row)
open Go.Proofs.YtgophgnfiboefaaGreatDoor.Own Flo
open Dsk (Only nth)
set_option linter.unusedVariables false
set_option linter.unusedSimpArgs false
namespace Rgn
theorem shut_in {f : Fl} (ho : f.ok) {a : List Nat} {n : Nat} (h : n < f.Kind.length) : shutB f (ivn (offR f a)) n = false ↔ n ∈ a ∧ f.kindAt n ≠ 0 := by
  unfold shutB
  rw [Bool.or_eq_false_iff, decide_eq_false_iff_not, off_mem ho]
  constructor
  · rintro ⟨h1, h2⟩
    exact ⟨Classical.byContradiction fun k => h1 ⟨h, k⟩, by simpa using h2⟩
  · rintro ⟨h1, h2⟩
    exact ⟨fun k => k.2 h1, by simpa using h2⟩
theorem stp_at {f : Fl} (ho : f.ok) {bk : Bool} {c n : Nat} {d : Nat} (h : stp f bk c d = some (n : Int)) : n < f.Kind.length ∧ c < f.Kind.length ∧ f.kindAt c ≠ 0 ∧ f.kindAt n ≠ 0 := by
  unfold stp at h
  cases bk with
  | false =>
    have h' : f.next c d = some (n : Int) := h
    have h1 := next_lt ho h'
    have h2 := may_both (Fl.next_some h').2.2
    exact ⟨h1.1, h1.2.1, h2.1, h2.2.1⟩
  | true =>
    have h' : f.next n d = some (c : Int) := Fl.back_some ho h
    have h1 := next_lt ho h'
    have h2 := may_both (Fl.next_some h').2.2
    exact ⟨h1.2.1, h1.1, h2.2.1, h2.1⟩
theorem spE_in {f : Fl} (ho : f.ok) {a : List Nat} {bk : Bool} {c n : Nat} : spE f (ivn (offR f a)) bk c n ↔ ∃ d : Nat, d < 6 ∧ stp f bk c d = some (n : Int) ∧ n ∈ a := by
  unfold spE
  constructor
  · rintro ⟨d, h1, h2, h3⟩
    exact ⟨d, h1, h2, ((shut_in ho (stp_at ho h2).1).1 h3).1⟩
  · rintro ⟨d, h1, h2, h3⟩
    exact ⟨d, h1, h2, (shut_in ho (stp_at ho h2).1).2 ⟨h3, (stp_at ho h2).2.2.2⟩⟩
theorem spSrc_in {f : Fl} (ho : f.ok) {a : List Nat} {src : List Int} {c : Nat} : spSrc f src (ivn (offR f a)) c ↔ c < f.Kind.length ∧ (c : Int) ∈ src ∧ c ∈ a ∧ f.kindAt c ≠ 0 := by
  unfold spSrc
  constructor
  · rintro ⟨h1, h2, h3⟩
    exact ⟨h1, h2, (shut_in ho h1).1 h3⟩
  · rintro ⟨h1, h2, h3⟩
    exact ⟨h1, h2, (shut_in ho h1).2 h3⟩
/-- There and back within a region: walks are ways. -/
theorem walk_rch {f : Fl} (ho : f.ok) {a : List Nat} {x : Nat} {k n : Nat} (h : Walk (spSrc f [(x : Int)] (ivn (offR f a))) (spE f (ivn (offR f a)) false) k n) : opn (usL f a) x ∧ opn (usL f a) n ∧ Rch (stE f.next) (opn (usL f a)) x n := by
  induction h with
  | src hs =>
    obtain ⟨h1, h2, h3, h4⟩ := (spSrc_in ho).1 hs
    rw [List.mem_singleton] at h2
    have e := Int.ofNat_inj.1 h2
    subst e
    exact ⟨opn_usL.2 ⟨h1, h3, h4⟩, opn_usL.2 ⟨h1, h3, h4⟩, .refl⟩
  | step _ he ih =>
    obtain ⟨d, h1, h2, h3⟩ := (spE_in ho).1 he
    have h4 := stp_at ho h2
    have h5 := opn_usL.2 ⟨h4.1, h3, h4.2.2.2⟩
    exact ⟨ih.1, h5, ih.2.2.step ⟨d, h1, h2⟩ h5⟩
theorem rch_walk {f : Fl} (ho : f.ok) {a : List Nat} {x n : Nat} (hx : opn (usL f a) x) (h : Rch (stE f.next) (opn (usL f a)) x n) : ∃ k, Walk (spSrc f [(x : Int)] (ivn (offR f a))) (spE f (ivn (offR f a)) false) k n := by
  induction h with
  | refl =>
    have := opn_usL.1 hx
    exact ⟨0, .src ((spSrc_in ho).2 ⟨this.1, by simp, this.2.1, this.2.2⟩)⟩
  | step _ e p ih =>
    obtain ⟨k, hk⟩ := ih
    obtain ⟨d, h1, h2⟩ := e
    exact ⟨k + 1, .step hk ((spE_in ho).2 ⟨d, h1, h2, (opn_usL.1 p).2.1⟩)⟩
theorem walk_hcr {f : Fl} (ho : f.ok) {a : List Nat} {x : Nat} {k n : Nat} (h : Walk (spSrc f [(x : Int)] (ivn (offR f a))) (spE f (ivn (offR f a)) true) k n) : opn (usL f a) x ∧ opn (usL f a) n ∧ Rch (stE f.next) (opn (usL f a)) n x := by
  induction h with
  | src hs =>
    obtain ⟨h1, h2, h3, h4⟩ := (spSrc_in ho).1 hs
    rw [List.mem_singleton] at h2
    have e := Int.ofNat_inj.1 h2
    subst e
    exact ⟨opn_usL.2 ⟨h1, h3, h4⟩, opn_usL.2 ⟨h1, h3, h4⟩, .refl⟩
  | step _ he ih =>
    obtain ⟨d, h1, h2, h3⟩ := (spE_in ho).1 he
    have h4 := stp_at ho h2
    have h5 := opn_usL.2 ⟨h4.1, h3, h4.2.2.2⟩
    exact ⟨ih.1, h5, Rch.head ⟨d, h1, Fl.back_some ho h2⟩ ih.2.1 ih.2.2⟩
theorem hcr_walk {f : Fl} (ho : f.ok) {a : List Nat} {x n : Nat} (hn : opn (usL f a) n) (hx : opn (usL f a) x) (h : Rch (stE f.next) (opn (usL f a)) n x) : ∃ k, Walk (spSrc f [(x : Int)] (ivn (offR f a))) (spE f (ivn (offR f a)) true) k n := by
  have hr := h.rev hn
  clear h
  induction hr with
  | refl =>
    have := opn_usL.1 hx
    exact ⟨0, .src ((spSrc_in ho).2 ⟨this.1, by simp, this.2.1, this.2.2⟩)⟩
  | step hq e p ih =>
    obtain ⟨k, hk⟩ := ih (hq.last hx)
    obtain ⟨d, h1, h2⟩ := e
    exact ⟨k + 1, .step hk ((spE_in ho).2 ⟨d, h1, Fl.next_back ho h2, (opn_usL.1 p).2.1⟩)⟩
/-- What both least distances from and to x reach. -/
theorem both_reach {f : Fl} (ho : f.ok) {a : List Nat} {x n : Nat} {D1 D2 : List Int} (h1 : IsDist f.Kind.length (spSrc f [(x : Int)] (ivn (offR f a))) (spE f (ivn (offR f a)) false) D1) (h2 : IsDist f.Kind.length (spSrc f [(x : Int)] (ivn (offR f a))) (spE f (ivn (offR f a)) true) D2) (hn : n < f.Kind.length) : (0 ≤ gt D1 n ∧ 0 ≤ gt D2 n) ↔ opn (usL f a) x ∧ opn (usL f a) n ∧ Rch (stE f.next) (opn (usL f a)) x n ∧ Rch (stE f.next) (opn (usL f a)) n x := by
  constructor
  · rintro ⟨k1, k2⟩
    obtain ⟨m1, _, w1, _⟩ := h1.some_ n hn (by omega)
    obtain ⟨m2, _, w2, _⟩ := h2.some_ n hn (by omega)
    exact ⟨(walk_rch ho w1).1, (walk_rch ho w1).2.1, (walk_rch ho w1).2.2, (walk_hcr ho w2).2.2⟩
  · rintro ⟨k1, k2, k3, k4⟩
    obtain ⟨m1, w1⟩ := rch_walk ho k1 k3
    obtain ⟨m2, w2⟩ := hcr_walk ho k2 k1 k4
    have e1 : gt D1 n ≠ -1 := fun e => h1.none_ n hn e _ w1
    have e2 : gt D2 n ≠ -1 := fun e => h2.none_ n hn e _ w2
    obtain ⟨q1, r1, _, _⟩ := h1.some_ n hn e1
    obtain ⟨q2, r2, _, _⟩ := h2.some_ n hn e2
    omega
end Rgn
end Go.Proofs.YtgophgnfiboefaaGreatDoor

namespace Go.Proofs.YtgophgnfiboefaaGreatDoor
open Go.RowKit Wire
open Txt (Row)
open Go.Proofs.YtgophgnfiboefaaGreatDoor.Own Flo
open Dsk (Only nth)
set_option linter.unusedVariables false
set_option linter.unusedSimpArgs false
namespace Rgn
structure PrI (f : Fl) (a : List Nat) (i : Nat) (left : Nat → Bool) (Ps : List (List Nat)) : Prop where
  lf : ∀ c, left c = true ↔ c ∈ a ∧ ∀ p ∈ Ps, c ∉ p
  asc : ∀ p ∈ Ps, p.Pairwise (· < ·)
  ne : ∀ p ∈ Ps, p ≠ []
  cls : ∀ p ∈ Ps, ∀ x ∈ p, ∀ y, y ∈ p ↔ opn (usL f a) y ∧ Rch (stE f.next) (opn (usL f a)) x y ∧ Rch (stE f.next) (opn (usL f a)) y x
  done : ∀ k, k < i → opn (usL f a) (a.getD k 0) → ∃ p ∈ Ps, a.getD k 0 ∈ p
  ord : Ps.Pairwise (fun p q => p.headD 0 < q.headD 0)
  old : ∀ p ∈ Ps, ∃ k, k < i ∧ p.headD 0 = a.getD k 0
section
variable {f : Fl} {a : List Nat} {i : Nat} {left : Nat → Bool} {Ps : List (List Nat)}
theorem PrI.start (h : ∀ c, left c = true ↔ c ∈ a) : PrI f a 0 left [] := ⟨fun c => by rw [h c]; simp, by simp, by simp, by simp, fun k hk => by omega, by simp, by simp⟩
theorem PrI.skip (h : PrI f a i left Ps) (hi : i < a.length) (hl : left (a.getD i 0) = false ∨ ¬ opn (usL f a) (a.getD i 0)) : PrI f a (i + 1) left Ps := ⟨h.lf, h.asc, h.ne, h.cls, fun k hk ho => by
  by_cases e : k = i
  · subst e
    rcases hl with hl | hl
    · refine Classical.byContradiction fun hn => ?_
      have : left (a.getD k 0) = true := (h.lf _).2 ⟨by
        rw [List.getD_eq_getElem?_getD, List.getElem?_eq_getElem hi]
        exact List.getElem_mem hi, fun p hp hx => hn ⟨p, hp, hx⟩⟩
      rw [hl] at this
      cases this
    · exact absurd ho hl
  · exact h.done k (by omega) ho, h.ord, fun p hp => by
  obtain ⟨k, hk, e⟩ := h.old p hp
  exact ⟨k, by omega, e⟩⟩
theorem head_least {p : List Nat} {x : Nat} (hp : p.Pairwise (· < ·)) (hx : x ∈ p) (hl : ∀ y ∈ p, x ≤ y) : p.headD 0 = x := by
  cases p with
  | nil => simp at hx
  | cons y p =>
    have h1 := hl y (by simp)
    rcases List.mem_cons.1 hx with e | e
    · exact e.symm
    · have := (List.pairwise_cons.1 hp).1 x e
      omega
theorem PrI.add (h : PrI f a i left Ps) (ha : Reg a) (hi : i < a.length) (hl : left (a.getD i 0) = true) (ho : opn (usL f a) (a.getD i 0)) {p : List Nat} (hp : p.Pairwise (· < ·)) (hc : ∀ y, y ∈ p ↔ opn (usL f a) y ∧ Rch (stE f.next) (opn (usL f a)) (a.getD i 0) y ∧ Rch (stE f.next) (opn (usL f a)) y (a.getD i 0))
    {left' : Nat → Bool} (hl' : ∀ c, left' c = (left c && !decide (c ∈ p))) : PrI f a (i + 1) left' (Ps ++ [p]) := by
  have hm : a.getD i 0 ∈ p := (hc _).2 ⟨ho, .refl, .refl⟩
  have hlow : ∀ y ∈ p, a.getD i 0 ≤ y := fun y hy => Classical.byContradiction fun hn => by
    have h1 := (hc y).1 hy
    have hya := (opn_usL.1 h1.1).2.1
    obtain ⟨k, hk, e⟩ := List.getElem_of_mem hya
    have ek : a.getD k 0 = y := by
      rw [List.getD_eq_getElem?_getD, List.getElem?_eq_getElem hk]
      exact e
    have hki : k < i := Classical.byContradiction fun hn2 => by
      by_cases e2 : k = i
      · subst e2
        omega
      · have h4 : a.getD i 0 < a.getD k 0 := by
          rw [List.getD_eq_getElem?_getD, List.getD_eq_getElem?_getD, List.getElem?_eq_getElem hk, List.getElem?_eq_getElem hi]
          exact List.pairwise_iff_getElem.1 ha.asc i k hi hk (by omega)
        omega
    obtain ⟨q, hq, hyq⟩ := h.done k hki (by rw [ek]; exact h1.1)
    rw [ek] at hyq
    have := (h.cls q hq y hyq (a.getD i 0)).2 ⟨ho, h1.2.2, h1.2.1⟩
    exact ((h.lf _).1 hl).2 q hq this
  have hh := head_least hp hm hlow
  refine ⟨fun c => ?_, ?_, ?_, ?_, fun k hk hok => ?_, ?_, ?_⟩
  · rw [hl' c, Bool.and_eq_true, h.lf c]
    simp only [List.mem_append, List.mem_singleton, Bool.not_eq_true', decide_eq_false_iff_not]
    constructor
    · rintro ⟨⟨h1, h2⟩, h3⟩
      refine ⟨h1, fun q hq => ?_⟩
      rcases hq with hq | rfl
      · exact h2 q hq
      · exact h3
    · rintro ⟨h1, h2⟩
      exact ⟨⟨h1, fun q hq => h2 q (.inl hq)⟩, h2 p (.inr rfl)⟩
  · intro q hq
    rcases List.mem_append.1 hq with hq | hq
    · exact h.asc q hq
    · rw [List.mem_singleton.1 hq]
      exact hp
  · intro q hq
    rcases List.mem_append.1 hq with hq | hq
    · exact h.ne q hq
    · rw [List.mem_singleton.1 hq]
      exact List.ne_nil_of_mem hm
  · intro q hq x hx y
    rcases List.mem_append.1 hq with hq | hq
    · exact h.cls q hq x hx y
    · rw [List.mem_singleton.1 hq] at hx ⊢
      have hxp := (hc x).1 hx
      rw [hc y]
      constructor
      · rintro ⟨h1, h2, h3⟩
        exact ⟨h1, hxp.2.2.trans h2, h3.trans hxp.2.1⟩
      · rintro ⟨h1, h2, h3⟩
        exact ⟨h1, hxp.2.1.trans h2, h3.trans hxp.2.2⟩
  · by_cases e : k = i
    · exact ⟨p, by simp, by rw [e]; exact hm⟩
    · obtain ⟨q, hq, hx⟩ := h.done k (by omega) hok
      exact ⟨q, List.mem_append_left _ hq, hx⟩
  · rw [List.pairwise_append]
    refine ⟨h.ord, by simp, fun q hq r hr => ?_⟩
    rw [List.mem_singleton.1 hr, hh]
    obtain ⟨k, hk, e⟩ := h.old q hq
    rw [e, List.getD_eq_getElem?_getD, List.getD_eq_getElem?_getD, List.getElem?_eq_getElem hi, List.getElem?_eq_getElem (show k < a.length by omega)]
    exact List.pairwise_iff_getElem.1 ha.asc k i (by omega) hi hk
  · intro q hq
    rcases List.mem_append.1 hq with hq | hq
    · obtain ⟨k, hk, e⟩ := h.old q hq
      exact ⟨k, by omega, e⟩
    · rw [List.mem_singleton.1 hq]
      exact ⟨i, by omega, hh⟩
theorem PrI.parts (h : PrI f a a.length left Ps) : IsParts (stE f.next) (opn (usL f a)) Ps := ⟨h.asc, h.ne, h.cls, fun x hx => by
  obtain ⟨k, hk, e⟩ := List.getElem_of_mem (opn_usL.1 hx).2.1
  have ek : a.getD k 0 = x := by
    rw [List.getD_eq_getElem?_getD, List.getElem?_eq_getElem hk]
    exact e
  have := h.done k hk (by rw [ek]; exact hx)
  rw [ek] at this
  exact this, h.ord⟩
end
end Rgn
end Go.Proofs.YtgophgnfiboefaaGreatDoor

namespace Go.Proofs.YtgophgnfiboefaaGreatDoor
open Go.RowKit Wire
open Txt (Row)
open Go.Proofs.YtgophgnfiboefaaGreatDoor.Own Flo
open Dsk (Only nth)
set_option linter.unusedVariables false
set_option linter.unusedSimpArgs false
set_option linter.unusedSectionVars false
namespace Rgn
noncomputable def clsB (f : Fl) (a : List Nat) (x n : Nat) : Bool := @decide (opn (usL f a) x ∧ opn (usL f a) n ∧ Rch (stE f.next) (opn (usL f a)) x n ∧ Rch (stE f.next) (opn (usL f a)) n x) (Classical.propDecidable _)
theorem clsB_iff {f : Fl} {a : List Nat} {x n : Nat} : clsB f a x n = true ↔ opn (usL f a) x ∧ opn (usL f a) n ∧ Rch (stE f.next) (opn (usL f a)) x n ∧ Rch (stE f.next) (opn (usL f a)) n x := by
  unfold clsB
  exact @decide_eq_true_iff _ (Classical.propDecidable _)
/-- The part of x; nothing, if one can't stand there. -/
noncomputable def clsL (f : Fl) (a : List Nat) (x : Nat) : List Nat := regOf (clsB f a x) f.Kind.length
theorem clsL_mem {f : Fl} {a : List Nat} {x n : Nat} : n ∈ clsL f a x ↔ opn (usL f a) x ∧ opn (usL f a) n ∧ Rch (stE f.next) (opn (usL f a)) x n ∧ Rch (stE f.next) (opn (usL f a)) n x := by
  unfold clsL
  rw [regOf_mem, clsB_iff]
  exact ⟨fun h => h.2, fun h => ⟨(opn_usL.1 h.2.1).1, h⟩⟩
theorem clsL_asc (f : Fl) (a : List Nat) (x : Nat) : (clsL f a x).Pairwise (· < ·) := regOf_asc _ _
theorem clsL_lt {f : Fl} {a : List Nat} {x n : Nat} (h : n ∈ clsL f a x) : n < f.Kind.length := (opn_usL.1 (clsL_mem.1 h).2.1).1
theorem clsL_len (f : Fl) (a : List Nat) (x : Nat) : (clsL f a x).length ≤ f.Kind.length := regOf_len _ _
theorem clsL_open {f : Fl} {a : List Nat} {x : Nat} (h : opn (usL f a) x) : x ∈ clsL f a x := clsL_mem.2 ⟨h, h, .refl, .refl⟩
theorem clsL_shut {f : Fl} {a : List Nat} {x : Nat} (h : ¬ opn (usL f a) x) : clsL f a x = [] := List.eq_nil_iff_forall_not_mem.2 fun _ hn => h (clsL_mem.1 hn).1
theorem cls_dist {f : Fl} (ho : f.ok) {a : List Nat} {x n : Nat} {D1 D2 : List Int} (h1 : IsDist f.Kind.length (spSrc f [(x : Int)] (ivn (offR f a))) (spE f (ivn (offR f a)) false) D1) (h2 : IsDist f.Kind.length (spSrc f [(x : Int)] (ivn (offR f a))) (spE f (ivn (offR f a)) true) D2) (hn : n < f.Kind.length) :
    clsB f a x n = (decide (0 ≤ gt D1 n) && decide (0 ≤ gt D2 n)) := by
  rw [Bool.eq_iff_iff, clsB_iff, Bool.and_eq_true, decide_eq_true_iff, decide_eq_true_iff]
  exact (both_reach ho h1 h2 hn).symm
theorem clsL_linked {f : Fl} (ho : f.ok) {a : List Nat} (ha : Reg a) (h0 : a ≠ []) : decide (clsL f a (a.getD 0 0) = a) = lnkB f a := by
  have hm : a.getD 0 0 ∈ a := by
    cases a with
    | nil => exact absurd rfl h0
    | cons x r => simp
  unfold lnkB
  rw [Bool.eq_iff_iff, decide_eq_true_iff, decide_eq_true_iff]
  constructor
  · intro h
    refine .inr (partsOf_eq (f := f) (r := a) (Ps := [a]) ⟨?_, ?_, ?_, ?_, ?_⟩).symm
    · intro q hq
      rw [List.mem_singleton.1 hq]
      exact ha.asc
    · intro q hq
      rw [List.mem_singleton.1 hq]
      exact h0
    · intro q hq x hx y
      rw [List.mem_singleton.1 hq] at hx ⊢
      generalize a.getD 0 0 = z at *
      have hx2 := clsL_mem.1 (h.symm ▸ hx)
      constructor
      · intro hy
        have hy2 := clsL_mem.1 (h.symm ▸ hy)
        exact ⟨hy2.2.1, hx2.2.2.2.trans hy2.2.2.1, hy2.2.2.2.trans hx2.2.2.1⟩
      · rintro ⟨k1, k2, k3⟩
        exact (opn_usL.1 k1).2.1
    · intro x hx
      exact ⟨a, by simp, (opn_usL.1 hx).2.1⟩
    · simp
  · rintro (h | h)
    · exact absurd h h0
    · have hex : ∃ Ps, IsParts (stE f.next) (opn (usL f a)) Ps := by
        refine Classical.byContradiction fun hne => ?_
        unfold partsOf at h
        rw [dif_neg hne] at h
        cases h
      obtain ⟨Ps, hP⟩ := hex
      have e := partsOf_eq hP
      rw [h] at e
      subst e
      have hx := (hP.cls a (by simp) _ hm (a.getD 0 0)).1 hm
      refine asc_unique (clsL_asc f a _) ha.asc fun y => ?_
      rw [clsL_mem, hP.cls a (by simp) _ hm y]
      exact ⟨fun k => k.2, fun k => ⟨hx.1, k⟩⟩
/-- The reference's Parts, one cell further. -/
theorem PrI.next {f : Fl} {a : List Nat} {i : Nat} {left : Nat → Bool} {Ps : List (List Nat)} (h : PrI f a i left Ps) (ha : Reg a) (hi : i < a.length) (hl : left (a.getD i 0) = true) {left' : Nat → Bool} (hl' : ∀ c, left' c = (left c && !decide (c ∈ clsL f a (a.getD i 0)))) :
    PrI f a (i + 1) left' (Ps ++ if clsL f a (a.getD i 0) = [] then [] else [clsL f a (a.getD i 0)]) := by
  by_cases ho : opn (usL f a) (a.getD i 0)
  · have hm := clsL_open ho
    rw [if_neg (List.ne_nil_of_mem hm)]
    exact h.add ha hi hl ho (clsL_asc _ _ _) (fun y => by rw [clsL_mem]; exact ⟨fun k => k.2, fun k => ⟨ho, k⟩⟩) hl'
  · rw [clsL_shut ho] at hl' ⊢
    rw [if_pos rfl, List.append_nil]
    have e : left' = left := funext fun c => by rw [hl' c]; simp
    rw [e]
    exact h.skip hi (.inr ho)
theorem PrI.known {f : Fl} {a : List Nat} {left : Nat → Bool} {Ps : List (List Nat)} (h : PrI f a a.length left Ps) : Ps = partsOf f a := partsOf_eq h.parts
end Rgn
end Go.Proofs.YtgophgnfiboefaaGreatDoor

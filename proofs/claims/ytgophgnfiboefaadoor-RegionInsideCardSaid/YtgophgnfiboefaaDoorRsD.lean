/- Of Inside: what is asked of the distances. -/
import Derived.Test.YtgophgnfiboefaaDoorRsC
import Derived.Test.YtgophgnfiboefaaDoorRpK
import Derived.Test.YtgophgnfiboefaaDoorFqA
namespace Go.Proofs.YtgophgnfiboefaaDoor
open Go.RowKit Wire
open Txt (Row)
open Go.Proofs.YtgophgnfiboefaaDoor.Own Flo
open Dsk (Only nth)
set_option linter.unusedVariables false
set_option linter.unusedSimpArgs false
set_option linter.unusedSectionVars false
namespace Rgn
theorem rhas_any (w : World) (A : Option Addr) (c : Nat) (l : List Int) (n : Int) (hl : l.length ≤ 9223372036854775807) (h : Row w w.heap.size A (l.map (Value.int .i64))) :
    Calls Tryd.prog 20 #[.slice A l.length c, .int .i64 n] w fun e w' => e = .returned (.bool (decide (n ∈ l))) ∧ w = w' := by
  have HR : Hid (∀ k, k < l.length → ∃ b o, A = some ⟨b, o, none⟩ ∧ ∀ w', Below w.heap.size w w' → w'.cell? ⟨b, o + k, none⟩ = some (.int .i64 (l.getD k 0))) := Lib.hid fun k hk => row_val h hk
  have HY : Hid (∀ k, k < l.length → l.getD k 0 = n → decide (n ∈ l) = true) := Lib.hid fun k hk e => decide_eq_true (by
    rw [← e, List.getD_eq_getElem?_getD, List.getElem?_eq_getElem hk]
    exact List.getElem_mem hk)
  have HN : Hid ((∀ k, k < l.length → ¬ l.getD k 0 = n) → decide (n ∈ l) = false) := Lib.hid fun h => decide_eq_false fun hm => by
    obtain ⟨k, hk, e⟩ := List.getElem_of_mem hm
    refine h k hk ?_
    rw [List.getD_eq_getElem?_getD, List.getElem?_eq_getElem hk]
    exact e
  clear h
  generalize decide (n ∈ l) = r at *
  generalize hLL : l.getD = LL at *
  generalize l.length = len at *
  clear hLL
  go_enter Tryd.func20, Tryd.ntmps20
  go_wp2_with fail
  go_loopw [4, 5] (fun _ iv wr => ∃ i, ScanRel w len (fun k => ¬ LL k 0 = n) iv wr i ∧ wr = w) (fun _ iv _ => len - (intOf iv).toNat)
  case atStart => exact ⟨0, ⟨rfl, Nat.zero_le _, (fun j hj => by omega), ⟨0, rfl⟩⟩, rfl⟩
  case round =>
    obtain ⟨i, ⟨rfl, hi, hno, _⟩, rfl⟩ := hrel
    have HNO := Lib.hid hno
    clear hno
    by_cases hlt : i < len
    · obtain ⟨b, o, rfl, hc⟩ := HR.out i hlt
      have z := hc _ (Below.refl _ _)
      have HYI := Lib.hid (HY.out i hlt)
      clear hc
      generalize hv : LL i 0 = v at *
      by_cases e : v = n
      · have e2 : (v == n) = true := by simp [e]
        have HX := Lib.hid (HYI.out e)
        clear e
        go_wp2_with fail
        go_ret
        exact ⟨by rw [HX.out]; rfl, rfl⟩
      · have e2 : (v == n) = false := ne_b e
        have HNI : Hid (¬ LL i 0 = n) := Lib.hid (by rw [hv]; exact e)
        clear e hv
        go_wp2_with fail
        go_roundw
        case rel => exact ⟨i + 1, ⟨by simp, hlt, scan_next HNO.out HNI.out, ⟨0, rfl⟩⟩, by first | rfl | trivial⟩
        case measure => simp [intOf]; omega
    · obtain rfl : len = i := by omega
      have HX := Lib.hid (HN.out HNO.out)
      go_wp2_with fail
      go_ret
      exact ⟨by rw [HX.out]; rfl, rfl⟩
theorem may_both {f : Fl} {c n d : Int} (h : f.may c n d = true) : f.kindAt c ≠ 0 ∧ f.kindAt n ≠ 0 ∧ bitOf (f.outAt c) d ≠ 0 := by
  rw [may_eq] at h
  simp only [Bool.and_eq_true, bne_iff_ne] at h
  exact ⟨h.1.1.1, h.1.1.2, h.1.2⟩
/-- What the distances are, cell by cell. -/
structure DLoc (f : Fl) (src avoid l : List Int) : Prop where
  zero : ∀ c : Nat, c < f.Kind.length → (gt l c = 0 ↔ ((c : Int) ∈ src ∧ shutB f avoid c = false))
  shut : ∀ c : Nat, c < f.Kind.length → shutB f avoid c = true → gt l c = -1
  low : ∀ c : Nat, c < f.Kind.length → -1 ≤ gt l c ∧ gt l c < f.Kind.length
  step : ∀ c d m : Nat, c < f.Kind.length → f.next c d = some (m : Int) → 0 ≤ gt l c → (m : Int) ∉ avoid → 0 ≤ gt l m ∧ gt l m ≤ gt l c + 1
  pred : ∀ c : Nat, c < f.Kind.length → 0 < gt l c → ∃ d p : Nat, d < 6 ∧ f.back c d = some (p : Int) ∧ gt l p = gt l c - 1
theorem dist_loc {f : Fl} {src avoid l : List Int} (ho : f.ok) (h : IsDist f.Kind.length (spSrc f src avoid) (spE f avoid false) l) : DLoc f src avoid l := by
  have some' : ∀ c : Nat, c < f.Kind.length → 0 ≤ gt l c → ∃ k : Nat, gt l c = k ∧ Walk (spSrc f src avoid) (spE f avoid false) k c ∧ ∀ j, j < k → ¬ Walk (spSrc f src avoid) (spE f avoid false) j c := fun c hc h0 => h.some_ c hc (by omega)
  refine ⟨fun c hc => ⟨fun e => ?_, fun ⟨e1, e2⟩ => ?_⟩, fun c hc hs => ?_, fun c hc => ?_, fun c d m hc hm h0 hma => ?_, fun c hc h0 => ?_⟩
  · obtain ⟨k, h1, h2, _⟩ := some' c hc (by omega)
    obtain rfl : k = 0 := by omega
    cases h2 with
    | src hs => exact ⟨hs.2.1, hs.2.2⟩
  · have hw : Walk (spSrc f src avoid) (spE f avoid false) 0 c := .src ⟨hc, e1, e2⟩
    obtain ⟨k, h1, _, h3⟩ := h.some_ c hc (fun e => h.none_ c hc e 0 hw)
    have : k = 0 := by
      apply Classical.byContradiction
      intro e
      exact h3 0 (by omega) hw
    omega
  · apply Classical.byContradiction
    intro e
    obtain ⟨k, _, h2, _⟩ := h.some_ c hc e
    have := (walk_open ho h2).2
    rw [hs] at this
    cases this
  · by_cases e : gt l c = -1
    · rw [e]
      have := ho.kinds
      omega
    · obtain ⟨k, h1, _, _⟩ := h.some_ c hc e
      have := dist_lt ho h hc h1
      omega
  · obtain ⟨k, h1, h2, h3⟩ := some' c hc h0
    have hml := (next_lt ho hm).1
    have hmo : shutB f avoid m = false := by
      unfold shutB
      obtain ⟨_, s2, _⟩ := may_both (Fl.next_some hm).2.2
      rw [decide_eq_false hma, Bool.false_or]
      exact ne_b s2
    have hw : Walk (spSrc f src avoid) (spE f avoid false) (k + 1) m := .step h2 (spE_fw.2 ⟨d, (next_lt ho hm).2.2, hm, hmo⟩)
    obtain ⟨y, g1, g2, g3⟩ := h.some_ m hml (fun e => h.none_ m hml e _ hw)
    have : y ≤ k + 1 := Classical.byContradiction fun e => g3 (k + 1) (by omega) hw
    omega
  · obtain ⟨k, h1, h2, h3⟩ := some' c hc (by omega)
    obtain ⟨k', rfl⟩ : ∃ k', k = k' + 1 := ⟨k - 1, by omega⟩
    cases h2 with
    | @step _ p _ hw he =>
      obtain ⟨d, q1, q2, q3⟩ := spE_fw.1 he
      have hp := (walk_open ho hw).1
      obtain ⟨y, g1, g2, g3⟩ := h.some_ p hp (fun e => h.none_ p hp e _ hw)
      have a1 : y ≤ k' := Classical.byContradiction fun e => g3 k' (by omega) hw
      have a2 : k' ≤ y := Classical.byContradiction fun e => h3 (y + 1) (by omega) (.step g2 he)
      exact ⟨d, p, q1, Fl.next_back ho q2, by rw [g1, h1]; push_cast; omega⟩
/-- Of the distances O over a region's cells: Q k d x = by d one gets from the k-th cell to x. -/
structure InsF (f : Fl) (a : List Nat) (src : List Int) (O : Nat → Int) : Prop where
  zero : ∀ i, i < a.length → decide (O i = 0) = (decide (((a.getD i 0 : Nat) : Int) ∈ src) && decide (a.getD i 0 < f.Kind.length) && f.kindAt (a.getD i 0) != 0)
  low : ∀ i, i < a.length → -1 ≤ O i ∧ O i ≤ f.Kind.length
  q1 : ∀ i k d : Nat, i < a.length → k < a.length → f.next (a.getD k 0) d = some ((a.getD i 0 : Nat) : Int) → 0 ≤ O k → 0 ≤ O i ∧ O i ≤ O k + 1
  q2 : ∀ i, i < a.length → 0 < O i → ∃ k d : Nat, k < a.length ∧ d < 6 ∧ f.next (a.getD k 0) d = some ((a.getD i 0 : Nat) : Int) ∧ O k = O i - 1
theorem off_mem {f : Fl} (ho : f.ok) {a : List Nat} {x : Nat} : ((x : Nat) : Int) ∈ ivn (offR f a) ↔ x < f.Kind.length ∧ x ∉ a := by
  have hn4 : f.Kind.length ≤ 4096 := by have := ho.kinds; have := ho.size; omega
  unfold ivn offR
  rw [List.mem_map]
  constructor
  · rintro ⟨y, hy, e⟩
    obtain rfl : y = x := by omega
    have := (dif_mem (b := a) (x := y) ⟨List.pairwise_lt_range, fun x hx => by have := List.mem_range.1 hx; omega⟩).1 hy
    exact ⟨List.mem_range.1 this.1, this.2⟩
  · rintro ⟨h1, h2⟩
    exact ⟨x, (dif_mem (b := a) ⟨List.pairwise_lt_range, fun x hx => by have := List.mem_range.1 hx; omega⟩).2 ⟨List.mem_range.2 h1, h2⟩, rfl⟩
theorem ins_facts {f : Fl} (ho : f.ok) {a : List Nat} {src out : List Int} (h : InsideIs f a src out) : out.length = a.length ∧ InsF f a src (fun i => out.getD i 0) := by
  obtain ⟨D, hd, rfl⟩ := h
  have hl := dist_loc ho hd
  have hO : ∀ i, i < a.length → (a.map (fun c => if c < f.Kind.length then gt D c else -1)).getD i 0 = if a.getD i 0 < f.Kind.length then gt D (a.getD i 0) else -1 := fun i hi => by
    rw [List.getD_eq_getElem?_getD, List.getElem?_map, List.getD_eq_getElem?_getD, List.getElem?_eq_getElem hi]
    rfl
  have hin : ∀ i, i < a.length → a.getD i 0 ∈ a := fun i hi => by
    rw [List.getD_eq_getElem?_getD, List.getElem?_eq_getElem hi]
    exact List.getElem_mem hi
  have hna : ∀ i, i < a.length → ((a.getD i 0 : Nat) : Int) ∉ ivn (offR f a) := fun i hi hm => ((off_mem ho).1 hm).2 (hin i hi)
  refine ⟨List.length_map .., ⟨fun i hi => ?_, fun i hi => ?_, fun i k d hi hk hn h0 => ?_, fun i hi h0 => ?_⟩⟩
  · rw [hO i hi]
    by_cases hx : a.getD i 0 < f.Kind.length
    · rw [if_pos hx, decide_eq_true hx, Bool.and_true, Bool.eq_iff_iff, decide_eq_true_iff, hl.zero _ hx]
      unfold shutB
      rw [decide_eq_false (hna i hi), Bool.false_or]
      simp
    · rw [if_neg hx, decide_eq_false hx, Bool.and_false, Bool.false_and]
      simp
  · try dsimp only
    rw [hO i hi]
    by_cases hx : a.getD i 0 < f.Kind.length
    · rw [if_pos hx]
      have := hl.low _ hx
      omega
    · rw [if_neg hx]
      omega
  · try dsimp only at h0 ⊢
    have hx := next_lt ho hn
    rw [hO k hk, if_pos hx.2.1] at h0
    rw [hO i hi, if_pos hx.1, hO k hk, if_pos hx.2.1]
    exact hl.step _ d _ hx.2.1 hn h0 (hna i hi)
  · try dsimp only at h0 ⊢
    rw [hO i hi] at h0
    by_cases hx : a.getD i 0 < f.Kind.length
    · rw [if_pos hx] at h0
      obtain ⟨d, p, hd6, hb, hp⟩ := hl.pred _ hx h0
      have hn := Fl.back_some ho hb
      have hpl := next_lt ho hn
      have hpa : p ∈ a := Classical.byContradiction fun hna' => by
        have : shutB f (ivn (offR f a)) p = true := by
          unfold shutB
          rw [decide_eq_true ((off_mem ho).2 ⟨hpl.2.1, hna'⟩), Bool.true_or]
        have := hl.shut p hpl.2.1 this
        omega
      obtain ⟨k, hk, e⟩ := List.getElem_of_mem hpa
      have ek : a.getD k 0 = p := by
        rw [List.getD_eq_getElem?_getD, List.getElem?_eq_getElem hk]
        exact e
      refine ⟨k, d, hk, hd6, by rw [ek]; exact hn, ?_⟩
      rw [hO k hk, hO i hi, if_pos hx, ek, if_pos hpl.2.1]
      exact hp
    · rw [if_neg hx] at h0
      omega
/-- The least distance of those already looked at that lead to x. -/
structure LeaI (NX : Int → Int → Option Int) (a : List Nat) (O : Nat → Int) (x : Nat) (k d : Nat) (lv : Int) : Prop where
  low : -1 ≤ lv
  le : ∀ k' d' : Nat, (k' < k ∨ k' = k ∧ d' < d) → d' < 6 → NX (a.getD k' 0) d' = some (x : Int) → 0 ≤ O k' → 0 ≤ lv ∧ lv ≤ O k'
  hit : 0 ≤ lv → ∃ k' d' : Nat, k' < a.length ∧ NX (a.getD k' 0) d' = some (x : Int) ∧ O k' = lv
section
variable {NX : Int → Int → Option Int} {a : List Nat} {O : Nat → Int} {x k d : Nat} {lv : Int}
theorem LeaI.start : LeaI NX a O x 0 0 (-1) := ⟨by omega, fun k' d' h => by omega, fun h => by omega⟩
theorem LeaI.row (h : LeaI NX a O x k 6 lv) : LeaI NX a O x (k + 1) 0 lv := ⟨h.low, fun k' d' hv hd => h.le k' d' (by omega) hd, h.hit⟩
theorem LeaI.miss (h : LeaI NX a O x k d lv) (hn : NX (a.getD k 0) d = some (x : Int) → ¬ 0 ≤ O k) : LeaI NX a O x k (d + 1) lv := ⟨h.low, fun k' d' hv hd hq h0 => by
  by_cases e : k' = k ∧ d' = d
  · obtain ⟨rfl, rfl⟩ := e
    exact absurd h0 (hn hq)
  · exact h.le k' d' (by omega) hd hq h0, h.hit⟩
theorem LeaI.worse (h : LeaI NX a O x k d lv) (h0 : 0 ≤ lv) (hk : lv ≤ O k) : LeaI NX a O x k (d + 1) lv := ⟨h.low, fun k' d' hv hd hq h1 => by
  by_cases e : k' = k ∧ d' = d
  · obtain ⟨rfl, rfl⟩ := e
    exact ⟨h0, hk⟩
  · exact h.le k' d' (by omega) hd hq h1, h.hit⟩
theorem LeaI.better (h : LeaI NX a O x k d lv) (hk : k < a.length) (hq : NX (a.getD k 0) d = some (x : Int)) (h0 : 0 ≤ O k) (hb : lv < 0 ∨ O k < lv) : LeaI NX a O x k (d + 1) (O k) := ⟨by omega, fun k' d' hv hd hq' h1 => by
  by_cases e : k' = k ∧ d' = d
  · obtain ⟨rfl, rfl⟩ := e
    exact ⟨h0, Int.le_refl _⟩
  · have := h.le k' d' (by omega) hd hq' h1
    exact ⟨h0, by omega⟩, fun _ => ⟨k, d, hk, hq, rfl⟩⟩
end
theorem LeaI.done {f : Fl} {a : List Nat} {src : List Int} {O : Nat → Int} (hf : InsF f a src O) {i : Nat} (hi : i < a.length) {lv : Int} (h : LeaI f.next a O (a.getD i 0) a.length 0 lv) : (0 < O i → lv = O i - 1) ∧ (O i < 0 → lv < 0) := by
  constructor
  · intro h0
    obtain ⟨k, d, hk, hd, hq, he⟩ := hf.q2 i hi h0
    obtain ⟨h1, h2⟩ := h.le k d (.inl hk) hd hq (by omega)
    obtain ⟨k', d', hk', hq', he'⟩ := h.hit h1
    have := hf.q1 i k' d' hi hk' hq' (by omega)
    omega
  · intro h0
    refine Classical.byContradiction fun hn => ?_
    obtain ⟨k', d', hk', hq', he'⟩ := h.hit (by omega)
    have := hf.q1 i k' d' hi hk' hq' (by omega)
    omega
end Rgn
end Go.Proofs.YtgophgnfiboefaaDoor

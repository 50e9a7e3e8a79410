/- The example's ways and distances. -/
import Derived.Test.YtgophgnfiboefaaDoorFsA
namespace Go.Proofs.YtgophgnfiboefaaDoor
set_option linter.unusedVariables false
set_option linter.unusedSimpArgs false
namespace Flo
/-- A list of distances, looked at cell by cell. -/
def localB (f : Fl) (src avoid : List Int) (out : List Int) : Bool :=
  (out.length == f.Kind.length) && (List.range f.Kind.length).all fun c =>
    (decide (gt out c = 0) == (decide ((c : Int) ∈ src) && !shutB f avoid c)) && decide (-1 ≤ gt out c) &&
    ((List.range 6).all fun d => match f.next c (d : Nat) with
      | none => true
      | some m => shutB f avoid m.toNat || decide (gt out c = -1) || (decide (0 ≤ gt out m.toNat) && decide (gt out m.toNat ≤ gt out c + 1))) &&
    (decide (gt out c ≤ 0) || (!shutB f avoid c && (List.range 6).any fun d => match f.back c (d : Nat) with
      | none => false
      | some p => decide (gt out p.toNat = gt out c - 1)))
theorem isDist_local {f : Fl} {src avoid out : List Int} (ho : f.ok) (h : localB f src avoid out = true) : IsDist f.Kind.length (spSrc f src avoid) (spE f avoid false) out := by
  unfold localB at h
  rw [Bool.and_eq_true] at h
  obtain ⟨hlen, h⟩ := h
  have hlen' : out.length = f.Kind.length := by simpa using hlen
  have hall : ∀ c, c < f.Kind.length → (gt out c = 0 ↔ ((c : Int) ∈ src ∧ shutB f avoid c = false)) ∧ -1 ≤ gt out c ∧ (∀ d m : Nat, d < 6 → f.next c d = some (m : Int) → shutB f avoid m = false → gt out c ≠ -1 → 0 ≤ gt out m ∧ gt out m ≤ gt out c + 1) ∧ (0 < gt out c → shutB f avoid c = false ∧ ∃ d p : Nat, d < 6 ∧ f.back c d = some (p : Int) ∧ gt out p = gt out c - 1) := by
    intro c hc
    have h1 := List.all_eq_true.1 h c (List.mem_range.2 hc)
    rw [Bool.and_eq_true, Bool.and_eq_true, Bool.and_eq_true] at h1
    obtain ⟨⟨⟨a1, a2⟩, a3⟩, a4⟩ := h1
    refine ⟨?_, of_decide_eq_true a2, fun d m hd hm hs hne => ?_, fun hpos => ?_⟩
    · rw [beq_iff_eq, Bool.eq_iff_iff, decide_eq_true_iff] at a1
      simpa using a1
    · have h2 := List.all_eq_true.1 a3 d (List.mem_range.2 hd)
      rw [hm] at h2
      simp only [Int.toNat_natCast, hs, Bool.false_or, Bool.or_eq_true, Bool.and_eq_true, decide_eq_true_eq] at h2
      rcases h2 with h2 | h2
      · exact absurd h2 hne
      · exact h2
    · rw [Bool.or_eq_true] at a4
      rcases a4 with a4 | a4
      · have := of_decide_eq_true a4
        omega
      · rw [Bool.and_eq_true] at a4
        refine ⟨by simpa using a4.1, ?_⟩
        obtain ⟨d, hd, h2⟩ := List.any_eq_true.1 a4.2
        have hd' := List.mem_range.1 hd
        cases hb : f.back c d with
        | none => rw [hb] at h2; cases h2
        | some p =>
          rw [hb] at h2
          have h0 := (Fl.next_is (Fl.back_some ho hb)).2.2.2.2
          obtain ⟨k, rfl⟩ : ∃ k : Nat, p = k := ⟨p.toNat, by omega⟩
          exact ⟨d, k, hd', hb, by simpa using h2⟩
  have up_ : ∀ {k c : Nat}, Walk (spSrc f src avoid) (spE f avoid false) k c → 0 ≤ gt out c ∧ gt out c ≤ k := by
    intro k c hw
    induction hw with
    | src hs =>
      have := ((hall _ hs.1).1).2 ⟨hs.2.1, hs.2.2⟩
      omega
    | step hw' he ih =>
      obtain ⟨d, h1, h2, h3⟩ := spE_fw.1 he
      have := (hall _ (walk_open ho hw').1).2.2.1 d _ h1 h2 h3 (by omega)
      constructor
      · exact this.1
      · push_cast; omega
  have down : ∀ (k c : Nat), c < f.Kind.length → gt out c = k → Walk (spSrc f src avoid) (spE f avoid false) k c := by
    intro k
    induction k with
    | zero =>
      intro c hc e
      obtain ⟨h1, h2⟩ := (hall c hc).1.1 (by omega)
      exact .src ⟨hc, h1, h2⟩
    | succ k ih =>
      intro c hc e
      obtain ⟨h1, d, p, h2, h3, h4⟩ := (hall c hc).2.2.2 (by omega)
      have h5 := Fl.back_some ho h3
      exact .step (ih p (next_lt ho h5).2.1 (by rw [h4, e]; push_cast; omega)) (spE_fw.2 ⟨d, h2, h5, h1⟩)
  refine ⟨hlen', fun c hc e k hw => ?_, fun c hc e => ?_⟩
  · have := up_ hw
    omega
  · obtain ⟨k, hk⟩ : ∃ k : Nat, gt out c = k := ⟨(gt out c).toNat, by have := (hall c hc).2.1; omega⟩
    exact ⟨k, hk, down k c hc hk, fun j hj hw => by have := (up_ hw).2; omega⟩
theorem exDist : IsDist 6 (spSrc exF [2] []) (spE exF [] false) [4, -1, 0, 3, 2, 1] := isDist_local exF_ok (by decide +kernel)
theorem exDist0 : IsDist 6 (spSrc exF [((0 : Nat) : Int)] []) (spE exF [] false) [0, -1, 4, 1, 2, 3] := isDist_local exF_ok (by decide +kernel)
theorem exN (c d : Nat) (o : Option Int) (h : exF.next c d = o) : exF.next c d = o := h
theorem exLeast : Least exF [] 0 2 [0, 3, 4, 5, 2] := by
  refine ⟨rfl, rfl, by decide +kernel, fun t c n hc hn => ?_, fun k hk => ?_⟩
  · have ht : t + 1 < 5 := (List.getElem?_eq_some_iff.1 hn).1
    obtain rfl | rfl | rfl | rfl : t = 0 ∨ t = 1 ∨ t = 2 ∨ t = 3 := by omega
    · obtain rfl := Option.some.inj hc
      obtain rfl := Option.some.inj hn
      refine ⟨1, by omega, by decide +kernel, fun d' m hd hm => ?_⟩
      obtain rfl : d' = 0 := by omega
      rw [show exF.next ((0 : Nat) : Int) ((0 : Nat) : Int) = none from by decide +kernel] at hm
      cases hm
    · obtain rfl := Option.some.inj hc
      obtain rfl := Option.some.inj hn
      exact ⟨0, by omega, by decide +kernel, fun d' m hd => by omega⟩
    · obtain rfl := Option.some.inj hc
      obtain rfl := Option.some.inj hn
      exact ⟨0, by omega, by decide +kernel, fun d' m hd => by omega⟩
    · obtain rfl := Option.some.inj hc
      obtain rfl := Option.some.inj hn
      refine ⟨3, by omega, by decide +kernel, fun d' m hd hm hs x hx hto => ?_⟩
      have hx5 : x + 3 + 2 ≤ 5 := hx
      obtain rfl : x = 0 := by omega
      have e := To.zero hto
      subst e
      obtain rfl | rfl | rfl : d' = 0 ∨ d' = 1 ∨ d' = 2 := by omega
      · rw [show exF.next ((5 : Nat) : Int) ((0 : Nat) : Int) = none from by decide +kernel] at hm
        cases hm
      · rw [show exF.next ((5 : Nat) : Int) ((1 : Nat) : Int) = none from by decide +kernel] at hm
        cases hm
      · rw [show exF.next ((5 : Nat) : Int) ((2 : Nat) : Int) = some 4 from by decide +kernel] at hm
        cases hm
  · show 5 ≤ k + 1
    have h1 := (fw_iff (a := 0) (b := 2) exF_ok).2 hk
    obtain ⟨y, h2, _, h3⟩ := exDist0.some_ 2 (by omega) (by decide)
    have h4 : gt [0, -1, 4, 1, 2, 3] 2 = 4 := by decide
    rw [h4] at h2
    have : y ≤ k := Classical.byContradiction fun e => h3 k (by omega) h1
    omega
theorem exPath : PathIs exF [] 0 2 [0, 3, 4, 5, 2] := .inr ⟨0, 2, [0, 3, 4, 5, 2], rfl, rfl, rfl, exLeast⟩
end Flo
end Go.Proofs.YtgophgnfiboefaaDoor

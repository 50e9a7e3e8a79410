/- A region in which five operations make blocks, in whatever order; the program's newSearch. -/
import Derived.Test.YtgophgnfiboefaaGreatDoorFpH
import Derived.Deep.DeepCutAuto
namespace Go.Proofs.YtgophgnfiboefaaGreatDoor
open Go.RowKit Wire
open Txt (Row)
open Own
open Dsk (Only nth)
set_option linter.unusedVariables false
set_option linter.unusedSimpArgs false
namespace Flo
section
variable {P : Program} {ops : Array Oper} {Q : Exit → Act → World → Prop} {S : World → Prop} {D : List Nat} {fuel : Nat} {listed : Array Bool} {a : Act} {w : World}
/-- One of the operations that are ready, whichever it is. -/
def Take1 (P : Program) (ops : Array Oper) (Q : Exit → Act → World → Prop) (fuel : Nat) (listed : Array Bool) (a : Act) (w : World) (i : Nat) : Prop :=
  ∃ o, nth ops.toList i = some o ∧ Region.wanted o (yielded ops a.tmps) = true ∧ Oper.wp P o a w (fun a' w' => (i ∈ ([] : List Nat) ∨ True) ∧ Dsk.wpAnyW P .any ops Q (fun _ => True) [] fuel (listed.setIfInBounds i true) a' w') Q
theorem Take1.mk {i : Nat} {o : Oper} (ho : nth ops.toList i = some o) (hw : Region.wanted o (yielded ops a.tmps) = true) (h : ∀ K : Act → World → Prop, (∀ a' w', Dsk.wpAnyW P .any ops Q (fun _ => True) [] fuel (listed.setIfInBounds i true) a' w' → K a' w') → Oper.wp P o a w K Q) : Take1 P ops Q fuel listed a w i :=
  ⟨o, ho, hw, h _ fun a' w' h1 => ⟨.inr trivial, h1⟩⟩
theorem any_step (h0 : Region.ready .any ops listed ≠ []) (h : ∀ i ∈ Region.ready .any ops listed, Take1 P ops Q fuel listed a w i) : Dsk.wpAnyW P .any ops Q (fun _ => True) [] (fuel + 1) listed a w := by
  refine ⟨fun e => absurd e h0, fun i hi => ?_⟩
  obtain ⟨o, ho, hw, hp⟩ := h i hi
  unfold wpOp
  rw [Dsk.nth_ops ho]
  show if _ then _ else _
  rw [if_pos hw]
  exact .inl hp
theorem any_all {l : List Nat} (hr : Region.ready .any ops listed = l) (hl : l ≠ []) (h : ∀ i ∈ l, Take1 P ops Q fuel listed a w i) : Dsk.wpAnyW P .any ops Q (fun _ => True) [] (fuel + 1) listed a w :=
  any_step (by rw [hr]; exact hl) (by rw [hr]; exact h)
theorem any_end (h : Region.ready .any ops listed = []) (hq : Q .normal a w) : Dsk.wpAnyW P .any ops Q (fun _ => True) [] fuel listed a w := by
  cases fuel with
  | zero => exact ⟨h, hq⟩
  | succ fuel => exact ⟨fun _ => hq, fun i hi => by rw [h] at hi; cases hi⟩
theorem reads_then {k : Nat} (hsel : Region.noSelect ops = true) (hQ : ∀ c a d v w, Q (.panic c) (Act.put a d v) w → Q (.panic c) a w) :
    ∀ (I : List Nat) (listed last : Array Bool) (a : Act), Dsk.sortedReads ops I listed = some last →
      Dsk.RD P ops (fun _ => True) (fun a => Dsk.wpAnyW P .any ops Q (fun _ => True) [] k last a w) I a → Dsk.wpAnyW P .any ops Q (fun _ => True) [] (I.length + k) listed a w
  | [], listed, last, a, hs, h => by
    have : listed = last := by simpa [Dsk.sortedReads] using hs
    subst this
    rw [show ([] : List Nat).length + k = k from by simp]
    exact h
  | i :: I, listed, last, a, hs, h => by
    unfold Dsk.sortedReads at hs
    split at hs
    · rename_i hb
      simp only [Bool.and_eq_true] at hb
      obtain ⟨o, ho, hw, v, hv, hr⟩ := h
      rw [show (i :: I).length + k = (I.length + k) + 1 from by simp; omega]
      exact Dsk.wpAnyW_first (Dsk.nth_ops ho) (Region.noSelect_spec hsel) (fun c a w => hQ c a _ _ w) (fun j oj hj hoj => by cases hj) _ listed a w (Region.free_spec (Dsk.nth_ops ho) hb.1) (by simpa using hb.2) (.inl ⟨hw, hv⟩) trivial (reads_then hsel hQ I _ last _ hs hr)
    · cases hs
/-- The region: first all that only read, then whatever is ready. -/
theorem wp_region_free {id : Nat} (I : List Nat) (k : Nat) (last : Array Bool) (hm : P.follows .mixedOrders = true) (hsel : Region.noSelect ops = true) (hs : Dsk.sortedReads ops I (Array.replicate ops.size false) = some last) (hk : I.length + k = ops.size)
    (h : Dsk.RD P ops (fun _ => True) (fun a => Dsk.wpAnyW P .any ops (NoPanic Q) (fun _ => True) [] k last a w.drew) I a) : (Code.region id ops true).wp P Q a w := by
  have := Dsk.wpAny_of_w _ _ _ _ (reads_then (Q := NoPanic Q) hsel (fun _ _ _ _ _ h => h) I _ last a hs h)
  rw [hk] at this
  exact wp_region_noPanic (wp_region_any hm this)
abbrev ON := Option Nat
def cnt : ON → Nat
  | none => 1
  | some _ => 0
def chk5 (i1 i2 i3 i4 i5 : Nat) (l : List Nat) (b1 b2 b3 b4 b5 : Bool) : Bool :=
  (b3 && !b2) || (b1 && b2 && b3 && b4) || (!l.isEmpty && l.all fun i => (i == i1 && !b1) || (i == i2 && !b2) || (i == i3 && !b3 && b2) || (i == i4 && !b4) || (i == i5 && !b5))
/-- Five operations, numbers i1 to i5, of which the third waits for the second: each makes a block. -/
theorem five (i1 i2 i3 i4 i5 : Nat) (L : Bool → Bool → Bool → Bool → Bool → Array Bool) (fr : ON → ON → ON → ON → ON → Act) (R : ON → ON → ON → ON → ON → World → Prop)
    (hL1 : ∀ b2 b3 b4 b5, (L false b2 b3 b4 b5).setIfInBounds i1 true = L true b2 b3 b4 b5) (hL2 : ∀ b1 b3 b4 b5, (L b1 false b3 b4 b5).setIfInBounds i2 true = L b1 true b3 b4 b5) (hL3 : ∀ b1 b2 b4 b5, (L b1 b2 false b4 b5).setIfInBounds i3 true = L b1 b2 true b4 b5) (hL4 : ∀ b1 b2 b3 b5, (L b1 b2 b3 false b5).setIfInBounds i4 true = L b1 b2 b3 true b5) (hL5 : ∀ b1 b2 b3 b4, (L b1 b2 b3 b4 false).setIfInBounds i5 true = L b1 b2 b3 b4 true)
    (hr : ∀ b1 b2 b3 b4 b5 : Bool, chk5 i1 i2 i3 i4 i5 (Region.ready .any ops (L b1 b2 b3 b4 b5)) b1 b2 b3 b4 b5 = true)
    (h1 : ∀ o2 o3 o4 o5 w, R none o2 o3 o4 o5 w → ∀ K : Act → World → Prop, (∀ g w', R (some g) o2 o3 o4 o5 w' → K (fr (some g) o2 o3 o4 o5) w') → ∃ o, nth ops.toList i1 = some o ∧ Region.wanted o (yielded ops (fr none o2 o3 o4 o5).tmps) = true ∧ Oper.wp P o (fr none o2 o3 o4 o5) w K Q)
    (h2 : ∀ o1 o3 o4 o5 w, R o1 none o3 o4 o5 w → ∀ K : Act → World → Prop, (∀ g w', R o1 (some g) o3 o4 o5 w' → K (fr o1 (some g) o3 o4 o5) w') → ∃ o, nth ops.toList i2 = some o ∧ Region.wanted o (yielded ops (fr o1 none o3 o4 o5).tmps) = true ∧ Oper.wp P o (fr o1 none o3 o4 o5) w K Q)
    (h3 : ∀ o1 g2 o4 o5 w, R o1 (some g2) none o4 o5 w → ∀ K : Act → World → Prop, (∀ g w', R o1 (some g2) (some g) o4 o5 w' → K (fr o1 (some g2) (some g) o4 o5) w') → ∃ o, nth ops.toList i3 = some o ∧ Region.wanted o (yielded ops (fr o1 (some g2) none o4 o5).tmps) = true ∧ Oper.wp P o (fr o1 (some g2) none o4 o5) w K Q)
    (h4 : ∀ o1 o2 o3 o5 w, R o1 o2 o3 none o5 w → ∀ K : Act → World → Prop, (∀ g w', R o1 o2 o3 (some g) o5 w' → K (fr o1 o2 o3 (some g) o5) w') → ∃ o, nth ops.toList i4 = some o ∧ Region.wanted o (yielded ops (fr o1 o2 o3 none o5).tmps) = true ∧ Oper.wp P o (fr o1 o2 o3 none o5) w K Q)
    (h5 : ∀ o1 o2 o3 o4 w, R o1 o2 o3 o4 none w → ∀ K : Act → World → Prop, (∀ g w', R o1 o2 o3 o4 (some g) w' → K (fr o1 o2 o3 o4 (some g)) w') → ∃ o, nth ops.toList i5 = some o ∧ Region.wanted o (yielded ops (fr o1 o2 o3 o4 none).tmps) = true ∧ Oper.wp P o (fr o1 o2 o3 o4 none) w K Q)
    (he : ∀ g1 g2 g3 g4 o5 w, R (some g1) (some g2) (some g3) (some g4) o5 w → Dsk.wpAnyW P .any ops Q (fun _ => True) [] (cnt o5 + fuel) (L true true true true o5.isSome) (fr (some g1) (some g2) (some g3) (some g4) o5) w) :
    ∀ (k : Nat) (o1 o2 o3 o4 o5 : ON) (w : World), cnt o1 + cnt o2 + cnt o3 + cnt o4 + cnt o5 = k → (o3.isSome = true → o2.isSome = true) → R o1 o2 o3 o4 o5 w → Dsk.wpAnyW P .any ops Q (fun _ => True) [] (k + fuel) (L o1.isSome o2.isSome o3.isSome o4.isSome o5.isSome) (fr o1 o2 o3 o4 o5) w := by
  intro k
  induction k with
  | zero =>
    intro o1 o2 o3 o4 o5 w hk ho hR
    rcases o1 with _ | g1 <;> rcases o2 with _ | g2 <;> rcases o3 with _ | g3 <;> rcases o4 with _ | g4 <;> rcases o5 with _ | g5 <;> simp [cnt] at hk
    have := he g1 g2 g3 g4 (some g5) w hR
    exact this
  | succ k ih =>
    intro o1 o2 o3 o4 o5 w hk ho hR
    by_cases hall : (o1.isSome && o2.isSome && o3.isSome && o4.isSome) = true
    · rcases o1 with _ | g1 <;> rcases o2 with _ | g2 <;> rcases o3 with _ | g3 <;> rcases o4 with _ | g4 <;> simp at hall
      have := he g1 g2 g3 g4 o5 w hR
      rw [show cnt o5 = k + 1 from by simpa [cnt] using hk] at this
      exact this
    rw [show k + 1 + fuel = (k + fuel) + 1 from by omega]
    have hc := hr o1.isSome o2.isSome o3.isSome o4.isSome o5.isSome
    unfold chk5 at hc
    have f1 : (o3.isSome && !o2.isSome) = false := by
      rcases o2 with _ | g2 <;> rcases o3 with _ | g3 <;> simp at ho ⊢
    have f2 : (o1.isSome && o2.isSome && o3.isSome && o4.isSome) = false := by simpa using hall
    rw [f1, f2, Bool.false_or, Bool.false_or, Bool.and_eq_true] at hc
    clear f1 f2 hall
    have q0 : Region.ready .any ops (L o1.isSome o2.isSome o3.isSome o4.isSome o5.isSome) ≠ [] := fun e => by
      rw [e] at hc
      cases hc.1
    have q1 : ∀ i ∈ Region.ready .any ops (L o1.isSome o2.isSome o3.isSome o4.isSome o5.isSome), (i = i1 ∧ o1.isSome = false) ∨ (i = i2 ∧ o2.isSome = false) ∨ (i = i3 ∧ o3.isSome = false ∧ o2.isSome = true) ∨ (i = i4 ∧ o4.isSome = false) ∨ (i = i5 ∧ o5.isSome = false) := fun i hi => by
      have := List.all_eq_true.1 hc.2 i hi
      simp only [Bool.or_eq_true, Bool.and_eq_true, beq_iff_eq, Bool.not_eq_true', and_assoc, or_assoc] at this
      exact this
    refine any_step q0 fun i hi => ?_
    rcases q1 i hi with ⟨rfl, e⟩ | ⟨rfl, e⟩ | ⟨rfl, e, e2⟩ | ⟨rfl, e⟩ | ⟨rfl, e⟩
    · obtain rfl : o1 = none := by rcases o1 with _ | g <;> simp at e ⊢
      exact h1 o2 o3 o4 o5 w hR _ fun g w' hR' => ⟨.inr trivial, by
        have := ih (some g) o2 o3 o4 o5 w' (by simp [cnt] at hk ⊢; omega) ho hR'
        rwa [show (L (none : ON).isSome o2.isSome o3.isSome o4.isSome o5.isSome).setIfInBounds _ true = _ from hL1 ..]⟩
    · obtain rfl : o2 = none := by rcases o2 with _ | g <;> simp at e ⊢
      exact h2 o1 o3 o4 o5 w hR _ fun g w' hR' => ⟨.inr trivial, by
        have := ih o1 (some g) o3 o4 o5 w' (by simp [cnt] at hk ⊢; omega) (fun _ => rfl) hR'
        rwa [show (L o1.isSome (none : ON).isSome o3.isSome o4.isSome o5.isSome).setIfInBounds _ true = _ from hL2 ..]⟩
    · obtain rfl : o3 = none := by rcases o3 with _ | g <;> simp at e ⊢
      obtain ⟨g2, rfl⟩ : ∃ g2, o2 = some g2 := by rcases o2 with _ | g <;> simp at e2 ⊢
      exact h3 o1 g2 o4 o5 w hR _ fun g w' hR' => ⟨.inr trivial, by
        have := ih o1 (some g2) (some g) o4 o5 w' (by simp [cnt] at hk ⊢; omega) (fun _ => rfl) hR'
        rwa [show (L o1.isSome (some g2 : ON).isSome (none : ON).isSome o4.isSome o5.isSome).setIfInBounds _ true = _ from hL3 ..]⟩
    · obtain rfl : o4 = none := by rcases o4 with _ | g <;> simp at e ⊢
      exact h4 o1 o2 o3 o5 w hR _ fun g w' hR' => ⟨.inr trivial, by
        have := ih o1 o2 o3 (some g) o5 w' (by simp [cnt] at hk ⊢; omega) ho hR'
        rwa [show (L o1.isSome o2.isSome o3.isSome (none : ON).isSome o5.isSome).setIfInBounds _ true = _ from hL4 ..]⟩
    · obtain rfl : o5 = none := by rcases o5 with _ | g <;> simp at e ⊢
      exact h5 o1 o2 o3 o4 w hR _ fun g w' hR' => ⟨.inr trivial, by
        have := ih o1 o2 o3 o4 (some g) w' (by simp [cnt] at hk ⊢; omega) ho hR'
        rwa [show (L o1.isSome o2.isSome o3.isSome o4.isSome (none : ON).isSome).setIfInBounds _ true = _ from hL5 ..]⟩
end
end Flo
end Go.Proofs.YtgophgnfiboefaaGreatDoor

/- A region that draws in which operations that write are ready at once (as in netbase's XNtK). -/
import Derived.Test.YtgophgnfiboefaaGreatDoorFpL
namespace Go.Proofs.YtgophgnfiboefaaGreatDoor
open Go.RowKit Wire
set_option linter.unusedVariables false
set_option linter.unusedSimpArgs false
namespace Dsk
section
variable {P : Program} {ops : Array Oper} {Q : Exit → Act → World → Prop} {S : World → Prop} {D : List Nat} {fuel : Nat} {listed : Array Bool} {a : Act} {w : World}
theorem anyW_done (h : Region.ready .any ops listed = []) (hq : Q .normal a w) : wpAnyW P .any ops Q S D fuel listed a w := by
  cases fuel with
  | zero => exact ⟨h, hq⟩
  | succ fuel => exact ⟨fun _ => hq, fun i hi => by rw [h] at hi; cases hi⟩
/-- One of the operations that are ready, whichever it is. -/
def Take (P : Program) (ops : Array Oper) (Q : Exit → Act → World → Prop) (S : World → Prop) (D : List Nat) (fuel : Nat) (listed : Array Bool) (a : Act) (w : World) (i : Nat) : Prop :=
  ∃ o, nth ops.toList i = some o ∧ Region.wanted o (yielded ops a.tmps) = true ∧ Oper.wp P o a w (fun a' w' => (i ∈ D ∨ S w') ∧ wpAnyW P .any ops Q S D fuel (listed.setIfInBounds i true) a' w') Q
theorem Take.mk {i : Nat} {o : Oper} (ho : nth ops.toList i = some o) (hw : Region.wanted o (yielded ops a.tmps) = true) (h : ∀ K : Act → World → Prop, (∀ a' w', (i ∈ D ∨ S w') → wpAnyW P .any ops Q S D fuel (listed.setIfInBounds i true) a' w' → K a' w') → Oper.wp P o a w K Q) : Take P ops Q S D fuel listed a w i :=
  ⟨o, ho, hw, h _ fun a' w' h1 h2 => ⟨h1, h2⟩⟩
theorem anyW_all {l : List Nat} (hr : Region.ready .any ops listed = l) (hl : l ≠ []) (h : ∀ i ∈ l, Take P ops Q S D fuel listed a w i) : wpAnyW P .any ops Q S D (fuel + 1) listed a w := by
  refine ⟨fun e => absurd (hr.symm.trans e) hl, fun i hi => ?_⟩
  rw [hr] at hi
  obtain ⟨o, ho, hw, hp⟩ := h i hi
  unfold wpOp
  rw [nth_ops ho]
  show if _ then _ else _
  rw [if_pos hw]
  exact .inl hp
theorem reads_of_any {L : List Nat} {k : Nat} (hsel : Region.noSelect ops = true) (hQ : ∀ c a d v w, Q (.panic c) (Act.put a d v) w → Q (.panic c) a w) (hS : S w) :
    ∀ (I : List Nat) (listed last : Array Bool) (a : Act), waits ops I L = true → sortedReads ops I listed = some last →
      RD P ops S (fun a => wpAnyW P .any ops Q S L k last a w) I a → wpAnyW P .any ops Q S L (I.length + k) listed a w
  | [], listed, last, a, _, hs, h => by
    have : listed = last := by simpa [sortedReads] using hs
    subst this
    rw [show ([] : List Nat).length + k = k from by simp]
    exact h
  | i :: I, listed, last, a, hwt, hs, h => by
    unfold sortedReads at hs
    split at hs
    · rename_i hb
      simp only [Bool.and_eq_true] at hb
      obtain ⟨o, ho, hw, v, hv, hr⟩ := h
      have hwt' : waits ops I L = true := by
        unfold waits at hwt ⊢
        rw [List.all_eq_true] at hwt ⊢
        intro j hj
        have := hwt j hj
        split at this
        · rw [List.all_cons, Bool.and_eq_true] at this
          exact this.2
        · cases this
      rw [show (i :: I).length + k = (I.length + k) + 1 from by simp; omega]
      refine wpAnyW_first (nth_ops ho) (Region.noSelect_spec hsel) (fun c a w => hQ c a _ _ w) (fun j oj hj hoj => ?_) _ listed a w (Region.free_spec (nth_ops ho) hb.1) (by simpa using hb.2) (.inl ⟨hw, hv⟩) hS (reads_of_any hsel hQ hS I _ last _ hwt' hs hr)
      unfold waits at hwt
      rw [List.all_eq_true] at hwt
      have h1 := hwt j hj
      have h2 : nth ops.toList j = some oj := by rw [nth_eq]; simpa using hoj
      rw [h2] at h1
      simp only [List.all_cons, Bool.and_eq_true, List.any_eq_true, beq_iff_eq] at h1
      obtain ⟨e, he, h3, h4⟩ := h1.1
      exact ⟨e, by simpa using he, h3, h4⟩
    · cases hs
/-- The region: first all that only read, then whatever is ready. -/
theorem wp_region_any_order {id : Nat} (S : World → Prop) (I L : List Nat) (k : Nat) (last : Array Bool) (hm : P.follows .mixedOrders = true) (hsel : Region.noSelect ops = true) (hs : sortedReads ops I (Array.replicate ops.size false) = some last) (hk : I.length + k = ops.size) (hwt : waits ops I L = true) (hS : S w.drew)
    (h : RD P ops S (fun a => wpAnyW P .any ops (NoPanic Q) S L k last a w.drew) I a) : (Code.region id ops true).wp P Q a w := by
  have := wpAny_of_w _ _ _ _ (reads_of_any (Q := NoPanic Q) hsel (fun _ _ _ _ _ h => h) hS I _ last a hwt hs h)
  rw [hk] at this
  exact wp_region_noPanic (wp_region_any hm this)
end
end Dsk
end Go.Proofs.YtgophgnfiboefaaGreatDoor

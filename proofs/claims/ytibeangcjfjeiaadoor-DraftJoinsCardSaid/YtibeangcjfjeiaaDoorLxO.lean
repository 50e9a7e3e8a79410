/- Regions that draw their order, sorted. Nothing of the program is imported. -/
import Derived.OrdersHeld
import Derived.Deep.RegionHeld3
import Derived.WalkKit
import Derived.Lib.Hide
/-! A region that draws its order, its operations sorted: first those that only read, then the others, one behind the other. Nothing of the program is imported. -/
namespace Go.Proofs.YtibeangcjfjeiaaDoor
open Go.RowKit
set_option linter.unusedVariables false
set_option maxRecDepth 100000
namespace Dsk

section
variable {P : Program} {ops : Array Oper} {Q : Exit → Act → World → Prop} {S : World → Prop} {fuel i : Nat} {o : Oper} {listed : Array Bool} {a : Act} {w : World}

/-- The operation with a number. -/
def nth : List Oper → Nat → Option Oper
  | [], _ => none
  | o :: _, 0 => some o
  | _ :: r, i + 1 => nth r i
theorem nth_eq : ∀ (l : List Oper) (i : Nat), nth l i = l[i]?
  | [], _ => rfl
  | _ :: _, 0 => rfl
  | _ :: r, i + 1 => by rw [nth, nth_eq r i]; rfl
theorem nth_ops {i : Nat} (h : nth ops.toList i = some o) : ops[i]? = some o := by
  rw [nth_eq] at h
  simpa using h

/-- Operations that yield their values in every world that meets S. -/
def RD (P : Program) (ops : Array Oper) (S : World → Prop) (K : Act → Prop) : List Nat → Act → Prop
  | [], a => K a
  | i :: r, a => ∃ o, nth ops.toList i = some o ∧ Region.wanted o (yielded ops a.tmps) = true ∧ ∃ v, (∀ w, S w → (execOp a.eval o).run P w = .ok (.value v) w) ∧ RD P ops S K r (a.put o.dst v)
/-- Operations one behind the other, behind each of which S holds. -/
def CH (P : Program) (ops : Array Oper) (Q : Exit → Act → World → Prop) (S : World → Prop) : List Nat → Act → World → Prop
  | [], a, w => Q .normal a w
  | i :: r, a, w => ∃ o, nth ops.toList i = some o ∧ Region.wanted o (yielded ops a.tmps) = true ∧ Oper.wp P o a w (fun a' w' => S w' ∧ CH P ops Q S r a' w') Q

theorem RD.done {K : Act → Prop} (h : K a) : RD P ops S K [] a := h
theorem RD.next {K : Act → Prop} {r : List Nat} {v : Value} (ho : nth ops.toList i = some o) (hw : Region.wanted o (yielded ops a.tmps) = true) (hv : ∀ w, S w → (execOp a.eval o).run P w = .ok (.value v) w) (h : RD P ops S K r (a.put o.dst v)) : RD P ops S K (i :: r) a := ⟨o, ho, hw, v, hv, h⟩
theorem RD.nextY {K : Act → Prop} {r : List Nat} {v : Value} (ho : nth ops.toList i = some o) (hw : Region.wanted o (yielded ops a.tmps) = true) (hy : YieldsIf P ops S o v a) (h : RD P ops S K r (a.put o.dst v)) : RD P ops S K (i :: r) a := by
  rcases hy with ⟨_, hv⟩ | ⟨h0, _⟩
  · exact ⟨o, ho, hw, v, hv, h⟩
  · rw [hw] at h0
    cases h0
theorem CH.done (h : Q .normal a w) : CH P ops Q S [] a w := h
theorem CH.next {r : List Nat} (ho : nth ops.toList i = some o) (hw : Region.wanted o (yielded ops a.tmps) = true) (h : ∀ K : Act → World → Prop, (∀ a' w', S w' → CH P ops Q S r a' w' → K a' w') → Oper.wp P o a w K Q) : CH P ops Q S (i :: r) a w :=
  ⟨o, ho, hw, h _ fun a' w' h1 h2 => ⟨h1, h2⟩⟩
/-- An operation whose run is known. -/
theorem wp_of_run {v : Value} {K : Act → World → Prop} {w' : World} (hr : (execOp a.eval o).run P w = .ok (.value v) w') (h : K (a.put o.dst v) w') : Oper.wp P o a w K Q := by
  unfold Oper.wp
  rw [hr, Oper.upon_value]
  exact h
/-- May these operations be taken in this order? -/
def sortedReads (ops : Array Oper) : List Nat → Array Bool → Option (Array Bool)
  | [], listed => some listed
  | i :: r, listed => if Region.free .any ops listed i && (Region.ready .any ops listed).contains i then sortedReads ops r (listed.setIfInBounds i true) else none
def sortedChain (ops : Array Oper) : List Nat → Array Bool → Bool
  | [], listed => Region.ready .any ops listed == []
  | i :: r, listed => Region.ready .any ops listed == [i] && sortedChain ops r (listed.setIfInBounds i true)
def sorted (ops : Array Oper) (I J : List Nat) : Bool :=
  Region.noSelect ops && (match sortedReads ops I (Array.replicate ops.size false) with
    | some listed => sortedChain ops J listed
    | none => false) && I.length + J.length == ops.size

theorem chain_of : ∀ (J : List Nat) (fuel : Nat) (listed : Array Bool) (a : Act) (w : World), J.length ≤ fuel → sortedChain ops J listed = true → CH P ops Q S J a w → wpAnyH P .any ops Q S fuel listed a w
  | [], fuel, listed, a, w, _, hs, h => wpAnyH_done (by simpa [sortedChain] using hs) h fuel
  | i :: J, 0, listed, a, w, hf, hs, h => by simp at hf
  | i :: J, fuel + 1, listed, a, w, hf, hs, h => by
    simp only [sortedChain, Bool.and_eq_true, beq_iff_eq] at hs
    obtain ⟨o, ho, hw, h⟩ := h
    refine wpAnyH_all hs.1 (by simp) fun j hj => ?_
    obtain rfl : j = i := by simpa using hj
    unfold wpOp
    rw [nth_ops ho]
    show if _ then _ else _
    rw [if_pos hw]
    exact .inl (Oper.wp_mono (fun a' w' h3 => ⟨h3.1, chain_of J fuel _ a' w' (by simpa using hf) hs.2 h3.2⟩) h)

theorem reads_of {J : List Nat} (hsel : Region.noSelect ops = true) (hQ : ∀ c a d v w, Q (.panic c) (Act.put a d v) w → Q (.panic c) a w) (hS : S w) :
    ∀ (I : List Nat) (fuel : Nat) (listed last : Array Bool) (a : Act), I.length + J.length ≤ fuel → sortedReads ops I listed = some last → sortedChain ops J last = true →
      RD P ops S (fun a => CH P ops Q S J a w) I a → wpAnyH P .any ops Q S fuel listed a w
  | [], fuel, listed, last, a, hf, hs, hc, h => by
    have : listed = last := by simpa [sortedReads] using hs
    subst this
    exact chain_of J fuel listed a w (by simpa using hf) hc h
  | i :: I, 0, listed, last, a, hf, hs, hc, h => by simp at hf
  | i :: I, fuel + 1, listed, last, a, hf, hs, hc, h => by
    unfold sortedReads at hs
    split at hs
    · rename_i hb
      simp only [Bool.and_eq_true] at hb
      obtain ⟨o, ho, hw, v, hv, hr⟩ := h
      exact wpAnyH_take (nth_ops ho) hsel hb.1 hb.2 (fun c a w => hQ c a _ _ w) (.inl ⟨hw, hv⟩) hS (reads_of hsel hQ hS I fuel _ last _ (by simp at hf ⊢; omega) hs hc hr)
    · cases hs

/-- The region, sorted. -/
theorem wp_region_sorted {id : Nat} (S : World → Prop) (I J : List Nat) (hm : P.follows .mixedOrders = true) (hs : sorted ops I J = true) (hS : S w.drew)
    (h : RD P ops S (fun a => CH P ops (NoPanic Q) S J a w.drew) I a) : (Code.region id ops true).wp P Q a w := by
  unfold sorted at hs
  simp only [Bool.and_eq_true, beq_iff_eq] at hs
  obtain ⟨⟨h1, h2⟩, h3⟩ := hs
  cases hq : sortedReads ops I (Array.replicate ops.size false) with
  | none => rw [hq] at h2; cases h2
  | some last =>
    rw [hq] at h2
    exact wp_region_noPanic (wp_region_held hm (reads_of h1 (fun _ _ _ _ _ h => h) hS I _ _ last a (by omega) hq h2 h))

/-! The same, but behind the operations of D nothing is asked of S: these wait for all that were taken first. -/
def wpAnyW (P : Program) (md : Region.Mode) (ops : Array Oper) (Q : Exit → Act → World → Prop) (S : World → Prop) (D : List Nat) : Nat → Array Bool → Act → World → Prop
  | 0, listed, a, w => Region.ready md ops listed = [] ∧ Q .normal a w
  | fuel + 1, listed, a, w =>
    (Region.ready md ops listed = [] → Q .normal a w) ∧
    ∀ i ∈ Region.ready md ops listed, wpOp P ops Q i (fun a' w' => (i ∈ D ∨ S w') ∧ wpAnyW P md ops Q S D fuel (listed.setIfInBounds i true) a' w') a w

variable {md : Region.Mode} {D : List Nat}
theorem wpAny_of_w : ∀ (fuel : Nat) (listed : Array Bool) (a : Act) (w : World), wpAnyW P md ops Q S D fuel listed a w → wpAny P md ops Q fuel listed a w
  | 0, _, _, _, h => h
  | fuel + 1, _, _, _, h => ⟨h.1, fun i hi => wpOp_mono (fun a' w' h' => wpAny_of_w fuel _ a' w' h'.2) (h.2 i hi)⟩

theorem wpAnyW_first {i : Nat} {oi : Oper} {v : Value} (hi : ops[i]? = some oi) (hsel : ∀ (j : Nat) (o : Oper) cs b, ops[j]? = some o → o.op ≠ .select cs b)
    (hQ : ∀ c a w, Q (.panic c) (a.put oi.dst v) w → Q (.panic c) a w) (hD : ∀ j oj, j ∈ D → ops[j]? = some oj → ∃ e ∈ oj.after, Region.binds md e = true ∧ e.on = i) :
    ∀ (fuel : Nat) (listed : Array Bool) (a : Act) (w : World),
      (∀ j oj, ops[j]? = some oj → j ≠ i → listed.getD j true = false → (∀ e ∈ oj.after, Region.binds md e = true → e.on ≠ i) → oi.apart ops oj = true) →
      i ∈ Region.ready md ops listed → YieldsIf P ops S oi v a → S w →
      wpAnyW P md ops Q S D fuel (listed.setIfInBounds i true) (a.put oi.dst v) w → wpAnyW P md ops Q S D (fuel + 1) listed a w := by
  intro fuel
  induction fuel with
  | zero =>
    intro listed a w _ hr hy hS H
    refine ⟨fun h => (by rw [h] at hr; cases hr), fun j hj => ?_⟩
    by_cases hji : j = i
    · subst hji; exact hy.wpOp hi hS ⟨.inr hS, H⟩
    · have := ready_mono hj hji
      rw [H.1] at this
      cases this
  | succ fuel ih =>
    intro listed a w hfree hr hy hS H
    refine ⟨fun h => (by rw [h] at hr; cases hr), fun j hj => ?_⟩
    by_cases hji : j = i
    · subst hji; exact hy.wpOp hi hS ⟨.inr hS, H⟩
    · have h1 := H.2 j (ready_mono hj hji)
      obtain ⟨hjun, oj, hoj, hall⟩ := mem_ready.1 hj
      have hnot : ∀ e ∈ oj.after, Region.binds md e = true → e.on ≠ i := fun e he hb heq => by
        have h1 := hall e he hb
        have h0 := (mem_ready.1 hr).1
        rw [heq] at h1
        rcases Nat.lt_or_ge i listed.size with h' | h'
        · simp [h'] at h0 h1; rw [h0] at h1; cases h1
        · simp [Array.getElem?_eq_none h'] at h1
      have hjD : ¬ j ∈ D := fun hd => by
        obtain ⟨e, he, hb, heq⟩ := hD j oj hd hoj
        exact hnot e he hb heq
      have h2 := wpOp_putIf hoj (hfree j oj hoj hji hjun hnot) (fun cs b => hsel i oi cs b hi) (fun cs b => hsel j oj cs b hoj) hQ hy h1
      have hfree' : ∀ k ok, ops[k]? = some ok → k ≠ i → (listed.setIfInBounds j true).getD k true = false →
          (∀ e ∈ ok.after, Region.binds md e = true → e.on ≠ i) → oi.apart ops ok = true := fun k ok hk hki hun hno => by
        refine hfree k ok hk hki ?_ hno
        by_cases hjk : j = k
        · subst hjk; exact hjun
        · rw [getD_set_ne true hjk] at hun; exact hun
      refine wpOp_mono (fun a' w' h3 => ?_) h2
      have hS' : S w' := h3.2.1.resolve_left hjD
      refine ⟨.inr hS', ih (listed.setIfInBounds j true) a' w' hfree' (ready_mono hr (Ne.symm hji)) h3.1 hS' ?_⟩
      rw [Array.setIfInBounds_comm _ _ hji]
      exact h3.2.2

theorem chain_of_w : ∀ (L : List Nat) (fuel : Nat) (listed : Array Bool) (a : Act) (w : World), (∀ i ∈ L, i ∈ D) → L.length ≤ fuel → sortedChain ops L listed = true → CH P ops Q (fun _ => True) L a w → wpAnyW P .any ops Q S D fuel listed a w
  | [], 0, listed, a, w, _, _, hs, h => ⟨by simpa [sortedChain] using hs, h⟩
  | [], fuel + 1, listed, a, w, _, _, hs, h => ⟨fun _ => h, by
    have : Region.ready .any ops listed = [] := by simpa [sortedChain] using hs
    rw [this]
    simp⟩
  | i :: J, 0, listed, a, w, _, hf, hs, h => by simp at hf
  | i :: J, fuel + 1, listed, a, w, hd, hf, hs, h => by
    simp only [sortedChain, Bool.and_eq_true, beq_iff_eq] at hs
    obtain ⟨o, ho, hw, h⟩ := h
    refine ⟨fun h0 => (by rw [hs.1] at h0; cases h0), fun j hj => ?_⟩
    rw [hs.1] at hj
    obtain rfl : j = i := by simpa using hj
    unfold wpOp
    rw [nth_ops ho]
    show if _ then _ else _
    rw [if_pos hw]
    exact .inl (Oper.wp_mono (fun a' w' h3 => ⟨.inl (hd j (by simp)), chain_of_w J fuel _ a' w' (fun k hk => hd k (by simp [hk])) (by simpa using hf) hs.2 h3.2⟩) h)

/-- First operations behind each of which S holds, then those of L. -/
def CHW (P : Program) (ops : Array Oper) (Q : Exit → Act → World → Prop) (S : World → Prop) (L : List Nat) : List Nat → Act → World → Prop
  | [], a, w => CH P ops Q (fun _ => True) L a w
  | i :: r, a, w => ∃ o, nth ops.toList i = some o ∧ Region.wanted o (yielded ops a.tmps) = true ∧ Oper.wp P o a w (fun a' w' => S w' ∧ CHW P ops Q S L r a' w') Q
theorem CHW.done {L : List Nat} (h : CH P ops Q (fun _ => True) L a w) : CHW P ops Q S L [] a w := h
theorem CHW.next {r L : List Nat} (ho : nth ops.toList i = some o) (hw : Region.wanted o (yielded ops a.tmps) = true) (h : ∀ K : Act → World → Prop, (∀ a' w', S w' → CHW P ops Q S L r a' w' → K a' w') → Oper.wp P o a w K Q) : CHW P ops Q S L (i :: r) a w :=
  ⟨o, ho, hw, h _ fun a' w' h1 h2 => ⟨h1, h2⟩⟩
theorem chain_of_j {L : List Nat} (hD : ∀ i ∈ L, i ∈ D) : ∀ (J : List Nat) (fuel : Nat) (listed : Array Bool) (a : Act) (w : World), J.length + L.length ≤ fuel → sortedChain ops (J ++ L) listed = true → CHW P ops Q S L J a w → wpAnyW P .any ops Q S D fuel listed a w
  | [], fuel, listed, a, w, hf, hs, h => chain_of_w L fuel listed a w hD (by simpa using hf) hs h
  | i :: J, 0, listed, a, w, hf, hs, h => by simp at hf
  | i :: J, fuel + 1, listed, a, w, hf, hs, h => by
    simp only [List.cons_append, sortedChain, Bool.and_eq_true, beq_iff_eq] at hs
    obtain ⟨o, ho, hw, h⟩ := h
    refine ⟨fun h0 => (by rw [hs.1] at h0; cases h0), fun j hj => ?_⟩
    rw [hs.1] at hj
    obtain rfl : j = i := by simpa using hj
    unfold wpOp
    rw [nth_ops ho]
    show if _ then _ else _
    rw [if_pos hw]
    exact .inl (Oper.wp_mono (fun a' w' h3 => ⟨.inr h3.1, chain_of_j hD J fuel _ a' w' (by simp at hf ⊢; omega) hs.2 h3.2⟩) h)

/-- Do these operations wait for those? -/
def waits (ops : Array Oper) (I L : List Nat) : Bool :=
  L.all fun j => match nth ops.toList j with
    | some o => I.all fun i => o.after.toList.any fun e => Region.binds .any e && e.on == i
    | none => false

theorem reads_of_w {J L : List Nat} (hsel : Region.noSelect ops = true) (hQ : ∀ c a d v w, Q (.panic c) (Act.put a d v) w → Q (.panic c) a w) (hS : S w) :
    ∀ (I : List Nat) (fuel : Nat) (listed last : Array Bool) (a : Act), waits ops I L = true → I.length + (J.length + L.length) ≤ fuel → sortedReads ops I listed = some last → sortedChain ops (J ++ L) last = true →
      RD P ops S (fun a => CHW P ops Q S L J a w) I a → wpAnyW P .any ops Q S L fuel listed a w
  | [], fuel, listed, last, a, _, hf, hs, hc, h => by
    have : listed = last := by simpa [sortedReads] using hs
    subst this
    exact chain_of_j (fun _ h => h) J fuel listed a w (by simpa using hf) hc h
  | i :: I, 0, listed, last, a, _, hf, hs, hc, h => by simp at hf
  | i :: I, fuel + 1, listed, last, a, hwt, hf, hs, hc, h => by
    unfold sortedReads at hs
    split at hs
    · rename_i hb
      simp only [Bool.and_eq_true] at hb
      obtain ⟨o, ho, hw, v, hv, hr⟩ := h
      have hwt' : waits ops I L = true := by
        unfold waits at hwt ⊢
        rw [List.all_eq_true] at hwt ⊢
        intro j hj
        have := hwt j hj
        split at this
        · rw [List.all_cons, Bool.and_eq_true] at this
          exact this.2
        · cases this
      refine wpAnyW_first (nth_ops ho) (Region.noSelect_spec hsel) (fun c a w => hQ c a _ _ w) (fun j oj hj hoj => ?_) fuel listed a w (Region.free_spec (nth_ops ho) hb.1) (by simpa using hb.2) (.inl ⟨hw, hv⟩) hS (reads_of_w hsel hQ hS I fuel _ last _ hwt' (by simp at hf ⊢; omega) hs hc hr)
      unfold waits at hwt
      rw [List.all_eq_true] at hwt
      have h1 := hwt j hj
      have h2 : nth ops.toList j = some oj := by rw [nth_eq]; simpa using hoj
      rw [h2] at h1
      simp only [List.all_cons, Bool.and_eq_true, List.any_eq_true, beq_iff_eq] at h1
      obtain ⟨e, he, h3, h4⟩ := h1.1
      exact ⟨e, by simpa using he, h3, h4⟩
    · cases hs

/-- The region, sorted; the operations of L wait for all that only read. -/
theorem wp_region_late {id : Nat} (S : World → Prop) (I J L : List Nat) (hm : P.follows .mixedOrders = true) (hs : sorted ops I (J ++ L) = true) (hwt : waits ops I L = true) (hS : S w.drew)
    (h : RD P ops S (fun a => CHW P ops (NoPanic Q) S L J a w.drew) I a) : (Code.region id ops true).wp P Q a w := by
  unfold sorted at hs
  simp only [Bool.and_eq_true, beq_iff_eq] at hs
  obtain ⟨⟨h1, h2⟩, h3⟩ := hs
  cases hq : sortedReads ops I (Array.replicate ops.size false) with
  | none => rw [hq] at h2; cases h2
  | some last =>
    rw [hq] at h2
    exact wp_region_noPanic (wp_region_any hm (wpAny_of_w _ _ _ _ (reads_of_w h1 (fun _ _ _ _ _ h => h) hS I _ _ last a hwt (by rw [List.length_append] at h3; omega) hq h2 h)))
/-! The same, where the operations of D wait for all that only read through others. -/
/-- Does an operation wait for another one, if through others? -/
def before (md : Region.Mode) (ops : Array Oper) : Nat → Nat → Nat → Bool
  | 0, _, _ => false
  | n + 1, j, i => match nth ops.toList j with
    | some o => o.after.toList.any fun e => Region.binds md e && (e.on == i || before md ops n e.on i)
    | none => false
/-- What is listed is listed with all for which it waits. -/
def Cl (md : Region.Mode) (ops : Array Oper) (listed : Array Bool) : Prop :=
  ∀ (k : Nat) (o : Oper), ops[k]? = some o → listed.getD k false = true → ∀ e ∈ o.after, Region.binds md e = true → listed.getD e.on false = true
theorem Cl.set {listed : Array Bool} (h : Cl md ops listed) {j : Nat} (hj : j ∈ Region.ready md ops listed) : Cl md ops (listed.setIfInBounds j true) := by
  intro k o ho hk e he hb
  by_cases hkj : j = k
  · subst hkj
    obtain ⟨_, o', ho', hall⟩ := mem_ready.1 hj
    rw [ho] at ho'
    cases ho'
    exact getD_set_true (hall e he hb)
  · rw [getD_set_ne false hkj] at hk
    exact getD_set_true (h k o ho hk e he hb)
theorem before_listed {listed : Array Bool} (hc : Cl md ops listed) : ∀ (n j i : Nat), before md ops n j i = true → (∀ o, ops[j]? = some o → ∀ e ∈ o.after, Region.binds md e = true → listed.getD e.on false = true) → listed.getD i false = true
  | 0, j, i, h, _ => by cases h
  | n + 1, j, i, h, hall => by
    unfold before at h
    split at h
    · rename_i o ho
      rw [List.any_eq_true] at h
      obtain ⟨e, he, h1⟩ := h
      simp only [Bool.and_eq_true, Bool.or_eq_true, beq_iff_eq] at h1
      have hl := hall o (nth_ops ho) e (by simpa using he) h1.1
      rcases h1.2 with h2 | h2
      · rw [← h2]
        exact hl
      · exact before_listed hc n e.on i h2 fun o' ho' => hc e.on o' ho' hl
    · cases h

theorem wpAnyB_first {i : Nat} {oi : Oper} {v : Value} {N : Nat} (hi : ops[i]? = some oi) (hsel : ∀ (j : Nat) (o : Oper) cs b, ops[j]? = some o → o.op ≠ .select cs b)
    (hQ : ∀ c a w, Q (.panic c) (a.put oi.dst v) w → Q (.panic c) a w) (hD : ∀ j, j ∈ D → before md ops N j i = true) :
    ∀ (fuel : Nat) (listed : Array Bool) (a : Act) (w : World),
      (∀ j oj, ops[j]? = some oj → j ≠ i → listed.getD j true = false → (∀ e ∈ oj.after, Region.binds md e = true → e.on ≠ i) → oi.apart ops oj = true) →
      i ∈ Region.ready md ops listed → Cl md ops listed → YieldsIf P ops S oi v a → S w →
      wpAnyW P md ops Q S D fuel (listed.setIfInBounds i true) (a.put oi.dst v) w → wpAnyW P md ops Q S D (fuel + 1) listed a w := by
  intro fuel
  induction fuel with
  | zero =>
    intro listed a w _ hr hcl hy hS H
    refine ⟨fun h => (by rw [h] at hr; cases hr), fun j hj => ?_⟩
    by_cases hji : j = i
    · subst hji; exact hy.wpOp hi hS ⟨.inr hS, H⟩
    · have := ready_mono hj hji
      rw [H.1] at this
      cases this
  | succ fuel ih =>
    intro listed a w hfree hr hcl hy hS H
    refine ⟨fun h => (by rw [h] at hr; cases hr), fun j hj => ?_⟩
    by_cases hji : j = i
    · subst hji; exact hy.wpOp hi hS ⟨.inr hS, H⟩
    · have h1 := H.2 j (ready_mono hj hji)
      obtain ⟨hjun, oj, hoj, hall⟩ := mem_ready.1 hj
      have hun : ∀ h1 : listed.getD i false = true, False := fun h1 => by
        have h0 := (mem_ready.1 hr).1
        rcases Nat.lt_or_ge i listed.size with h' | h'
        · simp [h'] at h0 h1; rw [h0] at h1; cases h1
        · simp [Array.getElem?_eq_none h'] at h1
      have hnot : ∀ e ∈ oj.after, Region.binds md e = true → e.on ≠ i := fun e he hb heq => by
        have h1 := hall e he hb
        rw [heq] at h1
        exact hun h1
      have hjD : ¬ j ∈ D := fun hd => hun (before_listed hcl N j i (hD j hd) fun o ho => by rw [hoj] at ho; cases ho; exact hall)
      have h2 := wpOp_putIf hoj (hfree j oj hoj hji hjun hnot) (fun cs b => hsel i oi cs b hi) (fun cs b => hsel j oj cs b hoj) hQ hy h1
      have hfree' : ∀ k ok, ops[k]? = some ok → k ≠ i → (listed.setIfInBounds j true).getD k true = false →
          (∀ e ∈ ok.after, Region.binds md e = true → e.on ≠ i) → oi.apart ops ok = true := fun k ok hk hki hun hno => by
        refine hfree k ok hk hki ?_ hno
        by_cases hjk : j = k
        · subst hjk; exact hjun
        · rw [getD_set_ne true hjk] at hun; exact hun
      refine wpOp_mono (fun a' w' h3 => ?_) h2
      have hS' : S w' := h3.2.1.resolve_left hjD
      refine ⟨.inr hS', ih (listed.setIfInBounds j true) a' w' hfree' (ready_mono hr (Ne.symm hji)) (hcl.set hj) h3.1 hS' ?_⟩
      rw [Array.setIfInBounds_comm _ _ hji]
      exact h3.2.2

/-- Do these operations wait for those, if through others? -/
def behind (ops : Array Oper) (N : Nat) (I L : List Nat) : Bool := L.all fun j => I.all fun i => before .any ops N j i

theorem reads_of_b {J L : List Nat} {N : Nat} (hsel : Region.noSelect ops = true) (hQ : ∀ c a d v w, Q (.panic c) (Act.put a d v) w → Q (.panic c) a w) (hS : S w) :
    ∀ (I : List Nat) (fuel : Nat) (listed last : Array Bool) (a : Act), behind ops N I L = true → Cl .any ops listed → I.length + (J.length + L.length) ≤ fuel → sortedReads ops I listed = some last → sortedChain ops (J ++ L) last = true →
      RD P ops S (fun a => CHW P ops Q S L J a w) I a → wpAnyW P .any ops Q S L fuel listed a w
  | [], fuel, listed, last, a, _, _, hf, hs, hc, h => by
    have : listed = last := by simpa [sortedReads] using hs
    subst this
    exact chain_of_j (fun _ h => h) J fuel listed a w (by simpa using hf) hc h
  | i :: I, 0, listed, last, a, _, _, hf, hs, hc, h => by simp at hf
  | i :: I, fuel + 1, listed, last, a, hwt, hcl, hf, hs, hc, h => by
    unfold sortedReads at hs
    split at hs
    · rename_i hb
      simp only [Bool.and_eq_true] at hb
      obtain ⟨o, ho, hw, v, hv, hr⟩ := h
      have hwt2 : ∀ j ∈ L, before .any ops N j i = true ∧ I.all (fun i => before .any ops N j i) = true := by
        intro j hj
        have := List.all_eq_true.1 hwt j hj
        rwa [List.all_cons, Bool.and_eq_true] at this
      have hri : i ∈ Region.ready .any ops listed := by simpa using hb.2
      exact wpAnyB_first (nth_ops ho) (Region.noSelect_spec hsel) (fun c a w => hQ c a _ _ w) (fun j hj => (hwt2 j hj).1) fuel listed a w (Region.free_spec (nth_ops ho) hb.1) hri hcl (.inl ⟨hw, hv⟩) hS
        (reads_of_b hsel hQ hS I fuel _ last _ (List.all_eq_true.2 fun j hj => (hwt2 j hj).2) (hcl.set hri) (by simp at hf ⊢; omega) hs hc hr)
    · cases hs

/-- The region, sorted; the operations of L wait for all that only read, if through others. -/
theorem wp_region_behind {id : Nat} (S : World → Prop) (N : Nat) (I J L : List Nat) (hm : P.follows .mixedOrders = true) (hs : sorted ops I (J ++ L) = true) (hwt : behind ops N I L = true) (hS : S w.drew)
    (h : RD P ops S (fun a => CHW P ops (NoPanic Q) S L J a w.drew) I a) : (Code.region id ops true).wp P Q a w := by
  unfold sorted at hs
  simp only [Bool.and_eq_true, beq_iff_eq] at hs
  obtain ⟨⟨h1, h2⟩, h3⟩ := hs
  cases hq : sortedReads ops I (Array.replicate ops.size false) with
  | none => rw [hq] at h2; cases h2
  | some last =>
    rw [hq] at h2
    refine wp_region_noPanic (wp_region_any hm (wpAny_of_w _ _ _ _ (reads_of_b h1 (fun _ _ _ _ _ h => h) hS I _ _ last a hwt ?_ (by rw [List.length_append] at h3; omega) hq h2 h)))
    intro k o ho hk
    exfalso
    rcases Nat.lt_or_ge k ops.size with h' | h' <;> simp [h'] at hk
end
end Dsk
end Go.Proofs.YtibeangcjfjeiaaDoor

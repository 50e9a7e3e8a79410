/- Regions that draw; keys, blocks and contents of package disk; its small calls. -/
import Derived.OrdersHeld
import Derived.Deep.RegionHeld3
import Derived.WalkKit
import Derived.Deep.AppendSrc
import Derived.Deep.MidRow
import Derived.Test.YtgophgnfiboefaaGreatDoorRows
import Derived.Test.YtgophgnfiboefaaGreatDoorMemA
import Derived.WalkSpells
import Derived.MapKept
import Derived.DeepKeys4
import Derived.Maps.Own
import Derived.Test.YtgophgnfiboefaaGreatDoorPlA
import Derived.Lib.Hide
import Derived.Shelf.SlMaps.Clone
/-! A region that draws its order, its operations sorted: first those that only read, then the others, one behind the other. Nothing of the program is imported. -/
namespace Go.Proofs.YtgophgnfiboefaaGreatDoor
open Go.RowKit
set_option linter.unusedVariables false
namespace Dsk

section
variable {P : Program} {ops : Array Oper} {Q : Exit → Act → World → Prop} {S : World → Prop} {fuel i : Nat} {o : Oper} {listed : Array Bool} {a : Act} {w : World}

/-- The operation with a number. -/
def nth : List Oper → Nat → Option Oper
  | [], _ => none
  | o :: _, 0 => some o
  | _ :: r, i + 1 => nth r i
theorem nth_eq : ∀ (l : List Oper) (i : Nat), nth l i = l[i]?
  | [], _ => rfl
  | _ :: _, 0 => rfl
  | _ :: r, i + 1 => by rw [nth, nth_eq r i]; rfl
theorem nth_ops {i : Nat} (h : nth ops.toList i = some o) : ops[i]? = some o := by
  rw [nth_eq] at h
  simpa using h

/-- Operations that yield their values in every world that meets S. -/
def RD (P : Program) (ops : Array Oper) (S : World → Prop) (K : Act → Prop) : List Nat → Act → Prop
  | [], a => K a
  | i :: r, a => ∃ o, nth ops.toList i = some o ∧ Region.wanted o (yielded ops a.tmps) = true ∧ ∃ v, (∀ w, S w → (execOp a.eval o).run P w = .ok (.value v) w) ∧ RD P ops S K r (a.put o.dst v)
/-- Operations one behind the other, behind each of which S holds. -/
def CH (P : Program) (ops : Array Oper) (Q : Exit → Act → World → Prop) (S : World → Prop) : List Nat → Act → World → Prop
  | [], a, w => Q .normal a w
  | i :: r, a, w => ∃ o, nth ops.toList i = some o ∧ Region.wanted o (yielded ops a.tmps) = true ∧ Oper.wp P o a w (fun a' w' => S w' ∧ CH P ops Q S r a' w') Q

theorem RD.done {K : Act → Prop} (h : K a) : RD P ops S K [] a := h
theorem RD.next {K : Act → Prop} {r : List Nat} {v : Value} (ho : nth ops.toList i = some o) (hw : Region.wanted o (yielded ops a.tmps) = true) (hv : ∀ w, S w → (execOp a.eval o).run P w = .ok (.value v) w) (h : RD P ops S K r (a.put o.dst v)) : RD P ops S K (i :: r) a := ⟨o, ho, hw, v, hv, h⟩
theorem RD.nextY {K : Act → Prop} {r : List Nat} {v : Value} (ho : nth ops.toList i = some o) (hw : Region.wanted o (yielded ops a.tmps) = true) (hy : YieldsIf P ops S o v a) (h : RD P ops S K r (a.put o.dst v)) : RD P ops S K (i :: r) a := by
  rcases hy with ⟨_, hv⟩ | ⟨h0, _⟩
  · exact ⟨o, ho, hw, v, hv, h⟩
  · rw [hw] at h0
    cases h0
theorem CH.done (h : Q .normal a w) : CH P ops Q S [] a w := h
theorem CH.next {r : List Nat} (ho : nth ops.toList i = some o) (hw : Region.wanted o (yielded ops a.tmps) = true) (h : ∀ K : Act → World → Prop, (∀ a' w', S w' → CH P ops Q S r a' w' → K a' w') → Oper.wp P o a w K Q) : CH P ops Q S (i :: r) a w :=
  ⟨o, ho, hw, h _ fun a' w' h1 h2 => ⟨h1, h2⟩⟩
/-- An operation whose run is known. -/
theorem wp_of_run {v : Value} {K : Act → World → Prop} {w' : World} (hr : (execOp a.eval o).run P w = .ok (.value v) w') (h : K (a.put o.dst v) w') : Oper.wp P o a w K Q := by
  unfold Oper.wp
  rw [hr, Oper.upon_value]
  exact h
/-- May these operations be taken in this order? -/
def sortedReads (ops : Array Oper) : List Nat → Array Bool → Option (Array Bool)
  | [], listed => some listed
  | i :: r, listed => if Region.free .any ops listed i && (Region.ready .any ops listed).contains i then sortedReads ops r (listed.setIfInBounds i true) else none
def sortedChain (ops : Array Oper) : List Nat → Array Bool → Bool
  | [], listed => Region.ready .any ops listed == []
  | i :: r, listed => Region.ready .any ops listed == [i] && sortedChain ops r (listed.setIfInBounds i true)
def sorted (ops : Array Oper) (I J : List Nat) : Bool :=
  Region.noSelect ops && (match sortedReads ops I (Array.replicate ops.size false) with
    | some listed => sortedChain ops J listed
    | none => false) && I.length + J.length == ops.size

theorem chain_of : ∀ (J : List Nat) (fuel : Nat) (listed : Array Bool) (a : Act) (w : World), J.length ≤ fuel → sortedChain ops J listed = true → CH P ops Q S J a w → wpAnyH P .any ops Q S fuel listed a w
  | [], fuel, listed, a, w, _, hs, h => wpAnyH_done (by simpa [sortedChain] using hs) h fuel
  | i :: J, 0, listed, a, w, hf, hs, h => by simp at hf
  | i :: J, fuel + 1, listed, a, w, hf, hs, h => by
    simp only [sortedChain, Bool.and_eq_true, beq_iff_eq] at hs
    obtain ⟨o, ho, hw, h⟩ := h
    refine wpAnyH_all hs.1 (by simp) fun j hj => ?_
    obtain rfl : j = i := by simpa using hj
    unfold wpOp
    rw [nth_ops ho]
    show if _ then _ else _
    rw [if_pos hw]
    exact .inl (Oper.wp_mono (fun a' w' h3 => ⟨h3.1, chain_of J fuel _ a' w' (by simpa using hf) hs.2 h3.2⟩) h)

theorem reads_of {J : List Nat} (hsel : Region.noSelect ops = true) (hQ : ∀ c a d v w, Q (.panic c) (Act.put a d v) w → Q (.panic c) a w) (hS : S w) :
    ∀ (I : List Nat) (fuel : Nat) (listed last : Array Bool) (a : Act), I.length + J.length ≤ fuel → sortedReads ops I listed = some last → sortedChain ops J last = true →
      RD P ops S (fun a => CH P ops Q S J a w) I a → wpAnyH P .any ops Q S fuel listed a w
  | [], fuel, listed, last, a, hf, hs, hc, h => by
    have : listed = last := by simpa [sortedReads] using hs
    subst this
    exact chain_of J fuel listed a w (by simpa using hf) hc h
  | i :: I, 0, listed, last, a, hf, hs, hc, h => by simp at hf
  | i :: I, fuel + 1, listed, last, a, hf, hs, hc, h => by
    unfold sortedReads at hs
    split at hs
    · rename_i hb
      simp only [Bool.and_eq_true] at hb
      obtain ⟨o, ho, hw, v, hv, hr⟩ := h
      exact wpAnyH_take (nth_ops ho) hsel hb.1 hb.2 (fun c a w => hQ c a _ _ w) (.inl ⟨hw, hv⟩) hS (reads_of hsel hQ hS I fuel _ last _ (by simp at hf ⊢; omega) hs hc hr)
    · cases hs

/-- The region, sorted. -/
theorem wp_region_sorted {id : Nat} (S : World → Prop) (I J : List Nat) (hm : P.follows .mixedOrders = true) (hs : sorted ops I J = true) (hS : S w.drew)
    (h : RD P ops S (fun a => CH P ops (NoPanic Q) S J a w.drew) I a) : (Code.region id ops true).wp P Q a w := by
  unfold sorted at hs
  simp only [Bool.and_eq_true, beq_iff_eq] at hs
  obtain ⟨⟨h1, h2⟩, h3⟩ := hs
  cases hq : sortedReads ops I (Array.replicate ops.size false) with
  | none => rw [hq] at h2; cases h2
  | some last =>
    rw [hq] at h2
    exact wp_region_noPanic (wp_region_held hm (reads_of h1 (fun _ _ _ _ _ h => h) hS I _ _ last a (by omega) hq h2 h))

/-! The same, but behind the operations of D nothing is asked of S: these wait for all that were taken first. -/
def wpAnyW (P : Program) (md : Region.Mode) (ops : Array Oper) (Q : Exit → Act → World → Prop) (S : World → Prop) (D : List Nat) : Nat → Array Bool → Act → World → Prop
  | 0, listed, a, w => Region.ready md ops listed = [] ∧ Q .normal a w
  | fuel + 1, listed, a, w =>
    (Region.ready md ops listed = [] → Q .normal a w) ∧
    ∀ i ∈ Region.ready md ops listed, wpOp P ops Q i (fun a' w' => (i ∈ D ∨ S w') ∧ wpAnyW P md ops Q S D fuel (listed.setIfInBounds i true) a' w') a w

variable {md : Region.Mode} {D : List Nat}
theorem wpAny_of_w : ∀ (fuel : Nat) (listed : Array Bool) (a : Act) (w : World), wpAnyW P md ops Q S D fuel listed a w → wpAny P md ops Q fuel listed a w
  | 0, _, _, _, h => h
  | fuel + 1, _, _, _, h => ⟨h.1, fun i hi => wpOp_mono (fun a' w' h' => wpAny_of_w fuel _ a' w' h'.2) (h.2 i hi)⟩

theorem wpAnyW_first {i : Nat} {oi : Oper} {v : Value} (hi : ops[i]? = some oi) (hsel : ∀ (j : Nat) (o : Oper) cs b, ops[j]? = some o → o.op ≠ .select cs b)
    (hQ : ∀ c a w, Q (.panic c) (a.put oi.dst v) w → Q (.panic c) a w) (hD : ∀ j oj, j ∈ D → ops[j]? = some oj → ∃ e ∈ oj.after, Region.binds md e = true ∧ e.on = i) :
    ∀ (fuel : Nat) (listed : Array Bool) (a : Act) (w : World),
      (∀ j oj, ops[j]? = some oj → j ≠ i → listed.getD j true = false → (∀ e ∈ oj.after, Region.binds md e = true → e.on ≠ i) → oi.apart ops oj = true) →
      i ∈ Region.ready md ops listed → YieldsIf P ops S oi v a → S w →
      wpAnyW P md ops Q S D fuel (listed.setIfInBounds i true) (a.put oi.dst v) w → wpAnyW P md ops Q S D (fuel + 1) listed a w := by
  intro fuel
  induction fuel with
  | zero =>
    intro listed a w _ hr hy hS H
    refine ⟨fun h => (by rw [h] at hr; cases hr), fun j hj => ?_⟩
    by_cases hji : j = i
    · subst hji; exact hy.wpOp hi hS ⟨.inr hS, H⟩
    · have := ready_mono hj hji
      rw [H.1] at this
      cases this
  | succ fuel ih =>
    intro listed a w hfree hr hy hS H
    refine ⟨fun h => (by rw [h] at hr; cases hr), fun j hj => ?_⟩
    by_cases hji : j = i
    · subst hji; exact hy.wpOp hi hS ⟨.inr hS, H⟩
    · have h1 := H.2 j (ready_mono hj hji)
      obtain ⟨hjun, oj, hoj, hall⟩ := mem_ready.1 hj
      have hnot : ∀ e ∈ oj.after, Region.binds md e = true → e.on ≠ i := fun e he hb heq => by
        have h1 := hall e he hb
        have h0 := (mem_ready.1 hr).1
        rw [heq] at h1
        rcases Nat.lt_or_ge i listed.size with h' | h'
        · simp [h'] at h0 h1; rw [h0] at h1; cases h1
        · simp [Array.getElem?_eq_none h'] at h1
      have hjD : ¬ j ∈ D := fun hd => by
        obtain ⟨e, he, hb, heq⟩ := hD j oj hd hoj
        exact hnot e he hb heq
      have h2 := wpOp_putIf hoj (hfree j oj hoj hji hjun hnot) (fun cs b => hsel i oi cs b hi) (fun cs b => hsel j oj cs b hoj) hQ hy h1
      have hfree' : ∀ k ok, ops[k]? = some ok → k ≠ i → (listed.setIfInBounds j true).getD k true = false →
          (∀ e ∈ ok.after, Region.binds md e = true → e.on ≠ i) → oi.apart ops ok = true := fun k ok hk hki hun hno => by
        refine hfree k ok hk hki ?_ hno
        by_cases hjk : j = k
        · subst hjk; exact hjun
        · rw [getD_set_ne true hjk] at hun; exact hun
      refine wpOp_mono (fun a' w' h3 => ?_) h2
      have hS' : S w' := h3.2.1.resolve_left hjD
      refine ⟨.inr hS', ih (listed.setIfInBounds j true) a' w' hfree' (ready_mono hr (Ne.symm hji)) h3.1 hS' ?_⟩
      rw [Array.setIfInBounds_comm _ _ hji]
      exact h3.2.2

theorem chain_of_w : ∀ (L : List Nat) (fuel : Nat) (listed : Array Bool) (a : Act) (w : World), (∀ i ∈ L, i ∈ D) → L.length ≤ fuel → sortedChain ops L listed = true → CH P ops Q (fun _ => True) L a w → wpAnyW P .any ops Q S D fuel listed a w
  | [], 0, listed, a, w, _, _, hs, h => ⟨by simpa [sortedChain] using hs, h⟩
  | [], fuel + 1, listed, a, w, _, _, hs, h => ⟨fun _ => h, by
    have : Region.ready .any ops listed = [] := by simpa [sortedChain] using hs
    rw [this]
    simp⟩
  | i :: J, 0, listed, a, w, _, hf, hs, h => by simp at hf
  | i :: J, fuel + 1, listed, a, w, hd, hf, hs, h => by
    simp only [sortedChain, Bool.and_eq_true, beq_iff_eq] at hs
    obtain ⟨o, ho, hw, h⟩ := h
    refine ⟨fun h0 => (by rw [hs.1] at h0; cases h0), fun j hj => ?_⟩
    rw [hs.1] at hj
    obtain rfl : j = i := by simpa using hj
    unfold wpOp
    rw [nth_ops ho]
    show if _ then _ else _
    rw [if_pos hw]
    exact .inl (Oper.wp_mono (fun a' w' h3 => ⟨.inl (hd j (by simp)), chain_of_w J fuel _ a' w' (fun k hk => hd k (by simp [hk])) (by simpa using hf) hs.2 h3.2⟩) h)

/-- First operations behind each of which S holds, then those of L. -/
def CHW (P : Program) (ops : Array Oper) (Q : Exit → Act → World → Prop) (S : World → Prop) (L : List Nat) : List Nat → Act → World → Prop
  | [], a, w => CH P ops Q (fun _ => True) L a w
  | i :: r, a, w => ∃ o, nth ops.toList i = some o ∧ Region.wanted o (yielded ops a.tmps) = true ∧ Oper.wp P o a w (fun a' w' => S w' ∧ CHW P ops Q S L r a' w') Q
theorem CHW.done {L : List Nat} (h : CH P ops Q (fun _ => True) L a w) : CHW P ops Q S L [] a w := h
theorem CHW.next {r L : List Nat} (ho : nth ops.toList i = some o) (hw : Region.wanted o (yielded ops a.tmps) = true) (h : ∀ K : Act → World → Prop, (∀ a' w', S w' → CHW P ops Q S L r a' w' → K a' w') → Oper.wp P o a w K Q) : CHW P ops Q S L (i :: r) a w :=
  ⟨o, ho, hw, h _ fun a' w' h1 h2 => ⟨h1, h2⟩⟩
theorem chain_of_j {L : List Nat} (hD : ∀ i ∈ L, i ∈ D) : ∀ (J : List Nat) (fuel : Nat) (listed : Array Bool) (a : Act) (w : World), J.length + L.length ≤ fuel → sortedChain ops (J ++ L) listed = true → CHW P ops Q S L J a w → wpAnyW P .any ops Q S D fuel listed a w
  | [], fuel, listed, a, w, hf, hs, h => chain_of_w L fuel listed a w hD (by simpa using hf) hs h
  | i :: J, 0, listed, a, w, hf, hs, h => by simp at hf
  | i :: J, fuel + 1, listed, a, w, hf, hs, h => by
    simp only [List.cons_append, sortedChain, Bool.and_eq_true, beq_iff_eq] at hs
    obtain ⟨o, ho, hw, h⟩ := h
    refine ⟨fun h0 => (by rw [hs.1] at h0; cases h0), fun j hj => ?_⟩
    rw [hs.1] at hj
    obtain rfl : j = i := by simpa using hj
    unfold wpOp
    rw [nth_ops ho]
    show if _ then _ else _
    rw [if_pos hw]
    exact .inl (Oper.wp_mono (fun a' w' h3 => ⟨.inr h3.1, chain_of_j hD J fuel _ a' w' (by simp at hf ⊢; omega) hs.2 h3.2⟩) h)

/-- Do these operations wait for those? -/
def waits (ops : Array Oper) (I L : List Nat) : Bool :=
  L.all fun j => match nth ops.toList j with
    | some o => I.all fun i => o.after.toList.any fun e => Region.binds .any e && e.on == i
    | none => false

theorem reads_of_w {J L : List Nat} (hsel : Region.noSelect ops = true) (hQ : ∀ c a d v w, Q (.panic c) (Act.put a d v) w → Q (.panic c) a w) (hS : S w) :
    ∀ (I : List Nat) (fuel : Nat) (listed last : Array Bool) (a : Act), waits ops I L = true → I.length + (J.length + L.length) ≤ fuel → sortedReads ops I listed = some last → sortedChain ops (J ++ L) last = true →
      RD P ops S (fun a => CHW P ops Q S L J a w) I a → wpAnyW P .any ops Q S L fuel listed a w
  | [], fuel, listed, last, a, _, hf, hs, hc, h => by
    have : listed = last := by simpa [sortedReads] using hs
    subst this
    exact chain_of_j (fun _ h => h) J fuel listed a w (by simpa using hf) hc h
  | i :: I, 0, listed, last, a, _, hf, hs, hc, h => by simp at hf
  | i :: I, fuel + 1, listed, last, a, hwt, hf, hs, hc, h => by
    unfold sortedReads at hs
    split at hs
    · rename_i hb
      simp only [Bool.and_eq_true] at hb
      obtain ⟨o, ho, hw, v, hv, hr⟩ := h
      have hwt' : waits ops I L = true := by
        unfold waits at hwt ⊢
        rw [List.all_eq_true] at hwt ⊢
        intro j hj
        have := hwt j hj
        split at this
        · rw [List.all_cons, Bool.and_eq_true] at this
          exact this.2
        · cases this
      refine wpAnyW_first (nth_ops ho) (Region.noSelect_spec hsel) (fun c a w => hQ c a _ _ w) (fun j oj hj hoj => ?_) fuel listed a w (Region.free_spec (nth_ops ho) hb.1) (by simpa using hb.2) (.inl ⟨hw, hv⟩) hS (reads_of_w hsel hQ hS I fuel _ last _ hwt' (by simp at hf ⊢; omega) hs hc hr)
      unfold waits at hwt
      rw [List.all_eq_true] at hwt
      have h1 := hwt j hj
      have h2 : nth ops.toList j = some oj := by rw [nth_eq]; simpa using hoj
      rw [h2] at h1
      simp only [List.all_cons, Bool.and_eq_true, List.any_eq_true, beq_iff_eq] at h1
      obtain ⟨e, he, h3, h4⟩ := h1.1
      exact ⟨e, by simpa using he, h3, h4⟩
    · cases hs

/-- The region, sorted; the operations of L wait for all that only read. -/
theorem wp_region_late {id : Nat} (S : World → Prop) (I J L : List Nat) (hm : P.follows .mixedOrders = true) (hs : sorted ops I (J ++ L) = true) (hwt : waits ops I L = true) (hS : S w.drew)
    (h : RD P ops S (fun a => CHW P ops (NoPanic Q) S L J a w.drew) I a) : (Code.region id ops true).wp P Q a w := by
  unfold sorted at hs
  simp only [Bool.and_eq_true, beq_iff_eq] at hs
  obtain ⟨⟨h1, h2⟩, h3⟩ := hs
  cases hq : sortedReads ops I (Array.replicate ops.size false) with
  | none => rw [hq] at h2; cases h2
  | some last =>
    rw [hq] at h2
    exact wp_region_noPanic (wp_region_any hm (wpAny_of_w _ _ _ _ (reads_of_w h1 (fun _ _ _ _ _ h => h) hS I _ _ last a hwt (by rw [List.length_append] at h3; omega) hq h2 h)))
end
end Dsk
end Go.Proofs.YtgophgnfiboefaaGreatDoor

/-! 'copy', from a slice or a string, into cells of which only those that are written are known. Nothing of the program is imported. -/
namespace Go.Proofs.YtgophgnfiboefaaGreatDoor
open Go.RowKit
set_option linter.unusedVariables false
namespace Dsk
section
variable {P : Program} {w : World}

/-- Where the bytes of a copy come from. -/
structure From (P : Program) (x : Value) (m k : Nat) (news : List Value) (w : World) : Prop where
  len : ∀ w' : World, (Builtin.lenOf x).run P w' = .ok m w'
  cells : (Builtin.firstCells 1 k x).run P w = .ok news.toArray w
  size : news.length = k
  one : ∀ u ∈ news, u.oneCell' = true

theorem From.string (s : ByteArray) {k : Nat} (hk : k ≤ s.size) : From P (.string s) s.size k ((byteCells s).take k) w := by
  have hl : ((byteCells s).take k).length = k := by rw [List.length_take, byteCells_length]; omega
  refine ⟨fun _ => rfl, ?_, hl, fun u hu => ?_⟩
  · simp [Builtin.firstCells, byteCells]
    apply Array.ext'
    simp
  · have := List.mem_of_mem_take hu
    unfold byteCells at this
    obtain ⟨_, _, rfl⟩ := List.mem_map.1 this
    rfl
theorem From.slice (a : Addr) {n c k : Nat} (news : List Value) (hl : news.length = k) (h : ∀ j u, news[j]? = some u → w.cell? (a.add j) = some u) (h1 : ∀ u ∈ news, u.oneCell' = true) : From P (.slice (some a) n c) n k news w :=
  ⟨fun _ => rfl, run_firstCells_some w 1 k a n c news (by omega) h, hl, h1⟩

/-- A copy. -/
theorem run_copy_cells {dT sT ty elem : TypeId} (hu : P.underlying dT = some (.slice elem)) (hs : (P.info? elem).map (·.size) = some 1) {g o dLen dCap : Nat} {x : Value} {m k : Nat} {news : List Value} (hf : From P x m k news w) (hk : m.min dLen = k)
    (ht : w.there g o k) : (Builtin.copy_ #[dT, sT] ty #[.slice (some ⟨g, o, none⟩) dLen dCap, x]).run P w = .ok (goInt k) (w.setCells g o news) := by
  subst hk
  have hst := run_storeCells_cells (P := P) g o news 0 w (by intro j hj; rw [Nat.add_zero]; exact (ht j (by rw [← hf.size]; exact hj)).1) (by intro j hj; rw [Nat.add_zero]; exact (ht j (by rw [← hf.size]; exact hj)).2) hf.one
  simp only [Nat.add_zero] at hst
  cases hq : P.info? elem with
  | none => simp [hq] at hs
  | some i =>
    have hsz : i.size = 1 := by simpa [hq] using hs
    simp [Builtin.copy_, run_underlying hu, sizeOf, typeInfo, hq, hsz, hf.len, hf.cells, hst, Result.andThen]

/-- A copy as an operation. -/
theorem wp_copy_cells {o : Oper} {a : Act} {K : Act → World → Prop} {Q : Exit → Act → World → Prop} (d s : Operand) (dT sT : TypeId) (ho : o.op = .call { callee := .builtin .copy, args := #[d, s], argTypes := #[dT, sT] })
    {elem : TypeId} (hu : P.underlying dT = some (.slice elem)) (hs : (P.info? elem).map (·.size) = some 1) {g off dLen dCap : Nat} {x : Value} (m k : Nat) (news : List Value) (hd : a.eval d = .slice (some ⟨g, off, none⟩) dLen dCap) (hx : a.eval s = x)
    (hf : From P x m k news w) (hk : m.min dLen = k) (ht : w.there g off k) (h : K (a.put o.dst (goInt k)) (w.setCells g off news)) : Oper.wp P o a w K Q := by
  have hr := run_copy_cells (P := P) (ty := o.type) (sT := sT) (dCap := dCap) hu hs hf hk ht
  unfold Oper.wp execOp
  simp only [ho, resolve, invoke, builtin, Sem.run_bind, Sem.run_pure, Result.andThen_ok, List.map_toArray, List.map_cons, List.map_nil, hd, hx, hr]
  exact h

/-- These cells lie there, and may be written. -/
structure Lie (w : World) (g o : Nat) (cs : List Value) : Prop where
  cells : w.rangeAt g o cs
  there : w.there g o cs.length
theorem Lie.keep {w' : World} {g o : Nat} {cs : List Value} (h : Lie w g o cs) (e : w'.heap[g]? = w.heap[g]?) : Lie w' g o cs :=
  ⟨fun j v hv => (World.cell?_of_block (a := ⟨g, o + j, none⟩) e).trans (h.cells j v hv), fun j hj => ⟨by rw [World.cell?_of_block (a := ⟨g, o + j, none⟩) e]; exact (h.there j hj).1, by rw [World.frozen?_of_block (a := ⟨g, o + j, none⟩) e]; exact (h.there j hj).2⟩⟩
theorem there_set {g o n g' o' : Nat} {cs : List Value} (h : w.there g o n) : (w.setCells g' o' cs).there g o n := fun j hj =>
  ⟨World.isSome_setCells _ cs o' w _ (h j hj).1, by rw [World.frozen?_setCells]; exact (h j hj).2⟩
theorem Lie.all {g o n : Nat} {cs : List Value} (h : w.there g o n) (hn : cs.length = n) : Lie (w.setCells g o cs) g o cs :=
  ⟨fun j v hv => by
    obtain ⟨hj, e⟩ := List.getElem?_eq_some_iff.1 hv
    rw [World.cell?_setCells_in g cs o w (fun i hi => (h i (by omega)).1) j hj, e], by rw [hn]; exact there_set h⟩
theorem Lie.part {g o i : Nat} {cs news ds : List Value} (h : Lie w g o cs) (hl : ds.length = cs.length) (hi : i + news.length ≤ cs.length) (hd : ∀ j, j < ds.length → ds[j]? = if i ≤ j ∧ j < i + news.length then news[j - i]? else cs[j]?) : Lie (w.setCells g (o + i) news) g o ds := by
  refine ⟨fun j v hv => ?_, by rw [hl]; exact there_set h.there⟩
  have hj : j < ds.length := (List.getElem?_eq_some_iff.1 hv).1
  rw [hd j hj] at hv
  split at hv
  · rename_i hb
    obtain ⟨hk, e⟩ := List.getElem?_eq_some_iff.1 hv
    rw [show o + j = o + i + (j - i) from by omega, World.cell?_setCells_in g news (o + i) w (fun k hk => by rw [Nat.add_assoc]; exact (h.there (i + k) (by omega)).1) (j - i) hk, e]
  · rename_i hb
    rw [World.cell?_setCells_out g news (o + i) w ⟨g, o + j, none⟩ (fun _ _ => by show o + j < _ ∨ _ ≤ o + j; omega)]
    exact h.cells j v hv

theorem grown_cells (b : Nat) : ∀ (vs : List Value) (o : Nat) (w : World), w.grownBy (w.setCells b o vs) (some b)
  | [], _, w => ⟨rfl, rfl, rfl, Nat.le_refl _, fun _ _ _ => rfl⟩
  | v :: r, o, w => by
    have k := grown_cells b r (o + 1) (w.setCell ⟨b, o, none⟩ v)
    have h : w.grownBy (w.setCell ⟨b, o, none⟩ v) (some b) := ⟨rfl, rfl, rfl, by simp [World.setCell], fun k _ hr => Below.heap_setCell _ _ _ _ (fun e => hr (congrArg some e))⟩
    exact ⟨k.os.trans h.os, k.tape.trans h.tape, k.output.trans h.output, Nat.le_trans h.size k.size,
      fun i hi hr => (k.block i (Nat.lt_of_lt_of_le hi h.size) hr).trans (h.block i hi hr)⟩

/-- A new block, of which only its size is told. -/
theorem step_alloc {K : Act → World → Prop} {a : Act} {cs : Array Value} {t : TypeId} (n : Nat) (hn : cs.size = n) (h : ∀ w', w'.there w.heap.size 0 n → Below w.heap.size w w' → w'.heap.size = w.heap.size + 1 → K a w') : K a (w.alloc (.cells cs t)).drew := by
  refine h _ (fun j hj => ?_) (((Below.refl _ w).alloc (Nat.le_refl _) _).drew) (by simp)
  have hb : ((w.alloc (.cells cs t)).drew).heap[w.heap.size]? = some (.cells cs t (0, 0)) := Go.heap_alloc_new w _
  rw [Nat.zero_add]
  refine ⟨?_, ?_⟩
  · rw [cell_of_row _ w.heap.size j cs t (0, 0) hb, Array.getElem?_eq_getElem (by omega)]
    rfl
  · unfold World.frozen?
    rw [hb]
    simp
/-- A whole row stored into cells that are there. -/
theorem wp_store_lie {o : Oper} {a : Act} {K : Act → World → Prop} {Q : Exit → Act → World → Prop} (ty : TypeId) (x y : Operand) (ho : o.op = .store ty x y) (g off n : Nat) (cs : List Value) (hx : a.eval x = .pointer (some ⟨g, off, none⟩)) (hy : a.eval y = .agg cs.toArray)
    (hn : cs.length = n) (ht : w.there g off n) (hi : (P.info? ty).map (·.size) = some n) (h1 : ∀ v ∈ cs, v.oneCell' = true) (h : ∀ w', w' = w.setCells g off cs → Lie w' g off cs → w.grownBy w' (some g) → K (a.put o.dst undef) w') : Oper.wp P o a w K Q := by
  subst hn
  refine wp_store_mid ty x y ho g off cs.toArray hx hy (by simpa using ht) (by simpa using hi) ?_ ?_
  · rw [Array.all_eq_true_iff_forall_mem]
    intro v hv
    exact h1 v (by simpa using hv)
  · rw [List.toList_toArray]
    exact h _ rfl (Lie.all ht rfl) (grown_cells g cs off w)
end
end Dsk
end Go.Proofs.YtgophgnfiboefaaGreatDoor

/-! Maps whose keys are sectors: what the block of such a map holds, and what the operations do with it. -/
namespace Go.Proofs.YtgophgnfiboefaaGreatDoor
open Go.RowKit Wire Go.Maps
set_option linter.unusedVariables false
set_option linter.unusedSimpArgs false
namespace Dsk

/-- A sector as a value. -/
def keyV (f n : Nat) : Value := .agg #[.int .i64 f, .int .i64 n]

theorem keyV_inj {f n g m : Nat} (h : keyV f n = keyV g m) : f = g ∧ n = m := by
  unfold keyV at h
  simp only [Value.agg.injEq, Array.mk.injEq, List.cons.injEq, Value.int.injEq, true_and, and_true] at h
  omega

theorem laidOut : laidOutB Tryz.prog = true := by kernel_rfl
theorem cells_int : Tryz.prog.cellsOf 3 = 1 := by kernel_rfl
/-- What the entries of a map say of each sector. -/
structure Rep (es : Array MapEntry) (look : Nat → Nat → Option Value) : Prop where
  told : ∀ e ∈ es.toList, ∃ f n, f < 16 ∧ n ≤ 262144 ∧ e.key = keyV f n ∧ look f n = some e.val
  there : ∀ f n v, look f n = some v → ∃ e ∈ es.toList, e.key = keyV f n

/-- Block m is a map that says 'look' of each sector. -/
def IsMap (w : World) (m : Nat) (look : Nat → Nat → Option Value) : Prop :=
  ∃ es clock, w.heap[m]? = some (.map es clock) ∧ MapKept.Stamped es clock ∧ Rep es look

def upd (look : Nat → Nat → Option Value) (f n : Nat) (v : Value) : Nat → Nat → Option Value := fun g k => if g = f ∧ k = n then some v else look g k
def del (look : Nat → Nat → Option Value) (f n : Nat) : Nat → Nat → Option Value := fun g k => if g = f ∧ k = n then none else look g k

section
variable {w w' : World} {m : Nat} {look : Nat → Nat → Option Value} {es : Array MapEntry} {clock f n : Nat}

theorem IsMap.lt (h : IsMap w m look) : m < w.heap.size := by
  obtain ⟨es, clock, hb, _⟩ := h
  exact (Array.getElem?_eq_some_iff.1 hb).1
theorem IsMap.keep (h : IsMap w m look) (e : w'.heap[m]? = w.heap[m]?) : IsMap w' m look := by
  obtain ⟨es, clock, hb, h2⟩ := h
  exact ⟨es, clock, e.trans hb, h2⟩
theorem IsMap.empty (w : World) : IsMap (w.alloc (.map #[] 0)) w.heap.size (fun _ _ => none) :=
  ⟨#[], 0, (MapKept.heap_alloc w _).1, MapKept.stamped_empty 0, ⟨fun e he => by simp at he, fun f n v h => by cases h⟩⟩

theorem apart (h : MapKept.Stamped es clock) {i j : Nat} {a b : MapEntry} (hi : es.toList[i]? = some a) (hj : es.toList[j]? = some b) (hne : i ≠ j) : a.key ≠ b.key := by
  have hn : es.toList.Pairwise (fun x y => x.key ≠ y.key) := ((MapKept.stamped_iff es clock).1 h).2.2
  obtain ⟨hi1, rfl⟩ := List.getElem?_eq_some_iff.1 hi
  obtain ⟨hj1, rfl⟩ := List.getElem?_eq_some_iff.1 hj
  rw [List.pairwise_iff_getElem] at hn
  rcases Nat.lt_or_gt_of_ne hne with h' | h'
  · exact hn i j hi1 hj1 h'
  · exact (hn j i hj1 hi1 h').symm

theorem grown_block (w : World) (m : Nat) (o : Obj) : w.grownBy (ChangeMaps.setBlock w m o) (some m) :=
  ⟨rfl, rfl, rfl, by simp [ChangeMaps.setBlock], fun i _ hi => by
    simp only [ChangeMaps.setBlock]
    rw [Array.getElem?_setIfInBounds_ne]
    exact fun e => hi (by rw [e])⟩

end

end Dsk
end Go.Proofs.YtgophgnfiboefaaGreatDoor

/-! How the contents of files lie in memory. -/
namespace Go.Proofs.YtgophgnfiboefaaGreatDoor
open Go.RowKit Wire
set_option linter.unusedVariables false
set_option linter.unusedSimpArgs false
namespace Dsk

/-- The bytes of a sector, as cells. -/
def blkL (C : Con) (f n : Nat) : List Value := (List.range 64).map fun j => .int .u8 (C.byte f (64 * n + j)).toNat
def blockV (C : Con) (f n : Nat) : Value := .agg (blkL C f n).toArray
def zeroB : Value := .agg (Array.replicate 64 (.int .u8 0))

theorem zero_bool (w : World) : (zeroValue 4).run Tryz.prog w = .ok (.bool false) w := by kernel_rfl

theorem blkL_len (C : Con) (f n : Nat) : (blkL C f n).length = 64 := by unfold blkL; simp
theorem blkL_get (C : Con) (f n j : Nat) (h : j < 64) : (blkL C f n)[j]? = some (.int .u8 (C.byte f (64 * n + j)).toNat) := by
  unfold blkL
  rw [List.getElem?_map, List.getElem?_range h]
  rfl
theorem blkL_one (C : Con) (f n : Nat) : ∀ v ∈ blkL C f n, v.oneCell' = true := by
  intro v hv
  unfold blkL at hv
  obtain ⟨j, _, rfl⟩ := List.mem_map.1 hv
  rfl
theorem blockV_zero {C : Con} {f n : Nat} (h : ∀ j, j < 64 → C.byte f (64 * n + j) = 0) : blockV C f n = zeroB := by
  unfold blockV zeroB
  congr 1
  apply Array.ext'
  rw [Array.toList_replicate]
  apply List.ext_getElem?
  intro j
  by_cases hj : j < 64
  · rw [blkL_get _ _ _ _ hj, h j hj, List.getElem?_replicate, if_pos hj]
    rfl
  · rw [List.getElem?_eq_none (by rw [blkL_len]; omega), List.getElem?_eq_none (by simp; omega)]
theorem blockV_same {C D : Con} {f n g k : Nat} (h : ∀ j, j < 64 → C.byte f (64 * n + j) = D.byte g (64 * k + j)) : blockV C f n = blockV D g k := by
  unfold blockV
  congr 2
  apply List.ext_getElem?
  intro j
  by_cases hj : j < 64
  · rw [blkL_get _ _ _ _ hj, blkL_get _ _ _ _ hj, h j hj]
  · rw [List.getElem?_eq_none (by rw [blkL_len]; omega), List.getElem?_eq_none (by rw [blkL_len]; omega)]

/-- Block m is a map of the sectors of these contents. -/
def MapC (w : World) (m : Nat) (C : Con) : Prop := ∃ look, IsMap w m look ∧ ∀ f n, f < 16 → n ≤ 262144 → (look f n).getD zeroB = blockV C f n

section
variable {w w' : World} {m g o : Nat} {C : Con}
theorem MapC.lt (h : MapC w m C) : m < w.heap.size := by
  obtain ⟨_, h, _⟩ := h
  exact h.lt
theorem MapC.keep (h : MapC w m C) (e : w'.heap[m]? = w.heap[m]?) : MapC w' m C := by
  obtain ⟨l, h1, h2⟩ := h
  exact ⟨l, h1.keep e, h2⟩
theorem MapC.empty (w : World) : MapC (w.alloc (.map #[] 0)) w.heap.size Con.none :=
  ⟨_, IsMap.empty w, fun f n _ _ => (blockV_zero fun _ _ => rfl).symm⟩
/-- The cells of contents. -/
def conL (m : Nat) (C : Con) : List Value := .map (some m) :: (List.range 16).map fun f => .int .i64 (C.size f)
theorem conL_len (m : Nat) (C : Con) : (conL m C).length = 17 := by unfold conL; simp
theorem conL_ptr (m : Nat) (C : Con) : (conL m C)[0]? = some (.map (some m)) := rfl
theorem conL_siz (m : Nat) (C : Con) {f : Nat} (hf : f < 16) : (conL m C)[1 + f]? = some (.int .i64 (C.size f)) := by
  unfold conL
  rw [Nat.add_comm, List.getElem?_cons_succ, List.getElem?_map, List.getElem?_range hf]
  rfl
theorem conL_set (m : Nat) (C D : Con) {f : Nat} (hf : f < 16) (h : ∀ g, g ≠ f → D.size g = C.size g) : (conL m C).set (1 + f) (.int .i64 (D.size f)) = conL m D := by
  apply List.ext_getElem?
  intro j
  rw [List.getElem?_set]
  by_cases e : 1 + f = j
  · subst e
    rw [if_pos rfl, if_pos (by rw [conL_len]; omega), conL_siz m D hf]
  · rw [if_neg e]
    cases j with
    | zero => rfl
    | succ j =>
      by_cases hj : j < 16
      · rw [Nat.add_comm j 1, conL_siz m C hj, conL_siz m D hj, h j (by omega)]
      · rw [List.getElem?_eq_none (by rw [conL_len]; omega), List.getElem?_eq_none (by rw [conL_len]; omega)]
theorem conL_one (m : Nat) (C : Con) : ∀ v ∈ conL m C, v.oneCell' = true := by
  intro v hv
  unfold conL at hv
  rcases List.mem_cons.1 hv with rfl | hv
  · rfl
  · obtain ⟨j, _, rfl⟩ := List.mem_map.1 hv
    rfl

/-! Cells side by side. -/
theorem range_keep {cs : List Value} (h : w.rangeAt g o cs) (e : w'.heap[g]? = w.heap[g]?) : w'.rangeAt g o cs := fun j v hv =>
  (World.cell?_of_block (a := ⟨g, o + j, none⟩) e).trans (h j v hv)
theorem there_keep {n : Nat} (h : w.there g o n) (e : w'.heap[g]? = w.heap[g]?) : w'.there g o n := fun j hj =>
  ⟨by rw [World.cell?_of_block (a := ⟨g, o + j, none⟩) e]; exact (h j hj).1, by rw [World.frozen?_of_block (a := ⟨g, o + j, none⟩) e]; exact (h j hj).2⟩
theorem range_put {cs : List Value} (h : w.rangeAt g o cs) {i : Nat} (hi : i < cs.length) (v : Value) : (w.setCell ⟨g, o + i, none⟩ v).rangeAt g o (cs.set i v) := by
  intro j u hu
  rw [List.getElem?_set] at hu
  by_cases e : i = j
  · subst e
    rw [if_pos rfl, if_pos hi] at hu
    cases hu
    have hc : ∃ x, w.cell? ⟨g, o + i, none⟩ = some x := ⟨_, h i _ (List.getElem?_eq_getElem hi)⟩
    obtain ⟨x, hx⟩ := hc
    exact World.cell?_setCell_same' _ _ _ (by rw [hx]; rfl)
  · rw [if_neg e] at hu
    rw [World.cell?_setCell_other]
    · exact h j u hu
    · intro e2
      simp only [Addr.mk.injEq, and_true, true_and] at e2
      omega
theorem there_put {n : Nat} (h : w.there g o n) (a : Addr) (v : Value) : (w.setCell a v).there g o n := by
  intro j hj
  refine ⟨?_, ?_⟩
  · have := (h j hj).1
    obtain ⟨x, hx⟩ := Option.isSome_iff_exists.1 this
    by_cases e : (⟨g, o + j, none⟩ : Addr) = a
    · subst e
      rw [World.cell?_setCell_same' _ _ _ (by rw [hx]; rfl)]
      rfl
    · rw [World.cell?_setCell_other]
      · exact this
      · exact fun e2 => e e2.symm
  · rw [World.frozen?_setCell]
    exact (h j hj).2
end
end Dsk
end Go.Proofs.YtgophgnfiboefaaGreatDoor

/-! What a call may have written. -/
namespace Go.Proofs.YtgophgnfiboefaaGreatDoor
open Go.RowKit Wire
set_option linter.unusedVariables false
set_option linter.unusedSimpArgs false
namespace Dsk

/-- Of what was there only blocks of F may have changed. -/
structure Only (F : Nat → Prop) (w w' : World) : Prop where
  os : w'.os = w.os
  tape : w'.tape = w.tape
  output : w'.output = w.output
  size : w.heap.size ≤ w'.heap.size
  block : ∀ b, b < w.heap.size → ¬ F b → w'.heap[b]? = w.heap[b]?

section
variable {F G : Nat → Prop} {w w' w'' a b c : World}
theorem Only.refl (F : Nat → Prop) (w : World) : Only F w w := ⟨rfl, rfl, rfl, Nat.le_refl _, fun _ _ _ => rfl⟩
theorem Only.trans (h : Only F a b) (k : Only G b c) (hg : ∀ x, G x → F x ∨ a.heap.size ≤ x) : Only F a c :=
  ⟨k.os.trans h.os, k.tape.trans h.tape, k.output.trans h.output, Nat.le_trans h.size k.size, fun i hi hf =>
    (k.block i (Nat.lt_of_lt_of_le hi h.size) (fun e => by rcases hg i e with h1 | h1; exact hf h1; omega)).trans (h.block i hi hf)⟩
theorem Only.same (h : Only F a b) (k : Only F b c) : Only F a c := h.trans k fun _ h => .inl h
theorem Only.mono (h : Only F a b) (hg : ∀ x, F x → G x ∨ a.heap.size ≤ x) : Only G a b :=
  ⟨h.os, h.tape, h.output, h.size, fun i hi hf => h.block i hi fun e => by rcases hg i e with h1 | h1; exact hf h1; omega⟩
theorem Only.of_below (h : Below a.heap.size a b) : Only F a b := ⟨h.os, h.tape, h.output, h.size, fun i hi _ => h.block i hi⟩
theorem Only.of_grown {m : Nat} (h : a.grownBy b (some m)) (hm : F m ∨ a.heap.size ≤ m) : Only F a b :=
  ⟨h.os, h.tape, h.output, h.size, fun i hi hf => h.block i hi fun e => by
    injection e with e
    subst e
    rcases hm with h1 | h1
    · exact hf h1
    · omega⟩
theorem Only.of_grown' {r : Option Nat} (h : a.grownBy b r) (hm : ∀ m, r = some m → F m ∨ a.heap.size ≤ m) : Only F a b :=
  ⟨h.os, h.tape, h.output, h.size, fun i hi hf => h.block i hi fun e => by
    rcases hm i e.symm with h1 | h1
    · exact hf h1
    · omega⟩
theorem Only.set (F : Nat → Prop) (w : World) (p : Addr) (v : Value) (h : F p.block) : Only F w (w.setCell p v) :=
  ⟨rfl, rfl, rfl, by simp [World.setCell], fun i _ hf => Below.heap_setCell _ _ _ _ fun e => hf (by rw [e]; exact h)⟩
theorem Only.below {B : Nat} (h : Only F a b) (hB : B ≤ a.heap.size) (hF : ∀ x, F x → B ≤ x) : Below B a b :=
  ⟨h.os, h.tape, h.output, h.size, fun i hi => h.block i (by omega) fun e => by have := hF i e; omega⟩
end
end Dsk
end Go.Proofs.YtgophgnfiboefaaGreatDoor

/-! The small functions of the disk. -/
namespace Go.Proofs.YtgophgnfiboefaaGreatDoor
open Go.RowKit Wire
set_option linter.unusedVariables false
set_option linter.unusedSimpArgs false
namespace Dsk


/-- v is a slice that reads as these numbers. -/
def Ints (w : World) (v : Value) (ks : List Int) : Prop :=
  ∃ A c, v = .slice A ks.length c ∧ ∀ k x, ks[k]? = some x → ∃ b o, A = some ⟨b, o, none⟩ ∧ w.cell? ⟨b, o + k, none⟩ = some (.int .i64 x)

end Dsk
end Go.Proofs.YtgophgnfiboefaaGreatDoor

/-! Copies of slices and maps. -/
namespace Go.Proofs.YtgophgnfiboefaaGreatDoor
open Go.RowKit Wire
set_option linter.unusedVariables false
set_option linter.unusedSimpArgs false
namespace Dsk

theorem info_int : (Tryz.prog.info? 3).map (fun i => (i.zero, i.size, i.bytes)) = some (some (.int .i64 0), 1, 8) := by kernel_rfl
/-- A sector's two cells. -/
def secL (p : Nat × Nat) : List Value := [.int .i64 p.1, .int .i64 p.2]
theorem secs_len (l : List (Nat × Nat)) : (l.flatMap secL).length = l.length * 2 := by
  induction l with
  | nil => rfl
  | cons p r ih => simp [secL] at ih ⊢; omega

theorem Grow.bare (w : World) (t : TypeId) (sz : Nat) : Grow (w.alloc (.cells #[] t)) w.heap.size sz (.slice (some ⟨w.heap.size, 0, none⟩) 0 0) 0 [] := by
  refine ⟨by simp, .inr ⟨w.heap.size, 0, rfl, Nat.le_refl _, by simp, Nat.le_refl _, Nat.zero_le _, fun j hj => ?_, fun j hj => ?_, fun j u hu => by simp at hu⟩⟩
  · omega
  · omega
theorem below_of_grown {w w1 w2 : World} {n cap : Nat} {B : Nat} (h : Below B w w1) (hg : w1.grownBy w2 (Value.slice (some ⟨w.heap.size, 0, none⟩) n cap).ownBlock) (hB : B ≤ w.heap.size) : Below B w w2 :=
  ⟨hg.os.trans h.os, hg.tape.trans h.tape, hg.output.trans h.output, Nat.le_trans h.size hg.size, fun k hk =>
    (hg.block k (Nat.lt_of_lt_of_le (Nat.lt_of_lt_of_le hk hB) h.size) (fun e => by
      have : k = w.heap.size := by simpa [Value.ownBlock] using e
      omega)).trans (h.block k hk)⟩

theorem Ints.of_grow {w : World} {B : Nat} {v : Value} {ks : List Int} (h : Grow w B 1 v ks.length (ks.map (Value.int .i64))) : Ints w v ks := by
  rcases h.form with ⟨rfl, h0⟩ | ⟨g, cap, rfl, _, _, _, _, _, _, h7⟩
  · have : ks = [] := List.eq_nil_of_length_eq_zero h0
    subst this
    exact ⟨none, 0, rfl, fun k x hx => by simp at hx⟩
  · exact ⟨_, _, rfl, fun k x hx => ⟨g, 0, rfl, by rw [Nat.zero_add]; exact h7 k _ (by rw [List.getElem?_map, hx]; rfl)⟩⟩

theorem one_ints (ks : List Int) : ∀ u ∈ ks.map (Value.int .i64), u.oneCell' = true := by
  intro u hu
  obtain ⟨_, _, rfl⟩ := List.mem_map.1 hu
  rfl

theorem Ints.src {w : World} {ks : List Int} {A : Option Addr} {c : Nat} (h : ∀ k x, ks[k]? = some x → ∃ b o, A = some ⟨b, o, none⟩ ∧ w.cell? ⟨b, o + k, none⟩ = some (.int .i64 x)) {a : Addr} (ha : A = some a) :
    Src Tryz.prog 1 22 (.slice A ks.length c) ks.length (ks.map (Value.int .i64)) w := by
  subst ha
  refine Src.ofSlice w Tryz.underlying22 a ks.length c _ (by simp) (fun j u hu => ?_) (one_ints ks)
  rw [List.getElem?_map] at hu
  obtain ⟨x, hx, rfl⟩ := Option.map_eq_some_iff.1 hu
  obtain ⟨b, o, e, hc⟩ := h j x hx
  injection e with e
  subst e
  rw [row_add']
  exact hc

theorem one_secs (l : List (Nat × Nat)) : ∀ u ∈ l.flatMap secL, u.oneCell' = true := by
  intro u hu
  obtain ⟨p, _, hu⟩ := List.mem_flatMap.1 hu
  simp [secL] at hu
  rcases hu with rfl | rfl <;> rfl

theorem IsMap.copy {w : World} {look : Nat → Nat → Option Value} {es : Array MapEntry} {clock : Nat} (hs : MapKept.Stamped es clock) (hr : Rep es look) : IsMap (w.alloc (.map es clock)) w.heap.size look :=
  ⟨es, clock, (MapKept.heap_alloc w _).1, hs, hr⟩

end Dsk
end Go.Proofs.YtgophgnfiboefaaGreatDoor

/-! Empty contents, an empty queue. -/
namespace Go.Proofs.YtgophgnfiboefaaGreatDoor
open Go.RowKit Wire
set_option linter.unusedVariables false
set_option linter.unusedSimpArgs false
namespace Dsk

end Dsk
end Go.Proofs.YtgophgnfiboefaaGreatDoor

/-! Copies of contents and of queues. -/
namespace Go.Proofs.YtgophgnfiboefaaGreatDoor
open Go.RowKit Wire
set_option linter.unusedVariables false
set_option linter.unusedSimpArgs false
namespace Dsk

/-- Contents lie at offset o of block g. -/
structure ConAt (w : World) (g o m : Nat) (C : Con) : Prop where
  cells : w.rangeAt g o (conL m C)
  there : w.there g o 17
  map : MapC w m C

section
variable {w w' : World} {g o m : Nat} {C : Con}
theorem ConAt.ptr (h : ConAt w g o m C) : w.cell? ⟨g, o, none⟩ = some (.map (some m)) := h.cells 0 _ rfl
theorem ConAt.siz (h : ConAt w g o m C) {f : Nat} (hf : f < 16) : w.cell? ⟨g, o + (1 + f), none⟩ = some (.int .i64 (C.size f)) := h.cells (1 + f) _ (conL_siz m C hf)
theorem ConAt.free (h : ConAt w g o m C) {f : Nat} (hf : f < 16) : w.frozen? ⟨g, o + (1 + f), none⟩ = false := (h.there (1 + f) (by omega)).2
theorem ConAt.lt (h : ConAt w g o m C) : g < w.heap.size := World.block_lt_of_cell? w _ h.ptr
theorem ConAt.keep (h : ConAt w g o m C) (e : w'.heap[g]? = w.heap[g]?) (k : w'.heap[m]? = w.heap[m]?) : ConAt w' g o m C := ⟨range_keep h.cells e, there_keep h.there e, h.map.keep k⟩
theorem ConAt.below (h : ConAt w g o m C) (b : Below w.heap.size w w') : ConAt w' g o m C := h.keep (b.block g h.lt) (b.block m h.map.lt)

/-- The sizes of files, as cells. -/
def sizL (C : Con) : List Value := (List.range 16).map fun f => .int .i64 (C.size f)
theorem conL_eq (m : Nat) (C : Con) : conL m C = .map (some m) :: sizL C := rfl
theorem sizL_len (C : Con) : (sizL C).length = 16 := by unfold sizL; simp
theorem sizL_one (C : Con) : ∀ v ∈ sizL C, v.oneCell' = true := fun v hv => conL_one 0 C v (by rw [conL_eq]; exact List.mem_cons_of_mem _ hv)
theorem ConAt.sizes (h : ConAt w g o m C) : w.rangeAt g (o + 1) (sizL C) := by
  intro j v hv
  have := h.cells (1 + j) v (by rw [conL_eq, Nat.add_comm, List.getElem?_cons_succ]; exact hv)
  rwa [← Nat.add_assoc] at this
end

theorem results_mid {fn : Func} {p : Tmp} {ty : TypeId} (h : fn.results = #[.cell p ty]) (tmps : Array Value) (w : World) (g : Nat) (cs : List Value) (d : TypeDesc)
    (hp : tmps.getD p undef = .pointer (some ⟨g, 0, none⟩)) (hc : w.rangeAt g 0 cs)
    (hu : Tryz.prog.underlying ty = some d) (hd : d.isRow = true) (hi : (Tryz.prog.info? ty).map (·.size) = some cs.length) :
    (results fn tmps).run Tryz.prog w = .ok (.agg cs.toArray) w := by
  have hp' : tmps[p]?.getD undef = .pointer (some ⟨g, 0, none⟩) := by simpa using hp
  simp [results, h, hp', asAddr, run_loadVar_mid w g 0 ty cs d hc hu hd hi]

theorem all_one {cs : List Value} (h : ∀ v ∈ cs, v.oneCell' = true) : cs.toArray.all (·.oneCell') = true := by
  rw [Array.all_eq_true_iff_forall_mem]
  intro v hv
  exact h v (by simpa using hv)

/-- A new block of n cells can be written. -/
theorem there_new {w w2 : World} {t : TypeId} {cs : Array Value} (b : Below (w.heap.size + 1) (w.alloc (.cells cs t)) w2) : w2.there w.heap.size 0 cs.size := by
  have hb : Blk w2 w.heap.size t cs := (Blk.fresh w t cs).under b (by omega)
  intro j hj
  rw [Nat.zero_add, hb.at, hb.thaw]
  exact ⟨by rw [Array.getElem?_eq_getElem hj]; rfl, rfl⟩
theorem new_step {w w2 : World} {t : TypeId} {cs : Array Value} (b2 : Below ((w.alloc (.cells cs t)).drew).heap.size ((w.alloc (.cells cs t)).drew) w2) : Below w.heap.size w w2 ∧ w2.there w.heap.size 0 cs.size := by
  have e : ((w.alloc (.cells cs t)).drew).heap.size = w.heap.size + 1 := by simp
  rw [e] at b2
  exact ⟨(((Below.refl _ w).alloc (Nat.le_refl _) _).drew).trans (b2.mono (by omega)), there_new (((Below.refl _ _).drew).trans b2)⟩
theorem range_stored {w : World} {g n : Nat} {cs : List Value} (h : w.there g 0 n) (hn : cs.length = n) : (w.setCells g 0 cs).rangeAt g 0 cs := by
  intro j v hv
  obtain ⟨hj, e⟩ := List.getElem?_eq_some_iff.1 hv
  rw [World.cell?_setCells_in g cs 0 w (fun i hi => (h i (by omega)).1) j hj, e]
theorem below_stored {w w2 : World} {g : Nat} {cs : List Value} {B : Nat} (h : Below B w w2) (hg : B ≤ g) (hB : B ≤ w.heap.size) : Below B w (w2.setCells g 0 cs) := by
  have := grown_setCells g cs 0 w2
  exact ⟨this.os.trans h.os, this.tape.trans h.tape, this.output.trans h.output, Nat.le_trans h.size this.size, fun k hk =>
    (this.block k (Nat.lt_of_lt_of_le (Nat.lt_of_lt_of_le hk hB) h.size) (fun e => by injection e; omega)).trans (h.block k hk)⟩
theorem heap_setCells {w : World} {g m : Nat} {cs : List Value} (h : m < w.heap.size) (hne : m ≠ g) : (w.setCells g 0 cs).heap[m]? = w.heap[m]? :=
  (grown_setCells g cs 0 w).block m h fun e => hne (by injection e)

abbrev Lies (g o m : Nat) (C : Con) (L : List Value) (w' : World) : Prop := w'.cell? ⟨g, o, none⟩ = some (.map (some m)) ∧ w'.rangeAt g (o + 1) L ∧ MapC w' m C

theorem bcell {W w1 : World} (hb : Below W.heap.size W w1) : (∀ b o, b < W.heap.size → w1.cell? ⟨b, o, none⟩ = W.cell? ⟨b, o, none⟩) ∧ (∀ b o, b < W.heap.size → w1.frozen? ⟨b, o, none⟩ = W.frozen? ⟨b, o, none⟩) :=
  ⟨fun b o h => hb.cell (p := ⟨b, o, none⟩) h, fun b o h => hb.frozen (p := ⟨b, o, none⟩) h⟩

theorem run_build_op {o : Oper} {a : Act} {t : TypeId} {parts : Array (Nat × Operand)} {w : World} {v : Value} (ps : List (Nat × Value)) (ho : o.op = .build t parts) (hp : (parts.toList.map fun p => (p.1, a.eval p.2)) = ps) (h : (Instr.build t ps.toArray).run Tryz.prog w = .ok v w) :
    (execOp a.eval o).run Tryz.prog w = .ok (.value v) w := by
  have e : (parts.map fun p => (p.1, a.eval p.2)) = ps.toArray := by
    apply Array.ext'
    rw [Array.toList_map, hp]
  unfold execOp
  simp only [ho]
  rw [e]
  simp only [Sem.run_bind, h, Result.andThen_ok]
  rfl

theorem below_new {w : World} (o : Obj) : Below w.heap.size w (w.alloc o).drew := ((Below.refl _ w).alloc (Nat.le_refl _) _).drew

end Dsk
end Go.Proofs.YtgophgnfiboefaaGreatDoor

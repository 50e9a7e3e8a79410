/- A region that draws in which operations that write are ready at once (as in netbase's XNtK); items that are appended to a row. -/
import Derived.Test.YtibeangcjfjeiaaDoorMhE
import Derived.Test.YtibeangcjfjeiaaDoorLxO
namespace Go.Proofs.YtibeangcjfjeiaaDoor
open Go.RowKit Wire Txt Lx
set_option linter.unusedVariables false
set_option maxRecDepth 100000
set_option linter.unusedSimpArgs false
namespace Dsk
section
variable {P : Program} {ops : Array Oper} {Q : Exit → Act → World → Prop} {S : World → Prop} {D : List Nat} {fuel : Nat} {listed : Array Bool} {a : Act} {w : World}
theorem anyW_done (h : Region.ready .any ops listed = []) (hq : Q .normal a w) : wpAnyW P .any ops Q S D fuel listed a w := by
  cases fuel with
  | zero => exact ⟨h, hq⟩
  | succ fuel => exact ⟨fun _ => hq, fun i hi => by rw [h] at hi; cases hi⟩
/-- One of the operations that are ready, whichever it is. -/
def Take (P : Program) (ops : Array Oper) (Q : Exit → Act → World → Prop) (S : World → Prop) (D : List Nat) (fuel : Nat) (listed : Array Bool) (a : Act) (w : World) (i : Nat) : Prop :=
  ∃ o, nth ops.toList i = some o ∧ Region.wanted o (yielded ops a.tmps) = true ∧ Oper.wp P o a w (fun a' w' => (i ∈ D ∨ S w') ∧ wpAnyW P .any ops Q S D fuel (listed.setIfInBounds i true) a' w') Q
theorem Take.mk {i : Nat} {o : Oper} (ho : nth ops.toList i = some o) (hw : Region.wanted o (yielded ops a.tmps) = true) (h : ∀ K : Act → World → Prop, (∀ a' w', (i ∈ D ∨ S w') → wpAnyW P .any ops Q S D fuel (listed.setIfInBounds i true) a' w' → K a' w') → Oper.wp P o a w K Q) : Take P ops Q S D fuel listed a w i :=
  ⟨o, ho, hw, h _ fun a' w' h1 h2 => ⟨h1, h2⟩⟩
theorem anyW_all {l : List Nat} (hr : Region.ready .any ops listed = l) (hl : l ≠ []) (h : ∀ i ∈ l, Take P ops Q S D fuel listed a w i) : wpAnyW P .any ops Q S D (fuel + 1) listed a w := by
  refine ⟨fun e => absurd (hr.symm.trans e) hl, fun i hi => ?_⟩
  rw [hr] at hi
  obtain ⟨o, ho, hw, hp⟩ := h i hi
  unfold wpOp
  rw [nth_ops ho]
  show if _ then _ else _
  rw [if_pos hw]
  exact .inl hp
theorem reads_of_any {L : List Nat} {k : Nat} (hsel : Region.noSelect ops = true) (hQ : ∀ c a d v w, Q (.panic c) (Act.put a d v) w → Q (.panic c) a w) (hS : S w) :
    ∀ (I : List Nat) (listed last : Array Bool) (a : Act), waits ops I L = true → sortedReads ops I listed = some last →
      RD P ops S (fun a => wpAnyW P .any ops Q S L k last a w) I a → wpAnyW P .any ops Q S L (I.length + k) listed a w
  | [], listed, last, a, _, hs, h => by
    have : listed = last := by simpa [sortedReads] using hs
    subst this
    rw [show ([] : List Nat).length + k = k from by simp]
    exact h
  | i :: I, listed, last, a, hwt, hs, h => by
    unfold sortedReads at hs
    split at hs
    · rename_i hb
      simp only [Bool.and_eq_true] at hb
      obtain ⟨o, ho, hw, v, hv, hr⟩ := h
      have hwt' : waits ops I L = true := by
        unfold waits at hwt ⊢
        rw [List.all_eq_true] at hwt ⊢
        intro j hj
        have := hwt j hj
        split at this
        · rw [List.all_cons, Bool.and_eq_true] at this
          exact this.2
        · cases this
      rw [show (i :: I).length + k = (I.length + k) + 1 from by simp; omega]
      refine wpAnyW_first (nth_ops ho) (Region.noSelect_spec hsel) (fun c a w => hQ c a _ _ w) (fun j oj hj hoj => ?_) _ listed a w (Region.free_spec (nth_ops ho) hb.1) (by simpa using hb.2) (.inl ⟨hw, hv⟩) hS (reads_of_any hsel hQ hS I _ last _ hwt' hs hr)
      unfold waits at hwt
      rw [List.all_eq_true] at hwt
      have h1 := hwt j hj
      have h2 : nth ops.toList j = some oj := by rw [nth_eq]; simpa using hoj
      rw [h2] at h1
      simp only [List.all_cons, Bool.and_eq_true, List.any_eq_true, beq_iff_eq] at h1
      obtain ⟨e, he, h3, h4⟩ := h1.1
      exact ⟨e, by simpa using he, h3, h4⟩
    · cases hs
/-- The region: first all that only read, then whatever is ready. -/
theorem wp_region_any_order {id : Nat} (S : World → Prop) (I L : List Nat) (k : Nat) (last : Array Bool) (hm : P.follows .mixedOrders = true) (hsel : Region.noSelect ops = true) (hs : sortedReads ops I (Array.replicate ops.size false) = some last) (hk : I.length + k = ops.size) (hwt : waits ops I L = true) (hS : S w.drew)
    (h : RD P ops S (fun a => wpAnyW P .any ops (NoPanic Q) S L k last a w.drew) I a) : (Code.region id ops true).wp P Q a w := by
  have := wpAny_of_w _ _ _ _ (reads_of_any (Q := NoPanic Q) hsel (fun _ _ _ _ _ h => h) hS I _ last a hwt hs h)
  rw [hk] at this
  exact wp_region_noPanic (wp_region_any hm this)
end
end Dsk
namespace Drf
theorem itsC_append : ∀ (l : List It) (vs : List Value) (m : List It) (us : List Value), vs.length = l.length → itsC (l ++ m) (vs ++ us) = itsC l vs ++ itsC m us
  | [], [], m, us, _ => rfl
  | [], _ :: _, _, _, h => by cases h
  | _ :: _, [], _, _, h => by cases h
  | x :: l, v :: vs, m, us, h => by
    show itC x v ++ itsC (l ++ m) (vs ++ us) = itC x v ++ itsC l vs ++ itsC m us
    rw [itsC_append l vs m us (by simpa using h), List.append_assoc]
theorem itsC_one : ∀ (l : List It) (vs : List Value), (∀ u ∈ vs, u.oneCell' = true) → ∀ z ∈ itsC l vs, z.oneCell' = true
  | [], vs, _, z, h => by cases vs <;> cases h
  | _ :: _, [], _, z, h => by cases h
  | x :: l, v :: vs, hv, z, h => by
    have h : z ∈ itC x v ++ itsC l vs := h
    rcases List.mem_append.1 h with h | h
    · have hv0 := hv v (by simp)
      simp only [itC, List.mem_cons, List.not_mem_nil, or_false] at h
      rcases h with rfl | rfl | rfl | rfl | rfl
      · rfl
      · rfl
      · rfl
      · rfl
      · exact hv0
    · exact itsC_one l vs (fun u hu => hv u (by simp [hu])) z h
theorem HasItems.one {w : World} {v : Value} {l : List It} {us : List Value} (h : HasItems w v l us) : ∀ u ∈ us, u.oneCell' = true := by
  intro u hu
  obtain ⟨i, hi, rfl⟩ := List.mem_iff_getElem.1 hu
  have hl := h.len
  obtain ⟨_, _, e, _⟩ := h.each i us[i] l[i] (List.getElem?_eq_getElem hi) (List.getElem?_eq_getElem (by omega))
  rw [e]
  rfl
/-- Items that are there can be appended. -/
theorem items_src {w : World} {A : Option Addr} {m c : Nat} {l : List It} {us : List Value} (h : HasItems w (.slice A m c) l us) : Src Tryd.prog 5 23 (.slice A m c) m (itsC l us) w := by
  obtain ⟨A', c', e, _, hr⟩ := h.is
  injection e with e1 e2 e3
  subst e1 e2 e3
  have hlen := itsC_len l us h.len
  have h1 := itsC_one l us h.one
  cases A with
  | none =>
    cases l with
    | nil =>
      cases us with
      | nil => exact Src.ofNil _ Tryd.underlying23 c
      | cons u us => cases h.len
    | cons x l =>
      have hl := h.len
      obtain ⟨b, o, e, _⟩ := hr 0 ((itsC (x :: l) us)[0]'(by rw [hlen]; simp)) (List.getElem?_eq_getElem _)
      cases e
  | some a =>
    refine Src.ofSlice _ Tryd.underlying23 a _ c _ hlen (fun j u hu => ?_) h1
    obtain ⟨b, o, e, _, h4⟩ := hr j u hu
    cases Option.some.inj e
    rw [row_add']
    exact h4
theorem grow_zero (w : World) (B size : Nat) (t : TypeId) (hB : B ≤ w.heap.size) : Grow (w.alloc (.cells #[] t)) B size (.slice (some ⟨w.heap.size, 0, none⟩) 0 0) 0 [] :=
  ⟨by simp, .inr ⟨w.heap.size, 0, rfl, hB, by simp, Nat.le_refl _, Nat.zero_le _, fun j hj => by simp at hj, fun j hj => by simp at hj, fun j u h => by simp at h⟩⟩
/-- The statement's own draft. -/
theorem want_df {w4 wz : World} {A1 A2 A4 : Option Addr} {n1 m1 m2 c1 c2 c4 B : Nat} {v : Value} {x y : Df} {us us2 : List Value} (hX : HasDf w4 (.agg #[.slice A1 n1 c1, .slice A2 m1 c2]) x) (hus : HasItems w4 (.slice A2 m1 c2) x.items us) (hus2 : HasItems w4 (.slice A4 m2 c4) y.items us2)
    (hb : Below w4.heap.size w4 wz) (hg : Grow wz B 5 v (m1 + m2) (itsC x.items us ++ itsC y.items us2)) (hm1 : m1 = x.items.length) (hm2 : m2 = y.items.length) : HasDf wz (.agg #[.slice A1 n1 c1, v]) ⟨x.decks, x.items ++ y.items⟩ := by
  obtain ⟨a1, a2, vs, us', e, h1, _⟩ := hX
  injection e with e
  injection e with e
  injection e with e1 e2
  subst e1
  refine ⟨_, _, vs, us ++ us2, rfl, h1.keep hb, ?_, ?_, fun i u z hu hz => ?_⟩
  · show (us ++ us2).length = (x.items ++ y.items).length
    rw [List.length_append, List.length_append, hus.len, hus2.len]
  · show Sl wz v (x.items ++ y.items).length (itsC (x.items ++ y.items) (us ++ us2))
    rw [itsC_append _ _ _ _ hus.len, List.length_append, ← hm1, ← hm2]
    exact Sl.grow hg
  · have hz : (x.items ++ y.items)[i]? = some z := hz
    have hl := hus.len
    rcases Nat.lt_or_ge i us.length with hi | hi
    · rw [List.getElem?_append_left hi] at hu
      rw [List.getElem?_append_left (by omega)] at hz
      exact (hus.each i u z hu hz).keep hb
    · rw [List.getElem?_append_right hi] at hu
      rw [List.getElem?_append_right (by omega), ← hl] at hz
      exact (hus2.each _ u z hu hz).keep hb
theorem z_cell {w : World} {A : Option Addr} {m c L : Nat} {x y : List It} {us : List Value} (h : HasItems w (.slice A m c) (x ++ y.map (upI L)) us) {i : Nat} (hi : i < (x ++ y).length) :
    ∃ b o, A = some ⟨b, o, none⟩ ∧ b < w.heap.size ∧ w.cell? ⟨b, o + i * 5 + 1, none⟩ = some (.int .i64 (if i < x.length then (x ++ y)[i].line else (x ++ y)[i].line + L)) := by
  have hi2 : i < (x ++ y.map (upI L)).length := by simpa using hi
  obtain ⟨b, o, A1, n1, c1, e, hb, k0, k1, _⟩ := h.cell hi2
  refine ⟨b, o, e, hb, ?_⟩
  rw [k1]
  congr 2
  by_cases hx : i < x.length
  · rw [if_pos hx, List.getElem_append_left hx, List.getElem_append_left hx]
  · rw [if_neg hx, List.getElem_append_right (by omega), List.getElem_append_right (by omega), List.getElem_map]
    rfl
theorem Good.lim_join {x y : Df} (hx : Good x) (hy : Good y) (L : Nat) : LimD ⟨x.decks, x.items ++ y.items⟩ ∧ LimD ⟨x.decks, x.items ++ y.items.map (upI L)⟩ := by
  have h1 := hx.items
  have h2 := hy.items
  refine ⟨⟨hx.lim.decks, hx.lim.rows, ?_, fun z hz => ?_⟩, ⟨hx.lim.decks, hx.lim.rows, ?_, fun z hz => ?_⟩⟩
  · show (x.items ++ y.items).length ≤ big
    rw [List.length_append]
    unfold big
    omega
  · rcases List.mem_append.1 hz with hz | hz
    · exact hx.lim.nums z hz
    · exact hy.lim.nums z hz
  · show (x.items ++ y.items.map (upI L)).length ≤ big
    rw [List.length_append, List.length_map]
    unfold big
    omega
  · rcases List.mem_append.1 hz with hz | hz
    · exact hx.lim.nums z hz
    · obtain ⟨u, hu, rfl⟩ := List.mem_map.1 hz
      exact hy.lim.nums u hu
/-- A block of its own beside a row that grows. -/
structure BoxAt (w : World) (B gy : Nat) (v : Value) : Prop where
  blk : Blk w gy 25 #[.slice none 0 0, .slice none 0 0]
  ge : B ≤ gy
  ne : v.ownBlock ≠ some gy
theorem BoxAt.app {w w' : World} {B gy : Nat} {v v' : Value} (h : BoxAt w B gy v) (hg : w.grownBy w' v.ownBlock) (hn : v'.ownBlock = v.ownBlock ∨ v'.ownBlock = some w.heap.size) : BoxAt w' B gy v' :=
  ⟨h.blk.past hg (fun e => h.ne e.symm), h.ge, by
    rcases hn with hn | hn
    · rw [hn]; exact h.ne
    · rw [hn]
      intro e
      have := h.blk.inside
      have e := Option.some.inj e
      omega⟩
theorem BoxAt.new {w : World} {B n size : Nat} {v : Value} {xs : List Value} (hB : B ≤ w.heap.size) (hg : Grow w B size v n xs) : BoxAt (w.alloc (.cells #[.slice none 0 0, .slice none 0 0] 25)) B w.heap.size v :=
  ⟨Blk.fresh w _ _, hB, fun e => by have := (hg.block _ e).2; omega⟩
theorem below_app {w4 w w' : World} {B n size : Nat} {v : Value} {xs : List Value} (hb : Below B w4 w) (hs : w4.heap.size = B) (hg : Grow w B size v n xs) (h : w.grownBy w' v.ownBlock) : Below B w4 w' :=
  hb.trans ⟨h.os, h.tape, h.output, h.size, fun k hk => h.block k (by have := hb.size; omega) fun e => by have := (hg.block k e.symm).1; omega⟩
end Drf
end Go.Proofs.YtibeangcjfjeiaaDoor

/- Sorting the parts by their least cells; what else lies in memory. -/
import Derived.Test.YtgophgnfiboefaaGreatDoorRpG
namespace Go.Proofs.YtgophgnfiboefaaGreatDoor
open Go.RowKit Go.Shelf Wire
open Txt (Row)
open Go.Proofs.YtgophgnfiboefaaGreatDoor.Own Flo
open Dsk (Only nth)
open Go.Sort (Holds putRow grow SWO)
set_option linter.unusedVariables false
set_option linter.unusedSimpArgs false
attribute [local go_sem] Oper.semAt_some
namespace Rgn
theorem wpListIn_append_run {F : Fence} {n : Nat} {P : Program} {ops : Array Oper} {rest : List Oper} {o : Oper} {a : Act} {w w' : World} {Q : Exit → Act → World → Prop} (hg : o.guard = none) (s x : Operand) (t tx : TypeId) {v y v' : Value}
    (hop : o.op = .call { callee := .builtin .append, args := #[s, x], argTypes := #[t, tx] }) (hs : a.eval s = v) (hx : a.eval x = y) (hr : (Builtin.append_ #[t, tx] o.type #[v, y]).run P w = .ok v' w') (h : wpListIn F n P ops Q rest (a.put o.dst v') w') :
    wpListIn F n P ops Q (o :: rest) a w := by
  refine wpListIn_plain hg fun K hK' => ?_
  unfold Oper.wpIn
  refine ⟨?_, ?_⟩
  · simp [Oper.about, hop, resolve, Target.leads, Sem.run_pure]
  · rw [Oper.semAt_plain F _ _ (by rw [hop]; intro c hc'; cases hc')]
    simp [execOp, hop, resolve, invoke, builtin, hs, hx, hr, Result.andThen]
    exact hK' _ _ h
/-- Two rows that own blocks own different ones. -/
theorem Sp.differ {W w : World} {T : List Thing} {v u : Value} {n m : Nat} {xs ys : List Value} (h : Sp W w T) {i j : Nat} (hi : T[i]? = some (RowT 1 v n xs)) (hj : T[j]? = some (RowT 1 u m ys)) (hij : i ≠ j) {a b : Nat} (ha : v.ownBlock = some a) (hb : u.ownBlock = some b) : a ≠ b := by
  obtain ⟨_, F, h1, h2, h3⟩ := h
  intro e
  subst e
  exact hij (h3 i j a (((h1 i _ hi).2 a).2 ha) (((h1 j _ hj).2 a).2 hb))
set_option maxHeartbeats 1000000 in
theorem cmp_any (W : World) (b1 n1 c1 b2 n2 c2 : Nat) (h1 h2 : Nat) (k1 : 0 < n1) (k2 : 0 < n2) (l1 : h1 < 100000) (l2 : h2 < 100000) (z1 : W.cell? ⟨b1, 0, none⟩ = some (.int .i64 (h1 : Nat))) (z2 : W.cell? ⟨b2, 0, none⟩ = some (.int .i64 (h2 : Nat))) :
    Calls Tryz.prog 49 #[.slice (some ⟨b1, 0, none⟩) n1 c1, .slice (some ⟨b2, 0, none⟩) n2 c2] W fun e w' => e = .returned (.int .i64 ((h1 : Int) - (h2 : Int))) ∧ ∃ q, w' = W.drewN q := by
  have m1 : (h1 : Int) < 100000 := by omega
  have m2 : (h2 : Int) < 100000 := by omega
  have m3 : (0 : Int) < (n1 : Int) := by omega
  have m4 : (0 : Int) < (n2 : Int) := by omega
  go_enter Tryz.func49, Tryz.ntmps49
  go_wp2_with fail
  go_quiet (fail)
  go_wp2_with fail
  go_ret
  exact ⟨rfl, _, rfl⟩
abbrev PartL := List (Value × List Nat)
set_option maxHeartbeats 1000000 in
theorem sortParts_any {W w : World} {T : List Thing} (h : Sp W w T) (i : Nat) (pv : Value) (qs : PartL) (hi : T[i]? = some (RowT 1 pv qs.length (qs.map (·.1))))
    (hq : ∀ q ∈ qs, ∃ j, j ≠ i ∧ T[j]? = some (RowT 1 q.1 q.2.length (qvs q.2))) (hne : ∀ q ∈ qs, q.2 ≠ []) (hlt : ∀ q ∈ qs, q.2.headD 0 < 100000)
    (hd : ∀ a b : Nat, ∀ q r, qs[a]? = some q → qs[b]? = some r → q.2.headD 0 = r.2.headD 0 → a = b) (hl : qs.length ≤ 100000) :
    Calls Tryz.prog 48 #[pv, .func (.func 49) #[] #[]] w fun e w' => e = .returned (.tuple #[]) ∧ ∃ qs' : PartL, qs'.Perm qs ∧ qs'.Pairwise (fun q r => q.2.headD 0 ≤ r.2.headD 0) ∧ Sp W w' (T.set i (RowT 1 pv qs'.length (qs'.map (·.1)))) := by
  by_cases h0 : qs = []
  · subst h0
    have hid : T.set i (RowT 1 pv ([] : PartL).length (([] : PartL).map (·.1))) = T := by
      refine List.ext_getElem? fun j => ?_
      rw [List.getElem?_set]
      by_cases e : i = j
      · subst e
        rw [if_pos rfl, if_pos (List.getElem?_eq_some_iff.1 hi).1, hi]
      · rw [if_neg e]
    obtain ⟨A, c, rfl⟩ : ∃ A c, pv = .slice A 0 c := by
      obtain ⟨A, c, e⟩ := (h.grow i hi).slice
      exact ⟨A, c, e⟩
    refine (Tryz.slices_SortFunc_none (α := Nat) A c _ w).mono ?_
    rintro e w' ⟨rfl, rfl⟩
    exact ⟨rfl, [], List.Perm.refl _, List.Pairwise.nil, by rw [hid]; exact h⟩
  · obtain ⟨k, hk⟩ : ∃ k, k = qs.length := ⟨_, rfl⟩
    have hk0 : 0 < k := by rw [hk]; exact List.length_pos_iff.2 h0
    have hgr := h.grow i hi
    rcases hgr.form with ⟨_, e0⟩ | ⟨g, cap, rfl, g1, g2, g3, g4, g5, g6, g7⟩
    · omega
    haveI : Inhabited (Fin k) := ⟨⟨0, hk0⟩⟩
    have hat : ∀ x : Fin k, ∃ q, qs[x.1]? = some q := fun x => ⟨qs[x.1]'(by have := x.2; omega), List.getElem?_eq_getElem _⟩
    let enc : Fin k → Value := fun x => (qs[x.1]'(by have := x.2; omega)).1
    let hea : Fin k → Nat := fun x => (qs[x.1]'(by have := x.2; omega)).2.headD 0
    have hen : ∀ x : Fin k, ∃ b n c, enc x = .slice (some ⟨b, 0, none⟩) n c ∧ 0 < n ∧ b ≠ g ∧ b < w.heap.size ∧ w.cell? ⟨b, 0, none⟩ = some (.int .i64 (hea x : Nat)) := by
      intro x
      have hm : qs[x.1]'(by have := x.2; omega) ∈ qs := List.getElem_mem _
      obtain ⟨j, hj, hjt⟩ := hq _ hm
      have hn0 := hne _ hm
      have hpos : 0 < (qs[x.1]'(by have := x.2; omega)).2.length := List.length_pos_iff.2 hn0
      rcases (h.grow j hjt).form with ⟨_, e⟩ | ⟨b, cp, e, e1, e2, e3, e4, e5, e6, e7⟩
      · omega
      · refine ⟨b, _, cp, e, hpos, fun eb => ?_, e2, ?_⟩
        · exact Sp.differ h hjt hi hj (a := b) (b := g) (by rw [e]; rfl) rfl eb
        · have := e7 0 (.int .i64 (hea x : Nat)) (by
            show (qvs (qs[x.1]'_).2)[0]? = _
            cases hc : (qs[x.1]'(by have := x.2; omega)).2 with
            | nil => exact absurd hc hn0
            | cons a r => simp [hea, hc])
          exact this
    have hh : ∀ x : Fin k, hea x < 100000 := fun x => hlt _ (List.getElem_mem _)
    have h1 : OneCell enc := fun x => by
      obtain ⟨b, n, c, e, _⟩ := hen x
      rw [e]
      rfl
    let cf : Fin k → Fin k → Int := fun x y => (hea x : Int) - (hea y : Int)
    have hO : SWO (ltOf cf) := ⟨fun x => by simp [ltOf, cf], fun x y z a b => by simp [ltOf, cf] at a b ⊢; omega, fun x y z a b => by simp [ltOf, cf] at a b ⊢; omega⟩
    have hT : ∀ x y, (ltOf cf) x y = false → (ltOf cf) y x = false → x = y := fun x y a b => by
      simp [ltOf, cf] at a b
      obtain ⟨q, hq1⟩ := hat x
      obtain ⟨r, hr1⟩ := hat y
      have e1 : q.2.headD 0 = hea x := by
        have := List.getElem?_eq_getElem (l := qs) (i := x.1) (by have := x.2; omega)
        rw [this] at hq1
        injection hq1 with hq1
        rw [← hq1]
      have e2 : r.2.headD 0 = hea y := by
        have := List.getElem?_eq_getElem (l := qs) (i := y.1) (by have := y.2; omega)
        rw [this] at hr1
        injection hr1 with hr1
        rw [← hr1]
      exact Fin.ext (hd x.1 y.1 q r hq1 hr1 (by omega))
    have hmap : (List.finRange k).map (fun x : Fin k => qs[x.1]'(by have := x.2; omega)) = qs := by
      refine List.ext_getElem (by simp; omega) fun j a b => ?_
      simp
    have hxs : qs.map (·.1) = ((List.finRange k).toArray.toList).map enc := by
      rw [List.toList_toArray]
      conv => lhs; rw [← hmap]
      rw [List.map_map]
      rfl
    have hsz : (List.finRange k).toArray.size = k := by simp
    have hH : Holds enc w g 0 (List.finRange k).toArray := fun j hj => by
      have hj' : j < k := by rw [← hsz]; exact hj
      rw [Nat.zero_add]
      refine ⟨?_, g6 j (by omega)⟩
      refine g7 j _ ?_
      rw [hxs, List.getElem?_map, List.toList_toArray, List.getElem?_eq_getElem (by simpa using hj'), getElem!_pos (List.finRange k).toArray j hj]
      simp
    have hcmp : CmpLays1 Tryz.prog 49 #[] enc cf g 0 (List.finRange k).toArray.size w := fun m os dk hdk x y => by
      obtain ⟨b1, n1, c1, e1, p1, q1, r1, s1⟩ := hen x
      obtain ⟨b2, n2, c2, e2, p2, q2, r2, s2⟩ := hen y
      rw [e1, e2]
      have cell : ∀ b v, b ≠ g → b < w.heap.size → w.cell? ⟨b, 0, none⟩ = some v → (sortWorld enc w g 0 m dk os).cell? ⟨b, 0, none⟩ = some v := fun b v hb hs hc => by
        unfold sortWorld
        rw [Sort.cell?_grow _ _ _ (by simpa [Sort.ahead] using hs), Sort.cell?_putRow_other _ _ _ _ _ _ (.inl hb)]
        exact hc
      refine (cmp_any (sortWorld enc w g 0 m dk os) b1 n1 c1 b2 n2 c2 (hea x) (hea y) p1 p2 (hh x) (hh y) (cell _ _ q1 r1 s1) (cell _ _ q2 r2 s2)).mono ?_
      rintro e w' ⟨rfl, q, rfl⟩
      exact ⟨rfl, q, #[], by rw [Sort.grow_empty]⟩
    have hc := Tryz.slices_SortFunc_total (α := Fin k) enc h1 cf hO 49 #[] g 0 cap (List.finRange k).toArray w (enters_of Tryz.func49 (by kernel_rfl) rfl) hcmp hH g2 (by rw [hsz]; omega) hT
    rw [hsz] at hc
    rw [← hk]
    refine hc.mono ?_
    rintro e w' ⟨rfl, m, os, rfl⟩
    rw [List.toList_toArray]
    obtain ⟨s, hs⟩ : ∃ s, s = (List.finRange k).mergeSort (fun x y => !(ltOf cf) y x) := ⟨_, rfl⟩
    have hp : s.Perm (List.finRange k) := by rw [hs]; exact List.mergeSort_perm _ _
    have ho : s.Pairwise (fun x y => hea x ≤ hea y) := by
      have := List.pairwise_mergeSort (le := fun x y : Fin k => !(ltOf cf) y x) (fun a b c u v => by simp [ltOf, cf] at u v ⊢; omega) (fun a b => by simp [ltOf, cf]; omega) (List.finRange k)
      rw [← hs] at this
      exact this.imp fun u => by simp [ltOf, cf] at u; omega
    rw [← hs]
    refine ⟨rfl, s.map (fun x : Fin k => qs[x.1]'(by have := x.2; omega)), ?_, ?_, ?_⟩
    · have := hp.map (fun x : Fin k => qs[x.1]'(by have := x.2; omega))
      rw [hmap] at this
      exact this
    · rw [List.pairwise_map]
      exact ho
    · have hput := Sp.put (α := Fin k) h i g qs.length cap m enc (qs.map (·.1)) hi (List.finRange k).toArray s.toArray hxs (by simp [hp.length_eq]) os
      rw [List.toList_toArray] at hput
      rw [← hk] at hput
      rw [List.map_map, show (s.map (fun x : Fin k => qs[x.1]'(by have := x.2; omega))).length = k from by rw [List.length_map, hp.length_eq]; simp]
      exact hput
/-- A row that is only read. -/
def RowV (A : Option Addr) (xs : List Value) : Thing where
  at_ w F := (∀ (k : Nat) (u : Value), xs[k]? = some u → ∃ b o, A = some ⟨b, o, none⟩ ∧ F b ∧ b < w.heap.size ∧ w.cell? ⟨b, o + k, none⟩ = some u) ∧ ∀ x, F x → ∃ o, w.heap[x]? = some o ∧ o.isCells = true
  keep h hk hs := ⟨fun k u hu => by
    obtain ⟨b, o, e, hb, hl, hc⟩ := h.1 k u hu
    refine ⟨b, o, e, hb, Nat.lt_of_lt_of_le hl hs, ?_⟩
    rw [← hc]
    simp only [World.cell?, hk b hb], fun x hx => by
    obtain ⟨o, ho, hc⟩ := h.2 x hx
    exact ⟨o, (hk x hx).trans ho, hc⟩⟩
theorem cellsT_rowV (A : Option Addr) (xs : List Value) : CellsT (RowV A xs) := fun w F b h hb => h.2 b hb
theorem Sp.rowV {W w : World} {T : List Thing} (h : Sp W w T) (i : Nat) {A : Option Addr} {n c : Nat} {xs : List Value} (hi : T[i]? = some (RowT 1 (.slice A n c) n xs)) : Sp W w (T.set i (RowV A xs)) :=
  h.turn i hi fun F hF hlt => by
    refine ⟨fun x => F x ∧ ∃ (k : Nat) (u : Value), xs[k]? = some u, ⟨fun k u hu => ?_, ?_⟩, fun b hb => .inl hb.1, Only.refl _ _⟩
    · rcases hF.1.form with ⟨e, e0⟩ | ⟨g, cap, e, g1, g2, g3, g4, g5, g6, g7⟩
      · have := hF.1.len
        have := (List.getElem?_eq_some_iff.1 hu).1
        omega
      · injection e with e1 _ _
        subst e1
        exact ⟨g, 0, rfl, ⟨(hF.2 g).2 rfl, k, u, hu⟩, g2, by rw [Nat.zero_add]; exact g7 k u hu⟩
    · rintro x ⟨hx, k, u, hu⟩
      have hv := (hF.2 x).1 hx
      rcases hF.1.form with ⟨e, e0⟩ | ⟨g, cap, e, g1, g2, g3, g4, g5, g6, g7⟩
      · rw [e] at hv
        cases hv
      · rw [e] at hv
        obtain rfl : g = x := by simpa [Value.ownBlock] using hv
        exact cells_of_some (w := w) (g := g) (k := k) (by rw [g7 k u hu]; rfl)
theorem Sp.rowOf {W w : World} {T : List Thing} (h : Sp W w T) (i : Nat) {A : Option Addr} {xs : List Value} (hi : T[i]? = some (RowV A xs)) : Row w w.heap.size A xs := by
  obtain ⟨F, hF, hb⟩ := h.get i hi
  intro k u hu
  obtain ⟨b, o, e, h1, h2, h3⟩ := hF.1 k u hu
  exact ⟨b, o, e, h2, h3⟩
/-- All that is no cells, from a block on. -/
def RestT (W : World) (B : Nat) : Thing where
  at_ w F := (∀ x, F x ↔ B ≤ x ∧ ∃ o, W.heap[x]? = some o ∧ o.isCells = false) ∧ (∀ x, F x → w.heap[x]? = W.heap[x]?) ∧ W.heap.size ≤ w.heap.size
  keep h hk hs := ⟨h.1, fun x hx => (hk x hx).trans (h.2.1 x hx), Nat.le_trans h.2.2 hs⟩
theorem Sp.rest {W w : World} {T : List Thing} (h : Sp W w T) (hc : ∀ t ∈ T, CellsT t) {B : Nat} (hB : W.heap.size ≤ B) : Sp W w (T ++ [RestT w B]) := by
  obtain ⟨hb, F, h1, h2, h3⟩ := h
  refine ⟨hb, fun j x => if j < T.length then F j x else if j = T.length then (B ≤ x ∧ ∃ o, w.heap[x]? = some o ∧ o.isCells = false) else False, fun j t ht => ?_, fun j x hx => ?_, fun i j x hi hj => ?_⟩
  · by_cases e : j < T.length
    · rw [List.getElem?_append_left e] at ht
      have ef : (fun x => if j < T.length then F j x else if j = T.length then (B ≤ x ∧ ∃ o, w.heap[x]? = some o ∧ o.isCells = false) else False) = F j := by
        funext x
        rw [if_pos e]
      show t.at_ w (fun x => if j < T.length then F j x else if j = T.length then (B ≤ x ∧ ∃ o, w.heap[x]? = some o ∧ o.isCells = false) else False)
      rw [ef]
      exact h1 j t ht
    · rw [List.getElem?_append_right (by omega)] at ht
      obtain rfl : j = T.length := by
        have := (List.getElem?_eq_some_iff.1 ht).1
        simp at this
        omega
      simp at ht
      subst ht
      refine ⟨fun x => ?_, fun x _ => rfl, Nat.le_refl _⟩
      simp
  · dsimp only at hx
    by_cases e : j < T.length
    · rw [if_pos e] at hx
      exact h2 j x hx
    · rw [if_neg e] at hx
      by_cases e2 : j = T.length
      · rw [if_pos e2] at hx
        obtain ⟨hx1, o, ho, _⟩ := hx
        exact ⟨by omega, (Array.getElem?_eq_some_iff.1 ho).1⟩
      · rw [if_neg e2] at hx
        exact hx.elim
  · dsimp only at hi hj
    have cells : ∀ i, i < T.length → F i x → ∃ o, w.heap[x]? = some o ∧ o.isCells = true := fun i hi hx => hc T[i] (List.getElem_mem hi) w (F i) x (h1 i _ (List.getElem?_eq_getElem hi)) hx
    by_cases e : i < T.length
    · rw [if_pos e] at hi
      by_cases e' : j < T.length
      · rw [if_pos e'] at hj
        exact h3 i j x hi hj
      · rw [if_neg e'] at hj
        by_cases e2 : j = T.length
        · rw [if_pos e2] at hj
          obtain ⟨o, ho, hoc⟩ := cells i e hi
          obtain ⟨_, o', ho', hoc'⟩ := hj
          rw [ho] at ho'
          cases ho'
          rw [hoc] at hoc'
          cases hoc'
        · rw [if_neg e2] at hj
          exact hj.elim
    · rw [if_neg e] at hi
      by_cases e1 : i = T.length
      · rw [if_pos e1] at hi
        by_cases e' : j < T.length
        · rw [if_pos e'] at hj
          obtain ⟨o, ho, hoc⟩ := cells j e' hj
          obtain ⟨_, o', ho', hoc'⟩ := hi
          rw [ho] at ho'
          cases ho'
          rw [hoc] at hoc'
          cases hoc'
        · rw [if_neg e'] at hj
          by_cases e2 : j = T.length
          · omega
          · rw [if_neg e2] at hj
            exact hj.elim
      · rw [if_neg e1] at hi
        exact hi.elim
theorem Sp.kept {W w w' : World} {T : List Thing} {B : Nat} (h : Sp W w' T) (i : Nat) (hi : T[i]? = some (RestT w B)) : KeepsFrom B w w' := by
  obtain ⟨F, hF, _⟩ := h.get i hi
  exact ⟨hF.2.2, fun k o hk ho hoc => (hF.2.1 k ((hF.1 k).2 ⟨hk, o, ho, hoc⟩)).trans ho⟩
theorem Sp.between {W w w' : World} {T T' : List Thing} (h : Sp W w T) (h' : Sp W w' T') (hs : w.heap.size ≤ w'.heap.size) : Below W.heap.size w w' :=
  ⟨h'.below.os.trans h.below.os.symm, h'.below.tape.trans h.below.tape.symm, h'.below.output.trans h.below.output.symm, hs, fun k hk => (h'.below.block k hk).trans (h.below.block k hk).symm⟩
end Rgn
end Go.Proofs.YtgophgnfiboefaaGreatDoor

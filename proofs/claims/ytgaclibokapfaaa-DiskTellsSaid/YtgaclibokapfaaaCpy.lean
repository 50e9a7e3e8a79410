/- 'copy', from a slice or a string, into cells of which only those that are written are known. Nothing of the program is imported. -/
import Derived.Test.YtgaclibokapfaaaHeld
import Derived.Deep.AppendSrc
import Derived.Deep.MidRow
namespace Go.Proofs.Ytgaclibokapfaaa
open Go.RowKit
set_option linter.unusedVariables false
namespace Dsk
section
variable {P : Program} {w : World}

/-- Where the bytes of a copy come from. -/
structure From (P : Program) (x : Value) (m k : Nat) (news : List Value) (w : World) : Prop where
  len : ∀ w' : World, (Builtin.lenOf x).run P w' = .ok m w'
  cells : (Builtin.firstCells 1 k x).run P w = .ok news.toArray w
  size : news.length = k
  one : ∀ u ∈ news, u.oneCell' = true

theorem From.string (s : ByteArray) {k : Nat} (hk : k ≤ s.size) : From P (.string s) s.size k ((byteCells s).take k) w := by
  have hl : ((byteCells s).take k).length = k := by rw [List.length_take, byteCells_length]; omega
  refine ⟨fun _ => rfl, ?_, hl, fun u hu => ?_⟩
  · simp [Builtin.firstCells, byteCells]
    apply Array.ext'
    simp
  · have := List.mem_of_mem_take hu
    unfold byteCells at this
    obtain ⟨_, _, rfl⟩ := List.mem_map.1 this
    rfl
theorem From.slice (a : Addr) {n c k : Nat} (news : List Value) (hl : news.length = k) (h : ∀ j u, news[j]? = some u → w.cell? (a.add j) = some u) (h1 : ∀ u ∈ news, u.oneCell' = true) : From P (.slice (some a) n c) n k news w :=
  ⟨fun _ => rfl, run_firstCells_some w 1 k a n c news (by omega) h, hl, h1⟩

/-- A copy. -/
theorem run_copy_cells {dT sT ty elem : TypeId} (hu : P.underlying dT = some (.slice elem)) (hs : (P.info? elem).map (·.size) = some 1) {g o dLen dCap : Nat} {x : Value} {m k : Nat} {news : List Value} (hf : From P x m k news w) (hk : m.min dLen = k)
    (ht : w.there g o k) : (Builtin.copy_ #[dT, sT] ty #[.slice (some ⟨g, o, none⟩) dLen dCap, x]).run P w = .ok (goInt k) (w.setCells g o news) := by
  subst hk
  have hst := run_storeCells_cells (P := P) g o news 0 w (by intro j hj; rw [Nat.add_zero]; exact (ht j (by rw [← hf.size]; exact hj)).1) (by intro j hj; rw [Nat.add_zero]; exact (ht j (by rw [← hf.size]; exact hj)).2) hf.one
  simp only [Nat.add_zero] at hst
  cases hq : P.info? elem with
  | none => simp [hq] at hs
  | some i =>
    have hsz : i.size = 1 := by simpa [hq] using hs
    simp [Builtin.copy_, run_underlying hu, sizeOf, typeInfo, hq, hsz, hf.len, hf.cells, hst, Result.andThen]

/-- A copy as an operation. -/
theorem wp_copy_cells {o : Oper} {a : Act} {K : Act → World → Prop} {Q : Exit → Act → World → Prop} (d s : Operand) (dT sT : TypeId) (ho : o.op = .call { callee := .builtin .copy, args := #[d, s], argTypes := #[dT, sT] })
    {elem : TypeId} (hu : P.underlying dT = some (.slice elem)) (hs : (P.info? elem).map (·.size) = some 1) {g off dLen dCap : Nat} {x : Value} (m k : Nat) (news : List Value) (hd : a.eval d = .slice (some ⟨g, off, none⟩) dLen dCap) (hx : a.eval s = x)
    (hf : From P x m k news w) (hk : m.min dLen = k) (ht : w.there g off k) (h : K (a.put o.dst (goInt k)) (w.setCells g off news)) : Oper.wp P o a w K Q := by
  have hr := run_copy_cells (P := P) (ty := o.type) (sT := sT) (dCap := dCap) hu hs hf hk ht
  unfold Oper.wp execOp
  simp only [ho, resolve, invoke, builtin, Sem.run_bind, Sem.run_pure, Result.andThen_ok, List.map_toArray, List.map_cons, List.map_nil, hd, hx, hr]
  exact h

/-- These cells lie there, and may be written. -/
structure Lie (w : World) (g o : Nat) (cs : List Value) : Prop where
  cells : w.rangeAt g o cs
  there : w.there g o cs.length
theorem Lie.keep {w' : World} {g o : Nat} {cs : List Value} (h : Lie w g o cs) (e : w'.heap[g]? = w.heap[g]?) : Lie w' g o cs :=
  ⟨fun j v hv => (World.cell?_of_block (a := ⟨g, o + j, none⟩) e).trans (h.cells j v hv), fun j hj => ⟨by rw [World.cell?_of_block (a := ⟨g, o + j, none⟩) e]; exact (h.there j hj).1, by rw [World.frozen?_of_block (a := ⟨g, o + j, none⟩) e]; exact (h.there j hj).2⟩⟩
theorem there_set {g o n g' o' : Nat} {cs : List Value} (h : w.there g o n) : (w.setCells g' o' cs).there g o n := fun j hj =>
  ⟨World.isSome_setCells _ cs o' w _ (h j hj).1, by rw [World.frozen?_setCells]; exact (h j hj).2⟩
theorem Lie.all {g o n : Nat} {cs : List Value} (h : w.there g o n) (hn : cs.length = n) : Lie (w.setCells g o cs) g o cs :=
  ⟨fun j v hv => by
    obtain ⟨hj, e⟩ := List.getElem?_eq_some_iff.1 hv
    rw [World.cell?_setCells_in g cs o w (fun i hi => (h i (by omega)).1) j hj, e], by rw [hn]; exact there_set h⟩
theorem Lie.part {g o i : Nat} {cs news ds : List Value} (h : Lie w g o cs) (hl : ds.length = cs.length) (hi : i + news.length ≤ cs.length) (hd : ∀ j, j < ds.length → ds[j]? = if i ≤ j ∧ j < i + news.length then news[j - i]? else cs[j]?) : Lie (w.setCells g (o + i) news) g o ds := by
  refine ⟨fun j v hv => ?_, by rw [hl]; exact there_set h.there⟩
  have hj : j < ds.length := (List.getElem?_eq_some_iff.1 hv).1
  rw [hd j hj] at hv
  split at hv
  · rename_i hb
    obtain ⟨hk, e⟩ := List.getElem?_eq_some_iff.1 hv
    rw [show o + j = o + i + (j - i) from by omega, World.cell?_setCells_in g news (o + i) w (fun k hk => by rw [Nat.add_assoc]; exact (h.there (i + k) (by omega)).1) (j - i) hk, e]
  · rename_i hb
    rw [World.cell?_setCells_out g news (o + i) w ⟨g, o + j, none⟩ (fun _ _ => by show o + j < _ ∨ _ ≤ o + j; omega)]
    exact h.cells j v hv

theorem grown_cells (b : Nat) : ∀ (vs : List Value) (o : Nat) (w : World), w.grownBy (w.setCells b o vs) (some b)
  | [], _, w => ⟨rfl, rfl, rfl, Nat.le_refl _, fun _ _ _ => rfl⟩
  | v :: r, o, w => by
    have k := grown_cells b r (o + 1) (w.setCell ⟨b, o, none⟩ v)
    have h : w.grownBy (w.setCell ⟨b, o, none⟩ v) (some b) := ⟨rfl, rfl, rfl, by simp [World.setCell], fun k _ hr => Below.heap_setCell _ _ _ _ (fun e => hr (congrArg some e))⟩
    exact ⟨k.os.trans h.os, k.tape.trans h.tape, k.output.trans h.output, Nat.le_trans h.size k.size,
      fun i hi hr => (k.block i (Nat.lt_of_lt_of_le hi h.size) hr).trans (h.block i hi hr)⟩

/-- A new block, of which only its size is told. -/
theorem step_alloc {K : Act → World → Prop} {a : Act} {cs : Array Value} {t : TypeId} (n : Nat) (hn : cs.size = n) (h : ∀ w', w'.there w.heap.size 0 n → Below w.heap.size w w' → w'.heap.size = w.heap.size + 1 → K a w') : K a (w.alloc (.cells cs t)).drew := by
  refine h _ (fun j hj => ?_) (((Below.refl _ w).alloc (Nat.le_refl _) _).drew) (by simp)
  have hb : ((w.alloc (.cells cs t)).drew).heap[w.heap.size]? = some (.cells cs t (0, 0)) := Go.heap_alloc_new w _
  rw [Nat.zero_add]
  refine ⟨?_, ?_⟩
  · rw [cell_of_row _ w.heap.size j cs t (0, 0) hb, Array.getElem?_eq_getElem (by omega)]
    rfl
  · unfold World.frozen?
    rw [hb]
    simp
/-- A whole row stored into cells that are there. -/
theorem wp_store_lie {o : Oper} {a : Act} {K : Act → World → Prop} {Q : Exit → Act → World → Prop} (ty : TypeId) (x y : Operand) (ho : o.op = .store ty x y) (g off n : Nat) (cs : List Value) (hx : a.eval x = .pointer (some ⟨g, off, none⟩)) (hy : a.eval y = .agg cs.toArray)
    (hn : cs.length = n) (ht : w.there g off n) (hi : (P.info? ty).map (·.size) = some n) (h1 : ∀ v ∈ cs, v.oneCell' = true) (h : ∀ w', w' = w.setCells g off cs → Lie w' g off cs → w.grownBy w' (some g) → K (a.put o.dst undef) w') : Oper.wp P o a w K Q := by
  subst hn
  refine wp_store_mid ty x y ho g off cs.toArray hx hy (by simpa using ht) (by simpa using hi) ?_ ?_
  · rw [Array.all_eq_true_iff_forall_mem]
    intro v hv
    exact h1 v (by simpa using hv)
  · rw [List.toList_toArray]
    exact h _ rfl (Lie.all ht rfl) (grown_cells g cs off w)
end
end Dsk
end Go.Proofs.Ytgaclibokapfaaa

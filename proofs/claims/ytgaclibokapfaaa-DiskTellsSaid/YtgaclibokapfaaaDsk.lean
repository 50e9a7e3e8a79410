/- A disk in memory. -/
import Derived.Test.YtgaclibokapfaaaCut
import Derived.Test.YtgaclibokapfaaaSt
namespace Go.Proofs.Ytgaclibokapfaaa
open Go.RowKit Wire
set_option linter.unusedVariables false
set_option linter.unusedSimpArgs false
open Txt
namespace Dsk

/-- Which blocks a disk has. -/
structure Own where
  p : Nat
  m1 : Nat
  m2 : Nat
  mh : Nat
  qv : Value
  kv : Value
def Own.has (D : Own) (b : Nat) : Prop := b = D.p ∨ b = D.m1 ∨ b = D.m2 ∨ b = D.mh ∨ D.qv.ownBlock = some b ∨ D.kv.ownBlock = some b

/-- No two of them are one. -/
structure Own.Sep (D : Own) : Prop where
  p1 : D.p ≠ D.m1
  p2 : D.p ≠ D.m2
  ph : D.p ≠ D.mh
  m12 : D.m1 ≠ D.m2
  m1h : D.m1 ≠ D.mh
  m2h : D.m2 ≠ D.mh
  q : ∀ b, D.qv.ownBlock = some b → b ≠ D.p ∧ b ≠ D.m1 ∧ b ≠ D.m2 ∧ b ≠ D.mh
  k : ∀ b, D.kv.ownBlock = some b → b ≠ D.p ∧ b ≠ D.m1 ∧ b ≠ D.m2 ∧ b ≠ D.mh
  qk : Apart D.qv D.kv

/-- A disk lies there. -/
structure DiskAt (w : World) (D : Own) (S : St) : Prop where
  now : ConAt w D.p 0 D.m1 S.now
  last : ConAt w D.p 17 D.m2 S.last
  que : QueAt w D.p 34 D.mh D.qv S.queue
  down : w.cell? ⟨D.p, 36, none⟩ = some (.bool S.down)
  lost : w.cell? ⟨D.p, 37, none⟩ = some (.int .i64 S.lost)
  calls : w.cell? ⟨D.p, 38, none⟩ = some (.int .i64 S.calls)
  keep : w.cell? ⟨D.p, 39, none⟩ = some D.kv
  kept : Grow w 0 1 D.kv S.keep.length (S.keep.map (Value.int .i64))
  there : w.there D.p 0 40
  sep : D.Sep

section
variable {w w' : World} {D : Own} {S : St}
theorem DiskAt.lt (h : DiskAt w D S) : D.p < w.heap.size := h.now.lt
theorem DiskAt.inside (h : DiskAt w D S) : ∀ b, D.has b → b < w.heap.size := by
  rintro b (rfl | rfl | rfl | rfl | hb | hb)
  · exact h.lt
  · exact h.now.map.lt
  · exact h.last.map.lt
  · exact h.que.map.lt
  · exact (h.que.row.block b hb).2
  · exact (h.kept.block b hb).2
theorem DiskAt.still (h : DiskAt w D S) (hs : w.heap.size ≤ w'.heap.size) (e : ∀ b, D.has b → w'.heap[b]? = w.heap[b]?) : DiskAt w' D S := by
  have ep := e D.p (.inl rfl)
  have e1 := e D.m1 (.inr (.inl rfl))
  have e2 := e D.m2 (.inr (.inr (.inl rfl)))
  have eh := e D.mh (.inr (.inr (.inr (.inl rfl))))
  have eq := fun b hb => e b (.inr (.inr (.inr (.inr (.inl hb)))))
  have ek := fun b hb => e b (.inr (.inr (.inr (.inr (.inr hb)))))
  exact ⟨h.now.keep ep e1, h.last.keep ep e2, h.que.keep hs ep eh eq, (World.cell?_of_block (a := ⟨D.p, 36, none⟩) ep).trans h.down, (World.cell?_of_block (a := ⟨D.p, 37, none⟩) ep).trans h.lost,
    (World.cell?_of_block (a := ⟨D.p, 38, none⟩) ep).trans h.calls, (World.cell?_of_block (a := ⟨D.p, 39, none⟩) ep).trans h.keep, h.kept.keep hs ek, there_keep h.there ep, h.sep⟩
theorem DiskAt.below (h : DiskAt w D S) (b : Below w.heap.size w w') : DiskAt w' D S := h.still b.size fun c hc => b.block c (h.inside c hc)
theorem DiskAt.drew (h : DiskAt w D S) : DiskAt w.drew D S := h.below (Below.refl _ w).drew
theorem DiskAt.only {F : Nat → Prop} (h : DiskAt w D S) (o : Only F w w') (hF : ∀ b, D.has b → ¬ F b) : DiskAt w' D S := h.still o.size fun b hb => o.block b (h.inside b hb) (hF b hb)
theorem DiskAt.ptr1 (h : DiskAt w D S) : w.cell? ⟨D.p, 0, none⟩ = some (.map (some D.m1)) := h.now.ptr
theorem DiskAt.free (h : DiskAt w D S) {j : Nat} (hj : j < 40) : w.frozen? ⟨D.p, j, none⟩ = false := by have := (h.there j hj).2; rwa [Nat.zero_add] at this
theorem DiskAt.isSome (h : DiskAt w D S) {j : Nat} (hj : j < 40) : (w.cell? ⟨D.p, j, none⟩).isSome = true := by have := (h.there j hj).1; rwa [Nat.zero_add] at this
end

/-- What a call leaves of a disk. -/
structure Post (D : Own) (S : St) (w w' : World) : Prop where
  disk : ∃ D', DiskAt w' D' S ∧ D'.p = D.p ∧ ∀ b, D'.has b → D.has b ∨ w.heap.size ≤ b
  only : Only D.has w w'

theorem Post.refl {w : World} {D : Own} {S : St} (h : DiskAt w D S) : Post D S w w := ⟨⟨D, h, rfl, fun _ h => .inl h⟩, Only.refl _ _⟩
theorem Post.of_below {w w' : World} {D : Own} {S : St} (h : DiskAt w D S) (b : Below w.heap.size w w') : Post D S w w' := ⟨⟨D, h.below b, rfl, fun _ h => .inl h⟩, Only.of_below b⟩
/-- One call behind the other. -/
theorem Post.next {w w1 w2 : World} {D D1 : Own} {S2 : St} (o : Only D.has w w1) (hp : D1.p = D.p) (hD : ∀ b, D1.has b → D.has b ∨ w.heap.size ≤ b) (k : Post D1 S2 w1 w2) : Post D S2 w w2 := by
  obtain ⟨⟨D2, h2, p2, e2⟩, o2⟩ := k
  refine ⟨⟨D2, h2, p2.trans hp, fun b hb => ?_⟩, o.trans o2 hD⟩
  rcases e2 b hb with h | h
  · exact hD b h
  · exact .inr (Nat.le_trans o.size h)

/-! One cell of the disk's own is written. -/
section
variable {w : World} {D : Own} {S : St}
theorem set_con {g o m i : Nat} {C : Con} {v : Value} (h : ConAt w g o m C) (hm : g ≠ m) (hi : i < o ∨ o + 17 ≤ i) : ConAt (w.setCell ⟨g, i, none⟩ v) g o m C := by
  refine ⟨fun j u hu => ?_, there_put h.there _ _, h.map.keep (Below.heap_setCell _ _ _ _ fun e => hm e.symm)⟩
  have hj : j < 17 := by have := (List.getElem?_eq_some_iff.1 hu).1; rwa [conL_len] at this
  rw [World.cell?_setCell_other _ _ _ _ (by intro e; simp only [Addr.mk.injEq, and_true, true_and] at e; omega)]
  exact h.cells j u hu
theorem set_que {g o mh i : Nat} {v u : Value} {l : List (Nat × Nat)} (h : QueAt w g o mh v l) (hm : g ≠ mh) (hv : ∀ b, v.ownBlock = some b → b ≠ g) (hi : i < o ∨ o + 2 ≤ i) : QueAt (w.setCell ⟨g, i, none⟩ u) g o mh v l :=
  ⟨by rw [World.cell?_setCell_other _ _ _ _ (by intro e; simp only [Addr.mk.injEq, and_true, true_and] at e; omega)]; exact h.ptr,
    by rw [World.cell?_setCell_other _ _ _ _ (by intro e; simp only [Addr.mk.injEq, and_true, true_and] at e; omega)]; exact h.has, there_put h.there _ _,
    h.row.keep (by simp [World.setCell]) fun b hb => Below.heap_setCell _ _ _ _ (hv b hb), h.map.keep (Below.heap_setCell _ _ _ _ fun e => hm e.symm)⟩
theorem set_cell_other {g i j : Nat} {v : Value} (h : j ≠ i) : (w.setCell ⟨g, i, none⟩ v).cell? ⟨g, j, none⟩ = w.cell? ⟨g, j, none⟩ :=
  World.cell?_setCell_other _ _ _ _ (by intro e; simp only [Addr.mk.injEq, and_true, true_and] at e; omega)
theorem set_cell_same {g i : Nat} {v : Value} (h : (w.cell? ⟨g, i, none⟩).isSome = true) : (w.setCell ⟨g, i, none⟩ v).cell? ⟨g, i, none⟩ = some v :=
  World.cell?_setCell_same' _ _ _ h
theorem set_kept {g i n : Nat} {v u : Value} {xs : List Value} (h : Grow w 0 1 v n xs) (hv : ∀ b, v.ownBlock = some b → b ≠ g) : Grow (w.setCell ⟨g, i, none⟩ u) 0 1 v n xs :=
  h.keep (by simp [World.setCell]) fun b hb => Below.heap_setCell _ _ _ _ (hv b hb)

theorem DiskAt.set_down (h : DiskAt w D S) (b : Bool) : DiskAt (w.setCell ⟨D.p, 36, none⟩ (.bool b)) D { S with down := b } :=
  ⟨set_con h.now h.sep.p1 (by omega), set_con h.last h.sep.p2 (by omega), set_que h.que h.sep.ph (fun b hb => (h.sep.q b hb).1) (by omega), set_cell_same (h.isSome (by omega)), by rw [set_cell_other (by omega)]; exact h.lost,
    by rw [set_cell_other (by omega)]; exact h.calls, by rw [set_cell_other (by omega)]; exact h.keep, set_kept h.kept fun b hb => (h.sep.k b hb).1, there_put h.there _ _, h.sep⟩
theorem DiskAt.set_lost (h : DiskAt w D S) (z : Int) : DiskAt (w.setCell ⟨D.p, 37, none⟩ (.int .i64 z)) D { S with lost := z } :=
  ⟨set_con h.now h.sep.p1 (by omega), set_con h.last h.sep.p2 (by omega), set_que h.que h.sep.ph (fun b hb => (h.sep.q b hb).1) (by omega), by rw [set_cell_other (by omega)]; exact h.down, set_cell_same (h.isSome (by omega)),
    by rw [set_cell_other (by omega)]; exact h.calls, by rw [set_cell_other (by omega)]; exact h.keep, set_kept h.kept fun b hb => (h.sep.k b hb).1, there_put h.there _ _, h.sep⟩
theorem DiskAt.set_calls (h : DiskAt w D S) (z : Int) : DiskAt (w.setCell ⟨D.p, 38, none⟩ (.int .i64 z)) D { S with calls := z } :=
  ⟨set_con h.now h.sep.p1 (by omega), set_con h.last h.sep.p2 (by omega), set_que h.que h.sep.ph (fun b hb => (h.sep.q b hb).1) (by omega), by rw [set_cell_other (by omega)]; exact h.down, by rw [set_cell_other (by omega)]; exact h.lost,
    set_cell_same (h.isSome (by omega)), by rw [set_cell_other (by omega)]; exact h.keep, set_kept h.kept fun b hb => (h.sep.k b hb).1, there_put h.there _ _, h.sep⟩
theorem DiskAt.set_keep (h : DiskAt w D S) {v : Value} {ks : List Int} (hk : Grow w 0 1 v ks.length (ks.map (Value.int .i64))) (hv : ∀ b, v.ownBlock = some b → ¬ D.has b) : DiskAt (w.setCell ⟨D.p, 39, none⟩ v) { D with kv := v } { S with keep := ks } :=
  ⟨set_con h.now h.sep.p1 (by omega), set_con h.last h.sep.p2 (by omega), set_que h.que h.sep.ph (fun b hb => (h.sep.q b hb).1) (by omega), by rw [set_cell_other (by omega)]; exact h.down, by rw [set_cell_other (by omega)]; exact h.lost,
    by rw [set_cell_other (by omega)]; exact h.calls, set_cell_same (h.isSome (by omega)), set_kept hk fun b hb e => hv b hb (.inl e), there_put h.there _ _,
    ⟨h.sep.p1, h.sep.p2, h.sep.ph, h.sep.m12, h.sep.m1h, h.sep.m2h, h.sep.q, fun b hb => ⟨fun e => hv b hb (.inl e), fun e => hv b hb (.inr (.inl e)), fun e => hv b hb (.inr (.inr (.inl e))), fun e => hv b hb (.inr (.inr (.inr (.inl e))))⟩,
      fun x hx hy => hv x hy (.inr (.inr (.inr (.inr (.inl hx)))))⟩⟩
end

end Dsk
end Go.Proofs.Ytgaclibokapfaaa

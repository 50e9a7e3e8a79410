/- Package disk: contents are cut; how a disk lies in memory; small calls. -/
import Derived.Test.YtpogoalbnbekaaaDoorDskB
import Derived.Test.YtpogoalbnbekaaaDoorPlA

/-! maps.DeleteFunc with the closure of cut. -/
namespace Go.Proofs.YtpogoalbnbekaaaDoor
open Go.RowKit Wire
set_option linter.unusedVariables false
set_option linter.unusedSimpArgs false
open Txt
namespace Dsk

theorem wpList_next_run {w w' : World} {ops : Array Oper} {rest : List Oper} {o : Oper} {a : Act} {Q : Exit → Act → World → Prop} (hgd : o.guard = none) (it : Operand) (hop : o.op = .next it false) {r : Nat} {v : Value} (hit : a.eval it = .pointer (some ⟨r, 0, none⟩))
    (hrun : (Instr.next (.pointer (some ⟨r, 0, none⟩)) false 0).run Tryd.prog w = .ok v w') (h : wpList Tryd.prog ops Q rest (a.put o.dst v) w') : wpList Tryd.prog ops Q (o :: rest) a w :=
  wpList_plain hgd fun K hK => by
    have hrun' : (Instr.next (.pointer (some ⟨r, 0, none⟩)) false o.type).run Tryd.prog w = .ok v w' := hrun
    unfold Oper.wp
    simp [execOp, hop, hit, hrun', Result.andThen]
    exact hK _ _ h
theorem wpList_delete_run {w w' : World} {ops : Array Oper} {rest : List Oper} {o : Oper} {a : Act} {Q : Exit → Act → World → Prop} (hgd : o.guard = none) (d s : Operand) {t k : TypeId} (ho : o.op = .call { callee := .builtin .delete, args := #[d, s], argTypes := #[t, k] }) {x y : Value} (hd : a.eval d = x) (hs : a.eval s = y)
    (hrun : ∀ ty, (Builtin.delete_ #[t, k] ty #[x, y]).run Tryd.prog w = .ok (.tuple #[]) w') (h : wpList Tryd.prog ops Q rest (a.put o.dst (.tuple #[])) w') : wpList Tryd.prog ops Q (o :: rest) a w :=
  wpList_plain hgd fun K hK => by
    have hr := hrun o.type
    unfold Oper.wp execOp
    simp only [ho, resolve, invoke, builtin, Sem.run_bind, Sem.run_pure, Result.andThen_ok, List.map_toArray, List.map_cons, List.map_nil, hd, hs, hr]
    exact hK _ _ h

/-- What the values of a map of sectors are. -/
def Blocks (look : Nat → Nat → Option Value) : Prop := ∀ g k v, look g k = some v → ∃ cs : List Value, v = .agg cs.toArray ∧ cs.length = 64 ∧ ∀ u ∈ cs, u.oneCell' = true

/-- A round's head. -/
structure DfnRel (W : World) (m r F L f n : Nat) (old : Nat → Nat → Option Value) (w : World) (cnt : Nat) : Prop where
  rng : Rng w m r f n old cnt
  args : CutArgs F L f n w
  new : W.heap.size ≤ r
  only : Only (fun b => b = m) W w

theorem there_two {w1 w2 : World} {o : Obj} (h : w2.there (w1.alloc o).heap.size 0 64) : ∀ a1 v1 a2 v2, ((w2.setCell a1 v1).setCell a2 v2).there (w1.heap.size + 1) 0 64 := by
  rw [show (w1.alloc o).heap.size = w1.heap.size + 1 from by simp] at h
  exact fun a1 v1 a2 v2 => there_put (there_put h a1 v1) a2 v2
theorem box_step {w1 w2 w3 : World} {z0 z1 x y : Value} {t : TypeId} (hb2 : Below (w1.alloc (.cells #[z0, z1] t)).heap.size (w1.alloc (.cells #[z0, z1] t)) w2)
    (hg3 : ((w2.setCell ⟨w1.heap.size, 0, none⟩ x).setCell ⟨w1.heap.size, 1, none⟩ y).grownBy w3 (some (w1.heap.size + 1))) : w3.cell? ⟨w1.heap.size, 0, none⟩ = some x ∧ w3.cell? ⟨w1.heap.size, 1, none⟩ = some y ∧ Below w1.heap.size w1 w3 := by
  have hx1 : Blk (w1.alloc (.cells #[z0, z1] t)) w1.heap.size t #[z0, z1] := Blk.fresh w1 _ _
  have hx2 : Blk w2 w1.heap.size t #[z0, z1] := hx1.under hb2 hx1.inside
  have hx3 := ((hx2.put 0 x).put 1 y)
  have hx4 : Blk w3 w1.heap.size t _ := hx3.past hg3 (by simp)
  have hb2' : Below w1.heap.size w1 w2 := ((Below.refl _ w1).alloc (Nat.le_refl _) _).trans (hb2.mono (by simp))
  refine ⟨by rw [hx4.at]; rfl, by rw [hx4.at]; rfl, ?_⟩
  have h1 : w2.grownBy (w2.setCell ⟨w1.heap.size, 0, none⟩ x) (some w1.heap.size) := grown_set _ _ _ _
  have h2 : (w2.setCell ⟨w1.heap.size, 0, none⟩ x).grownBy ((w2.setCell ⟨w1.heap.size, 0, none⟩ x).setCell ⟨w1.heap.size, 1, none⟩ y) (some w1.heap.size) := grown_set _ _ _ _
  have hs := hb2'.size
  have b1 := hb2'.trans (grown_below h1 (Nat.le_refl _) hs)
  have b2 := b1.trans (grown_below h2 (Nat.le_refl _) b1.size)
  exact b2.trans (grown_below hg3 (by omega) b2.size)
theorem CutArgs.keep {F L f n : Nat} {a b : World} (h : CutArgs F L f n a) (e1 : b.heap[F]? = a.heap[F]?) (e2 : b.heap[L]? = a.heap[L]?) : CutArgs F L f n b :=
  ⟨(World.cell?_of_block (a := ⟨F, 0, none⟩) e1).trans h.1, (World.cell?_of_block (a := ⟨L, 0, none⟩) e2).trans h.2.1, (World.cell?_of_block (a := ⟨L, 1, none⟩) e2).trans h.2.2⟩

end Dsk
end Go.Proofs.YtpogoalbnbekaaaDoor

/-! Contents cut short. -/
namespace Go.Proofs.YtpogoalbnbekaaaDoor
open Go.RowKit Wire
set_option linter.unusedVariables false
set_option linter.unusedSimpArgs false
open Txt
namespace Dsk

theorem Rep.mem {es : Array MapEntry} {look : Nat → Nat → Option Value} (h : Rep es look) {f n : Nat} {v : Value} (hv : look f n = some v) : f < 16 ∧ n ≤ 262144 := by
  obtain ⟨e, he, hk⟩ := h.there f n v hv
  obtain ⟨g, k, hg, hk2, e1, _⟩ := h.told e he
  obtain ⟨rfl, rfl⟩ := keyV_inj (hk.symm.trans e1)
  exact ⟨hg, hk2⟩
theorem MapC.blocks {w : World} {m : Nat} {C : Con} (h : MapC w m C) : ∃ look, IsMap w m look ∧ Blocks look ∧ ∀ f n, f < 16 → n ≤ 262144 → (look f n).getD zeroB = blockV C f n := by
  obtain ⟨look, hm, hl⟩ := h
  refine ⟨look, hm, fun g k v hv => ?_, hl⟩
  obtain ⟨es, clock, hb, hs, hr⟩ := hm
  obtain ⟨hg, hk⟩ := hr.mem hv
  have := hl g k hg hk
  rw [hv] at this
  exact ⟨blkL C g k, this, blkL_len _ _ _, blkL_one _ _ _⟩

def zeroL : List Value := List.replicate 64 (.int .u8 0)
theorem zeroL_len : zeroL.length = 64 := by unfold zeroL; simp
theorem zeroL_get {j : Nat} (h : j < 64) : zeroL[j]? = some (.int .u8 0) := by unfold zeroL; rw [List.getElem?_replicate, if_pos h]
theorem wpList_alloc_zero {w : World} {ops : Array Oper} {rest : List Oper} {o : Oper} {a : Act} {Q : Exit → Act → World → Prop} (hgd : o.guard = none) (ho : o.op = .alloc 114)
    (h : ∀ w', Lie w' w.heap.size 0 zeroL → Below w.heap.size w w' → w'.heap.size = w.heap.size + 1 → wpList Tryd.prog ops Q rest (a.put o.dst (.pointer (some ⟨w.heap.size, 0, none⟩))) w') : wpList Tryd.prog ops Q (o :: rest) a w :=
  wpList_plain hgd fun K hK => by
    have hb : Blk (w.alloc (.cells (Array.replicate 64 (.int .u8 0)) 114)) w.heap.size _ _ := Blk.fresh w _ _
    have hr : (execOp a.eval o).run Tryd.prog w = .ok (.value (.pointer (some ⟨w.heap.size, 0, none⟩))) (w.alloc (.cells (Array.replicate 64 (.int .u8 0)) 114)) := by
      unfold execOp
      simp only [ho]
      kernel_rfl
    unfold Oper.wp
    rw [hr]
    refine hK _ _ (h _ ⟨fun j v hv => ?_, fun j hj => ?_⟩ ((Below.refl _ w).alloc (Nat.le_refl _) _) (by simp))
    · have hj : j < 64 := by have := (List.getElem?_eq_some_iff.1 hv).1; rwa [zeroL_len] at this
      rw [zeroL_get hj] at hv
      rw [Nat.zero_add, hb.at, Array.getElem?_replicate, if_pos hj]
      exact hv
    · rw [zeroL_len] at hj
      rw [Nat.zero_add, hb.at, hb.thaw]
      exact ⟨by rw [Array.getElem?_eq_getElem (by simpa using hj)]; rfl, rfl⟩

theorem slice_to (w : World) (g : Nat) {r : Nat} (hr : r ≤ 64) : (Instr.sliceAt 114 (.pointer (some ⟨g, 0, none⟩)) none (some (.int .i64 r)) none).run Tryd.prog w = .ok (.slice (some ⟨g, 0, none⟩) r 64) w := by
  have h1 : (r : Int) ≤ 64 := by omega
  have hs : (sizeOf 5).run Tryd.prog w = .ok 1 w := by kernel_rfl
  have e : (⟨g, 0, none⟩ : Addr).add 0 = ⟨g, 0, none⟩ := by rw [row_add', Nat.zero_add]
  simp [Instr.sliceAt, Instr.sliceBounds, Instr.sliceBound, asIntOf, Instr.sureAddr, run_underlying Tryd.underlying114, h1, hr, hs, e, Result.andThen]
theorem slice_all (w : World) (g : Nat) : (Instr.sliceAt 114 (.pointer (some ⟨g, 0, none⟩)) none none none).run Tryd.prog w = .ok (.slice (some ⟨g, 0, none⟩) 64 64) w := by
  have hs : (sizeOf 5).run Tryd.prog w = .ok 1 w := by kernel_rfl
  have e : (⟨g, 0, none⟩ : Addr).add 0 = ⟨g, 0, none⟩ := by rw [row_add', Nat.zero_add]
  simp [Instr.sliceAt, Instr.sliceBounds, Instr.sliceBound, asIntOf, Instr.sureAddr, run_underlying Tryd.underlying114, hs, e, Result.andThen]

theorem Con.cut_byte (C : Con) (f n g i : Nat) : (C.cut f n).byte g i = if g = f ∧ n ≤ i then 0 else C.byte g i := rfl
theorem cut_last {C : Con} {f n : Nat} : ∀ j, j < (blkL (C.cut f n) f (n / 64)).length → (blkL (C.cut f n) f (n / 64))[j]? = if 0 ≤ j ∧ j < 0 + ((blkL C f (n / 64)).take (n % 64)).length then ((blkL C f (n / 64)).take (n % 64))[j - 0]? else zeroL[j]? := by
  intro j hj
  rw [blkL_len] at hj
  have hl : ((blkL C f (n / 64)).take (n % 64)).length = n % 64 := by rw [List.length_take, blkL_len]; omega
  rw [hl, blkL_get _ _ _ _ hj, Con.cut_byte]
  by_cases h : j < n % 64
  · rw [if_neg (by omega), if_pos ⟨Nat.zero_le _, by omega⟩, Nat.sub_zero, List.getElem?_take, if_pos h, blkL_get _ _ _ _ hj]
  · rw [if_pos ⟨rfl, by omega⟩, if_neg (by omega), zeroL_get hj]
    rfl
theorem cut_other {C : Con} {f n g k : Nat} (hne : ¬ (g = f ∧ k = n / 64)) : blockV (C.cut f n) g k = if past f (n / 64) g k = true then zeroB else blockV C g k := by
  by_cases hp : past f (n / 64) g k = true
  · rw [if_pos hp]
    unfold past at hp
    simp at hp
    exact blockV_zero fun j hj => by rw [Con.cut_byte, if_pos ⟨hp.1, by omega⟩]
  · rw [if_neg hp]
    refine blockV_same fun j hj => ?_
    rw [Con.cut_byte, if_neg]
    rintro ⟨rfl, h2⟩
    unfold past at hp
    simp at hp
    exact hne ⟨rfl, by omega⟩
theorem cut_lookup {w w' : World} {m f n : Nat} {C : Con} {look : Nat → Nat → Option Value} (h : IsMap w m (fun g k => if past f (n / 64) g k = true then none else look g k)) (hl : ∀ f n, f < 16 → n ≤ 262144 → (look f n).getD zeroB = blockV C f n) (hf : f < 16) (hn : n / 64 ≤ 262144) :
    (Instr.lookup 56 (.map (some m)) (keyV f (n / 64)) false).run Tryd.prog w = .ok (blockV C f (n / 64)) w := by
  rw [h.lookup hf hn Tryd.underlying56 zero_block]
  have hp : ¬ past f (n / 64) f (n / 64) = true := by unfold past; simp
  rw [if_neg hp, hl f _ hf hn]
theorem cut_store {w : World} {m f n : Nat} {C : Con} {look : Nat → Nat → Option Value} (h : IsMap w m (fun g k => if past f (n / 64) g k = true then none else look g k)) (hl : ∀ f n, f < 16 → n ≤ 262144 → (look f n).getD zeroB = blockV C f n) (hf : f < 16) (hn : n / 64 ≤ 262144) :
    ∃ w', (Instr.mapUpdate 56 (.map (some m)) (keyV f (n / 64)) (blockV (C.cut f n) f (n / 64))).run Tryd.prog w = .ok () w' ∧ MapC w' m (C.cut f n) ∧ w.grownBy w' (some m) := by
  obtain ⟨w', r1, r2, r3⟩ := h.store hf hn Tryd.underlying56 (blockV (C.cut f n) f (n / 64))
  refine ⟨w', r1, ⟨_, r2, fun g k hg hk => ?_⟩, r3⟩
  unfold upd
  split
  · rename_i e
    obtain ⟨rfl, rfl⟩ := e
    rfl
  · rename_i e
    rw [cut_other e]
    by_cases hp : past f (n / 64) g k = true
    · simp [hp]
    · simp [hp, hl g k hg hk]

abbrev Lc4 (L g o m f n : Nat) (C : Con) (w' : World) : Prop := w'.cell? ⟨g, o, none⟩ = some (.map (some m)) ∧ w'.cell? ⟨L, 0, none⟩ = some (.int .i64 f) ∧ w'.cell? ⟨L, 1, none⟩ = some (.int .i64 ((n : Int) / 64)) ∧
  (Instr.lookup 56 (.map (some m)) (.agg #[.int .i64 f, .int .i64 ((n : Int) / 64)]) false).run Tryd.prog w' = .ok (blockV C f (n / 64)) w'

/-- What stays while blocks from B on are made and written. -/
structure CutH (w : World) (B g o m F L f n : Nat) (look : Nat → Nat → Option Value) (v : World) : Prop where
  eg : v.heap[g]? = w.heap[g]?
  box : Blk v F 3 #[.int .i64 f]
  last : Blk v L 88 #[.int .i64 f, .int .i64 ((n : Int) / 64)]
  map : IsMap v m (fun g k => if past f (n / 64) g k = true then none else look g k)
  small : g < B ∧ F < B ∧ L < B ∧ m < B
theorem CutH.keep {w v v' : World} {B g o m F L f n : Nat} {look : Nat → Nat → Option Value} (h : CutH w B g o m F L f n look v) (e : ∀ b, b < B → v'.heap[b]? = v.heap[b]?) : CutH w B g o m F L f n look v' :=
  ⟨(e g h.small.1).trans h.eg, (e F h.small.2.1).trans h.box, (e L h.small.2.2.1).trans h.last, h.map.keep (e m h.small.2.2.2), h.small⟩
theorem CutH.lks {w v : World} {B g o m F L f n : Nat} {C : Con} {look : Nat → Nat → Option Value} (h : CutH w B g o m F L f n look v) (h0 : ConAt w g o m C) (hl : ∀ f n, f < 16 → n ≤ 262144 → (look f n).getD zeroB = blockV C f n) (hf : f < 16) (hn : n ≤ 16777216) : Lc4 L g o m f n C v := by
  refine ⟨(World.cell?_of_block (a := ⟨g, o, none⟩) h.eg).trans h0.ptr, by rw [h.last.at]; rfl, by rw [h.last.at]; rfl, ?_⟩
  have := cut_lookup (w' := v) h.map hl hf (by omega : n / 64 ≤ 262144)
  unfold keyV at this
  rw [show ((n / 64 : Nat) : Int) = (n : Int) / 64 from by omega] at this
  exact this

abbrev Lc6 (B L g o m f n : Nat) (cs : List Value) (w' : World) : Prop := w'.cell? ⟨g, o, none⟩ = some (.map (some m)) ∧ w'.cell? ⟨L, 0, none⟩ = some (.int .i64 f) ∧ w'.cell? ⟨L, 1, none⟩ = some (.int .i64 ((n : Int) / 64)) ∧ w'.rangeAt B 0 cs
abbrev Lc7 (F g o f z : Nat) (w' : World) : Prop := w'.cell? ⟨F, 0, none⟩ = some (.int .i64 f) ∧ w'.cell? ⟨g, o + 1 + f, none⟩ = some (.int .i64 z) ∧ w'.frozen? ⟨g, o + 1 + f, none⟩ = false

end Dsk
end Go.Proofs.YtpogoalbnbekaaaDoor

/-! A disk in memory. -/
namespace Go.Proofs.YtpogoalbnbekaaaDoor
open Go.RowKit Wire
set_option linter.unusedVariables false
set_option linter.unusedSimpArgs false
open Txt
namespace Dsk

/-- Which blocks a disk has. -/
structure Own where
  p : Nat
  m1 : Nat
  m2 : Nat
  mh : Nat
  qv : Value
  kv : Value
def Own.has (D : Own) (b : Nat) : Prop := b = D.p ∨ b = D.m1 ∨ b = D.m2 ∨ b = D.mh ∨ D.qv.ownBlock = some b ∨ D.kv.ownBlock = some b

/-- No two of them are one. -/
structure Own.Sep (D : Own) : Prop where
  p1 : D.p ≠ D.m1
  p2 : D.p ≠ D.m2
  ph : D.p ≠ D.mh
  m12 : D.m1 ≠ D.m2
  m1h : D.m1 ≠ D.mh
  m2h : D.m2 ≠ D.mh
  q : ∀ b, D.qv.ownBlock = some b → b ≠ D.p ∧ b ≠ D.m1 ∧ b ≠ D.m2 ∧ b ≠ D.mh
  k : ∀ b, D.kv.ownBlock = some b → b ≠ D.p ∧ b ≠ D.m1 ∧ b ≠ D.m2 ∧ b ≠ D.mh
  qk : Apart D.qv D.kv

/-- A disk lies there. -/
structure DiskAt (w : World) (D : Own) (S : St) : Prop where
  now : ConAt w D.p 0 D.m1 S.now
  last : ConAt w D.p 17 D.m2 S.last
  que : QueAt w D.p 34 D.mh D.qv S.queue
  down : w.cell? ⟨D.p, 36, none⟩ = some (.bool S.down)
  lost : w.cell? ⟨D.p, 37, none⟩ = some (.int .i64 S.lost)
  calls : w.cell? ⟨D.p, 38, none⟩ = some (.int .i64 S.calls)
  keep : w.cell? ⟨D.p, 39, none⟩ = some D.kv
  kept : Grow w 0 1 D.kv S.keep.length (S.keep.map (Value.int .i64))
  there : w.there D.p 0 40
  sep : D.Sep

section
variable {w w' : World} {D : Own} {S : St}
theorem DiskAt.lt (h : DiskAt w D S) : D.p < w.heap.size := h.now.lt
theorem DiskAt.inside (h : DiskAt w D S) : ∀ b, D.has b → b < w.heap.size := by
  rintro b (rfl | rfl | rfl | rfl | hb | hb)
  · exact h.lt
  · exact h.now.map.lt
  · exact h.last.map.lt
  · exact h.que.map.lt
  · exact (h.que.row.block b hb).2
  · exact (h.kept.block b hb).2
theorem DiskAt.still (h : DiskAt w D S) (hs : w.heap.size ≤ w'.heap.size) (e : ∀ b, D.has b → w'.heap[b]? = w.heap[b]?) : DiskAt w' D S := by
  have ep := e D.p (.inl rfl)
  have e1 := e D.m1 (.inr (.inl rfl))
  have e2 := e D.m2 (.inr (.inr (.inl rfl)))
  have eh := e D.mh (.inr (.inr (.inr (.inl rfl))))
  have eq := fun b hb => e b (.inr (.inr (.inr (.inr (.inl hb)))))
  have ek := fun b hb => e b (.inr (.inr (.inr (.inr (.inr hb)))))
  exact ⟨h.now.keep ep e1, h.last.keep ep e2, h.que.keep hs ep eh eq, (World.cell?_of_block (a := ⟨D.p, 36, none⟩) ep).trans h.down, (World.cell?_of_block (a := ⟨D.p, 37, none⟩) ep).trans h.lost,
    (World.cell?_of_block (a := ⟨D.p, 38, none⟩) ep).trans h.calls, (World.cell?_of_block (a := ⟨D.p, 39, none⟩) ep).trans h.keep, h.kept.keep hs ek, there_keep h.there ep, h.sep⟩
theorem DiskAt.below (h : DiskAt w D S) (b : Below w.heap.size w w') : DiskAt w' D S := h.still b.size fun c hc => b.block c (h.inside c hc)
theorem DiskAt.drew (h : DiskAt w D S) : DiskAt w.drew D S := h.below (Below.refl _ w).drew
theorem DiskAt.only {F : Nat → Prop} (h : DiskAt w D S) (o : Only F w w') (hF : ∀ b, D.has b → ¬ F b) : DiskAt w' D S := h.still o.size fun b hb => o.block b (h.inside b hb) (hF b hb)
theorem DiskAt.ptr1 (h : DiskAt w D S) : w.cell? ⟨D.p, 0, none⟩ = some (.map (some D.m1)) := h.now.ptr
theorem DiskAt.free (h : DiskAt w D S) {j : Nat} (hj : j < 40) : w.frozen? ⟨D.p, j, none⟩ = false := by have := (h.there j hj).2; rwa [Nat.zero_add] at this
theorem DiskAt.isSome (h : DiskAt w D S) {j : Nat} (hj : j < 40) : (w.cell? ⟨D.p, j, none⟩).isSome = true := by have := (h.there j hj).1; rwa [Nat.zero_add] at this
end

/-- What a call leaves of a disk. -/
structure Post (D : Own) (S : St) (w w' : World) : Prop where
  disk : ∃ D', DiskAt w' D' S ∧ D'.p = D.p ∧ ∀ b, D'.has b → D.has b ∨ w.heap.size ≤ b
  only : Only D.has w w'

theorem Post.refl {w : World} {D : Own} {S : St} (h : DiskAt w D S) : Post D S w w := ⟨⟨D, h, rfl, fun _ h => .inl h⟩, Only.refl _ _⟩
theorem Post.of_below {w w' : World} {D : Own} {S : St} (h : DiskAt w D S) (b : Below w.heap.size w w') : Post D S w w' := ⟨⟨D, h.below b, rfl, fun _ h => .inl h⟩, Only.of_below b⟩
/-- One call behind the other. -/
theorem Post.next {w w1 w2 : World} {D D1 : Own} {S2 : St} (o : Only D.has w w1) (hp : D1.p = D.p) (hD : ∀ b, D1.has b → D.has b ∨ w.heap.size ≤ b) (k : Post D1 S2 w1 w2) : Post D S2 w w2 := by
  obtain ⟨⟨D2, h2, p2, e2⟩, o2⟩ := k
  refine ⟨⟨D2, h2, p2.trans hp, fun b hb => ?_⟩, o.trans o2 hD⟩
  rcases e2 b hb with h | h
  · exact hD b h
  · exact .inr (Nat.le_trans o.size h)

/-! One cell of the disk's own is written. -/
section
variable {w : World} {D : Own} {S : St}
theorem set_con {g o m i : Nat} {C : Con} {v : Value} (h : ConAt w g o m C) (hm : g ≠ m) (hi : i < o ∨ o + 17 ≤ i) : ConAt (w.setCell ⟨g, i, none⟩ v) g o m C := by
  refine ⟨fun j u hu => ?_, there_put h.there _ _, h.map.keep (Below.heap_setCell _ _ _ _ fun e => hm e.symm)⟩
  have hj : j < 17 := by have := (List.getElem?_eq_some_iff.1 hu).1; rwa [conL_len] at this
  rw [World.cell?_setCell_other _ _ _ _ (by intro e; simp only [Addr.mk.injEq, and_true, true_and] at e; omega)]
  exact h.cells j u hu
theorem set_que {g o mh i : Nat} {v u : Value} {l : List (Nat × Nat)} (h : QueAt w g o mh v l) (hm : g ≠ mh) (hv : ∀ b, v.ownBlock = some b → b ≠ g) (hi : i < o ∨ o + 2 ≤ i) : QueAt (w.setCell ⟨g, i, none⟩ u) g o mh v l :=
  ⟨by rw [World.cell?_setCell_other _ _ _ _ (by intro e; simp only [Addr.mk.injEq, and_true, true_and] at e; omega)]; exact h.ptr,
    by rw [World.cell?_setCell_other _ _ _ _ (by intro e; simp only [Addr.mk.injEq, and_true, true_and] at e; omega)]; exact h.has, there_put h.there _ _,
    h.row.keep (by simp [World.setCell]) fun b hb => Below.heap_setCell _ _ _ _ (hv b hb), h.map.keep (Below.heap_setCell _ _ _ _ fun e => hm e.symm)⟩
theorem set_cell_other {g i j : Nat} {v : Value} (h : j ≠ i) : (w.setCell ⟨g, i, none⟩ v).cell? ⟨g, j, none⟩ = w.cell? ⟨g, j, none⟩ :=
  World.cell?_setCell_other _ _ _ _ (by intro e; simp only [Addr.mk.injEq, and_true, true_and] at e; omega)
theorem set_cell_same {g i : Nat} {v : Value} (h : (w.cell? ⟨g, i, none⟩).isSome = true) : (w.setCell ⟨g, i, none⟩ v).cell? ⟨g, i, none⟩ = some v :=
  World.cell?_setCell_same' _ _ _ h
theorem set_kept {g i n : Nat} {v u : Value} {xs : List Value} (h : Grow w 0 1 v n xs) (hv : ∀ b, v.ownBlock = some b → b ≠ g) : Grow (w.setCell ⟨g, i, none⟩ u) 0 1 v n xs :=
  h.keep (by simp [World.setCell]) fun b hb => Below.heap_setCell _ _ _ _ (hv b hb)

theorem DiskAt.set_down (h : DiskAt w D S) (b : Bool) : DiskAt (w.setCell ⟨D.p, 36, none⟩ (.bool b)) D { S with down := b } :=
  ⟨set_con h.now h.sep.p1 (by omega), set_con h.last h.sep.p2 (by omega), set_que h.que h.sep.ph (fun b hb => (h.sep.q b hb).1) (by omega), set_cell_same (h.isSome (by omega)), by rw [set_cell_other (by omega)]; exact h.lost,
    by rw [set_cell_other (by omega)]; exact h.calls, by rw [set_cell_other (by omega)]; exact h.keep, set_kept h.kept fun b hb => (h.sep.k b hb).1, there_put h.there _ _, h.sep⟩
theorem DiskAt.set_lost (h : DiskAt w D S) (z : Int) : DiskAt (w.setCell ⟨D.p, 37, none⟩ (.int .i64 z)) D { S with lost := z } :=
  ⟨set_con h.now h.sep.p1 (by omega), set_con h.last h.sep.p2 (by omega), set_que h.que h.sep.ph (fun b hb => (h.sep.q b hb).1) (by omega), by rw [set_cell_other (by omega)]; exact h.down, set_cell_same (h.isSome (by omega)),
    by rw [set_cell_other (by omega)]; exact h.calls, by rw [set_cell_other (by omega)]; exact h.keep, set_kept h.kept fun b hb => (h.sep.k b hb).1, there_put h.there _ _, h.sep⟩
theorem DiskAt.set_calls (h : DiskAt w D S) (z : Int) : DiskAt (w.setCell ⟨D.p, 38, none⟩ (.int .i64 z)) D { S with calls := z } :=
  ⟨set_con h.now h.sep.p1 (by omega), set_con h.last h.sep.p2 (by omega), set_que h.que h.sep.ph (fun b hb => (h.sep.q b hb).1) (by omega), by rw [set_cell_other (by omega)]; exact h.down, by rw [set_cell_other (by omega)]; exact h.lost,
    set_cell_same (h.isSome (by omega)), by rw [set_cell_other (by omega)]; exact h.keep, set_kept h.kept fun b hb => (h.sep.k b hb).1, there_put h.there _ _, h.sep⟩
theorem DiskAt.set_keep (h : DiskAt w D S) {v : Value} {ks : List Int} (hk : Grow w 0 1 v ks.length (ks.map (Value.int .i64))) (hv : ∀ b, v.ownBlock = some b → ¬ D.has b) : DiskAt (w.setCell ⟨D.p, 39, none⟩ v) { D with kv := v } { S with keep := ks } :=
  ⟨set_con h.now h.sep.p1 (by omega), set_con h.last h.sep.p2 (by omega), set_que h.que h.sep.ph (fun b hb => (h.sep.q b hb).1) (by omega), by rw [set_cell_other (by omega)]; exact h.down, by rw [set_cell_other (by omega)]; exact h.lost,
    by rw [set_cell_other (by omega)]; exact h.calls, set_cell_same (h.isSome (by omega)), set_kept hk fun b hb e => hv b hb (.inl e), there_put h.there _ _,
    ⟨h.sep.p1, h.sep.p2, h.sep.ph, h.sep.m12, h.sep.m1h, h.sep.m2h, h.sep.q, fun b hb => ⟨fun e => hv b hb (.inl e), fun e => hv b hb (.inr (.inl e)), fun e => hv b hb (.inr (.inr (.inl e))), fun e => hv b hb (.inr (.inr (.inr (.inl e))))⟩,
      fun x hx hy => hv x hy (.inr (.inr (.inr (.inr (.inl hx)))))⟩⟩
end

end Dsk
end Go.Proofs.YtpogoalbnbekaaaDoor

/-! The small calls of a disk. -/
namespace Go.Proofs.YtpogoalbnbekaaaDoor
open Go.RowKit Wire
set_option linter.unusedVariables false
set_option linter.unusedSimpArgs false
open Txt
namespace Dsk

/-! The small calls. -/
section
variable {w : World} {D : Own} {S : St}

theorem start_any (h : DiskAt w D S) : Calls Tryd.prog 20 #[.pointer (some ⟨D.p, 0, none⟩)] w fun e w' => e = .returned (.tuple #[]) ∧ Post D S.start w w' := by
  have h1 := h.down
  have h2 := h.free (j := 36) (by omega)
  have HP : Hid (Post D S.start w (w.setCell ⟨D.p, 36, none⟩ (.bool false))) := Lib.hid ⟨⟨D, h.set_down false, rfl, fun _ h => .inl h⟩, Only.set _ _ _ _ (.inl rfl)⟩
  clear h
  go_enter Tryd.func20, Tryd.ntmps20
  go_wp2_with fail
  go_returns
  exact ⟨rfl, HP.out⟩

theorem lose_any (h : DiskAt w D S) (n : Int) : Calls Tryd.prog 11 #[.pointer (some ⟨D.p, 0, none⟩), .int .i64 n] w fun e w' => e = .returned (.tuple #[]) ∧ Post D (S.lose n) w w' := by
  have h1 := h.lost
  have h2 := h.free (j := 37) (by omega)
  have HP : Hid (∀ z, z = max n 0 → Post D (S.lose n) w (w.setCell ⟨D.p, 37, none⟩ (.int .i64 z))) := Lib.hid fun z hz => by subst hz; exact ⟨⟨D, h.set_lost _, rfl, fun _ h => .inl h⟩, Only.set _ _ _ _ (.inl rfl)⟩
  clear h
  by_cases hn : n < 0
  · go_enter Tryd.func11, Tryd.ntmps11
    go_wp2_with fail
    go_returns
    exact ⟨rfl, HP.out _ (by omega)⟩
  · go_enter Tryd.func11, Tryd.ntmps11
    go_wp2_with fail
    all_goals
      go_returns
      exact ⟨rfl, HP.out _ (by omega)⟩

theorem size_set (w : World) (a : Addr) (v : Value) : (w.setCell a v).heap.size = w.heap.size := by simp [World.setCell]
theorem Ints.keep {w w' : World} {v : Value} {ks : List Int} (h : Ints w v ks) (e : ∀ b, (∃ x, w.cell? ⟨b, x, none⟩ ≠ none ∧ 0 < ks.length ∧ ∃ o A c, v = .slice A ks.length c ∧ A = some ⟨b, o, none⟩) → w'.heap[b]? = w.heap[b]?) : Ints w' v ks := by
  obtain ⟨A, c, rfl, hr⟩ := h
  refine ⟨A, c, rfl, fun k x hx => ?_⟩
  obtain ⟨b, o, ha, hc⟩ := hr k x hx
  exact ⟨b, o, ha, (World.cell?_of_block (a := ⟨b, o + k, none⟩) (e b ⟨o + k, by rw [hc]; simp, (by have := (List.getElem?_eq_some_iff.1 hx).1; omega), o, A, c, rfl, ha⟩)).trans hc⟩
/-- The numbers lie in none of these blocks. -/
def Clear (v : Value) (F : Nat → Prop) : Prop := ∀ b o n c, v = .slice (some ⟨b, o, none⟩) n c → 0 < n → ¬ F b
theorem Ints.only {w w' : World} {F : Nat → Prop} {v : Value} {ks : List Int} (h : Ints w v ks) (hc : Clear v F) (o : Only F w w') : Ints w' v ks :=
  h.keep fun b ⟨x, h1, hp, o', A, c, hv, ha⟩ => o.block b (by
    cases hx : w.cell? ⟨b, x, none⟩ with
    | none => exact absurd hx h1
    | some u => exact World.block_lt_of_cell? w _ hx) (hc b o' ks.length c (by rw [hv, ha]) hp)
theorem Clear.nil (F : Nat → Prop) : Clear (.slice none 0 0) F := fun b o n c h _ => by cases h

set_option maxHeartbeats 1000000 in
theorem arm_any (h : DiskAt w D S) (n : Int) (v : Value) (ks : List Int) (hv : Ints w v ks) (hc : Clear v D.has) (hk : ks.length ≤ 1000000000) :
    Calls Tryd.prog 12 #[.pointer (some ⟨D.p, 0, none⟩), .int .i64 n, v] w fun e w' => e = .returned (.tuple #[]) ∧ Post D (S.arm n ks) w w' := by
  have h1 := h.calls
  have h2 := h.free (j := 38) (by omega)
  have h3 := h.keep
  have hlt := h.lt
  have h4 := h.free (j := 39) (by omega)
  have HD := Lib.hid (fun z => h.set_calls z)
  have HV := Lib.hid (fun z => hv.only hc (Only.set D.has w ⟨D.p, 38, none⟩ (.int .i64 z) (.inl rfl)))
  have hdk := h.kept.slice
  obtain ⟨A0, c0, ek⟩ := hdk
  rw [ek] at h3
  have HIN := Lib.hid h.inside
  have key : ∀ z : Int, z = max n 0 → ∀ v' w2, Grow w2 w.heap.size 1 v' ks.length (ks.map (Value.int .i64)) → Below w.heap.size (w.setCell ⟨D.p, 38, none⟩ (.int .i64 z)) w2 → Post D (S.arm n ks) w (w2.setCell ⟨D.p, 39, none⟩ v') := by
    intro z hz v' w2 hg hb
    subst hz
    have hd2 := (h.set_calls (max n 0)).still hb.size (fun b hb2 => hb.block b (h.inside b hb2))
    have hne : ∀ b, v'.ownBlock = some b → ¬ D.has b := fun b e hh => by have := h.inside b hh; have := (hg.block b e).1; omega
    refine ⟨⟨{ D with kv := v' }, hd2.set_keep (hg.lower (Nat.zero_le _)) hne, rfl, fun b hb2 => ?_⟩, ((Only.set D.has w ⟨D.p, 38, none⟩ _ (.inl rfl)).trans (Only.of_below (F := D.has) (by simpa [World.setCell] using hb)) fun x hx => .inl hx).same (Only.set _ _ _ _ (.inl rfl))⟩
    rcases hb2 with e | e | e | e | e | e
    · exact .inl (.inl e)
    · exact .inl (.inr (.inl e))
    · exact .inl (.inr (.inr (.inl e)))
    · exact .inl (.inr (.inr (.inr (.inl e))))
    · exact .inl (.inr (.inr (.inr (.inr (.inl e)))))
    · exact .inr (hg.block b e).1
  have KEY := Lib.hid key
  clear h hv hc key ek
  by_cases hn : n < 0
  · go_enter Tryd.func12, Tryd.ntmps12
    go_wp2_with fail
    refine (cloneInts_any v ks hk _ (HV.out _)).mono ?_
    rintro e w2 ⟨v', rfl, hg, hb⟩
    obtain ⟨A9, c9, rfl⟩ := hg.slice
    rw [size_set] at hb hg
    have hc9 : w2.cell? ⟨D.p, 39, none⟩ = some (.slice A0 S.keep.length c0) := (hb.cell (p := ⟨D.p, 39, none⟩) hlt).trans ((set_cell_other (w := w) (by omega)).trans h3)
    have hf9 : w2.frozen? ⟨D.p, 39, none⟩ = false := (hb.frozen (p := ⟨D.p, 39, none⟩) hlt).trans ((World.frozen?_setCell _ _ _ _).trans h4)
    have HP := Lib.hid (KEY.out _ (by omega) _ w2 hg hb)
    clear hg hb
    go_wp2_with fail
    go_returns
    exact ⟨rfl, HP.out⟩
  · go_enter Tryd.func12, Tryd.ntmps12
    go_wp2_with fail
    all_goals
      refine (cloneInts_any v ks hk _ (HV.out _)).mono ?_
      rintro e w2 ⟨v', rfl, hg, hb⟩
      obtain ⟨A9, c9, rfl⟩ := hg.slice
      rw [size_set] at hb hg
      have hc9 : w2.cell? ⟨D.p, 39, none⟩ = some (.slice A0 S.keep.length c0) := (hb.cell (p := ⟨D.p, 39, none⟩) hlt).trans ((set_cell_other (w := w) (by omega)).trans h3)
      have hf9 : w2.frozen? ⟨D.p, 39, none⟩ = false := (hb.frozen (p := ⟨D.p, 39, none⟩) hlt).trans ((World.frozen?_setCell _ _ _ _).trans h4)
      have HP := Lib.hid (KEY.out _ (by omega) _ w2 hg hb)
      clear hg hb
      go_wp2_with fail
      go_returns
      exact ⟨rfl, HP.out⟩
end
end Dsk
end Go.Proofs.YtpogoalbnbekaaaDoor

/-! Reading a disk; a sector is put into the durable part. -/
namespace Go.Proofs.YtpogoalbnbekaaaDoor
open Go.RowKit Wire
set_option linter.unusedVariables false
set_option linter.unusedSimpArgs false
open Txt
namespace Dsk

section
variable {w w' : World} {D : Own} {S : St}

theorem con_keeps {g o m o2 n2 : Nat} {C : Con} (h : ConAt w g o m C) (hk : Keeps w w' g o2 n2) (hd : o + 17 ≤ o2 ∨ o2 + n2 ≤ o) (e : w'.heap[m]? = w.heap[m]?) : ConAt w' g o m C := by
  refine ⟨fun j u hu => ?_, fun j hj => ?_, h.map.keep e⟩
  · have hj : j < 17 := by have := (List.getElem?_eq_some_iff.1 hu).1; rwa [conL_len] at this
    exact (hk (o + j) (by omega)).1.trans (h.cells j u hu)
  · have := h.there j hj
    rw [← (hk (o + j) (by omega)).1, ← (hk (o + j) (by omega)).2] at this
    exact this
theorem que_keeps {g o mh o2 n2 : Nat} {v : Value} {l : List (Nat × Nat)} (h : QueAt w g o mh v l) (hk : Keeps w w' g o2 n2) (hd : o + 2 ≤ o2 ∨ o2 + n2 ≤ o) (hs : w.heap.size ≤ w'.heap.size) (e : w'.heap[mh]? = w.heap[mh]?) (r : ∀ b, v.ownBlock = some b → w'.heap[b]? = w.heap[b]?) : QueAt w' g o mh v l := by
  refine ⟨(hk o (by omega)).1.trans h.ptr, (hk (o + 1) (by omega)).1.trans h.has, fun j hj => ?_, h.row.keep hs r, h.map.keep e⟩
  have := h.there j hj
  rw [← (hk (o + j) (by omega)).1, ← (hk (o + j) (by omega)).2] at this
  exact this

theorem DiskAt.put_last {L : Con} (h : DiskAt w D S) (hp : PutPost D.p 17 D.m2 L w w') : DiskAt w' D { S with last := L } := by
  have e : ∀ b, b ≠ D.p → b ≠ D.m2 → b < w.heap.size → w'.heap[b]? = w.heap[b]? := fun b h1 h2 h3 => hp.only.block b h3 fun e => by rcases e with e | e; exact h1 e; exact h2 e
  have c : ∀ j, 34 ≤ j → w'.cell? ⟨D.p, j, none⟩ = w.cell? ⟨D.p, j, none⟩ := fun j hj => (hp.keep j (by omega)).1
  refine ⟨con_keeps h.now hp.keep (by omega) (e _ (fun e => h.sep.p1 e.symm) h.sep.m12 h.now.map.lt), hp.con, que_keeps h.que hp.keep (by omega) hp.only.size (e _ (fun e => h.sep.ph e.symm) (fun e => h.sep.m2h e.symm) h.que.map.lt) (fun b hb => e b (h.sep.q b hb).1 (h.sep.q b hb).2.2.1 (h.que.row.block b hb).2),
    (c 36 (by omega)).trans h.down, (c 37 (by omega)).trans h.lost, (c 38 (by omega)).trans h.calls, (c 39 (by omega)).trans h.keep, h.kept.keep hp.only.size (fun b hb => e b (h.sep.k b hb).1 (h.sep.k b hb).2.2.1 (h.kept.block b hb).2), fun j hj => ?_, h.sep⟩
  rw [Nat.zero_add]
  by_cases hj2 : j < 17 ∨ 34 ≤ j
  · have := h.there j hj
    rw [Nat.zero_add, ← (hp.keep j (by omega)).1, ← (hp.keep j (by omega)).2] at this
    exact this
  · have := hp.con.there (j - 17) (by omega)
    rw [show 17 + (j - 17) = j from by omega] at this
    exact this
theorem DiskAt.put_now {C : Con} (h : DiskAt w D S) (hp : PutPost D.p 0 D.m1 C w w') : DiskAt w' D { S with now := C } := by
  have e : ∀ b, b ≠ D.p → b ≠ D.m1 → b < w.heap.size → w'.heap[b]? = w.heap[b]? := fun b h1 h2 h3 => hp.only.block b h3 fun e => by rcases e with e | e; exact h1 e; exact h2 e
  have c : ∀ j, 34 ≤ j → w'.cell? ⟨D.p, j, none⟩ = w.cell? ⟨D.p, j, none⟩ := fun j hj => (hp.keep j (by omega)).1
  refine ⟨hp.con, con_keeps h.last hp.keep (by omega) (e _ (fun e => h.sep.p2 e.symm) (fun e => h.sep.m12 e.symm) h.last.map.lt), que_keeps h.que hp.keep (by omega) hp.only.size (e _ (fun e => h.sep.ph e.symm) (fun e => h.sep.m1h e.symm) h.que.map.lt) (fun b hb => e b (h.sep.q b hb).1 (h.sep.q b hb).2.1 (h.que.row.block b hb).2),
    (c 36 (by omega)).trans h.down, (c 37 (by omega)).trans h.lost, (c 38 (by omega)).trans h.calls, (c 39 (by omega)).trans h.keep, h.kept.keep hp.only.size (fun b hb => e b (h.sep.k b hb).1 (h.sep.k b hb).2.1 (h.kept.block b hb).2), fun j hj => ?_, h.sep⟩
  rw [Nat.zero_add]
  by_cases hj2 : 17 ≤ j
  · have := h.there j hj
    rw [Nat.zero_add, ← (hp.keep j (by omega)).1, ← (hp.keep j (by omega)).2] at this
    exact this
  · have := hp.con.there j (by omega)
    rw [Nat.zero_add] at this
    exact this
theorem post_last {L : Con} (h : DiskAt w D S) (hp : PutPost D.p 17 D.m2 L w w') : Post D { S with last := L } w w' :=
  ⟨⟨D, h.put_last hp, rfl, fun _ h => .inl h⟩, hp.only.mono fun x hx => .inl (by rcases hx with e | e; exact .inl e; exact .inr (.inr (.inl e)))⟩
theorem post_now {C : Con} (h : DiskAt w D S) (hp : PutPost D.p 0 D.m1 C w w') : Post D { S with now := C } w w' :=
  ⟨⟨D, h.put_now hp, rfl, fun _ h => .inl h⟩, hp.only.mono fun x hx => .inl (by rcases hx with e | e; exact .inl e; exact .inr (.inl e))⟩

set_option maxHeartbeats 1000000 in
theorem diskRead_any (h : DiskAt w D S) (hk : S.ok) (f a n : Int) (ha : a ≤ 9223372036854775807) (hn : n ≤ 9223372036854775807) :
    Calls Tryd.prog 34 #[.pointer (some ⟨D.p, 0, none⟩), .int .i64 f, .int .i64 a, .int .i64 n] w fun e w' => e = .returned (.tuple #[str (S.Read f a n).1, .int .i64 (S.Read f a n).2]) ∧ Below w.heap.size w w' := by
  have hdn := h.down
  cases hd : S.down with
  | true =>
    have e : S.Read f a n = ([], 9) := by unfold St.Read; rw [if_pos hd]
    rw [e]
    rw [hd] at hdn
    clear h
    go_enter Tryd.func34, Tryd.ntmps34
    go_wp2_with fail
    go_ret2
    exact ⟨rfl, Below.refl _ _⟩
  | false =>
    rw [hd] at hdn
    have hfc := isFile_any f
    have e0 : S.Read f a n = if !isF f || decide (a < 0) || decide (n < 0) then ([], 1) else (S.now.read f.toNat a.toNat n.toNat, 0) := by unfold St.Read; rw [hd]; rfl
    have bad : (!isF f || decide (a < 0) || decide (n < 0)) = true → S.Read f a n = ([], 1) := fun h => by rw [e0, if_pos h]
    have BAD := Lib.hid bad
    have E0 := Lib.hid e0
    have HD := Lib.hid hd
    clear e0 bad hd
    cases hf : isF f with
    | false =>
      rw [BAD.out (by rw [hf]; rfl)]
      rw [hf] at hfc
      clear h hf
      go_enter Tryd.func34, Tryd.ntmps34
      go_wp2_with ((go_at_call 57; refine (hfc _).mono ?_; rintro e w' ⟨rfl, rfl⟩))
      go_ret2
      exact ⟨rfl, Below.refl _ _⟩
    | true =>
      rw [hf] at hfc
      have HF := Lib.hid hf
      clear hf
      by_cases h1 : a < 0
      · rw [BAD.out (by rw [HF.out]; simp [h1])]
        clear h
        go_enter Tryd.func34, Tryd.ntmps34
        go_wp2_with ((go_at_call 57; refine (hfc _).mono ?_; rintro e w' ⟨rfl, rfl⟩))
        go_ret2
        exact ⟨rfl, Below.refl _ _⟩
      · by_cases h2 : n < 0
        · rw [BAD.out (by rw [HF.out]; simp [h2])]
          clear h
          go_enter Tryd.func34, Tryd.ntmps34
          go_wp2_with ((go_at_call 57; refine (hfc _).mono ?_; rintro e w' ⟨rfl, rfl⟩))
          go_ret2
          exact ⟨rfl, Below.refl _ _⟩
        · obtain ⟨h0, h16, hn16, hc⟩ := isF_nat HF.out
          have e1 : S.Read f a n = (S.now.read f.toNat a.toNat n.toNat, 0) := by rw [E0.out, if_neg]; rw [HF.out]; simp; omega
          rw [e1]
          obtain ⟨fn, rfl⟩ : ∃ k : Nat, f = k := ⟨f.toNat, by omega⟩
          obtain ⟨an, rfl⟩ : ∃ k : Nat, a = k := ⟨a.toNat, by omega⟩
          obtain ⟨nn, rfl⟩ : ∃ k : Nat, n = k := ⟨n.toNat, by omega⟩
          simp only [Int.toNat_natCast] at *
          have HR := Lib.hid (read_any D.p 0 D.m1 fn an nn S.now w h.now (hk.now.room fn) hn16 (by omega) (by omega))
          clear h e1
          go_enter Tryd.func34, Tryd.ntmps34
          go_wp2_with (first
            | (go_at_call 57; refine (hfc _).mono ?_; rintro e w' ⟨rfl, rfl⟩)
            | (go_at_call 58; refine HR.out.mono ?_; rintro e w' ⟨rfl, hb⟩))
          go_ret2
          exact ⟨rfl, hb⟩
end
end Dsk
end Go.Proofs.YtpogoalbnbekaaaDoor

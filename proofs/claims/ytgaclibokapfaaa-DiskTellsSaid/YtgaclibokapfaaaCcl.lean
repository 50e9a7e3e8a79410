/- Copies of contents and of queues. -/
import Derived.Test.YtgaclibokapfaaaNew
import Derived.Test.YtgaclibokapfaaaClo
import Derived.Test.YtgaclibokapfaaaHeld
namespace Go.Proofs.Ytgaclibokapfaaa
open Go.RowKit Wire
set_option linter.unusedVariables false
set_option linter.unusedSimpArgs false
namespace Dsk

/-- Contents lie at offset o of block g. -/
structure ConAt (w : World) (g o m : Nat) (C : Con) : Prop where
  cells : w.rangeAt g o (conL m C)
  there : w.there g o 17
  map : MapC w m C

section
variable {w w' : World} {g o m : Nat} {C : Con}
theorem ConAt.ptr (h : ConAt w g o m C) : w.cell? ⟨g, o, none⟩ = some (.map (some m)) := h.cells 0 _ rfl
theorem ConAt.siz (h : ConAt w g o m C) {f : Nat} (hf : f < 16) : w.cell? ⟨g, o + (1 + f), none⟩ = some (.int .i64 (C.size f)) := h.cells (1 + f) _ (conL_siz m C hf)
theorem ConAt.free (h : ConAt w g o m C) {f : Nat} (hf : f < 16) : w.frozen? ⟨g, o + (1 + f), none⟩ = false := (h.there (1 + f) (by omega)).2
theorem ConAt.lt (h : ConAt w g o m C) : g < w.heap.size := World.block_lt_of_cell? w _ h.ptr
theorem ConAt.keep (h : ConAt w g o m C) (e : w'.heap[g]? = w.heap[g]?) (k : w'.heap[m]? = w.heap[m]?) : ConAt w' g o m C := ⟨range_keep h.cells e, there_keep h.there e, h.map.keep k⟩
theorem ConAt.below (h : ConAt w g o m C) (b : Below w.heap.size w w') : ConAt w' g o m C := h.keep (b.block g h.lt) (b.block m h.map.lt)

/-- The sizes of files, as cells. -/
def sizL (C : Con) : List Value := (List.range 16).map fun f => .int .i64 (C.size f)
theorem conL_eq (m : Nat) (C : Con) : conL m C = .map (some m) :: sizL C := rfl
theorem sizL_len (C : Con) : (sizL C).length = 16 := by unfold sizL; simp
theorem sizL_one (C : Con) : ∀ v ∈ sizL C, v.oneCell' = true := fun v hv => conL_one 0 C v (by rw [conL_eq]; exact List.mem_cons_of_mem _ hv)
theorem ConAt.sizes (h : ConAt w g o m C) : w.rangeAt g (o + 1) (sizL C) := by
  intro j v hv
  have := h.cells (1 + j) v (by rw [conL_eq, Nat.add_comm, List.getElem?_cons_succ]; exact hv)
  rwa [← Nat.add_assoc] at this
end

theorem build_16 (w : World) (m : Nat) (a0 a1 a2 a3 a4 a5 a6 a7 a8 a9 a10 a11 a12 a13 a14 a15 : Int) : (Instr.build 55 #[(0, .map (some m)), (1, .agg #[.int .i64 a0, .int .i64 a1, .int .i64 a2, .int .i64 a3, .int .i64 a4, .int .i64 a5, .int .i64 a6, .int .i64 a7, .int .i64 a8, .int .i64 a9, .int .i64 a10, .int .i64 a11, .int .i64 a12, .int .i64 a13, .int .i64 a14, .int .i64 a15])]).run Try.prog w = .ok (.agg #[.map (some m), .int .i64 a0, .int .i64 a1, .int .i64 a2, .int .i64 a3, .int .i64 a4, .int .i64 a5, .int .i64 a6, .int .i64 a7, .int .i64 a8, .int .i64 a9, .int .i64 a10, .int .i64 a11, .int .i64 a12, .int .i64 a13, .int .i64 a14, .int .i64 a15]) w := by kernel_rfl
theorem build_con (w : World) (m : Nat) (C : Con) : (Instr.build 55 #[(0, .map (some m)), (1, .agg (sizL C).toArray)]).run Try.prog w = .ok (.agg (conL m C).toArray) w :=
  build_16 w m (C.size 0) (C.size 1) (C.size 2) (C.size 3) (C.size 4) (C.size 5) (C.size 6) (C.size 7) (C.size 8) (C.size 9) (C.size 10) (C.size 11) (C.size 12) (C.size 13) (C.size 14) (C.size 15)

theorem results_mid {fn : Func} {p : Tmp} {ty : TypeId} (h : fn.results = #[.cell p ty]) (tmps : Array Value) (w : World) (g : Nat) (cs : List Value) (d : TypeDesc)
    (hp : tmps.getD p undef = .pointer (some ⟨g, 0, none⟩)) (hc : w.rangeAt g 0 cs)
    (hu : Try.prog.underlying ty = some d) (hd : d.isRow = true) (hi : (Try.prog.info? ty).map (·.size) = some cs.length) :
    (results fn tmps).run Try.prog w = .ok (.agg cs.toArray) w := by
  have hp' : tmps[p]?.getD undef = .pointer (some ⟨g, 0, none⟩) := by simpa using hp
  simp [results, h, hp', asAddr, run_loadVar_mid w g 0 ty cs d hc hu hd hi]

theorem all_one {cs : List Value} (h : ∀ v ∈ cs, v.oneCell' = true) : cs.toArray.all (·.oneCell') = true := by
  rw [Array.all_eq_true_iff_forall_mem]
  intro v hv
  exact h v (by simpa using hv)

/-- A new block of n cells can be written. -/
theorem there_new {w w2 : World} {t : TypeId} {cs : Array Value} (b : Below (w.heap.size + 1) (w.alloc (.cells cs t)) w2) : w2.there w.heap.size 0 cs.size := by
  have hb : Blk w2 w.heap.size t cs := (Blk.fresh w t cs).under b (by omega)
  intro j hj
  rw [Nat.zero_add, hb.at, hb.thaw]
  exact ⟨by rw [Array.getElem?_eq_getElem hj]; rfl, rfl⟩
theorem new_step {w w2 : World} {t : TypeId} {cs : Array Value} (b2 : Below ((w.alloc (.cells cs t)).drew).heap.size ((w.alloc (.cells cs t)).drew) w2) : Below w.heap.size w w2 ∧ w2.there w.heap.size 0 cs.size := by
  have e : ((w.alloc (.cells cs t)).drew).heap.size = w.heap.size + 1 := by simp
  rw [e] at b2
  exact ⟨(((Below.refl _ w).alloc (Nat.le_refl _) _).drew).trans (b2.mono (by omega)), there_new (((Below.refl _ _).drew).trans b2)⟩
theorem range_stored {w : World} {g n : Nat} {cs : List Value} (h : w.there g 0 n) (hn : cs.length = n) : (w.setCells g 0 cs).rangeAt g 0 cs := by
  intro j v hv
  obtain ⟨hj, e⟩ := List.getElem?_eq_some_iff.1 hv
  rw [World.cell?_setCells_in g cs 0 w (fun i hi => (h i (by omega)).1) j hj, e]
theorem below_stored {w w2 : World} {g : Nat} {cs : List Value} {B : Nat} (h : Below B w w2) (hg : B ≤ g) (hB : B ≤ w.heap.size) : Below B w (w2.setCells g 0 cs) := by
  have := grown_setCells g cs 0 w2
  exact ⟨this.os.trans h.os, this.tape.trans h.tape, this.output.trans h.output, Nat.le_trans h.size this.size, fun k hk =>
    (this.block k (Nat.lt_of_lt_of_le (Nat.lt_of_lt_of_le hk hB) h.size) (fun e => by injection e; omega)).trans (h.block k hk)⟩
theorem heap_setCells {w : World} {g m : Nat} {cs : List Value} (h : m < w.heap.size) (hne : m ≠ g) : (w.setCells g 0 cs).heap[m]? = w.heap[m]? :=
  (grown_setCells g cs 0 w).block m h fun e => hne (by injection e)

abbrev Lies (g o m : Nat) (C : Con) (L : List Value) (w' : World) : Prop := w'.cell? ⟨g, o, none⟩ = some (.map (some m)) ∧ w'.rangeAt g (o + 1) L ∧ MapC w' m C

theorem bcell {W w1 : World} (hb : Below W.heap.size W w1) : (∀ b o, b < W.heap.size → w1.cell? ⟨b, o, none⟩ = W.cell? ⟨b, o, none⟩) ∧ (∀ b o, b < W.heap.size → w1.frozen? ⟨b, o, none⟩ = W.frozen? ⟨b, o, none⟩) :=
  ⟨fun b o h => hb.cell (p := ⟨b, o, none⟩) h, fun b o h => hb.frozen (p := ⟨b, o, none⟩) h⟩

theorem run_build_op {o : Oper} {a : Act} {t : TypeId} {parts : Array (Nat × Operand)} {w : World} {v : Value} (ps : List (Nat × Value)) (ho : o.op = .build t parts) (hp : (parts.toList.map fun p => (p.1, a.eval p.2)) = ps) (h : (Instr.build t ps.toArray).run Try.prog w = .ok v w) :
    (execOp a.eval o).run Try.prog w = .ok (.value v) w := by
  have e : (parts.map fun p => (p.1, a.eval p.2)) = ps.toArray := by
    apply Array.ext'
    rw [Array.toList_map, hp]
  unfold execOp
  simp only [ho]
  rw [e]
  simp only [Sem.run_bind, h, Result.andThen_ok]
  rfl

theorem below_new {w : World} (o : Obj) : Below w.heap.size w (w.alloc o).drew := ((Below.refl _ w).alloc (Nat.le_refl _) _).drew

set_option maxRecDepth 8000 in
set_option maxHeartbeats 4000000 in
theorem ccl_any (g o m : Nat) (C : Con) (w : World) (h : ConAt w g o m C) :
    Calls Try.prog 43 #[.pointer (some ⟨g, o, none⟩)] w fun e w' => ∃ m', e = .returned (.agg (conL m' C).toArray) ∧ MapC w' m' C ∧ Below w.heap.size w w' ∧ w.heap.size ≤ m' := by
  have HLies : Hid (∀ w', Below w.heap.size w w' → Lies g o m C (sizL C) w') := Lib.hid fun w' b => ⟨(h.below b).ptr, (h.below b).sizes, (h.below b).map⟩
  have hi : (Try.prog.info? 53).map (·.size) = some (sizL C).length := by rw [sizL_len]; kernel_rfl
  clear h
  go_enter Try.func43, Try.ntmps43
  go_wp2_with fail
  refine wp_region_sorted (Lies g o m C (sizL C)) [0, 1, 2, 3, 5, 6, 7, 8] [4, 9, 10] (by kernel_rfl) (by kernel_rfl) (HLies.out _ (below_new _)) ?_
  repeat refine RD.next rfl rfl (by intro w' hS; simp only [Lies] at hS; go_simp; with_reducible rfl) ?_
  refine RD.nextY rfl rfl (yieldsIf_load_mid rfl _ _ rfl g (o + 1) rfl (sizL C) _ (fun w' hS => hS.2.1) Try.underlying53 rfl hi) ?_
  refine RD.done ?_
  refine CH.next rfl rfl fun K hK => ?_
  go_simp
  refine (cloneC_any m C _ (HLies.out _ (below_new _)).2.2).mono ?_
  rintro e w2 ⟨m', rfl, hm', b2, hle⟩
  obtain ⟨B2, T2⟩ := new_step b2
  simp only [Oper.upon]
  refine hK _ _ (HLies.out _ B2) ?_
  clear hK
  refine CH.next rfl rfl fun K hK => ?_
  refine wp_of_run (v := .agg (conL m' C).toArray) (w' := w2) ?_ ?_
  · have hb := build_con w2 m' C
    exact run_build_op [(0, .map (some m')), (1, .agg (sizL C).toArray)] rfl rfl hb
  refine hK _ _ (HLies.out _ B2) ?_
  clear hK
  refine CH.next rfl rfl fun K hK => ?_
  refine wp_store_mid _ _ _ rfl w.heap.size 0 (conL m' C).toArray rfl rfl ?_ ?_ (all_one (conL_one m' C)) ?_
  · rw [show (conL m' C).toArray.size = 17 from conL_len m' C]
    exact T2
  · rw [show (conL m' C).toArray.size = 17 from conL_len m' C]
    kernel_rfl
  have hlt : w.heap.size + 1 ≤ m' := by simpa using hle
  have HB := Lib.hid (below_stored (cs := conL m' C) B2 (Nat.le_refl _) (Nat.le_refl _))
  have HM := Lib.hid (hm'.keep (heap_setCells (cs := conL m' C) (g := w.heap.size) hm'.lt (by omega)))
  have HR := Lib.hid (range_stored (cs := conL m' C) T2 (conL_len m' C))
  refine hK _ _ (HLies.out _ HB.out) ?_
  clear hK b2 hle hm' B2 T2
  refine CH.done (NoPanic.normal ?_)
  rw [List.toList_toArray]
  generalize w2.setCells w.heap.size 0 (conL m' C) = w3 at *
  go_wp2_with fail
  refine bodyPost_ret (v := .agg (conL m' C).toArray) ?_ rfl ⟨m', rfl, HM.out, HB.out, by omega⟩
  exact results_mid rfl _ w3 w.heap.size (conL m' C) _ rfl HR.out Try.underlying55 rfl (by rw [conL_len]; kernel_rfl)
end Dsk
end Go.Proofs.Ytgaclibokapfaaa

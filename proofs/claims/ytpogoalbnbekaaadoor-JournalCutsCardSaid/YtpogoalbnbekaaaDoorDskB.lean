/- Package disk: contents are written and read; the queue. -/
import Derived.Test.YtpogoalbnbekaaaDoorDskA
import Derived.LoopTactic
import Derived.Deep.DeepCutAuto
import Derived.Deep.RegionWith
import Derived.Maps.RangeRun
import Derived.Maps.RangeWalk

/-! Bytes put into a sector. -/
namespace Go.Proofs.YtpogoalbnbekaaaDoor
open Go.RowKit Wire
set_option linter.unusedVariables false
set_option linter.unusedSimpArgs false
open Txt
namespace Dsk

/-- What lies in memory when a sector is looked up. -/
abbrev Lks (A g o m f n : Nat) (C : Con) (w' : World) : Prop := w'.cell? ⟨g, o, none⟩ = some (.map (some m)) ∧ w'.cell? ⟨A, 0, none⟩ = some (.int .i64 f) ∧ w'.cell? ⟨A, 1, none⟩ = some (.int .i64 n) ∧
  (Instr.lookup 56 (.map (some m)) (.agg #[.int .i64 f, .int .i64 n]) false).run Tryd.prog w' = .ok (blockV C f n) w'

/-- A sector that was boxed, contents that lie elsewhere. -/
structure Held2 (w : World) (A g o m f n : Nat) (C : Con) : Prop where
  con : ConAt w g o m C
  box : Blk w A 88 #[.int .i64 f, .int .i64 n]
theorem Held2.lks {w : World} {A g o m f n : Nat} {C : Con} (h : Held2 w A g o m f n C) (hf : f < 16) (hn : n ≤ 262144) : Lks A g o m f n C w :=
  ⟨h.con.ptr, by rw [h.box.at]; rfl, by rw [h.box.at]; rfl, h.con.map.lookup hf hn⟩
theorem Held2.below {w w' : World} {A g o m f n : Nat} {C : Con} (h : Held2 w A g o m f n C) (b : Below w.heap.size w w') : Held2 w' A g o m f n C :=
  ⟨h.con.below b, h.box.under b h.box.inside⟩


theorem blk_put {C : Con} {f n a k : Nat} {s : ByteArray} (hk : k ≤ s.size) (hk0 : 0 < k) (ha : a + k ≤ 64) : ∀ j, j < (blkL (C.put f (64 * n + a) ((bl s).take k)) f n).length →
    (blkL (C.put f (64 * n + a) ((bl s).take k)) f n)[j]? = if a ≤ j ∧ j < a + ((byteCells s).take k).length then ((byteCells s).take k)[j - a]? else (blkL C f n)[j]? := by
  intro j hj
  rw [blkL_len] at hj
  have hl : ((bl s).take k).length = k := by rw [List.length_take, bl_len]; omega
  have hl2 : ((byteCells s).take k).length = k := by rw [List.length_take, byteCells_length]; omega
  rw [blkL_get _ _ _ _ hj, blkL_get _ _ _ _ hj, Con.put_byte, hl, hl2]
  by_cases h : a ≤ j ∧ j < a + k
  · rw [if_pos h, if_pos (by omega), show 64 * n + j - (64 * n + a) = j - a from by omega]
    unfold byteCells
    rw [← List.map_take, List.getElem?_map, List.getD_eq_getElem?_getD]
    have h2 : j - a < ((bl s).take k).length := by omega
    show some (Value.int .u8 (((bl s).take k)[j - a]?.getD 0).toNat) = Option.map _ (((bl s).take k)[j - a]?)
    rw [List.getElem?_eq_getElem h2]
    rfl
  · rw [if_neg h, if_neg (by omega)]
theorem blk_other {C : Con} {f n a : Nat} {l : List UInt8} (h : a + l.length ≤ 64) {g k : Nat} (hne : ¬ (g = f ∧ k = n)) : blockV (C.put f (64 * n + a) l) g k = blockV C g k :=
  blockV_same fun j hj => by
    rw [Con.put_byte, if_neg]
    rintro ⟨rfl, h1, h2⟩
    exact hne ⟨rfl, by omega⟩

/-- Nothing but n cells of block g, from offset o on, has changed in it. -/
def Keeps (w w' : World) (g o n : Nat) : Prop := ∀ j, j < o ∨ o + n ≤ j → w'.cell? ⟨g, j, none⟩ = w.cell? ⟨g, j, none⟩ ∧ w'.frozen? ⟨g, j, none⟩ = w.frozen? ⟨g, j, none⟩
theorem Keeps.refl (w : World) (g o n : Nat) : Keeps w w g o n := fun _ _ => ⟨rfl, rfl⟩
theorem Keeps.block {w w' : World} {g o n : Nat} (h : w'.heap[g]? = w.heap[g]?) : Keeps w w' g o n := fun j _ => ⟨World.cell?_of_block (a := ⟨g, j, none⟩) h, World.frozen?_of_block (a := ⟨g, j, none⟩) h⟩
theorem Keeps.trans {a b c : World} {g o n : Nat} (h : Keeps a b g o n) (k : Keeps b c g o n) : Keeps a c g o n := fun j hj => ⟨(k j hj).1.trans (h j hj).1, (k j hj).2.trans (h j hj).2⟩
theorem Keeps.put {w : World} {g o n i : Nat} (v : Value) (h1 : o ≤ i) (h2 : i < o + n) : Keeps w (w.setCell ⟨g, i, none⟩ v) g o n := fun j hj =>
  ⟨World.cell?_setCell_other _ _ _ _ (by intro e; simp only [Addr.mk.injEq, and_true, true_and] at e; omega), World.frozen?_setCell _ _ _ _⟩

/-- What a call that puts bytes into contents leaves. -/
structure PutPost (g o m : Nat) (D : Con) (w w' : World) : Prop where
  con : ConAt w' g o m D
  keep : Keeps w w' g o 17
  only : Only (fun b => b = g ∨ b = m) w w'

abbrev Lk3 (A B g o m f n : Nat) (L : List Value) (w' : World) : Prop := w'.cell? ⟨g, o, none⟩ = some (.map (some m)) ∧ w'.cell? ⟨A, 0, none⟩ = some (.int .i64 f) ∧ w'.cell? ⟨A, 1, none⟩ = some (.int .i64 n) ∧ w'.rangeAt B 0 L
abbrev Lk4 (A g o f n : Nat) (z : Nat) (w' : World) : Prop := w'.cell? ⟨A, 0, none⟩ = some (.int .i64 f) ∧ w'.cell? ⟨A, 1, none⟩ = some (.int .i64 n) ∧ w'.cell? ⟨g, o + 1 + f, none⟩ = some (.int .i64 z) ∧ w'.frozen? ⟨g, o + 1 + f, none⟩ = false

theorem slice_arr (w : World) (g : Nat) {a : Nat} (ha : a < 64) : (Instr.sliceAt 114 (.pointer (some ⟨g, 0, none⟩)) (some (.int .i64 a)) none none).run Tryd.prog w = .ok (.slice (some ⟨g, a, none⟩) (64 - a) (64 - a)) w := by
  have h1 : (a : Int) ≤ 64 := by omega
  have h2 : ¬ 64 = a := by omega
  have hs : (sizeOf 5).run Tryd.prog w = .ok 1 w := by kernel_rfl
  have e : (⟨g, 0, none⟩ : Addr).add a = ⟨g, a, none⟩ := by rw [row_add', Nat.zero_add]
  have h3 : a ≤ 64 := by omega
  simp [Instr.sliceAt, Instr.sliceBounds, Instr.sliceBound, asIntOf, Instr.sureAddr, run_underlying Tryd.underlying114, h1, h2, h3, hs, e, Result.andThen]

theorem index_siz (w : World) (g o : Nat) {f : Nat} (hf : f < 16) : (Instr.indexAt 57 (.pointer (some ⟨g, o, none⟩)) (.int .i64 f)).run Tryd.prog w = .ok (.pointer (some ⟨g, o + f, none⟩)) w := by
  have h1 : (0 : Int) ≤ f ∧ (f : Int) < 16 := by omega
  have h2 : (f : Int) < 16 := by omega
  have hs : (sizeOf 3).run Tryd.prog w = .ok 1 w := by kernel_rfl
  simp [Instr.indexAt, asIntOf, Instr.sureAddr, run_underlying Tryd.underlying57, h1, h2, hs, row_add', Result.andThen]
  omega
theorem size_byte : (Tryd.prog.info? 5).map (·.size) = some 1 := by kernel_rfl
theorem copy_step {w2 : World} {B f n a k : Nat} {C : Con} {s : ByteArray} (hl : Lie w2 B 0 (blkL C f n)) (ha : a < 64) (hs : 0 < s.size) (hk : k = min s.size (64 - a)) :
    ∃ w3, (Builtin.copy_ #[50, 9] 3 #[.slice (some ⟨B, a, none⟩) (64 - a) (64 - a), .string s]).run Tryd.prog w2 = .ok (.int .i64 k) w3 ∧ Lie w3 B 0 (blkL (C.put f (64 * n + a) ((bl s).take k)) f n) ∧ w2.grownBy w3 (some B) := by
  have hl2 : ((byteCells s).take k).length = k := by rw [List.length_take, byteCells_length]; omega
  have ht := hl.there
  rw [blkL_len] at ht
  refine ⟨w2.setCells B a ((byteCells s).take k), run_copy_cells (P := Tryd.prog) Tryd.underlying50 size_byte (From.string s (k := k) (by omega)) (by show min s.size (64 - a) = k; omega) (fun j hj => by have := ht (a + j) (by omega); rwa [Nat.zero_add] at this), ?_, grown_cells _ _ _ _⟩
  have := Lie.part (i := a) (news := (byteCells s).take k) hl (ds := blkL (C.put f (64 * n + a) ((bl s).take k)) f n) (by rw [blkL_len, blkL_len]) (by rw [hl2, blkL_len]; omega) (blk_put (by omega) (by omega) (by omega))
  rwa [Nat.zero_add] at this

theorem store_step {w3 : World} {m f n a : Nat} {C : Con} {l : List UInt8} (hm : MapC w3 m C) (hf : f < 16) (hn : n < 262144) (hl : a + l.length ≤ 64) :
    ∃ w4, (Instr.mapUpdate 56 (.map (some m)) (.agg #[.int .i64 f, .int .i64 n]) (.agg (blkL (C.put f (64 * n + a) l) f n).toArray)).run Tryd.prog w3 = .ok () w4 ∧ MapC w4 m (C.put f (64 * n + a) l) ∧ w3.grownBy w4 (some m) :=
  hm.store hf (by omega) (C.put f (64 * n + a) l) fun g k hg hne => blk_other hl hne

/-- The new size of a file. -/
theorem size_put {w : World} {g o m f n a k : Nat} {C : Con} {s : ByteArray} (hc : w.rangeAt g o (conL m C)) (hf : f < 16) (hk0 : 0 < k) (hk : k ≤ s.size) {z : Int} (hz : z = (max (C.size f) (64 * n + a + k) : Nat)) : (w.setCell ⟨g, o + (1 + f), none⟩ (.int .i64 z)).rangeAt g o (conL m (C.put f (64 * n + a) ((bl s).take k))) := by
  have hl : ((bl s).take k).length = k := by rw [List.length_take, bl_len]; omega
  have hne : (bl s).take k ≠ [] := by
    intro e
    rw [e] at hl
    simp at hl
    omega
  have h1 := range_put hc (i := 1 + f) (by rw [conL_len]; omega) (.int .i64 z)
  rw [hz, show (max (C.size f) (64 * n + a + k) : Nat) = (C.put f (64 * n + a) ((bl s).take k)).size f from by rw [Con.put_size _ _ _ _ hne, if_pos rfl, hl]] at h1 ⊢
  rw [conL_set m C _ hf (fun g hg => Con.put_size_other _ _ _ _ hg)] at h1
  exact h1
set_option maxRecDepth 8000 in
set_option maxHeartbeats 4000000 in
theorem put_any (g o m f n a : Nat) (C : Con) (s : ByteArray) (w : World) (h : ConAt w g o m C) (hf : f < 16) (hn : n < 262144) (ha : a < 64) (hs : 0 < s.size) (hm : s.size ≤ maxLen) (hgm : g ≠ m) :
    Calls Tryd.prog 64 #[.pointer (some ⟨g, o, none⟩), .agg #[.int .i64 f, .int .i64 n], .int .i64 a, .string s] w fun e w' => ∃ k : Nat, e = .returned (.int .i64 k) ∧ k = min s.size (64 - a) ∧ PutPost g o m (C.put f (64 * n + a) ((bl s).take k)) w w' := by
  unfold maxLen at hm
  have H0 : Hid (Held2 (w.alloc (.cells #[.int .i64 f, .int .i64 n] 88)) w.heap.size g o m f n C) := Lib.hid ⟨h.below ((Below.refl _ w).alloc (Nat.le_refl _) _), Blk.fresh w _ _⟩
  have HL : Hid (Lks w.heap.size g o m f n C (w.alloc (.cells #[.int .i64 f, .int .i64 n] 88)).drew) := Lib.hid ((H0.out.below ((Below.refl _ _).drew)).lks hf (by omega))
  have h0 := h
  clear h
  have hlt := h0.lt
  have hml := h0.map.lt
  have HZ := Lib.hid (show (w.alloc (.cells #[.int .i64 f, .int .i64 n] 88)).heap.size = w.heap.size + 1 from by simp)
  have HB0 := Lib.hid (below_new (w := w) (.cells #[.int .i64 f, .int .i64 n] 88))
  have H00 := Lib.hid h0
  clear h0
  go_enter Tryd.func64, Tryd.ntmps64
  go_wp2_with fail
  refine wp_region_sorted (Lks w.heap.size g o m f n C) [0, 1, 2, 3, 4, 5] [6, 7] (by kernel_rfl) (by kernel_rfl) HL.out ?_
  repeat refine RD.next rfl rfl (by intro w' hS; simp only [Lks] at hS; go_simp; with_reducible rfl) ?_
  refine RD.done ?_
  refine CH.next rfl rfl fun K hK => ?_
  go_simp
  refine step_alloc 64 rfl ?_
  intro w1 ht1 hb1 hz1
  have H1 : Hid (Held2 w1 w.heap.size g o m f n C) := Lib.hid (H0.out.below hb1)
  refine hK _ _ (H1.out.lks hf (by omega)) ?_
  clear hK
  refine CH.next rfl rfl fun K hK => ?_
  rw [HZ.out] at ht1 hz1
  refine wp_store_lie _ _ _ rfl (w.heap.size + 1) 0 64 (blkL C f n) rfl rfl (blkL_len C f n) ht1 (by kernel_rfl) (blkL_one C f n) ?_
  intro w2 he2 hl2 hg2
  clear he2
  have H2 : Hid (Held2 w2 w.heap.size g o m f n C) := Lib.hid ⟨H1.out.con.keep (hg2.block g H1.out.con.lt (by simp; omega)) (hg2.block m H1.out.con.map.lt (by simp; omega)), H1.out.box.past hg2 (by simp)⟩
  refine hK _ _ (H2.out.lks hf (by omega)) ?_
  clear hK
  refine CH.done (NoPanic.normal ?_)
  have hlt2 : w.heap.size + 1 < w2.heap.size := by have := hg2.size; omega
  have HO : Hid (Below w.heap.size w w2) := Lib.hid ((((Below.refl _ w).alloc (Nat.le_refl _) _).trans (hb1.mono (by simp))).trans (grown_below hg2 (by omega) (by omega)))
  obtain ⟨k, hk⟩ : ∃ k, k = min s.size (64 - a) := ⟨_, rfl⟩
  have hkb : 0 < k ∧ k ≤ s.size ∧ a + k ≤ 64 := by omega
  obtain ⟨w3, hcp, hl3, hg3⟩ := copy_step (n := n) hl2 ha hs hk
  have HK := Lib.hid hk
  clear hk
  have H3 : Hid (Held2 w3 w.heap.size g o m f n C) := Lib.hid ⟨H2.out.con.keep (hg3.block g H2.out.con.lt (by simp; omega)) (hg3.block m H2.out.con.map.lt (by simp; omega)), H2.out.box.past hg3 (by simp)⟩
  have hkl : ((bl s).take k).length = k := by rw [List.length_take, bl_len]; omega
  obtain ⟨w4, hup, hm4, hg4⟩ := store_step (w3 := w3.drew) (a := a) (l := (bl s).take k) (H3.out.con.keep rfl rfl).map hf hn (by omega)
  have hsl := fun w' => slice_arr w' (w.heap.size + 1) ha
  clear hkl
  have HL3 := Lib.hid hl3
  have HM4 := Lib.hid hm4
  have HG4 := Lib.hid hg4
  have HG3 := Lib.hid hg3
  have HUP := Lib.hid hup
  have HLK : Hid (Lk3 w.heap.size (w.heap.size + 1) g o m f n (blkL (C.put f (64 * n + a) ((bl s).take k)) f n) w3.drew) := Lib.hid ⟨(H3.out.con.keep (w' := w3.drew) rfl rfl).ptr, (H3.out.lks hf (by omega)).2.1, (H3.out.lks hf (by omega)).2.2.1, hl3.cells⟩
  clear hl3 hm4 hg4 hg3 ht1 hb1 hl2 hg2 H1 hup
  go_wp2_with fail
  clear hsl hcp
  refine wp_region_sorted (Lk3 w.heap.size (w.heap.size + 1) g o m f n (blkL (C.put f (64 * n + a) ((bl s).take k)) f n)) [0, 1, 2, 3, 4, 5] [6] (by kernel_rfl) (by kernel_rfl) HLK.out ?_
  iterate 5 refine RD.next rfl rfl (by intro w' hS; simp only [Lk3] at hS; go_simp; with_reducible rfl) ?_
  refine RD.nextY rfl rfl (yieldsIf_load_mid rfl _ _ rfl (w.heap.size + 1) 0 rfl _ _ (fun w' hS => hS.2.2.2) Tryd.underlying114 rfl (by rw [blkL_len]; kernel_rfl)) ?_
  refine RD.done ?_
  refine CH.next rfl rfl fun K hK => ?_
  have hup := HUP.out
  go_simp
  clear hup
  have hbl : w.heap.size + 1 < w3.heap.size := Nat.lt_of_lt_of_le hlt2 HG3.out.size
  have hg4 : ∀ b, b < w3.heap.size → b ≠ m → w4.heap[b]? = w3.heap[b]? := fun b hb hne => HG4.out.block b hb (by intro e; injection e with e; exact hne e)
  have hgl : g < w3.heap.size := by omega
  have hne1 : w.heap.size ≠ m ∧ w.heap.size + 1 ≠ m := by omega
  have e1 := hg4 g hgl hgm
  have e2 := hg4 w.heap.size (by omega) hne1.1
  have e3 := hg4 (w.heap.size + 1) hbl hne1.2
  have HC := Lib.hid (range_keep H3.out.con.cells e1)
  have HT := Lib.hid (there_keep H3.out.con.there e1)
  have hb4 : Blk w4 w.heap.size 88 #[.int .i64 f, .int .i64 n] := e2.trans H3.out.box
  have HB4 := Lib.hid hb4
  have hsz4 := HG4.out.size
  have hb4d : Blk w4.drew w.heap.size 88 #[.int .i64 f, .int .i64 n] := hb4
  have HLK4 : Hid (Lk4 w.heap.size g o f n (C.size f) w4.drew) := Lib.hid ⟨by rw [hb4d.at]; rfl, by rw [hb4d.at]; rfl, by rw [Nat.add_assoc]; exact HC.out (1 + f) _ (conL_siz m C hf), by rw [Nat.add_assoc]; exact (HT.out (1 + f) (by omega)).2⟩
  refine hK _ _ ⟨HC.out 0 _ rfl, by rw [hb4.at]; rfl, by rw [hb4.at]; rfl, (HL3.out.keep e3).cells⟩ ?_
  clear hK e1 e2 e3 hg4 hb4 hb4d
  refine CH.done (NoPanic.normal ?_)
  go_wp2_with fail
  refine wp_region_late (Lk4 w.heap.size g o f n (C.size f)) [0, 1, 2, 3, 4, 5, 6, 7, 8, 9, 10, 11, 12, 13, 14, 15, 16, 17] [18, 19, 20] [21] (by kernel_rfl) (by kernel_rfl) (by kernel_rfl) HLK4.out ?_
  have hix := fun w' => index_siz w' g (o + 1) hf
  have hb1 : (0 : Int) ≤ n ∧ (n : Int) < 262144 ∧ (0 : Int) ≤ a ∧ (a : Int) < 64 ∧ (0 : Int) ≤ k ∧ (k : Int) ≤ 64 := by omega
  have hn64 : IntKind.i64.wrap ((n : Int) * 64) = (n : Int) * 64 := IntWalk.i64_in _ (by omega)
  have hn65 : IntKind.i64.wrap ((n : Int) * 64 + a) = (n : Int) * 64 + a := IntWalk.i64_in _ (by omega)
  have hn66 : IntKind.i64.wrap ((n : Int) * 64 + a + k) = (n : Int) * 64 + a + k := IntWalk.i64_in _ (by omega)
  repeat refine RD.next rfl rfl (by intro w' hS; simp only [Lk4] at hS; go_simp; with_reducible rfl) ?_
  refine RD.done ?_
  have hS := HLK4.out
  simp only [Lk4] at hS
  iterate 3
    refine CHW.next rfl rfl fun K hK => ?_
    go_simp
    refine hK _ _ HLK4.out ?_
    clear hK
  refine CHW.done ?_
  clear hix hn64 hn65 hn66
  refine CH.next rfl rfl fun K hK => ?_
  go_simp
  clear hS
  obtain ⟨z, hz⟩ : ∃ z : Int, z = (if (C.size f : Int) < (n : Int) * 64 + (a : Int) + (k : Int) then (n : Int) * 64 + (a : Int) + (k : Int) else (C.size f : Int)) := ⟨_, rfl⟩
  rw [← hz]
  have hz2 : z = ((max (C.size f) (64 * n + a + k) : Nat) : Int) := by omega
  clear hz
  refine hK _ _ trivial ?_
  clear hK
  refine CH.done (NoPanic.normal ?_)
  have HF : Hid (PutPost g o m (C.put f (64 * n + a) ((bl s).take k)) w (w4.setCell ⟨g, o + 1 + f, none⟩ (.int .i64 z)).drew) := Lib.hid (by
    have k1 : Keeps w w2 g o 17 := Keeps.block (HO.out.block g hlt)
    have k2 : Keeps w2 w3 g o 17 := Keeps.block (HG3.out.block g (by omega) (by intro e; injection e with e; omega))
    have k3 : Keeps w3 w4 g o 17 := Keeps.block (HG4.out.block g hgl (by intro e; injection e with e; exact hgm e))
    have k4 : Keeps w4 (w4.setCell ⟨g, o + 1 + f, none⟩ (.int .i64 z)) g o 17 := Keeps.put _ (by omega) (by omega)
    have o1 : Only (fun b => b = g ∨ b = m) w w2 := Only.of_below HO.out
    have o2 : Only (fun b => b = w.heap.size + 1) w2 w3 := Only.of_grown HG3.out (.inl rfl)
    have o3 : Only (fun b => b = g ∨ b = m) w3 w4 := Only.of_grown (a := w3) (b := w4) (m := m) ⟨HG4.out.os, HG4.out.tape, HG4.out.output, HG4.out.size, HG4.out.block⟩ (.inl (.inr rfl))
    have o4 : Only (fun b => b = g ∨ b = m) w4 (w4.setCell ⟨g, o + 1 + f, none⟩ (.int .i64 z)) := Only.set _ _ _ _ (.inl rfl)
    have o12 := (o1.trans o2 fun x hx => .inr (by omega)).same (o3.same o4)
    refine ⟨⟨?_, ?_, ?_⟩, ((k1.trans k2).trans k3).trans k4, ⟨o12.os, o12.tape, o12.output, o12.size, o12.block⟩⟩
    · have := size_put (n := n) (a := a) (s := s) HC.out hf hkb.1 hkb.2.1 hz2
      rw [← Nat.add_assoc] at this
      exact this
    · exact there_put HT.out _ _
    · exact HM4.out.keep (Below.heap_setCell _ _ _ _ (fun e => hgm e.symm)))
  generalize (w4.setCell ⟨g, o + 1 + f, none⟩ (.int .i64 z)).drew = w5 at *
  go_wp2_with fail
  go_ret
  exact ⟨k, rfl, HK.out, HF.out⟩
end Dsk
end Go.Proofs.YtpogoalbnbekaaaDoor

/-! Bytes read out of contents. -/
namespace Go.Proofs.YtpogoalbnbekaaaDoor
open Go.RowKit Wire
set_option linter.unusedVariables false
set_option linter.unusedSimpArgs false
open Txt
namespace Dsk

/-- 'var b block', or a variable for one. -/
theorem wpList_alloc_blk {w : World} {ops : Array Oper} {rest : List Oper} {o : Oper} {a : Act} {Q : Exit → Act → World → Prop} (hgd : o.guard = none) (ho : o.op = .alloc 114)
    (h : ∀ w', w'.there w.heap.size 0 64 → Below w.heap.size w w' → w'.heap.size = w.heap.size + 1 → wpList Tryd.prog ops Q rest (a.put o.dst (.pointer (some ⟨w.heap.size, 0, none⟩))) w') : wpList Tryd.prog ops Q (o :: rest) a w :=
  wpList_plain hgd fun K hK => by
    have hb : Blk (w.alloc (.cells (Array.replicate 64 (.int .u8 0)) 114)) w.heap.size _ _ := Blk.fresh w _ _
    have hr : (execOp a.eval o).run Tryd.prog w = .ok (.value (.pointer (some ⟨w.heap.size, 0, none⟩))) (w.alloc (.cells (Array.replicate 64 (.int .u8 0)) 114)) := by
      unfold execOp
      simp only [ho]
      kernel_rfl
    unfold Oper.wp
    rw [hr]
    refine hK _ _ (h _ (fun j hj => ?_) ((Below.refl _ w).alloc (Nat.le_refl _) _) (by simp))
    rw [Nat.zero_add, hb.at, hb.thaw]
    exact ⟨by rw [Array.getElem?_eq_getElem (by simpa using hj)]; rfl, rfl⟩

theorem wpList_store_blk {w : World} {ops : Array Oper} {rest : List Oper} {o : Oper} {a : Act} {Q : Exit → Act → World → Prop} (hgd : o.guard = none) (x y : Operand) (ho : o.op = .store 114 x y) (g : Nat) (cs : List Value)
    (hx : a.eval x = .pointer (some ⟨g, 0, none⟩)) (hy : a.eval y = .agg cs.toArray) (hn : cs.length = 64) (ht : w.there g 0 64) (h1 : ∀ v ∈ cs, v.oneCell' = true)
    (h : ∀ w', Lie w' g 0 cs → w.grownBy w' (some g) → wpList Tryd.prog ops Q rest (a.put o.dst undef) w') : wpList Tryd.prog ops Q (o :: rest) a w :=
  wpList_plain hgd fun K hK => wp_store_lie 114 x y ho g 0 64 cs hx hy hn ht (by kernel_rfl) h1 fun w' _ h2 h3 => hK _ _ (h w' h2 h3)

theorem wpList_make_bytes {w : World} {ops : Array Oper} {rest : List Oper} {o : Oper} {a : Act} {Q : Exit → Act → World → Prop} (hgd : o.guard = none) (l c : Operand) (hop : o.op = Op.makeSlice 50 l c) (n : Nat) (L M : Int) (hl : a.eval l = .int .i64 L) (hc : a.eval c = .int .i64 M) (hL : L = n) (hC : M = n) (hn : n ≤ 1000000000)
    (h : ∀ w', w'.there w.heap.size 0 n → Below w.heap.size w w' → w.heap.size < w'.heap.size → wpList Tryd.prog ops Q rest (a.put o.dst (.slice (some ⟨w.heap.size, 0, none⟩) n n)) w') :
    wpList Tryd.prog ops Q (o :: rest) a w := by
  refine wpList_plain hgd fun K hK' => ?_
  obtain ⟨i0, hi0, hi1, hi2, hi3⟩ := info_parts info_byte
  have hrun := run_make (P := Tryd.prog) w 50 5 i0 (.int .u8 0) Tryd.underlying50 hi0 hi1 .i64 .i64 (n : Int) (n : Int) (by omega) (by omega) (by rw [hi3]; omega) (by omega)
  have e : ((n : Int)).toNat = n := by omega
  rw [e, hi2, Nat.mul_one] at hrun
  subst hL
  subst hC
  have hb : Blk (w.alloc (.cells (madeCells (Value.int .u8 0).cells n) 5)) w.heap.size _ _ := Blk.fresh w _ _
  have hz : (madeCells (Value.int .u8 0).cells n).size = n := size_madeCells _ _
  unfold Oper.wp
  simp [execOp, hop, hl, hc, hrun, Result.andThen]
  refine hK' _ _ (h _ (fun j hj => ?_) ((Below.refl _ w).alloc (Nat.le_refl _) _) (by simp))
  rw [Nat.zero_add, hb.at, hb.thaw]
  exact ⟨by rw [Array.getElem?_eq_getElem (by omega)]; rfl, rfl⟩

theorem slice_row (w : World) (g : Nat) {k n : Nat} (hk : k < n) : (Instr.sliceAt 50 (.slice (some ⟨g, 0, none⟩) n n) (some (.int .i64 k)) none none).run Tryd.prog w = .ok (.slice (some ⟨g, k, none⟩) (n - k) (n - k)) w := by
  have h1 : (k : Int) ≤ n := by omega
  have h2 : ¬ n = k := by omega
  have h3 : k ≤ n := by omega
  have hs : (sizeOf 5).run Tryd.prog w = .ok 1 w := by kernel_rfl
  have e : (⟨g, 0, none⟩ : Addr).add k = ⟨g, k, none⟩ := by rw [row_add', Nat.zero_add]
  simp [Instr.sliceAt, Instr.slice, Instr.sliceBounds, Instr.sliceBound, asIntOf, run_underlying Tryd.underlying50, h1, h2, h3, hs, e, Result.andThen]

/-- The head of a round: k bytes are there. -/
structure RedRel (W : World) (g o m : Nat) (C : Con) (f a n G : Nat) (iv : Value) (w : World) (k : Nat) : Prop where
  i : iv = .int .i64 k
  le : k ≤ min n (C.size f - a)
  con : ConAt w g o m C
  below : Below W.heap.size W w
  new : W.heap.size ≤ G ∧ G < w.heap.size
  there : w.there G 0 (min n (C.size f - a))
  bytes : ∀ j, j < k → w.cell? ⟨G, j, none⟩ = some (.int .u8 (C.byte f (a + j)).toNat)

theorem blk_part {C : Con} {f q r c : Nat} {j : Nat} (hj : j < c) (hc : c ≤ 64 - r) : (((blkL C f q).drop r).take c)[j]? = some (.int .u8 (C.byte f (64 * q + (r + j))).toNat) := by
  rw [List.getElem?_take, if_pos hj, List.getElem?_drop, blkL_get _ _ _ _ (by omega)]

theorem RedRel.next {W wr w2 w3 : World} {g o m f a n G k c L : Nat} {C : Con} (hL : L = min n (C.size f - a)) (hkl : k ≤ L) (hcon : ConAt wr g o m C) (hbel : Below W.heap.size W wr) (hnew : W.heap.size ≤ G ∧ G < wr.heap.size) (hg : g < W.heap.size) (hm : m < W.heap.size)
    (hth : wr.there G 0 L) (hby : ∀ j, j < k → wr.cell? ⟨G, j, none⟩ = some (.int .u8 (C.byte f (a + j)).toNat)) (hb2 : Below wr.heap.size wr w2) (hz2 : w2.heap.size = wr.heap.size + 1) (hg3 : w2.grownBy w3 (some wr.heap.size))
    (hc : 0 < c ∧ c ≤ 64 - (a + k) % 64 ∧ c ≤ L - k) : RedRel W g o m C f a n G (.int .i64 ((k + c : Nat) : Int)) (w3.drew.setCells G k (((blkL C f ((a + k) / 64)).drop ((a + k) % 64)).take c)) (k + c) := by
  have e3 : ∀ b, b < wr.heap.size → w3.drew.heap[b]? = wr.heap[b]? := fun b hb => (hg3.block b (by omega) (by intro e; injection e with e; omega)).trans (hb2.block b hb)
  have hgr := grown_cells G (((blkL C f ((a + k) / 64)).drop ((a + k) % 64)).take c) k w3.drew
  have hs3 : wr.heap.size < w3.drew.heap.size := by have := hg3.size; show _ < w3.heap.size; omega
  have e4 : ∀ b, b < wr.heap.size → b ≠ G → (w3.drew.setCells G k (((blkL C f ((a + k) / 64)).drop ((a + k) % 64)).take c)).heap[b]? = wr.heap[b]? := fun b hb hne => (hgr.block b (by omega) (by intro e; injection e with e; exact hne e)).trans (e3 b hb)
  have hs := hbel.size
  have hdl : (((blkL C f ((a + k) / 64)).drop ((a + k) % 64)).take c).length = c := by rw [List.length_take, List.length_drop, blkL_len]; omega
  have ht3 : w3.drew.there G 0 L := there_keep hth (e3 G hnew.2)
  refine ⟨rfl, by omega, hcon.keep (e4 g (by omega) (by omega)) (e4 m (by omega) (by omega)), ?_, ⟨hnew.1, Nat.lt_of_lt_of_le (Nat.lt_trans hnew.2 hs3) hgr.size⟩, ?_, fun j hj => ?_⟩
  · have o2 : Below W.heap.size W w2 := hbel.trans (hb2.mono hs)
    have o3 : Below W.heap.size W w3 := o2.trans (grown_below hg3 (by omega) (by have := hb2.size; omega))
    exact o3.drew.trans (grown_below hgr hnew.1 (by omega))
  · rw [← hL]
    exact there_set ht3
  · by_cases hjk : j < k
    · rw [World.cell?_setCells_out G _ k w3.drew ⟨G, j, none⟩ (fun _ _ => .inl hjk)]
      exact (World.cell?_of_block (a := ⟨G, j, none⟩) (e3 G hnew.2)).trans (hby j hjk)
    · obtain ⟨i, rfl⟩ : ∃ i, j = k + i := ⟨j - k, by omega⟩
      have hi : i < c := by omega
      have hin := World.cell?_setCells_in G (((blkL C f ((a + k) / 64)).drop ((a + k) % 64)).take c) k w3.drew (fun i hi => by have := (ht3 (k + i) (by omega)).1; rwa [Nat.zero_add] at this) i (by omega)
      rw [hin, ← List.getElem?_eq_getElem, blk_part hi hc.2.1, show 64 * ((a + k) / 64) + ((a + k) % 64 + i) = a + (k + i) from by omega]

set_option maxRecDepth 8000 in
set_option maxHeartbeats 1000000 in
theorem read_any (g o m f a n : Nat) (C : Con) (w : World) (h : ConAt w g o m C) (hC : C.size f ≤ 16777216) (hf : f < 16) (ha : a ≤ 9223372036854775807) (hn : n ≤ 9223372036854775807) :
    Calls Tryd.prog 58 #[.pointer (some ⟨g, o, none⟩), .int .i64 f, .int .i64 a, .int .i64 n] w fun e w' => e = .returned (str (C.read f a n)) ∧ Below w.heap.size w w' := by
  have hix := fun w' => index_siz w' g (o + 1) hf
  have hc : w.cell? ⟨g, o + 1 + f, none⟩ = some (.int .i64 (C.size f)) := by rw [Nat.add_assoc]; exact h.siz hf
  have H0 := Lib.hid h
  clear h
  have hsub : IntKind.i64.wrap ((C.size f : Int) - a) = (C.size f : Int) - a := IntWalk.i64_in _ (by omega)
  obtain ⟨L, hL⟩ : ∃ L, L = min n (C.size f - a) := ⟨_, rfl⟩
  have hLb : L ≤ n ∧ L ≤ C.size f ∧ (0 < L → a + L ≤ C.size f) := by omega
  have HL := Lib.hid hL
  clear hL
  go_enter Tryd.func58, Tryd.ntmps58
  go_upto_region 1 with (fail)
  go_cut [9] (fun v9 wx => v9 = .int .i64 ((C.size f - a : Nat) : Int) ∧ w = wx)
  case first =>
    by_cases hlt : (C.size f : Int) - a < 0
    · have h2 : (0 : Int) = ((C.size f - a : Nat) : Int) := by omega
      have H2 := Lib.hid h2
      clear h2
      go_wp2_with fail
      all_goals
        go_meet
        case rel => exact ⟨by rw [← H2.out], rfl⟩
    · have h2 : ((C.size f : Int) - a) = ((C.size f - a : Nat) : Int) := by omega
      have H2 := Lib.hid h2
      clear h2
      go_wp2_with fail
      all_goals
        go_meet
        case rel => exact ⟨by rw [H2.out], rfl⟩
  case rest =>
    obtain ⟨rfl, rfl⟩ := hcut
    clear hix hc hsub
    go_upto_region 2 with (fail)
    go_cut [10] (fun v10 wx => v10 = .slice (some ⟨w.heap.size, 0, none⟩) L L ∧ wx.there w.heap.size 0 L ∧ Below w.heap.size w wx ∧ w.heap.size < wx.heap.size)
    case first =>
      go_wp2_with ((at_make; refine wpList_make_bytes rfl _ _ rfl L _ _ rfl rfl (by have := HL.out; omega) (by have := HL.out; omega) (by omega) ?_; intro w1 ht1 hb1 hz1))
      all_goals
        go_meet
        case rel => exact ⟨rfl, ht1, hb1, hz1⟩
    case rest =>
      obtain ⟨rfl, ht1, hb1, hz1⟩ := hcut
      have HT1 := Lib.hid ht1
      have hL0 : 0 ≤ L := Nat.zero_le L
      clear ht1
      go_wp2_with fail
      go_loopw [11] (fun iv wr => ∃ k, RedRel w g o m C f a n w.heap.size iv wr k) (fun iv _ => L - (intOf iv).toNat)
      case atStart => exact ⟨0, rfl, Nat.zero_le _, H0.out.below hb1, hb1, ⟨Nat.le_refl _, hz1⟩, by rw [← HL.out]; exact HT1.out, fun j hj => by omega⟩
      case round =>
        obtain ⟨k, hk⟩ := hrel
        obtain ⟨rfl, hkl, hcon, hbel, hnew, hth, hby⟩ := hk
        rw [← HL.out] at hkl hth
        clear hb1 hz1
        by_cases hlt : k < L
        · have hq : (a + k) / 64 ≤ 262144 := by omega
          have hlk := hcon.map.lookup hf hq
          rw [show keyV f ((a + k) / 64) = .agg #[.int .i64 f, .int .i64 (((a : Int) + (k : Int)) / 64)] from by unfold keyV; rw [show (((a + k) / 64 : Nat) : Int) = ((a : Int) + k) / 64 from by omega]] at hlk
          have hptr := hcon.ptr
          have HC := Lib.hid hcon
          have HBY := Lib.hid hby
          clear hcon hby
          go_wp2_with (first
            | (refine wpList_alloc_blk rfl rfl ?_; intro w2 ht2 hb2 hz2)
            | (refine wpList_store_blk rfl _ _ rfl wr.heap.size (blkL C f ((a + k) / 64)) rfl rfl (blkL_len _ _ _) ht2 (blkL_one _ _ _) ?_; intro w3 hl3 hg3))
          clear hlk hptr
          have hs1 : ∀ w' : World, (Instr.sliceAt 50 (.slice (some ⟨w.heap.size, 0, none⟩) L L) (some (.int .i64 k)) none none).run Tryd.prog w' = .ok (.slice (some ⟨w.heap.size, k, none⟩) (L - k) (L - k)) w' := fun w' => slice_row w' _ hlt
          have hs2 : ∀ w' : World, (Instr.sliceAt 114 (.pointer (some ⟨wr.heap.size, 0, none⟩)) (some (.int .i64 (((a : Int) + (k : Int)).tmod 64))) none none).run Tryd.prog w' = .ok (.slice (some ⟨wr.heap.size, (a + k) % 64, none⟩) (64 - (a + k) % 64) (64 - (a + k) % 64)) w' := fun w' => by
            rw [Int.tmod_eq_emod_of_nonneg (by omega), show ((a : Int) + (k : Int)) % 64 = (((a + k) % 64 : Nat) : Int) from by omega]
            exact slice_arr w' wr.heap.size (Nat.mod_lt _ (by omega))
          have hw1 : IntKind.i64.wrap ((a : Int) + k) = (a : Int) + k := IntWalk.i64_in _ (by omega)
          have hak : (0 : Int) ≤ (a : Int) + k ∧ (a : Int) + k ≤ 16777216 := by omega
          refine wp_region_sorted (fun _ => True) [0, 1, 2, 3, 4, 5, 6, 7, 8] [9, 10, 11] (by kernel_rfl) (by kernel_rfl) trivial ?_
          repeat refine RD.next rfl rfl (by intro w' hS; go_simp; with_reducible rfl) ?_
          refine RD.done ?_
          refine CH.next rfl rfl fun K hK => ?_
          obtain ⟨c, hc⟩ : ∃ c, c = min (64 - (a + k) % 64) (L - k) := ⟨_, rfl⟩
          have hcb : 0 < c ∧ c ≤ 64 - (a + k) % 64 ∧ c ≤ L - k := by omega
          have hdl : (((blkL C f ((a + k) / 64)).drop ((a + k) % 64)).take c).length = c := by rw [List.length_take, List.length_drop, blkL_len]; omega
          have hcm : (64 - (a + k) % 64).min (L - k) = c := by show min (64 - (a + k) % 64) (L - k) = c; omega
          clear hc
          have hgn : w.heap.size ≠ wr.heap.size := by omega
          have hth3 : w3.drew.there w.heap.size k c := fun j hj => by
            have h1 := there_keep hth (hb2.block w.heap.size hnew.2)
            have h2 := there_keep h1 (hg3.block w.heap.size (by omega) (by intro e; injection e with e; omega))
            have h3 := h2 (k + j) (by omega)
            rw [Nat.zero_add] at h3
            exact h3
          refine wp_copy_cells (g := w.heap.size) (off := k) (dLen := L - k) (dCap := L - k) (x := .slice (some ⟨wr.heap.size, (a + k) % 64, none⟩) (64 - (a + k) % 64) (64 - (a + k) % 64)) _ _ _ _ rfl Tryd.underlying50 size_byte (64 - (a + k) % 64) c (((blkL C f ((a + k) / 64)).drop ((a + k) % 64)).take c) (by go_simp) (by go_simp) (From.slice _ _ hdl (fun j u hu => ?_) (fun u hu => blkL_one C f _ u (List.mem_of_mem_drop (List.mem_of_mem_take hu)))) hcm hth3 ?_
          · have hj : j < c := by have := (List.getElem?_eq_some_iff.1 hu).1; omega
            rw [blk_part hj hcb.2.1] at hu
            have h1 := hl3.cells ((a + k) % 64 + j) (.int .u8 (C.byte f (64 * ((a + k) / 64) + ((a + k) % 64 + j))).toNat) (blkL_get _ _ _ _ (by omega))
            rw [Nat.zero_add] at h1
            rw [row_add', ← hu]
            exact h1
          · have HN : Hid (RedRel w g o m C f a n w.heap.size (.int .i64 ((k + c : Nat) : Int)) (w3.drew.setCells w.heap.size k (((blkL C f ((a + k) / 64)).drop ((a + k) % 64)).take c)) (k + c)) :=
              Lib.hid (RedRel.next HL.out hkl HC.out hbel hnew H0.out.lt H0.out.map.lt hth HBY.out hb2 hz2 hg3 hcb)
            generalize w3.drew.setCells w.heap.size k (((blkL C f ((a + k) / 64)).drop ((a + k) % 64)).take c) = w4 at *
            clear hs1 hs2 hw1 hl3 hg3 hb2 hz2 hth3 hdl hth ht2 hcm
            have hw2 : IntKind.i64.wrap ((k : Int) + (c : Int)) = ((k + c : Nat) : Int) := by rw [IntWalk.i64_in _ (by omega)]; omega
            refine hK _ _ trivial ?_
            clear hK
            refine CH.next rfl rfl fun K hK => ?_
            go_simp
            refine hK _ _ trivial ?_
            clear hK
            refine CH.next rfl rfl fun K hK => ?_
            go_simp
            refine hK _ _ trivial ?_
            clear hK
            refine CH.done (NoPanic.normal ?_)
            clear hw2
            go_wp2_with fail
            go_roundw
            case rel => exact ⟨k + c, HN.out⟩
            case measure => simp [intOf]; omega
        · have hkL : k = L := by omega
          have HB := Lib.hid (fun j hj => hby j hj : ∀ j, j < k → wr.cell? ⟨w.heap.size, j, none⟩ = some (.int .u8 (C.byte f (a + j)).toNat))
          have hlen : (C.read f a n).length = L := by rw [Con.read_len]; exact HL.out.symm
          have hcv := run_convert_bytes_back (P := Tryd.prog) wr 50 9 5 ⟨w.heap.size, 0, none⟩ L (C.read f a n) Tryd.underlying50 Tryd.underlying5 Tryd.underlying9 (fun j hj => by
            have h1 := Con.read_get C f a n j (by rw [← HL.out]; omega)
            rw [List.getElem?_eq_getElem hj] at h1
            rw [row_add', Nat.zero_add, HB.out j (by omega)]
            injection h1 with h1
            rw [h1])
          rw [hlen] at hcv
          clear hby hth hcon hlen
          obtain rfl := hkL
          go_wp2_with fail
          go_ret
          exact ⟨rfl, hbel⟩
end Dsk
end Go.Proofs.YtpogoalbnbekaaaDoor

/-! The queue of pending sectors. -/
namespace Go.Proofs.YtpogoalbnbekaaaDoor
open Go.RowKit Wire
set_option linter.unusedVariables false
set_option linter.unusedSimpArgs false
open Txt
namespace Dsk

/-- What the map of a queue says. -/
def hasL (l : List (Nat × Nat)) (f n : Nat) : Option Value := if (f, n) ∈ l then some (.bool true) else none
theorem hasL_in {l : List (Nat × Nat)} {f n : Nat} (h : (f, n) ∈ l) : hasL l f n = some (.bool true) := by unfold hasL; rw [if_pos h]
theorem hasL_out {l : List (Nat × Nat)} {f n : Nat} (h : ¬ (f, n) ∈ l) : hasL l f n = none := by unfold hasL; rw [if_neg h]

/-- A queue lies at offset o of block g. -/
structure QueAt (w : World) (g o mh : Nat) (v : Value) (l : List (Nat × Nat)) : Prop where
  ptr : w.cell? ⟨g, o, none⟩ = some v
  has : w.cell? ⟨g, o + 1, none⟩ = some (.map (some mh))
  there : w.there g o 2
  row : Grow w 0 2 v l.length (l.flatMap secL)
  map : IsMap w mh (hasL l)

section
variable {w w' : World} {g o mh : Nat} {v : Value} {l : List (Nat × Nat)}
theorem QueAt.lt (h : QueAt w g o mh v l) : g < w.heap.size := World.block_lt_of_cell? w _ h.ptr
theorem QueAt.keep (h : QueAt w g o mh v l) (hs : w.heap.size ≤ w'.heap.size) (e : w'.heap[g]? = w.heap[g]?) (k : w'.heap[mh]? = w.heap[mh]?) (r : ∀ b, v.ownBlock = some b → w'.heap[b]? = w.heap[b]?) : QueAt w' g o mh v l :=
  ⟨(World.cell?_of_block (a := ⟨g, o, none⟩) e).trans h.ptr, (World.cell?_of_block (a := ⟨g, o + 1, none⟩) e).trans h.has, there_keep h.there e, h.row.keep hs r, h.map.keep k⟩
theorem QueAt.below (h : QueAt w g o mh v l) (b : Below w.heap.size w w') : QueAt w' g o mh v l :=
  h.keep b.size (b.block g h.lt) (b.block mh h.map.lt) fun c hc => b.block c (h.row.block c hc).2
end


/-- An append as an operation. -/
theorem wp_append_src {P : Program} {w : World} {o : Oper} {a : Act} {K : Act → World → Prop} {Q : Exit → Act → World → Prop} (s xo : Operand) (t tx : TypeId)
    (ho : o.op = .call { callee := .builtin .append, args := #[s, xo], argTypes := #[t, tx] })
    (B : Nat) (e : TypeId) (i : TypeInfo) (z : Value) (size bytes : Nat) (ht : P.underlying t = some (.slice e)) (hi : P.info? e = some i) (hz : i.zero = some z)
    (hsize : i.size = size) (hby : i.bytes = bytes) (hzs : z.cells.size = size) (hsz : 0 < size)
    (v : Value) (n : Nat) (xs : List Value) (hsv : a.eval s = v) (hown : Grow w B size v n xs) (x : Value) (m : Nat) (news : List Value) (hxv : a.eval xo = x) (hs : Src P size tx x m news w)
    (h63 : n + m ≤ maxLen) (hbytes : (n + m) * bytes ≤ 140737488355328) (hB : B ≤ w.heap.size)
    (h : ∀ v' w', Grow w' B size v' (n + m) (xs ++ news) → w.grownBy w' v.ownBlock → (v'.ownBlock = v.ownBlock ∨ v'.ownBlock = some w.heap.size) → K (a.put o.dst v') w') : Oper.wp P o a w K Q := by
  obtain ⟨v', w', hr, h2, h3, h4⟩ := run_append_src (P := P) w B t tx o.type e i z size bytes ht hi hz hsize hby hzs hsz v n xs hown x m news hs h63 hbytes hB
  unfold Oper.wp execOp
  simp only [ho, resolve, invoke, builtin, Sem.run_bind, Sem.run_pure, Result.andThen_ok, List.map_toArray, List.map_cons, List.map_nil, hsv, hxv, hr]
  exact h v' w' h2 h3 h4

/-- What a call leaves of a queue. -/
structure QuePost (g o mh : Nat) (v : Value) (l : List (Nat × Nat)) (w w' : World) : Prop where
  que : ∃ v', QueAt w' g o mh v' l ∧ (v'.ownBlock = v.ownBlock ∨ ∀ b, v'.ownBlock = some b → w.heap.size ≤ b)
  keep : Keeps w w' g o 2
  only : Only (fun b => b = g ∨ b = mh ∨ v.ownBlock = some b) w w'

theorem hasL_snoc {l : List (Nat × Nat)} {f n : Nat} : upd (hasL l) f n (.bool true) = hasL (l ++ [(f, n)]) := by
  funext g k
  unfold upd hasL
  by_cases e : g = f ∧ k = n
  · rw [if_pos e, if_pos]
    simp [e.1, e.2]
  · rw [if_neg e]
    have e2 : ¬ (g, k) = (f, n) := fun h => e ⟨congrArg Prod.fst h, congrArg Prod.snd h⟩
    simp [e2]
abbrev Lka (A g o f n : Nat) (v : Value) (w' : World) : Prop := w'.cell? ⟨g, o, none⟩ = some v ∧ w'.cell? ⟨A, 0, none⟩ = some (.int .i64 f) ∧ w'.cell? ⟨A, 1, none⟩ = some (.int .i64 n)
abbrev Lkm (A g o mh f n : Nat) (w' : World) : Prop := w'.cell? ⟨g, o + 1, none⟩ = some (.map (some mh)) ∧ w'.cell? ⟨A, 0, none⟩ = some (.int .i64 f) ∧ w'.cell? ⟨A, 1, none⟩ = some (.int .i64 n)
abbrev Lkq (A g o mh f n : Nat) (b : Bool) (w' : World) : Prop := w'.cell? ⟨g, o + 1, none⟩ = some (.map (some mh)) ∧ w'.cell? ⟨A, 0, none⟩ = some (.int .i64 f) ∧ w'.cell? ⟨A, 1, none⟩ = some (.int .i64 n) ∧
  (Instr.lookup 62 (.map (some mh)) (.agg #[.int .i64 f, .int .i64 n]) false).run Tryd.prog w' = .ok (.bool b) w'

set_option maxRecDepth 8000 in
set_option maxHeartbeats 1000000 in
theorem add_any (g o mh f n : Nat) (v : Value) (l : List (Nat × Nat)) (w : World) (h : QueAt w g o mh v l) (hf : f < 16) (hn : n ≤ 262144) (hl : l.length ≤ 1000000000) (h1 : g ≠ mh) (h2 : v.ownBlock ≠ some g) (h3 : v.ownBlock ≠ some mh) :
    Calls Tryd.prog 66 #[.pointer (some ⟨g, o, none⟩), .agg #[.int .i64 f, .int .i64 n]] w fun e w' => e = .returned (.tuple #[]) ∧ QuePost g o mh v (addL l (f, n)) w w' := by
  have hb0 := ((Below.refl _ w).alloc (Nat.le_refl _) (.cells #[.int .i64 f, .int .i64 n] 88)).drew
  have hq0 := h.below hb0
  have hx0 : Blk (w.alloc (.cells #[.int .i64 f, .int .i64 n] 88)).drew w.heap.size 88 #[.int .i64 f, .int .i64 n] := Blk.fresh w _ _
  have hlt := h.lt
  have hml := h.map.lt
  have HV := Lib.hid (fun b e => (h.row.block b e).2 : ∀ b, v.ownBlock = some b → b < w.heap.size)
  by_cases hin : (f, n) ∈ l
  · have hlk := hq0.map.lookup hf hn Tryd.underlying62 zero_bool
    rw [hasL_in hin] at hlk
    have HL : Hid (Lkq w.heap.size g o mh f n true (w.alloc (.cells #[.int .i64 f, .int .i64 n] 88)).drew) := Lib.hid ⟨hq0.has, by rw [hx0.at]; rfl, by rw [hx0.at]; rfl, hlk⟩
    have HP : Hid (QuePost g o mh v (addL l (f, n)) w (w.alloc (.cells #[.int .i64 f, .int .i64 n] 88)).drew) := Lib.hid (by
      unfold addL
      rw [if_pos hin]
      exact ⟨⟨v, hq0, .inl rfl⟩, Keeps.block (hb0.block g hlt), Only.of_below hb0⟩)
    clear hlk hq0 hx0 hb0 hin h
    go_enter Tryd.func66, Tryd.ntmps66
    go_wp2_with fail
    refine wp_region_sorted (Lkq w.heap.size g o mh f n true) [0, 1, 2, 3, 4, 5, 6] [] (by kernel_rfl) (by kernel_rfl) HL.out ?_
    repeat refine RD.next rfl rfl (by intro w' hS; simp only [Lkq] at hS; go_simp; with_reducible rfl) ?_
    refine RD.done ?_
    refine CH.done (NoPanic.normal ?_)
    try go_frame
    generalize (w.alloc (.cells #[.int .i64 f, .int .i64 n] 88)).drew = w1 at *
    go_wp2_with fail
    go_returns
    exact ⟨rfl, HP.out⟩
  · have hlk := hq0.map.lookup hf hn Tryd.underlying62 zero_bool
    rw [hasL_out hin] at hlk
    have HL : Hid (Lkq w.heap.size g o mh f n false (w.alloc (.cells #[.int .i64 f, .int .i64 n] 88)).drew) := Lib.hid ⟨hq0.has, by rw [hx0.at]; rfl, by rw [hx0.at]; rfl, hlk⟩
    have hap : addL l (f, n) = l ++ [(f, n)] := by unfold addL; rw [if_neg hin]
    rw [hap]
    have HQ0 := Lib.hid hq0
    have HX0 := Lib.hid hx0
    have HB0 := Lib.hid hb0
    clear hlk hq0 hx0 hb0 hin h hap
    go_enter Tryd.func66, Tryd.ntmps66
    go_wp2_with fail
    refine wp_region_sorted (Lkq w.heap.size g o mh f n false) [0, 1, 2, 3, 4, 5, 6] [] (by kernel_rfl) (by kernel_rfl) HL.out ?_
    repeat refine RD.next rfl rfl (by intro w' hS; simp only [Lkq] at hS; go_simp; with_reducible rfl) ?_
    refine RD.done ?_
    refine CH.done (NoPanic.normal ?_)
    try go_frame
    generalize (w.alloc (.cells #[.int .i64 f, .int .i64 n] 88)).drew = w1 at *
    obtain ⟨w2, hup, hm2, hg2⟩ := (HQ0.out.map.keep (w' := w1.drew) rfl).store hf hn Tryd.underlying62 (.bool true)
    rw [hasL_snoc] at hm2
    unfold keyV at hup
    have HUP := Lib.hid hup
    have HL2 : Hid (Lkm w.heap.size g o mh f n w1.drew) := Lib.hid ⟨HL.out.1, HL.out.2.1, HL.out.2.2.1⟩
    clear hup
    go_wp2_with fail
    refine wp_region_late (Lkm w.heap.size g o mh f n) [0, 1, 2, 3, 4] [] [5] (by kernel_rfl) (by kernel_rfl) (by kernel_rfl) HL2.out ?_
    repeat refine RD.next rfl rfl (by intro w' hS; simp only [Lkm] at hS; go_simp; with_reducible rfl) ?_
    refine RD.done ?_
    refine CHW.done ?_
    refine CH.next rfl rfl fun K hK => ?_
    have hup := HUP.out
    go_simp
    clear hup
    refine hK _ _ trivial ?_
    clear hK
    refine CH.done (NoPanic.normal ?_)
    try go_frame
    have hs1 := HB0.out.size
    have hbx := HX0.out.inside
    have hg2' : w1.grownBy w2 (some mh) := ⟨hg2.os, hg2.tape, hg2.output, hg2.size, hg2.block⟩
    have eg : w2.heap[g]? = w1.heap[g]? := hg2'.block g (by omega) (by intro e; injection e with e; exact h1 e)
    have ex : w2.heap[w.heap.size]? = w1.heap[w.heap.size]? := hg2'.block _ hbx (by intro e; injection e with e; omega)
    have hrow2 : Grow w2 0 2 v l.length (l.flatMap secL) := HQ0.out.row.grown hg2' (.inr h3)
    have hx2 : Blk w2 w.heap.size 88 #[.int .i64 f, .int .i64 n] := ex.trans HX0.out
    have hp2 : w2.cell? ⟨g, o, none⟩ = some v := (World.cell?_of_block (a := ⟨g, o, none⟩) eg).trans HQ0.out.ptr
    have HL3 : Hid (Lka w.heap.size g o f n v w2.drew) := Lib.hid ⟨hp2, by rw [World.cell?_drew, hx2.at]; rfl, by rw [World.cell?_drew, hx2.at]; rfl⟩
    have HROW := Lib.hid hrow2
    have HX2 := Lib.hid hx2
    have HEG := Lib.hid eg
    have HG2 := Lib.hid hg2'
    have hs2 := hg2'.size
    have HM2 := Lib.hid hm2
    clear hp2 hx2 hrow2 eg ex hg2 hg2' hm2
    go_wp2_with fail
    refine wp_region_late (Lka w.heap.size g o f n v) [0, 1, 2, 3, 4, 5] [6, 7, 8, 9] [10] (by kernel_rfl) (by kernel_rfl) (by kernel_rfl) HL3.out ?_
    repeat refine RD.next rfl rfl (by intro w' hS; simp only [Lka] at hS; go_simp; with_reducible rfl) ?_
    refine RD.done ?_
    refine CHW.next rfl rfl fun K hK => ?_
    go_simp
    have ba : Below w2.heap.size w2 (w2.alloc (.cells #[.int .i64 f, .int .i64 n] 88)).drew := ((Below.refl _ w2).alloc (Nat.le_refl _) _).drew
    have hnew : ∀ j u, (secL (f, n))[j]? = some u → (w2.alloc (.cells #[.int .i64 f, .int .i64 n] 88)).drew.cell? ((⟨w2.heap.size, 0, none⟩ : Addr).add j) = some u := new_cells w2 _ (secL (f, n))
    have hga : Grow (w2.alloc (.cells #[.int .i64 f, .int .i64 n] 88)).drew 0 2 v l.length (l.flatMap secL) := HROW.out.below ba
    have hza : w2.heap.size < (w2.alloc (.cells #[.int .i64 f, .int .i64 n] 88)).drew.heap.size := by simp
    generalize (w2.alloc (.cells #[.int .i64 f, .int .i64 n] 88)).drew = w3 at *
    have kp : ∀ w', Below w2.heap.size w2 w' → Lka w.heap.size g o f n v w' := fun w' b => ⟨(b.cell (p := ⟨g, o, none⟩) (by show g < _; omega)).trans HL3.out.1, (b.cell (p := ⟨w.heap.size, 0, none⟩) (by show w.heap.size < _; omega)).trans HL3.out.2.1, (b.cell (p := ⟨w.heap.size, 1, none⟩) (by show w.heap.size < _; omega)).trans HL3.out.2.2⟩
    refine hK _ _ (kp _ ba) ?_
    clear hK
    refine CHW.next rfl rfl fun K hK => ?_
    have hsrc := Src.ofSlice (P := Tryd.prog) (size := 2) w3 Tryd.underlying61 ⟨w2.heap.size, 0, none⟩ 1 1 (secL (f, n)) rfl hnew (fun u hu => one_secs [(f, n)] u (by simpa using hu))
    obtain ⟨i0, hi, hz0, hz1, hz2⟩ := info_parts info_sector
    refine wp_append_src _ _ _ _ rfl 0 88 i0 _ 2 16 Tryd.underlying61 hi hz0 hz1 hz2 rfl (by omega) v l.length _ rfl hga _ 1 (secL (f, n)) rfl hsrc (small_max (by omega)) (by omega) (Nat.zero_le _) ?_
    intro v4 w4 hown4 hg4 hv4
    have e4 : ∀ b, b < w2.heap.size → v.ownBlock ≠ some b → w4.heap[b]? = w2.heap[b]? := fun b hb hne => (hg4.block b (by omega) (fun e => hne e.symm)).trans (ba.block b hb)
    have eA : v.ownBlock ≠ some w.heap.size := fun e => Nat.lt_irrefl _ (HV.out _ e)
    obtain ⟨A4, c4, rfl⟩ := hown4.slice
    have HLA : Hid (Lka w.heap.size g o f n v w4) := Lib.hid ⟨(World.cell?_of_block (a := ⟨g, o, none⟩) (e4 g (by omega) h2)).trans HL3.out.1, (World.cell?_of_block (a := ⟨w.heap.size, 0, none⟩) (e4 w.heap.size (by omega) eA)).trans HL3.out.2.1, (World.cell?_of_block (a := ⟨w.heap.size, 1, none⟩) (e4 w.heap.size (by omega) eA)).trans HL3.out.2.2⟩
    refine hK _ _ HLA.out ?_
    clear hK
    iterate 2
      refine CHW.next rfl rfl fun K hK => ?_
      go_simp
      refine hK _ _ HLA.out ?_
      clear hK
    refine CHW.done ?_
    refine CH.next rfl rfl fun K hK => ?_
    have eg4 : w4.heap[g]? = w2.heap[g]? := e4 g (by omega) h2
    have hth := there_keep HQ0.out.there HEG.out
    have hth4 := there_keep hth eg4
    have hfz : w4.frozen? ⟨g, o, none⟩ = false := (hth4 0 (by omega)).2
    have hcc := HLA.out.1
    go_simp
    have HF : Hid (QuePost g o mh v (l ++ [(f, n)]) w (w4.setCell ⟨g, o, none⟩ (.slice A4 (l.length + 1) c4))) := Lib.hid (by
      have hne : Value.ownBlock (.slice A4 (l.length + 1) c4) ≠ some g := fun e => by
        rcases hv4 with h | h
        · exact h2 (h.symm.trans e)
        · rw [h] at e
          injection e with e
          omega
      have em4 : w4.heap[mh]? = w2.heap[mh]? := e4 mh HM2.out.lt h3
      have o1 : Only (fun b => b = g ∨ b = mh ∨ v.ownBlock = some b) w w1 := Only.of_below HB0.out
      have o2 : Only (fun b => b = g ∨ b = mh ∨ v.ownBlock = some b) w1 w2 := Only.of_grown HG2.out (.inl (.inr (.inl rfl)))
      have o3 : Only (fun b => b = g ∨ b = mh ∨ v.ownBlock = some b) w2 w3 := Only.of_below ba
      have o4 : Only (fun b => b = g ∨ b = mh ∨ v.ownBlock = some b) w3 w4 := Only.of_grown' hg4 fun x hx => .inl (.inr (.inr hx))
      have o5 : Only (fun b => b = g ∨ b = mh ∨ v.ownBlock = some b) w4 (w4.setCell ⟨g, o, none⟩ (.slice A4 (l.length + 1) c4)) := Only.set _ _ _ _ (.inl rfl)
      refine ⟨⟨.slice A4 (l.length + 1) c4, ⟨?_, ?_, there_put hth4 _ _, ?_, ?_⟩, ?_⟩, ?_, (((o1.same o2).same o3).same o4).same o5⟩
      · exact World.cell?_setCell_same' _ _ _ (by rw [hcc]; rfl)
      · rw [World.cell?_setCell_other _ _ _ _ (by intro e; simp at e)]
        exact (World.cell?_of_block (a := ⟨g, o + 1, none⟩) eg4).trans ((World.cell?_of_block (a := ⟨g, o + 1, none⟩) HEG.out).trans HQ0.out.has)
      · rw [List.length_append, List.flatMap_append]
        have e1 : [(f, n)].flatMap secL = secL (f, n) := by simp
        rw [e1]
        exact hown4.keep (by simp [World.setCell]) fun b hb => Below.heap_setCell _ _ _ _ fun e => hne (hb.trans (congrArg some e))
      · exact HM2.out.keep ((Below.heap_setCell _ _ _ _ fun e => h1 e.symm).trans em4)
      · rcases hv4 with h | h
        · exact .inl h
        · refine .inr fun b hb => ?_
          rw [h] at hb
          injection hb with hb
          omega
      · exact (((Keeps.block (HB0.out.block g hlt)).trans (Keeps.block HEG.out)).trans (Keeps.block eg4)).trans (Keeps.put _ (Nat.le_refl _) (by omega)))
    generalize w4.setCell ⟨g, o, none⟩ (.slice A4 (l.length + 1) c4) = w5 at *
    refine hK _ _ trivial ?_
    clear hK
    refine CH.done (NoPanic.normal ?_)
    try go_frame
    clear hg4 hv4 hown4 hcc hfz hth4 hth e4 eg4
    go_wp2_with fail
    go_returns
    exact ⟨rfl, HF.out⟩
end Dsk
end Go.Proofs.YtpogoalbnbekaaaDoor

/-! A copy of a queue. -/
namespace Go.Proofs.YtpogoalbnbekaaaDoor
open Go.RowKit Wire
set_option linter.unusedVariables false
set_option linter.unusedSimpArgs false
open Txt
namespace Dsk

theorem build_que (w : World) (m : Nat) (A : Option Addr) (n c : Nat) : (Instr.build 64 #[(0, .slice A n c), (1, .map (some m))]).run Tryd.prog w = .ok (.agg #[.slice A n c, .map (some m)]) w := by kernel_rfl

abbrev Qls (g o mh : Nat) (v : Value) (l : List (Nat × Nat)) (w' : World) : Prop := w'.cell? ⟨g, o, none⟩ = some v ∧ w'.cell? ⟨g, o + 1, none⟩ = some (.map (some mh)) ∧ QueAt w' g o mh v l

end Dsk
end Go.Proofs.YtpogoalbnbekaaaDoor

/-! The sectors of a file, taken out of a queue. -/
namespace Go.Proofs.YtpogoalbnbekaaaDoor
open Go.RowKit Wire
set_option linter.unusedVariables false
set_option linter.unusedSimpArgs false
open Txt
namespace Dsk


theorem sec_get (l : List (Nat × Nat)) (k : Nat) (h : k < l.length) : (l.flatMap secL)[k * 2]? = some (.int .i64 l[k].1) ∧ (l.flatMap secL)[k * 2 + 1]? = some (.int .i64 l[k].2) := by
  induction l generalizing k with
  | nil => simp at h
  | cons p r ih =>
    cases k with
    | zero => simp [secL]
    | succ k =>
      have := ih k (by simpa using h)
      rw [List.flatMap_cons, show (k + 1) * 2 = k * 2 + 2 from by omega, show k * 2 + 2 + 1 = (k * 2 + 1) + 2 from by omega]
      simpa [secL] using this

/-- What the map says when the first k sectors were looked at. -/
def hasK (l : List (Nat × Nat)) (f k g n : Nat) : Option Value := if (g, n) ∈ l ∧ ¬ (g = f ∧ (g, n) ∈ l.take k) then some (.bool true) else none
theorem hasK_zero (l : List (Nat × Nat)) (f : Nat) : hasK l f 0 = hasL l := by
  funext g n
  unfold hasK hasL
  simp
theorem hasK_skip {l : List (Nat × Nat)} {f k : Nat} (hk : k < l.length) (h : l[k].1 ≠ f) : hasK l f (k + 1) = hasK l f k := by
  funext g n
  unfold hasK
  have e : (g = f ∧ (g, n) ∈ l.take (k + 1)) ↔ (g = f ∧ (g, n) ∈ l.take k) := by
    rw [List.take_succ_eq_append_getElem hk]
    constructor
    · rintro ⟨rfl, h2⟩
      rcases List.mem_append.1 h2 with h3 | h3
      · exact ⟨rfl, h3⟩
      · have : (g, n) = l[k] := by simpa using h3
        exact absurd (congrArg Prod.fst this).symm h
    · rintro ⟨rfl, h2⟩
      exact ⟨rfl, List.mem_append_left _ h2⟩
  simp only [e]
theorem hasK_take {l : List (Nat × Nat)} {f k : Nat} (hk : k < l.length) (h : l[k].1 = f) : del (hasK l f k) l[k].1 l[k].2 = hasK l f (k + 1) := by
  funext g n
  unfold del hasK
  rw [List.take_succ_eq_append_getElem hk]
  by_cases e : g = l[k].1 ∧ n = l[k].2
  · rw [if_pos e, if_neg]
    rintro ⟨_, h2⟩
    exact h2 ⟨e.1.trans h, List.mem_append_right _ (by obtain ⟨e1, e2⟩ := e; simp [e1, e2])⟩
  · rw [if_neg e]
    have e2 : ((g, n) ∈ l.take k ++ [l[k]]) ↔ (g, n) ∈ l.take k := by
      rw [List.mem_append]
      constructor
      · rintro (h1 | h1)
        · exact h1
        · have : (g, n) = l[k] := by simpa using h1
          exact absurd ⟨congrArg Prod.fst this, congrArg Prod.snd this⟩ e
      · exact .inl
    simp only [e2]
theorem hasK_end (l : List (Nat × Nat)) (f : Nat) : hasK l f l.length = hasL (l.filter (noF f)) := by
  funext g n
  unfold hasK hasL
  rw [List.take_length]
  congr 1
  rw [List.mem_filter]
  simp only [eq_iff_iff]
  constructor
  · rintro ⟨h1, h2⟩
    refine ⟨h1, ?_⟩
    simp
    exact fun e => h2 ⟨e, h1⟩
  · rintro ⟨h1, h2⟩
    refine ⟨h1, fun h3 => ?_⟩
    simp at h2
    exact h2 h3.1

theorem filt_yes {l : List (Nat × Nat)} {f k : Nat} (hk : k < l.length) (h : l[k].1 = f) : (l.take (k + 1)).filter (isF' f) = (l.take k).filter (isF' f) ++ [l[k]] ∧ (l.take (k + 1)).filter (noF f) = (l.take k).filter (noF f) := by
  rw [List.take_succ_eq_append_getElem hk, List.filter_append, List.filter_append]
  constructor
  · congr 1
    simp [h]
  · simp [h]
theorem filt_no {l : List (Nat × Nat)} {f k : Nat} (hk : k < l.length) (h : l[k].1 ≠ f) : (l.take (k + 1)).filter (isF' f) = (l.take k).filter (isF' f) ∧ (l.take (k + 1)).filter (noF f) = (l.take k).filter (noF f) ++ [l[k]] := by
  rw [List.take_succ_eq_append_getElem hk, List.filter_append, List.filter_append]
  constructor
  · simp [h]
  · congr 1
    simp [h]
theorem filt_len {l : List (Nat × Nat)} {k : Nat} (q : Nat × Nat → Bool) (hk : k ≤ l.length) : ((l.take k).filter q).length ≤ k := by
  have := List.length_filter_le q (l.take k)
  rw [List.length_take] at this
  omega

/-- 'delete(m, k)' as an operation. -/
theorem wp_delete_own {w : World} {o : Oper} {a : Act} {K : Act → World → Prop} {Q : Exit → Act → World → Prop} (d s : Operand) {t e : TypeId} (ho : o.op = .call { callee := .builtin .delete, args := #[d, s], argTypes := #[t, 88] })
    (ht : Tryd.prog.underlying t = some (.map 88 e)) {m f n : Nat} {look : Nat → Nat → Option Value} (hd : a.eval d = .map (some m)) (hx : a.eval s = keyV f n) (hf : f < 16) (hn : n ≤ 262144) (hm : IsMap w m look)
    (h : ∀ w', IsMap w' m (del look f n) → w.grownBy w' (some m) → K (a.put o.dst (.tuple #[])) w') : Oper.wp Tryd.prog o a w K Q := by
  obtain ⟨w', hr, h2, h3⟩ := hm.drop (ty := o.type) hf hn ht
  unfold Oper.wp execOp
  simp only [ho, resolve, invoke, builtin, Sem.run_bind, Sem.run_pure, Result.andThen_ok, List.map_toArray, List.map_cons, List.map_nil, hd, hx, hr]
  exact h w' h2 h3

abbrev Ltk (P g o mh f n : Nat) (w' : World) : Prop := w'.cell? ⟨g, o + 1, none⟩ = some (.map (some mh)) ∧ w'.cell? ⟨P, 0, none⟩ = some (.int .i64 f) ∧ w'.cell? ⟨P, 1, none⟩ = some (.int .i64 n)

/-- Which blocks a value owns: not one in common. -/
def Apart (a b : Value) : Prop := ∀ x, a.ownBlock = some x → b.ownBlock = some x → False

/-- The head of a round. -/
structure TakRel (W : World) (g o mh : Nat) (v : Value) (l : List (Nat × Nat)) (f : Nat) (tv nv iv : Value) (w : World) (k : Nat) : Prop where
  i : iv = .int .i64 k
  le : k ≤ l.length
  took : Grow w W.heap.size 2 tv ((l.take k).filter (isF' f)).length (((l.take k).filter (isF' f)).flatMap secL)
  left : Grow w W.heap.size 2 nv ((l.take k).filter (noF f)).length (((l.take k).filter (noF f)).flatMap secL)
  apart : Apart tv nv
  map : IsMap w mh (hasK l f k)
  only : Only (fun b => b = mh) W w

theorem Apart.symm {a b : Value} (h : Apart a b) : Apart b a := fun x h1 h2 => h x h2 h1
/-- One of two rows has grown. -/
theorem rows_step {W wr wa w4 : World} {mh s1 s2 n1 n2 : Nat} {tv nv v4 : Value} {x1 x2 : List Value} {look : Nat → Nat → Option Value} (hon : Only (fun b => b = mh) W wr) (ba : Below wr.heap.size wr wa) (hg4 : wa.grownBy w4 tv.ownBlock)
    (hv4 : v4.ownBlock = tv.ownBlock ∨ v4.ownBlock = some wa.heap.size) (h1 : Grow wr W.heap.size s1 tv n1 x1) (h2 : Grow wr W.heap.size s2 nv n2 x2) (hap : Apart tv nv) (hm : IsMap wr mh look) (hml : mh < W.heap.size) :
    Grow w4 W.heap.size s2 nv n2 x2 ∧ Apart v4 nv ∧ IsMap w4 mh look ∧ Only (fun b => b = mh) W w4 ∧ (∀ b, b < W.heap.size → w4.heap[b]? = wr.heap[b]?) ∧ (∀ b, wr.heap.size ≤ b → b < wa.heap.size → w4.heap[b]? = wa.heap[b]?) := by
  have hs := hon.size
  have e1 : ∀ b, b < W.heap.size → w4.heap[b]? = wr.heap[b]? := fun b hb => (hg4.block b (by have := ba.size; omega) (fun e => by have := (h1.block b e.symm).1; omega)).trans (ba.block b (by omega))
  refine ⟨(h2.below ba).grown hg4 ?_, fun x hx hy => ?_, hm.keep (e1 mh hml), ?_, e1, fun b hb hb2 => hg4.block b hb2 (fun e => by have := (h1.block b e.symm).2; omega)⟩
  · cases hn : nv.ownBlock with
    | none => exact .inl rfl
    | some y => exact .inr fun e => hap y e.symm hn
  · rcases hv4 with h | h
    · exact hap x (h ▸ hx) hy
    · rw [h] at hx
      injection hx with hx
      have := (h2.block x hy).2
      have := ba.size
      omega
  · exact (hon.trans (Only.of_below (F := fun b => b = mh) ba) fun x hx => .inl hx).trans (Only.of_grown' (F := fun b => W.heap.size ≤ b) hg4 fun x hx => .inl (h1.block x hx).1) fun x hx => .inr hx

structure TakPost (g o mh f : Nat) (l : List (Nat × Nat)) (tv : Value) (w w' : World) : Prop where
  took : Grow w' w.heap.size 2 tv (l.filter (isF' f)).length ((l.filter (isF' f)).flatMap secL)
  que : ∃ v', QueAt w' g o mh v' (l.filter (noF f)) ∧ (∀ b, v'.ownBlock = some b → w.heap.size ≤ b) ∧ Apart tv v'
  keep : Keeps w w' g o 2
  only : Only (fun b => b = g ∨ b = mh) w w'

set_option maxRecDepth 8000 in
set_option maxHeartbeats 2000000 in
theorem take_any (g o mh f : Nat) (v : Value) (l : List (Nat × Nat)) (w : World) (h : QueAt w g o mh v l) (hf : f < 16) (hl : l.length ≤ 1000000000) (hin : ∀ p ∈ l, p.1 < 16 ∧ p.2 ≤ 262144) (h1 : g ≠ mh) (h2 : v.ownBlock ≠ some g) (h3 : v.ownBlock ≠ some mh) :
    Calls Tryd.prog 78 #[.pointer (some ⟨g, o, none⟩), .int .i64 f] w fun e w' => ∃ tv, e = .returned tv ∧ TakPost g o mh f l tv w w' := by
  have hlt := h.lt
  have hml := h.map.lt
  have hp := h.ptr
  have HQ := Lib.hid h
  have HIN := Lib.hid hin
  have hrow := h.row
  obtain ⟨A0, c0, rfl⟩ := h.row.slice
  have HCELL : Hid (∀ k (hk : k < l.length), ∃ b, A0 = some ⟨b, 0, none⟩ ∧ b < w.heap.size ∧ b ≠ mh ∧ w.cell? ⟨b, k * 2, none⟩ = some (.int .i64 l[k].1) ∧ w.cell? ⟨b, k * 2 + 1, none⟩ = some (.int .i64 l[k].2)) := Lib.hid (by
    intro k hk
    rcases hrow.form with ⟨e, h0⟩ | ⟨b, cap, e, _, hb, _, _, _, _, h7⟩
    · omega
    · have ea : A0 = some ⟨b, 0, none⟩ := by injection e
      subst ea
      exact ⟨b, rfl, hb, fun e2 => h3 (by rw [← e2]; rfl), h7 _ _ (sec_get l k hk).1, h7 _ _ (sec_get l k hk).2⟩)
  clear hrow h hin
  go_enter Tryd.func78, Tryd.ntmps78
  go_wp2_with fail
  go_loopw [5, 6, 14] (fun tv nv iv wr => ∃ k, TakRel w g o mh (.slice A0 l.length c0) l f tv nv iv wr k) (fun _ _ iv _ => l.length - (intOf iv).toNat)
  case atStart => exact ⟨0, rfl, Nat.zero_le _, Grow.nil _ _ _, Grow.nil _ _ _, (fun _ h => by cases h), (by rw [hasK_zero]; exact HQ.out.map), Only.refl _ _⟩
  case round =>
    obtain ⟨k, ⟨rfl, hk, htook, hleft, hap, hmap, hon⟩⟩ := hrel
    by_cases hlt : k < l.length
    · obtain ⟨b, rfl, hb, hbm, hc1, hc2⟩ := HCELL.out k hlt
      have hbl : wr.heap[b]? = w.heap[b]? := hon.block b hb hbm
      have hd1 : wr.cell? ⟨b, k * 2, none⟩ = some (.int .i64 l[k].1) := (World.cell?_of_block (a := ⟨b, k * 2, none⟩) hbl).trans hc1
      have hd2 : wr.cell? ⟨b, k * 2 + 1, none⟩ = some (.int .i64 l[k].2) := (World.cell?_of_block (a := ⟨b, k * 2 + 1, none⟩) hbl).trans hc2
      have hbz : b < wr.heap.size := Nat.lt_of_lt_of_le hb hon.size
      have hkin := HIN.out l[k] (List.getElem_mem hlt)
      have HM := Lib.hid hmap
      have HO := Lib.hid hon
      have HTK := Lib.hid htook
      have HLF := Lib.hid hleft
      have HAP := Lib.hid hap
      have hgp : wr.cell? ⟨g, o + 1, none⟩ = some (.map (some mh)) := (World.cell?_of_block (a := ⟨g, o + 1, none⟩) (hon.block g (by omega) h1)).trans HQ.out.has
      have hgl : g < wr.heap.size := by have := hon.size; omega
      have htl := filt_len (isF' f) hk
      have hnl := filt_len (noF f) hk
      have hwz := hon.size
      clear hmap hon htook hleft hap hbl
      by_cases hfe : l[k].1 = f
      · have HF := Lib.hid (filt_yes hlt hfe)
        have HDK := Lib.hid (hasK_take hlt hfe)
        have HFE := Lib.hid hfe
        rw [hfe] at hd1 hc1
        clear hfe
        obtain ⟨i0, hi, hz0, hz1, hz2⟩ := info_parts info_sector
        have hnew : ∀ q, ∀ j u, (secL (f, q))[j]? = some u → ((wr.alloc (.cells #[.int .i64 f, .int .i64 q] 88)).alloc (.cells #[.int .i64 f, .int .i64 q] 88)).cell? ((⟨wr.heap.size + 1, 0, none⟩ : Addr).add j) = some u := fun q => by
          have := new_cells (wr.alloc (.cells #[.int .i64 f, .int .i64 q] 88)) 88 (secL (f, q))
          rw [show (wr.alloc (.cells #[.int .i64 f, .int .i64 q] 88)).heap.size = wr.heap.size + 1 from by simp] at this
          exact this
        have hone : ∀ q, ∀ u ∈ secL (f, q), u.oneCell' = true := fun q u hu => one_secs [(f, q)] u (by simpa using hu)
        have HNW := Lib.hid hnew
        clear hnew
        go_upto_region 7 with (first
          | (at_builtin; refine wpList_append_src _ rfl (.tmp 22) (.tmp 24) _ _ rfl w.heap.size 88 i0 _ 2 16 Tryd.underlying61 hi hz0 hz1 hz2 rfl (by omega) _ _ _ rfl ((HTK.out.alloc _).alloc _) _ 1 (secL (f, l[k].2)) rfl (Src.ofSlice _ (size := 2) Tryd.underlying61 ⟨wr.heap.size + 1, 0, none⟩ 1 1 (secL (f, l[k].2)) rfl (HNW.out _) (hone _)) (small_max (by omega)) (by omega) (Nat.le_trans hwz (by simp; omega)) ?_; intro v4 w4 hown4 hg4 hv4))
        have ba : Below wr.heap.size wr ((wr.alloc (.cells #[.int .i64 f, .int .i64 l[k].2] 88)).alloc (.cells #[.int .i64 f, .int .i64 l[k].2] 88)) := ((Below.refl _ wr).alloc (Nat.le_refl _) _).alloc (by simp) _
        obtain ⟨hleft4, hap4, hm4, hon4, he4, hn4⟩ := rows_step HO.out ba hg4 hv4 HTK.out HLF.out HAP.out HM.out hml
        have hx4 : Blk w4 wr.heap.size 88 #[.int .i64 f, .int .i64 l[k].2] := (hn4 wr.heap.size (Nat.le_refl _) (by simp; omega)).trans ((Blk.fresh wr _ _).kept _)
        have hgp4 : w4.cell? ⟨g, o + 1, none⟩ = some (.map (some mh)) := (World.cell?_of_block (a := ⟨g, o + 1, none⟩) (he4 g (by omega))).trans hgp
        have HS : Hid (Ltk wr.heap.size g o mh f l[k].2 w4.drew) := Lib.hid ⟨hgp4, by rw [World.cell?_drew, hx4.at]; rfl, by rw [World.cell?_drew, hx4.at]; rfl⟩
        have HM4 := Lib.hid hm4
        have HR4 := Lib.hid hown4
        have HL4 := Lib.hid hleft4
        have HO4 := Lib.hid hon4
        have HA4 := Lib.hid hap4
        clear hm4 hown4 hleft4 hon4 hap4 he4 hn4 hx4 hgp4 ba hg4 hv4 hgp hd1 hd2 hc1 hc2
        refine wp_region_sorted (Ltk wr.heap.size g o mh f l[k].2) [0, 1, 2, 3, 4] [5] (by kernel_rfl) (by kernel_rfl) HS.out ?_
        repeat refine RD.next rfl rfl (by intro w' hS; simp only [Ltk] at hS; go_simp; with_reducible rfl) ?_
        refine RD.done ?_
        refine CH.next rfl rfl fun K hK => ?_
        refine wp_delete_own (m := mh) (f := f) (n := l[k].2) _ _ rfl Tryd.underlying62 (by go_simp) (by unfold keyV; go_simp) hf hkin.2 (HM4.out.keep rfl) ?_
        intro w5 hm5 hg5
        have eg5 : w5.heap[g]? = w4.drew.heap[g]? := hg5.block g (by have := HO4.out.size; simp; omega) (by intro e; injection e with e; exact h1 e)
        have ep5 : w5.heap[wr.heap.size]? = w4.drew.heap[wr.heap.size]? := hg5.block _ (World.block_lt_of_cell? w4.drew ⟨wr.heap.size, 0, none⟩ HS.out.2.1) (by intro e; injection e with e; omega)
        have hS5 : Ltk wr.heap.size g o mh f l[k].2 w5 := ⟨(World.cell?_of_block (a := ⟨g, o + 1, none⟩) eg5).trans HS.out.1, (World.cell?_of_block (a := ⟨wr.heap.size, 0, none⟩) ep5).trans HS.out.2.1, (World.cell?_of_block (a := ⟨wr.heap.size, 1, none⟩) ep5).trans HS.out.2.2⟩
        have HN : Hid (TakRel w g o mh (.slice (some ⟨b, 0, none⟩) l.length c0) l f v4 u6 (.int .i64 ((k + 1 : Nat) : Int)) w5 (k + 1)) := Lib.hid (by
          have hg5' : w4.grownBy w5 (some mh) := ⟨hg5.os, hg5.tape, hg5.output, hg5.size, hg5.block⟩
          refine ⟨rfl, hlt, ?_, ?_, HA4.out, ?_, ?_⟩
          · rw [HF.out.1, List.length_append, List.flatMap_append, show [l[k]].flatMap secL = secL (f, l[k].2) from by rw [← HFE.out]; simp]
            exact HR4.out.grown hg5' (.inr fun e => by have := (HR4.out.block mh e).1; omega)
          · rw [HF.out.2]
            exact HL4.out.grown hg5' (.inr fun e => by have := (HL4.out.block mh e).1; omega)
          · have := HDK.out
            rw [HFE.out] at this
            rw [← this]
            exact hm5
          · exact HO4.out.same (Only.of_grown hg5' (.inl rfl)))
        refine hK _ _ hS5 ?_
        clear hK hg5 hm5 eg5 ep5 hS5
        refine CH.done (NoPanic.normal ?_)
        try go_frame
        go_wp2_with fail
        go_roundw
        case rel => exact ⟨k + 1, HN.out⟩
        case measure => simp [intOf]; omega
      · have HF := Lib.hid (filt_no hlt hfe)
        have HDK := Lib.hid (hasK_skip hlt hfe)
        have hfe2 : ((l[k].1 : Int) == (f : Int)) = false := beq_eq_false_iff_ne.2 fun e => hfe (by omega)
        clear hfe
        obtain ⟨i0, hi, hz0, hz1, hz2⟩ := info_parts info_sector
        have hnew : ∀ p q : Nat, ∀ j u, (secL (p, q))[j]? = some u → ((wr.alloc (.cells #[.int .i64 p, .int .i64 q] 88)).alloc (.cells #[.int .i64 p, .int .i64 q] 88)).cell? ((⟨wr.heap.size + 1, 0, none⟩ : Addr).add j) = some u := fun p q => by
          have := new_cells (wr.alloc (.cells #[.int .i64 p, .int .i64 q] 88)) 88 (secL (p, q))
          rw [show (wr.alloc (.cells #[.int .i64 p, .int .i64 q] 88)).heap.size = wr.heap.size + 1 from by simp] at this
          exact this
        have hone : ∀ p q : Nat, ∀ u ∈ secL (p, q), u.oneCell' = true := fun p q u hu => one_secs [(p, q)] u (by simpa using hu)
        have HNW := Lib.hid hnew
        clear hnew
        have HSL : Hid (secL (l[k].1, l[k].2) = secL l[k]) := Lib.hid rfl
        generalize l[k].1 = p1 at *
        generalize l[k].2 = p2 at *
        go_wp2_with (first
          | (at_builtin; refine wpList_append_src _ rfl (.tmp 31) (.tmp 33) _ _ rfl w.heap.size 88 i0 _ 2 16 Tryd.underlying61 hi hz0 hz1 hz2 rfl (by omega) _ _ _ rfl ((HLF.out.alloc _).alloc _) _ 1 (secL (p1, p2)) rfl (Src.ofSlice _ (size := 2) Tryd.underlying61 ⟨wr.heap.size + 1, 0, none⟩ 1 1 (secL (p1, p2)) rfl (HNW.out _ _) (hone _ _)) (small_max (by omega)) (by omega) (Nat.le_trans hwz (by simp; omega)) ?_; intro v4 w4 hown4 hg4 hv4))
        have ba : Below wr.heap.size wr ((wr.alloc (.cells #[.int .i64 p1, .int .i64 p2] 88)).alloc (.cells #[.int .i64 p1, .int .i64 p2] 88)) := ((Below.refl _ wr).alloc (Nat.le_refl _) _).alloc (by simp) _
        obtain ⟨htook4, hap4, hm4, hon4, he4, hn4⟩ := rows_step HO.out ba hg4 hv4 HLF.out HTK.out HAP.out.symm HM.out hml
        have HN : Hid (TakRel w g o mh (.slice (some ⟨b, 0, none⟩) l.length c0) l f u5 v4 (.int .i64 ((k + 1 : Nat) : Int)) w4 (k + 1)) := Lib.hid (by
          refine ⟨rfl, hlt, ?_, ?_, hap4.symm, ?_, hon4⟩
          · rw [HF.out.1]
            exact htook4
          · rw [HF.out.2, List.length_append, List.flatMap_append, show [l[k]].flatMap secL = secL (p1, p2) from by rw [HSL.out]; simp]
            exact hown4
          · rw [HDK.out]
            exact hm4)
        clear htook4 hap4 hm4 hon4 he4 hn4 hg4 hv4 hown4
        go_wp2_with fail
        go_roundw
        case rel => exact ⟨k + 1, HN.out⟩
        case measure => simp [intOf]; omega
    · have hkl : k = l.length := by omega
      rw [hkl, List.take_length] at htook hleft
      rw [hkl, hasK_end] at hmap
      obtain ⟨A2, c2, e2⟩ := hleft.slice
      subst e2
      have hgl : g < wr.heap.size := by have := hon.size; omega
      have egr : wr.heap[g]? = w.heap[g]? := hon.block g (by omega) h1
      have hth := there_keep HQ.out.there egr
      have hfz : wr.frozen? ⟨g, o, none⟩ = false := (hth 0 (by omega)).2
      have hcc : wr.cell? ⟨g, o, none⟩ = some (.slice A0 l.length c0) := (World.cell?_of_block (a := ⟨g, o, none⟩) egr).trans hp
      have HP : Hid (TakPost g o mh f l u5 w (wr.setCell ⟨g, o, none⟩ (.slice A2 (l.filter (noF f)).length c2))) := Lib.hid (by
        have hst : ∀ b, b ≠ g → (wr.setCell ⟨g, o, none⟩ (.slice A2 (l.filter (noF f)).length c2)).heap[b]? = wr.heap[b]? := fun b hb => Below.heap_setCell _ _ _ _ hb
        have hz : wr.heap.size ≤ (wr.setCell ⟨g, o, none⟩ (.slice A2 (l.filter (noF f)).length c2)).heap.size := by simp [World.setCell]
        refine ⟨htook.keep hz fun b hb => hst b (by have := (htook.block b hb).1; omega), ⟨.slice A2 (l.filter (noF f)).length c2, ⟨?_, ?_, there_put hth _ _, ?_, hmap.keep (hst mh (fun e => h1 e.symm))⟩, fun b hb => (hleft.block b hb).1, hap⟩, (Keeps.block egr).trans (Keeps.put _ (Nat.le_refl _) (by omega)), ?_⟩
        · exact World.cell?_setCell_same' _ _ _ (by rw [hcc]; rfl)
        · rw [World.cell?_setCell_other _ _ _ _ (by intro e; simp at e)]
          exact (World.cell?_of_block (a := ⟨g, o + 1, none⟩) egr).trans HQ.out.has
        · exact (hleft.lower (Nat.zero_le _)).keep hz fun b hb => hst b (by have := (hleft.block b hb).1; omega)
        · exact (hon.mono fun x hx => .inl (.inr hx)).same (Only.set _ _ _ _ (.inl rfl)))
      clear htook hleft hap hmap hon egr hkl hth
      go_wp2_with fail
      go_ret
      exact ⟨_, rfl, HP.out⟩
end Dsk
end Go.Proofs.YtpogoalbnbekaaaDoor

/-! Sectors struck from a map of sectors. -/
namespace Go.Proofs.YtpogoalbnbekaaaDoor
open Go.RowKit Wire
set_option linter.unusedVariables false
set_option linter.unusedSimpArgs false
open Txt
namespace Dsk

/-- Is this sector behind that one, in the same file? -/
def past (f n g k : Nat) : Bool := decide (g = f ∧ n < k)

abbrev CutArgs (F L f n : Nat) (w : World) : Prop := w.cell? ⟨F, 0, none⟩ = some (.int .i64 f) ∧ w.cell? ⟨L, 0, none⟩ = some (.int .i64 f) ∧ w.cell? ⟨L, 1, none⟩ = some (.int .i64 n)

/-- A range over block m, by the iterator in block r; cnt entries are to come; those that are done and still there are not past. -/
def Rng (w : World) (m r f n : Nat) (old : Nat → Nat → Option Value) (cnt : Nat) : Prop :=
  ∃ es clock since seen c0 look, w.heap[m]? = some (.map es clock) ∧ MapKept.Stamped es clock ∧ Rep es look ∧ w.heap[r]? = some (.mapIter (some m) since seen c0) ∧ (∀ x ∈ es.toList, x.born < since) ∧ since ≤ c0 ∧ since ≤ clock ∧
    (leftOf es seen).size ≤ cnt ∧ (∀ g k, look g k = old g k ∨ (look g k = none ∧ past f n g k = true)) ∧ ∀ x ∈ es.toList, seen.contains x.born = true → ∀ g k, x.key = keyV g k → past f n g k = false

section
variable {w w' : World} {m r f n cnt : Nat} {old look : Nat → Nat → Option Value}
theorem Rng.lt (h : Rng w m r f n old cnt) : m < w.heap.size ∧ r < w.heap.size := by
  obtain ⟨es, clock, since, seen, c0, look, hm, _, _, hr, _⟩ := h
  exact ⟨(Array.getElem?_eq_some_iff.1 hm).1, (Array.getElem?_eq_some_iff.1 hr).1⟩
theorem Rng.keep (h : Rng w m r f n old cnt) (e : w'.heap[m]? = w.heap[m]?) (e2 : w'.heap[r]? = w.heap[r]?) : Rng w' m r f n old cnt := by
  obtain ⟨es, clock, since, seen, c0, look, hm, h1, h2, hr, h3⟩ := h
  exact ⟨es, clock, since, seen, c0, look, e.trans hm, h1, h2, e2.trans hr, h3⟩

/-- 'range m'. -/
theorem IsMap.range (h : IsMap w m old) {t e : TypeId} (ht : Tryd.prog.underlying t = some (.map 88 e)) (f n : Nat) :
    ∃ cnt w', (Instr.range t (.map (some m))).run Tryd.prog w = .ok (.pointer (some ⟨w.heap.size, 0, none⟩)) w' ∧ Rng w' m w.heap.size f n old cnt ∧ Below w.heap.size w w' := by
  have hlt := h.lt
  obtain ⟨es, clock, hb, hs, hr⟩ := h
  have hb' : (w.alloc (.mapIter (some m) clock #[] clock)).heap[m]? = some (.map es clock) := (Go.heap_alloc_old w _ hlt).trans hb
  refine ⟨(leftOf es #[]).size, _, run_range_map w t _ e m es clock ht hb, ⟨es, clock, clock, #[], clock, old, hb', hs, hr, Go.heap_alloc_new w _, ((MapKept.stamped_iff es clock).1 hs).1, Nat.le_refl _, Nat.le_refl _, Nat.le_refl _, fun _ _ => .inl rfl, fun x _ h => by simp at h⟩, (Below.refl _ w).alloc (Nat.le_refl _) _⟩

/-- 'delete(m, k)', and what is there then. -/
theorem drop_who {es : Array MapEntry} {clock g k : Nat} (hb : w.heap[m]? = some (.map es clock)) (hs : MapKept.Stamped es clock) (hr : Rep es look) (hf : g < 16) (hn : k ≤ 262144) :
    ∃ es', (∀ t e ty, Tryd.prog.underlying t = some (.map 88 e) → (Builtin.delete_ #[t, 88] ty #[.map (some m), keyV g k]).run Tryd.prog w = .ok (.tuple #[]) (ChangeMaps.setBlock w m (.map es' clock))) ∧ MapKept.Stamped es' clock ∧ Rep es' (del look g k) ∧
      es'.toList.Sublist es.toList ∧ ∀ x ∈ es'.toList, x.key ≠ keyV g k := by
  obtain ⟨l, hl⟩ := key_of hf hn
  rcases hr.find hs w hf hn with ⟨h1, h2, h3⟩ | ⟨j, e0, h1, hj, hk, h2⟩
  · refine ⟨es, fun t e ty ht => ?_, hs, ⟨fun e he => ?_, fun g' k' u hu => ?_⟩, List.Sublist.refl _, h3⟩
    · simp [Builtin.delete_, run_underlying ht, MapKept.run_getObj_map hb, law.check w _ hl, h1, MapKept.run_setObj_map _ hb, Result.andThen, ChangeMaps.setBlock]
    · obtain ⟨g', k', hg, hk, e1, e2⟩ := hr.told e he
      refine ⟨g', k', hg, hk, e1, ?_⟩
      unfold del
      rw [if_neg, e2]
      rintro ⟨rfl, rfl⟩
      exact h3 e he e1
    · unfold del at hu
      split at hu
      · cases hu
      · exact hr.there g' k' u hu
  · have hjl : j < es.toList.length := (List.getElem?_eq_some_iff.1 hj).1
    have hlist : (es.eraseIdxIfInBounds j).toList = es.toList.eraseIdx j := by
      unfold Array.eraseIdxIfInBounds
      rw [dif_pos (by simpa using hjl)]
      simp
    refine ⟨es.eraseIdxIfInBounds j, fun t e ty ht => ?_, MapKept.stamped_erase hs j, ⟨fun e he => ?_, fun g' k' u hu => ?_⟩, by rw [hlist]; exact List.eraseIdx_sublist _ _, fun x hx => ?_⟩
    · simp [Builtin.delete_, run_underlying ht, MapKept.run_getObj_map hb, law.check w _ hl, h1, MapKept.run_setObj_map _ hb, Result.andThen, ChangeMaps.setBlock]
    · rw [hlist] at he
      obtain ⟨i, hne, hi⟩ := List.mem_eraseIdx_iff_getElem?.1 he
      obtain ⟨g', k', hg, hk2, e1, e2⟩ := hr.told e (List.mem_of_getElem? hi)
      refine ⟨g', k', hg, hk2, e1, ?_⟩
      unfold del
      rw [if_neg, e2]
      rintro ⟨rfl, rfl⟩
      exact apart hs hi hj hne (e1.trans hk.symm)
    · rw [hlist]
      unfold del at hu
      split at hu
      · cases hu
      · rename_i hgk
        obtain ⟨e, he, hk2⟩ := hr.there g' k' u hu
        obtain ⟨i, hi⟩ := List.mem_iff_getElem?.1 he
        refine ⟨e, List.mem_eraseIdx_iff_getElem?.2 ⟨i, ?_, hi⟩, hk2⟩
        rintro rfl
        rw [hj] at hi
        cases hi
        exact hgk (keyV_inj (hk2.symm.trans hk))
    · rw [hlist] at hx
      obtain ⟨i, hne, hi⟩ := List.mem_eraseIdx_iff_getElem?.1 hx
      rw [← hk]
      exact apart hs hi hj hne

/-- The step. -/
theorem Rng.next (h : Rng w m r f n old cnt) (hmr : m ≠ r) (ty : TypeId) :
    ((Instr.next (.pointer (some ⟨r, 0, none⟩)) false ty).run Tryd.prog w = .ok (.tuple #[.bool false]) w ∧ IsMap w m (fun g k => if past f n g k = true then none else old g k)) ∨
    ∃ g k v w', g < 16 ∧ k ≤ 262144 ∧ old g k = some v ∧ (Instr.next (.pointer (some ⟨r, 0, none⟩)) false ty).run Tryd.prog w = .ok (.tuple #[.bool true, keyV g k, v]) w' ∧
      (Instr.entry (.pointer (some ⟨r, 0, none⟩))).run Tryd.prog w' = .ok (.tuple #[keyV g k, v]) w' ∧ w.grownBy w' (some r) ∧ w'.heap.size = w.heap.size ∧
      (past f n g k = false → ∃ c, c < cnt ∧ Rng w' m r f n old c) ∧
      (past f n g k = true → ∀ w2, w2.heap[m]? = w'.heap[m]? → w2.heap[r]? = w'.heap[r]? → ∃ c w3, c < cnt ∧ ∀ t e ty, Tryd.prog.underlying t = some (.map 88 e) → (Builtin.delete_ #[t, 88] ty #[.map (some m), keyV g k]).run Tryd.prog w2 = .ok (.tuple #[]) w3 ∧ w2.grownBy w3 (some m) ∧ Rng w3 m r f n old c) := by
  obtain ⟨es, clock, since, seen, c0, look, hb, hs, hrep, hr, hold, hsc, hsk, hc, hlook, hdone⟩ := h
  rcases run_next_at (P := Tryd.prog) w ty r m since c0 seen es clock hr hb hold hsc with ⟨h0, hrun⟩ | ⟨e, he, w1, hal, hrun⟩
  · refine .inl ⟨hrun, es, clock, hb, hs, ⟨fun x hx => ?_, fun g k v hv => ?_⟩⟩
    · obtain ⟨g, k, hg, hk, e1, e2⟩ := hrep.told x hx
      have hp := hdone x hx (all_seen es seen h0 x hx) g k e1
      refine ⟨g, k, hg, hk, e1, ?_⟩
      rw [hp, if_neg (by simp)]
      rcases hlook g k with h1 | ⟨h1, _⟩
      · exact h1.symm.trans e2
      · rw [h1] at e2
        cases e2
    · split at hv
      · cases hv
      · rename_i hp
        rcases hlook g k with h1 | ⟨_, h2⟩
        · exact hrep.there g k v (h1.trans hv)
        · exact absurd h2 hp
  · obtain ⟨hem, hes⟩ := mem_left he
    obtain ⟨g, k, hg, hk, e1, e2⟩ := hrep.told e hem
    have hold2 : old g k = some e.val := by
      rcases hlook g k with h1 | ⟨h1, _⟩
      · exact h1.symm.trans e2
      · rw [h1] at e2
        cases e2
    have hr1 : w1.heap[r]? = some (.mapIter (some m) since seen c0) := by rcases hal with rfl | rfl <;> exact hr
    have hb1 : w1.heap[m]? = some (.map es clock) := by rcases hal with rfl | rfl <;> exact hb
    have hset := MapKept.heap_set (o' := .mapIter (some m) since (seen.push e.born) clock) hr1
    have hb' : (ChangeMaps.setBlock w1 r (.mapIter (some m) since (seen.push e.born) clock)).heap[m]? = some (.map es clock) := (hset.2 m (fun e1 => hmr e1)).trans hb1
    have hst := (MapKept.stamped_iff es clock).1 hs
    have hsh := left_shrinks es seen e he
    refine .inr ⟨g, k, e.val, _, hg, hk, hold2, by rw [← e1]; exact hrun, by rw [← e1]; exact run_entry_at _ r m since seen es clock e hset.1 hb' hem hst.2.1, ?_, ?_, fun hp => ?_, fun hp w2 q1 q2 => ?_⟩
    · rcases hal with rfl | rfl <;> exact ⟨rfl, rfl, rfl, by simp [ChangeMaps.setBlock], fun i _ hi => hset.2 i (fun e1 => hi (by rw [e1]))⟩
    · rcases hal with rfl | rfl <;> simp [ChangeMaps.setBlock]
    · refine ⟨(leftOf es (seen.push e.born)).size, by omega, es, clock, since, seen.push e.born, clock, look, hb', hs, hrep, hset.1, hold, hsk, hsk, Nat.le_refl _, hlook, fun x hx hxs g' k' hxk => ?_⟩
      rw [contains_push] at hxs
      cases h1 : seen.contains x.born with
      | true => exact hdone x hx h1 g' k' hxk
      | false =>
        rw [h1] at hxs
        have hxe : x.born = e.born := by simpa using hxs
        obtain rfl := born_inj hst.2.1 hx hem hxe
        obtain ⟨rfl, rfl⟩ := keyV_inj (hxk.symm.trans e1)
        exact hp
    · have hb2 : w2.heap[m]? = some (.map es clock) := q1.trans hb'
      have hr2 := q2.trans hset.1
      obtain ⟨es', hdel, hs', hrep', hsub, hkey⟩ := drop_who (w := w2) (m := m) hb2 hs hrep hg hk
      refine ⟨(leftOf es' (seen.push e.born)).size, ChangeMaps.setBlock w2 m (.map es' clock), ?_, fun t el ty ht => ⟨hdel t el ty ht, grown_block _ _ _, es', clock, since, seen.push e.born, clock, del look g k, ChangeMaps.heap_setBlock_same hb2 _, hs', hrep', (ChangeMaps.heap_setBlock_other hb2 _ (fun e => hmr e.symm)).trans hr2, fun x hx => hold x (hsub.subset hx), hsk, hsk, Nat.le_refl _, fun g' k' => ?_, fun x hx hxs g' k' hxk => ?_⟩⟩
      · have e1 : ∀ (a : Array MapEntry) (s : Array Nat), (leftOf a s).size = (a.toList.filter fun e => !s.contains e.born).length := fun a s => by
          unfold leftOf
          rw [← Array.toList_filter, Array.length_toList]
        have h1 := (hsub.filter fun e' => !(seen.push e.born).contains e'.born).length_le
        rw [← e1, ← e1] at h1
        omega
      · unfold del
        by_cases h1 : g' = g ∧ k' = k
        · rw [if_pos h1]
          obtain ⟨rfl, rfl⟩ := h1
          exact .inr ⟨rfl, hp⟩
        · rw [if_neg h1]
          exact hlook g' k'
      · have hxm := hsub.subset hx
        rw [contains_push] at hxs
        cases h1 : seen.contains x.born with
        | true => exact hdone x hxm h1 g' k' hxk
        | false =>
          rw [h1] at hxs
          have hxe : x.born = e.born := by simpa using hxs
          obtain rfl := born_inj hst.2.1 hxm hem hxe
          exact absurd e1 (hkey x hx)
end
end Dsk
end Go.Proofs.YtpogoalbnbekaaaDoor

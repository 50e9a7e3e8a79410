/- Bytes put into a sector. -/
import Derived.Test.YtgaclibokapfaaaCcl
import Derived.Test.YtgaclibokapfaaaCpy
namespace Go.Proofs.Ytgaclibokapfaaa
open Go.RowKit Wire
set_option linter.unusedVariables false
set_option linter.unusedSimpArgs false
open Txt
namespace Dsk

/-- What lies in memory when a sector is looked up. -/
abbrev Lks (A g o m f n : Nat) (C : Con) (w' : World) : Prop := w'.cell? ⟨g, o, none⟩ = some (.map (some m)) ∧ w'.cell? ⟨A, 0, none⟩ = some (.int .i64 f) ∧ w'.cell? ⟨A, 1, none⟩ = some (.int .i64 n) ∧
  (Instr.lookup 52 (.map (some m)) (.agg #[.int .i64 f, .int .i64 n]) false).run Try.prog w' = .ok (blockV C f n) w'

/-- A sector that was boxed, contents that lie elsewhere. -/
structure Held2 (w : World) (A g o m f n : Nat) (C : Con) : Prop where
  con : ConAt w g o m C
  box : Blk w A 76 #[.int .i64 f, .int .i64 n]
theorem Held2.lks {w : World} {A g o m f n : Nat} {C : Con} (h : Held2 w A g o m f n C) (hf : f < 16) (hn : n ≤ 262144) : Lks A g o m f n C w :=
  ⟨h.con.ptr, by rw [h.box.at]; rfl, by rw [h.box.at]; rfl, h.con.map.lookup hf hn⟩
theorem Held2.below {w w' : World} {A g o m f n : Nat} {C : Con} (h : Held2 w A g o m f n C) (b : Below w.heap.size w w') : Held2 w' A g o m f n C :=
  ⟨h.con.below b, h.box.under b h.box.inside⟩


theorem blk_put {C : Con} {f n a k : Nat} {s : ByteArray} (hk : k ≤ s.size) (hk0 : 0 < k) (ha : a + k ≤ 64) : ∀ j, j < (blkL (C.put f (64 * n + a) ((bl s).take k)) f n).length →
    (blkL (C.put f (64 * n + a) ((bl s).take k)) f n)[j]? = if a ≤ j ∧ j < a + ((byteCells s).take k).length then ((byteCells s).take k)[j - a]? else (blkL C f n)[j]? := by
  intro j hj
  rw [blkL_len] at hj
  have hl : ((bl s).take k).length = k := by rw [List.length_take, bl_len]; omega
  have hl2 : ((byteCells s).take k).length = k := by rw [List.length_take, byteCells_length]; omega
  rw [blkL_get _ _ _ _ hj, blkL_get _ _ _ _ hj, Con.put_byte, hl, hl2]
  by_cases h : a ≤ j ∧ j < a + k
  · rw [if_pos h, if_pos (by omega), show 64 * n + j - (64 * n + a) = j - a from by omega]
    unfold byteCells
    rw [← List.map_take, List.getElem?_map, List.getD_eq_getElem?_getD]
    have h2 : j - a < ((bl s).take k).length := by omega
    show some (Value.int .u8 (((bl s).take k)[j - a]?.getD 0).toNat) = Option.map _ (((bl s).take k)[j - a]?)
    rw [List.getElem?_eq_getElem h2]
    rfl
  · rw [if_neg h, if_neg (by omega)]
theorem blk_other {C : Con} {f n a : Nat} {l : List UInt8} (h : a + l.length ≤ 64) {g k : Nat} (hne : ¬ (g = f ∧ k = n)) : blockV (C.put f (64 * n + a) l) g k = blockV C g k :=
  blockV_same fun j hj => by
    rw [Con.put_byte, if_neg]
    rintro ⟨rfl, h1, h2⟩
    exact hne ⟨rfl, by omega⟩

/-- Nothing but n cells of block g, from offset o on, has changed in it. -/
def Keeps (w w' : World) (g o n : Nat) : Prop := ∀ j, j < o ∨ o + n ≤ j → w'.cell? ⟨g, j, none⟩ = w.cell? ⟨g, j, none⟩ ∧ w'.frozen? ⟨g, j, none⟩ = w.frozen? ⟨g, j, none⟩
theorem Keeps.refl (w : World) (g o n : Nat) : Keeps w w g o n := fun _ _ => ⟨rfl, rfl⟩
theorem Keeps.block {w w' : World} {g o n : Nat} (h : w'.heap[g]? = w.heap[g]?) : Keeps w w' g o n := fun j _ => ⟨World.cell?_of_block (a := ⟨g, j, none⟩) h, World.frozen?_of_block (a := ⟨g, j, none⟩) h⟩
theorem Keeps.trans {a b c : World} {g o n : Nat} (h : Keeps a b g o n) (k : Keeps b c g o n) : Keeps a c g o n := fun j hj => ⟨(k j hj).1.trans (h j hj).1, (k j hj).2.trans (h j hj).2⟩
theorem Keeps.put {w : World} {g o n i : Nat} (v : Value) (h1 : o ≤ i) (h2 : i < o + n) : Keeps w (w.setCell ⟨g, i, none⟩ v) g o n := fun j hj =>
  ⟨World.cell?_setCell_other _ _ _ _ (by intro e; simp only [Addr.mk.injEq, and_true, true_and] at e; omega), World.frozen?_setCell _ _ _ _⟩

/-- What a call that puts bytes into contents leaves. -/
structure PutPost (g o m : Nat) (D : Con) (w w' : World) : Prop where
  con : ConAt w' g o m D
  keep : Keeps w w' g o 17
  only : Only (fun b => b = g ∨ b = m) w w'

abbrev Lk3 (A B g o m f n : Nat) (L : List Value) (w' : World) : Prop := w'.cell? ⟨g, o, none⟩ = some (.map (some m)) ∧ w'.cell? ⟨A, 0, none⟩ = some (.int .i64 f) ∧ w'.cell? ⟨A, 1, none⟩ = some (.int .i64 n) ∧ w'.rangeAt B 0 L
abbrev Lk4 (A g o f n : Nat) (z : Nat) (w' : World) : Prop := w'.cell? ⟨A, 0, none⟩ = some (.int .i64 f) ∧ w'.cell? ⟨A, 1, none⟩ = some (.int .i64 n) ∧ w'.cell? ⟨g, o + 1 + f, none⟩ = some (.int .i64 z) ∧ w'.frozen? ⟨g, o + 1 + f, none⟩ = false

theorem slice_arr (w : World) (g : Nat) {a : Nat} (ha : a < 64) : (Instr.sliceAt 89 (.pointer (some ⟨g, 0, none⟩)) (some (.int .i64 a)) none none).run Try.prog w = .ok (.slice (some ⟨g, a, none⟩) (64 - a) (64 - a)) w := by
  have h1 : (a : Int) ≤ 64 := by omega
  have h2 : ¬ 64 = a := by omega
  have hs : (sizeOf 5).run Try.prog w = .ok 1 w := by kernel_rfl
  have e : (⟨g, 0, none⟩ : Addr).add a = ⟨g, a, none⟩ := by rw [row_add', Nat.zero_add]
  have h3 : a ≤ 64 := by omega
  simp [Instr.sliceAt, Instr.sliceBounds, Instr.sliceBound, asIntOf, Instr.sureAddr, run_underlying Try.underlying89, h1, h2, h3, hs, e, Result.andThen]

theorem index_siz (w : World) (g o : Nat) {f : Nat} (hf : f < 16) : (Instr.indexAt 53 (.pointer (some ⟨g, o, none⟩)) (.int .i64 f)).run Try.prog w = .ok (.pointer (some ⟨g, o + f, none⟩)) w := by
  have h1 : (0 : Int) ≤ f ∧ (f : Int) < 16 := by omega
  have h2 : (f : Int) < 16 := by omega
  have hs : (sizeOf 3).run Try.prog w = .ok 1 w := by kernel_rfl
  simp [Instr.indexAt, asIntOf, Instr.sureAddr, run_underlying Try.underlying53, h1, h2, hs, row_add', Result.andThen]
  omega
theorem size_byte : (Try.prog.info? 5).map (·.size) = some 1 := by kernel_rfl
theorem copy_step {w2 : World} {B f n a k : Nat} {C : Con} {s : ByteArray} (hl : Lie w2 B 0 (blkL C f n)) (ha : a < 64) (hs : 0 < s.size) (hk : k = min s.size (64 - a)) :
    ∃ w3, (Builtin.copy_ #[94, 9] 3 #[.slice (some ⟨B, a, none⟩) (64 - a) (64 - a), .string s]).run Try.prog w2 = .ok (.int .i64 k) w3 ∧ Lie w3 B 0 (blkL (C.put f (64 * n + a) ((bl s).take k)) f n) ∧ w2.grownBy w3 (some B) := by
  have hl2 : ((byteCells s).take k).length = k := by rw [List.length_take, byteCells_length]; omega
  have ht := hl.there
  rw [blkL_len] at ht
  refine ⟨w2.setCells B a ((byteCells s).take k), run_copy_cells (P := Try.prog) Try.underlying94 size_byte (From.string s (k := k) (by omega)) (by show min s.size (64 - a) = k; omega) (fun j hj => by have := ht (a + j) (by omega); rwa [Nat.zero_add] at this), ?_, grown_cells _ _ _ _⟩
  have := Lie.part (i := a) (news := (byteCells s).take k) hl (ds := blkL (C.put f (64 * n + a) ((bl s).take k)) f n) (by rw [blkL_len, blkL_len]) (by rw [hl2, blkL_len]; omega) (blk_put (by omega) (by omega) (by omega))
  rwa [Nat.zero_add] at this

theorem store_step {w3 : World} {m f n a : Nat} {C : Con} {l : List UInt8} (hm : MapC w3 m C) (hf : f < 16) (hn : n < 262144) (hl : a + l.length ≤ 64) :
    ∃ w4, (Instr.mapUpdate 52 (.map (some m)) (.agg #[.int .i64 f, .int .i64 n]) (.agg (blkL (C.put f (64 * n + a) l) f n).toArray)).run Try.prog w3 = .ok () w4 ∧ MapC w4 m (C.put f (64 * n + a) l) ∧ w3.grownBy w4 (some m) :=
  hm.store hf (by omega) (C.put f (64 * n + a) l) fun g k hg hne => blk_other hl hne

/-- The new size of a file. -/
theorem size_put {w : World} {g o m f n a k : Nat} {C : Con} {s : ByteArray} (hc : w.rangeAt g o (conL m C)) (hf : f < 16) (hk0 : 0 < k) (hk : k ≤ s.size) {z : Int} (hz : z = (max (C.size f) (64 * n + a + k) : Nat)) : (w.setCell ⟨g, o + (1 + f), none⟩ (.int .i64 z)).rangeAt g o (conL m (C.put f (64 * n + a) ((bl s).take k))) := by
  have hl : ((bl s).take k).length = k := by rw [List.length_take, bl_len]; omega
  have hne : (bl s).take k ≠ [] := by
    intro e
    rw [e] at hl
    simp at hl
    omega
  have h1 := range_put hc (i := 1 + f) (by rw [conL_len]; omega) (.int .i64 z)
  rw [hz, show (max (C.size f) (64 * n + a + k) : Nat) = (C.put f (64 * n + a) ((bl s).take k)).size f from by rw [Con.put_size _ _ _ _ hne, if_pos rfl, hl]] at h1 ⊢
  rw [conL_set m C _ hf (fun g hg => Con.put_size_other _ _ _ _ hg)] at h1
  exact h1
set_option maxRecDepth 8000 in
set_option maxHeartbeats 4000000 in
theorem put_any (g o m f n a : Nat) (C : Con) (s : ByteArray) (w : World) (h : ConAt w g o m C) (hf : f < 16) (hn : n < 262144) (ha : a < 64) (hs : 0 < s.size) (hm : s.size ≤ maxLen) (hgm : g ≠ m) :
    Calls Try.prog 64 #[.pointer (some ⟨g, o, none⟩), .agg #[.int .i64 f, .int .i64 n], .int .i64 a, .string s] w fun e w' => ∃ k : Nat, e = .returned (.int .i64 k) ∧ k = min s.size (64 - a) ∧ PutPost g o m (C.put f (64 * n + a) ((bl s).take k)) w w' := by
  unfold maxLen at hm
  have H0 : Hid (Held2 (w.alloc (.cells #[.int .i64 f, .int .i64 n] 76)) w.heap.size g o m f n C) := Lib.hid ⟨h.below ((Below.refl _ w).alloc (Nat.le_refl _) _), Blk.fresh w _ _⟩
  have HL : Hid (Lks w.heap.size g o m f n C (w.alloc (.cells #[.int .i64 f, .int .i64 n] 76)).drew) := Lib.hid ((H0.out.below ((Below.refl _ _).drew)).lks hf (by omega))
  have h0 := h
  clear h
  have hlt := h0.lt
  have hml := h0.map.lt
  have HZ := Lib.hid (show (w.alloc (.cells #[.int .i64 f, .int .i64 n] 76)).heap.size = w.heap.size + 1 from by simp)
  have HB0 := Lib.hid (below_new (w := w) (.cells #[.int .i64 f, .int .i64 n] 76))
  have H00 := Lib.hid h0
  clear h0
  go_enter Try.func64, Try.ntmps64
  go_wp2_with fail
  refine wp_region_sorted (Lks w.heap.size g o m f n C) [0, 1, 2, 3, 4, 5] [6, 7] (by kernel_rfl) (by kernel_rfl) HL.out ?_
  repeat refine RD.next rfl rfl (by intro w' hS; simp only [Lks] at hS; go_simp; with_reducible rfl) ?_
  refine RD.done ?_
  refine CH.next rfl rfl fun K hK => ?_
  go_simp
  refine step_alloc 64 rfl ?_
  intro w1 ht1 hb1 hz1
  have H1 : Hid (Held2 w1 w.heap.size g o m f n C) := Lib.hid (H0.out.below hb1)
  refine hK _ _ (H1.out.lks hf (by omega)) ?_
  clear hK
  refine CH.next rfl rfl fun K hK => ?_
  rw [HZ.out] at ht1 hz1
  refine wp_store_lie _ _ _ rfl (w.heap.size + 1) 0 64 (blkL C f n) rfl rfl (blkL_len C f n) ht1 (by kernel_rfl) (blkL_one C f n) ?_
  intro w2 he2 hl2 hg2
  clear he2
  have H2 : Hid (Held2 w2 w.heap.size g o m f n C) := Lib.hid ⟨H1.out.con.keep (hg2.block g H1.out.con.lt (by simp; omega)) (hg2.block m H1.out.con.map.lt (by simp; omega)), H1.out.box.past hg2 (by simp)⟩
  refine hK _ _ (H2.out.lks hf (by omega)) ?_
  clear hK
  refine CH.done (NoPanic.normal ?_)
  have hlt2 : w.heap.size + 1 < w2.heap.size := by have := hg2.size; omega
  have HO : Hid (Below w.heap.size w w2) := Lib.hid ((((Below.refl _ w).alloc (Nat.le_refl _) _).trans (hb1.mono (by simp))).trans (grown_below hg2 (by omega) (by omega)))
  obtain ⟨k, hk⟩ : ∃ k, k = min s.size (64 - a) := ⟨_, rfl⟩
  have hkb : 0 < k ∧ k ≤ s.size ∧ a + k ≤ 64 := by omega
  obtain ⟨w3, hcp, hl3, hg3⟩ := copy_step (n := n) hl2 ha hs hk
  have HK := Lib.hid hk
  clear hk
  have H3 : Hid (Held2 w3 w.heap.size g o m f n C) := Lib.hid ⟨H2.out.con.keep (hg3.block g H2.out.con.lt (by simp; omega)) (hg3.block m H2.out.con.map.lt (by simp; omega)), H2.out.box.past hg3 (by simp)⟩
  have hkl : ((bl s).take k).length = k := by rw [List.length_take, bl_len]; omega
  obtain ⟨w4, hup, hm4, hg4⟩ := store_step (w3 := w3.drew) (a := a) (l := (bl s).take k) (H3.out.con.keep rfl rfl).map hf hn (by omega)
  have hsl := fun w' => slice_arr w' (w.heap.size + 1) ha
  clear hkl
  have HL3 := Lib.hid hl3
  have HM4 := Lib.hid hm4
  have HG4 := Lib.hid hg4
  have HG3 := Lib.hid hg3
  have HUP := Lib.hid hup
  have HLK : Hid (Lk3 w.heap.size (w.heap.size + 1) g o m f n (blkL (C.put f (64 * n + a) ((bl s).take k)) f n) w3.drew) := Lib.hid ⟨(H3.out.con.keep (w' := w3.drew) rfl rfl).ptr, (H3.out.lks hf (by omega)).2.1, (H3.out.lks hf (by omega)).2.2.1, hl3.cells⟩
  clear hl3 hm4 hg4 hg3 ht1 hb1 hl2 hg2 H1 hup
  go_wp2_with fail
  clear hsl hcp
  refine wp_region_sorted (Lk3 w.heap.size (w.heap.size + 1) g o m f n (blkL (C.put f (64 * n + a) ((bl s).take k)) f n)) [0, 1, 2, 3, 4, 5] [6] (by kernel_rfl) (by kernel_rfl) HLK.out ?_
  iterate 5 refine RD.next rfl rfl (by intro w' hS; simp only [Lk3] at hS; go_simp; with_reducible rfl) ?_
  refine RD.nextY rfl rfl (yieldsIf_load_mid rfl _ _ rfl (w.heap.size + 1) 0 rfl _ _ (fun w' hS => hS.2.2.2) Try.underlying89 rfl (by rw [blkL_len]; kernel_rfl)) ?_
  refine RD.done ?_
  refine CH.next rfl rfl fun K hK => ?_
  have hup := HUP.out
  go_simp
  clear hup
  have hbl : w.heap.size + 1 < w3.heap.size := Nat.lt_of_lt_of_le hlt2 HG3.out.size
  have hg4 : ∀ b, b < w3.heap.size → b ≠ m → w4.heap[b]? = w3.heap[b]? := fun b hb hne => HG4.out.block b hb (by intro e; injection e with e; exact hne e)
  have hgl : g < w3.heap.size := by omega
  have hne1 : w.heap.size ≠ m ∧ w.heap.size + 1 ≠ m := by omega
  have e1 := hg4 g hgl hgm
  have e2 := hg4 w.heap.size (by omega) hne1.1
  have e3 := hg4 (w.heap.size + 1) hbl hne1.2
  have HC := Lib.hid (range_keep H3.out.con.cells e1)
  have HT := Lib.hid (there_keep H3.out.con.there e1)
  have hb4 : Blk w4 w.heap.size 76 #[.int .i64 f, .int .i64 n] := e2.trans H3.out.box
  have HB4 := Lib.hid hb4
  have hsz4 := HG4.out.size
  have hb4d : Blk w4.drew w.heap.size 76 #[.int .i64 f, .int .i64 n] := hb4
  have HLK4 : Hid (Lk4 w.heap.size g o f n (C.size f) w4.drew) := Lib.hid ⟨by rw [hb4d.at]; rfl, by rw [hb4d.at]; rfl, by rw [Nat.add_assoc]; exact HC.out (1 + f) _ (conL_siz m C hf), by rw [Nat.add_assoc]; exact (HT.out (1 + f) (by omega)).2⟩
  refine hK _ _ ⟨HC.out 0 _ rfl, by rw [hb4.at]; rfl, by rw [hb4.at]; rfl, (HL3.out.keep e3).cells⟩ ?_
  clear hK e1 e2 e3 hg4 hb4 hb4d
  refine CH.done (NoPanic.normal ?_)
  go_wp2_with fail
  refine wp_region_late (Lk4 w.heap.size g o f n (C.size f)) [0, 1, 2, 3, 4, 5, 6, 7, 8, 9, 10, 11, 12, 13, 14, 15, 16, 17] [18, 19, 20] [21] (by kernel_rfl) (by kernel_rfl) (by kernel_rfl) HLK4.out ?_
  have hix := fun w' => index_siz w' g (o + 1) hf
  have hb1 : (0 : Int) ≤ n ∧ (n : Int) < 262144 ∧ (0 : Int) ≤ a ∧ (a : Int) < 64 ∧ (0 : Int) ≤ k ∧ (k : Int) ≤ 64 := by omega
  have hn64 : IntKind.i64.wrap ((n : Int) * 64) = (n : Int) * 64 := IntWalk.i64_in _ (by omega)
  have hn65 : IntKind.i64.wrap ((n : Int) * 64 + a) = (n : Int) * 64 + a := IntWalk.i64_in _ (by omega)
  have hn66 : IntKind.i64.wrap ((n : Int) * 64 + a + k) = (n : Int) * 64 + a + k := IntWalk.i64_in _ (by omega)
  repeat refine RD.next rfl rfl (by intro w' hS; simp only [Lk4] at hS; go_simp; with_reducible rfl) ?_
  refine RD.done ?_
  have hS := HLK4.out
  simp only [Lk4] at hS
  iterate 3
    refine CHW.next rfl rfl fun K hK => ?_
    go_simp
    refine hK _ _ HLK4.out ?_
    clear hK
  refine CHW.done ?_
  clear hix hn64 hn65 hn66
  refine CH.next rfl rfl fun K hK => ?_
  go_simp
  clear hS
  obtain ⟨z, hz⟩ : ∃ z : Int, z = (if (C.size f : Int) < (n : Int) * 64 + (a : Int) + (k : Int) then (n : Int) * 64 + (a : Int) + (k : Int) else (C.size f : Int)) := ⟨_, rfl⟩
  rw [← hz]
  have hz2 : z = ((max (C.size f) (64 * n + a + k) : Nat) : Int) := by omega
  clear hz
  refine hK _ _ trivial ?_
  clear hK
  refine CH.done (NoPanic.normal ?_)
  have HF : Hid (PutPost g o m (C.put f (64 * n + a) ((bl s).take k)) w (w4.setCell ⟨g, o + 1 + f, none⟩ (.int .i64 z)).drew) := Lib.hid (by
    have k1 : Keeps w w2 g o 17 := Keeps.block (HO.out.block g hlt)
    have k2 : Keeps w2 w3 g o 17 := Keeps.block (HG3.out.block g (by omega) (by intro e; injection e with e; omega))
    have k3 : Keeps w3 w4 g o 17 := Keeps.block (HG4.out.block g hgl (by intro e; injection e with e; exact hgm e))
    have k4 : Keeps w4 (w4.setCell ⟨g, o + 1 + f, none⟩ (.int .i64 z)) g o 17 := Keeps.put _ (by omega) (by omega)
    have o1 : Only (fun b => b = g ∨ b = m) w w2 := Only.of_below HO.out
    have o2 : Only (fun b => b = w.heap.size + 1) w2 w3 := Only.of_grown HG3.out (.inl rfl)
    have o3 : Only (fun b => b = g ∨ b = m) w3 w4 := Only.of_grown (a := w3) (b := w4) (m := m) ⟨HG4.out.os, HG4.out.tape, HG4.out.output, HG4.out.size, HG4.out.block⟩ (.inl (.inr rfl))
    have o4 : Only (fun b => b = g ∨ b = m) w4 (w4.setCell ⟨g, o + 1 + f, none⟩ (.int .i64 z)) := Only.set _ _ _ _ (.inl rfl)
    have o12 := (o1.trans o2 fun x hx => .inr (by omega)).same (o3.same o4)
    refine ⟨⟨?_, ?_, ?_⟩, ((k1.trans k2).trans k3).trans k4, ⟨o12.os, o12.tape, o12.output, o12.size, o12.block⟩⟩
    · have := size_put (n := n) (a := a) (s := s) HC.out hf hkb.1 hkb.2.1 hz2
      rw [← Nat.add_assoc] at this
      exact this
    · exact there_put HT.out _ _
    · exact HM4.out.keep (Below.heap_setCell _ _ _ _ (fun e => hgm e.symm)))
  generalize (w4.setCell ⟨g, o + 1 + f, none⟩ (.int .i64 z)).drew = w5 at *
  go_wp2_with fail
  go_ret
  exact ⟨k, rfl, HK.out, HF.out⟩
end Dsk
end Go.Proofs.Ytgaclibokapfaaa

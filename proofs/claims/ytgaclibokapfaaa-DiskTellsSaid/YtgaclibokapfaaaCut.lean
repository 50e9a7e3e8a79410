/- Contents cut short. -/
import Derived.Test.YtgaclibokapfaaaDfn
namespace Go.Proofs.Ytgaclibokapfaaa
open Go.RowKit Wire
set_option linter.unusedVariables false
set_option linter.unusedSimpArgs false
open Txt
namespace Dsk

theorem Rep.mem {es : Array MapEntry} {look : Nat → Nat → Option Value} (h : Rep es look) {f n : Nat} {v : Value} (hv : look f n = some v) : f < 16 ∧ n ≤ 262144 := by
  obtain ⟨e, he, hk⟩ := h.there f n v hv
  obtain ⟨g, k, hg, hk2, e1, _⟩ := h.told e he
  obtain ⟨rfl, rfl⟩ := keyV_inj (hk.symm.trans e1)
  exact ⟨hg, hk2⟩
theorem MapC.blocks {w : World} {m : Nat} {C : Con} (h : MapC w m C) : ∃ look, IsMap w m look ∧ Blocks look ∧ ∀ f n, f < 16 → n ≤ 262144 → (look f n).getD zeroB = blockV C f n := by
  obtain ⟨look, hm, hl⟩ := h
  refine ⟨look, hm, fun g k v hv => ?_, hl⟩
  obtain ⟨es, clock, hb, hs, hr⟩ := hm
  obtain ⟨hg, hk⟩ := hr.mem hv
  have := hl g k hg hk
  rw [hv] at this
  exact ⟨blkL C g k, this, blkL_len _ _ _, blkL_one _ _ _⟩

def zeroL : List Value := List.replicate 64 (.int .u8 0)
theorem zeroL_len : zeroL.length = 64 := by unfold zeroL; simp
theorem zeroL_get {j : Nat} (h : j < 64) : zeroL[j]? = some (.int .u8 0) := by unfold zeroL; rw [List.getElem?_replicate, if_pos h]
theorem wpList_alloc_zero {w : World} {ops : Array Oper} {rest : List Oper} {o : Oper} {a : Act} {Q : Exit → Act → World → Prop} (hgd : o.guard = none) (ho : o.op = .alloc 89)
    (h : ∀ w', Lie w' w.heap.size 0 zeroL → Below w.heap.size w w' → w'.heap.size = w.heap.size + 1 → wpList Try.prog ops Q rest (a.put o.dst (.pointer (some ⟨w.heap.size, 0, none⟩))) w') : wpList Try.prog ops Q (o :: rest) a w :=
  wpList_plain hgd fun K hK => by
    have hb : Blk (w.alloc (.cells (Array.replicate 64 (.int .u8 0)) 89)) w.heap.size _ _ := Blk.fresh w _ _
    have hr : (execOp a.eval o).run Try.prog w = .ok (.value (.pointer (some ⟨w.heap.size, 0, none⟩))) (w.alloc (.cells (Array.replicate 64 (.int .u8 0)) 89)) := by
      unfold execOp
      simp only [ho]
      kernel_rfl
    unfold Oper.wp
    rw [hr]
    refine hK _ _ (h _ ⟨fun j v hv => ?_, fun j hj => ?_⟩ ((Below.refl _ w).alloc (Nat.le_refl _) _) (by simp))
    · have hj : j < 64 := by have := (List.getElem?_eq_some_iff.1 hv).1; rwa [zeroL_len] at this
      rw [zeroL_get hj] at hv
      rw [Nat.zero_add, hb.at, Array.getElem?_replicate, if_pos hj]
      exact hv
    · rw [zeroL_len] at hj
      rw [Nat.zero_add, hb.at, hb.thaw]
      exact ⟨by rw [Array.getElem?_eq_getElem (by simpa using hj)]; rfl, rfl⟩

theorem slice_to (w : World) (g : Nat) {r : Nat} (hr : r ≤ 64) : (Instr.sliceAt 89 (.pointer (some ⟨g, 0, none⟩)) none (some (.int .i64 r)) none).run Try.prog w = .ok (.slice (some ⟨g, 0, none⟩) r 64) w := by
  have h1 : (r : Int) ≤ 64 := by omega
  have hs : (sizeOf 5).run Try.prog w = .ok 1 w := by kernel_rfl
  have e : (⟨g, 0, none⟩ : Addr).add 0 = ⟨g, 0, none⟩ := by rw [row_add', Nat.zero_add]
  simp [Instr.sliceAt, Instr.sliceBounds, Instr.sliceBound, asIntOf, Instr.sureAddr, run_underlying Try.underlying89, h1, hr, hs, e, Result.andThen]
theorem slice_all (w : World) (g : Nat) : (Instr.sliceAt 89 (.pointer (some ⟨g, 0, none⟩)) none none none).run Try.prog w = .ok (.slice (some ⟨g, 0, none⟩) 64 64) w := by
  have hs : (sizeOf 5).run Try.prog w = .ok 1 w := by kernel_rfl
  have e : (⟨g, 0, none⟩ : Addr).add 0 = ⟨g, 0, none⟩ := by rw [row_add', Nat.zero_add]
  simp [Instr.sliceAt, Instr.sliceBounds, Instr.sliceBound, asIntOf, Instr.sureAddr, run_underlying Try.underlying89, hs, e, Result.andThen]

theorem Con.cut_byte (C : Con) (f n g i : Nat) : (C.cut f n).byte g i = if g = f ∧ n ≤ i then 0 else C.byte g i := rfl
theorem cut_last {C : Con} {f n : Nat} : ∀ j, j < (blkL (C.cut f n) f (n / 64)).length → (blkL (C.cut f n) f (n / 64))[j]? = if 0 ≤ j ∧ j < 0 + ((blkL C f (n / 64)).take (n % 64)).length then ((blkL C f (n / 64)).take (n % 64))[j - 0]? else zeroL[j]? := by
  intro j hj
  rw [blkL_len] at hj
  have hl : ((blkL C f (n / 64)).take (n % 64)).length = n % 64 := by rw [List.length_take, blkL_len]; omega
  rw [hl, blkL_get _ _ _ _ hj, Con.cut_byte]
  by_cases h : j < n % 64
  · rw [if_neg (by omega), if_pos ⟨Nat.zero_le _, by omega⟩, Nat.sub_zero, List.getElem?_take, if_pos h, blkL_get _ _ _ _ hj]
  · rw [if_pos ⟨rfl, by omega⟩, if_neg (by omega), zeroL_get hj]
    rfl
theorem cut_other {C : Con} {f n g k : Nat} (hne : ¬ (g = f ∧ k = n / 64)) : blockV (C.cut f n) g k = if past f (n / 64) g k = true then zeroB else blockV C g k := by
  by_cases hp : past f (n / 64) g k = true
  · rw [if_pos hp]
    unfold past at hp
    simp at hp
    exact blockV_zero fun j hj => by rw [Con.cut_byte, if_pos ⟨hp.1, by omega⟩]
  · rw [if_neg hp]
    refine blockV_same fun j hj => ?_
    rw [Con.cut_byte, if_neg]
    rintro ⟨rfl, h2⟩
    unfold past at hp
    simp at hp
    exact hne ⟨rfl, by omega⟩
theorem cut_lookup {w w' : World} {m f n : Nat} {C : Con} {look : Nat → Nat → Option Value} (h : IsMap w m (fun g k => if past f (n / 64) g k = true then none else look g k)) (hl : ∀ f n, f < 16 → n ≤ 262144 → (look f n).getD zeroB = blockV C f n) (hf : f < 16) (hn : n / 64 ≤ 262144) :
    (Instr.lookup 52 (.map (some m)) (keyV f (n / 64)) false).run Try.prog w = .ok (blockV C f (n / 64)) w := by
  rw [h.lookup hf hn Try.underlying52 zero_block]
  have hp : ¬ past f (n / 64) f (n / 64) = true := by unfold past; simp
  rw [if_neg hp, hl f _ hf hn]
theorem cut_store {w : World} {m f n : Nat} {C : Con} {look : Nat → Nat → Option Value} (h : IsMap w m (fun g k => if past f (n / 64) g k = true then none else look g k)) (hl : ∀ f n, f < 16 → n ≤ 262144 → (look f n).getD zeroB = blockV C f n) (hf : f < 16) (hn : n / 64 ≤ 262144) :
    ∃ w', (Instr.mapUpdate 52 (.map (some m)) (keyV f (n / 64)) (blockV (C.cut f n) f (n / 64))).run Try.prog w = .ok () w' ∧ MapC w' m (C.cut f n) ∧ w.grownBy w' (some m) := by
  obtain ⟨w', r1, r2, r3⟩ := h.store hf hn Try.underlying52 (blockV (C.cut f n) f (n / 64))
  refine ⟨w', r1, ⟨_, r2, fun g k hg hk => ?_⟩, r3⟩
  unfold upd
  split
  · rename_i e
    obtain ⟨rfl, rfl⟩ := e
    rfl
  · rename_i e
    rw [cut_other e]
    by_cases hp : past f (n / 64) g k = true
    · simp [hp]
    · simp [hp, hl g k hg hk]

abbrev Lc4 (L g o m f n : Nat) (C : Con) (w' : World) : Prop := w'.cell? ⟨g, o, none⟩ = some (.map (some m)) ∧ w'.cell? ⟨L, 0, none⟩ = some (.int .i64 f) ∧ w'.cell? ⟨L, 1, none⟩ = some (.int .i64 ((n : Int) / 64)) ∧
  (Instr.lookup 52 (.map (some m)) (.agg #[.int .i64 f, .int .i64 ((n : Int) / 64)]) false).run Try.prog w' = .ok (blockV C f (n / 64)) w'

/-- What stays while blocks from B on are made and written. -/
structure CutH (w : World) (B g o m F L f n : Nat) (look : Nat → Nat → Option Value) (v : World) : Prop where
  eg : v.heap[g]? = w.heap[g]?
  box : Blk v F 3 #[.int .i64 f]
  last : Blk v L 76 #[.int .i64 f, .int .i64 ((n : Int) / 64)]
  map : IsMap v m (fun g k => if past f (n / 64) g k = true then none else look g k)
  small : g < B ∧ F < B ∧ L < B ∧ m < B
theorem CutH.keep {w v v' : World} {B g o m F L f n : Nat} {look : Nat → Nat → Option Value} (h : CutH w B g o m F L f n look v) (e : ∀ b, b < B → v'.heap[b]? = v.heap[b]?) : CutH w B g o m F L f n look v' :=
  ⟨(e g h.small.1).trans h.eg, (e F h.small.2.1).trans h.box, (e L h.small.2.2.1).trans h.last, h.map.keep (e m h.small.2.2.2), h.small⟩
theorem CutH.lks {w v : World} {B g o m F L f n : Nat} {C : Con} {look : Nat → Nat → Option Value} (h : CutH w B g o m F L f n look v) (h0 : ConAt w g o m C) (hl : ∀ f n, f < 16 → n ≤ 262144 → (look f n).getD zeroB = blockV C f n) (hf : f < 16) (hn : n ≤ 16777216) : Lc4 L g o m f n C v := by
  refine ⟨(World.cell?_of_block (a := ⟨g, o, none⟩) h.eg).trans h0.ptr, by rw [h.last.at]; rfl, by rw [h.last.at]; rfl, ?_⟩
  have := cut_lookup (w' := v) h.map hl hf (by omega : n / 64 ≤ 262144)
  unfold keyV at this
  rw [show ((n / 64 : Nat) : Int) = (n : Int) / 64 from by omega] at this
  exact this

abbrev Lc6 (B L g o m f n : Nat) (cs : List Value) (w' : World) : Prop := w'.cell? ⟨g, o, none⟩ = some (.map (some m)) ∧ w'.cell? ⟨L, 0, none⟩ = some (.int .i64 f) ∧ w'.cell? ⟨L, 1, none⟩ = some (.int .i64 ((n : Int) / 64)) ∧ w'.rangeAt B 0 cs
abbrev Lc7 (F g o f z : Nat) (w' : World) : Prop := w'.cell? ⟨F, 0, none⟩ = some (.int .i64 f) ∧ w'.cell? ⟨g, o + 1 + f, none⟩ = some (.int .i64 z) ∧ w'.frozen? ⟨g, o + 1 + f, none⟩ = false

set_option maxRecDepth 8000 in
set_option maxHeartbeats 2000000 in
theorem cut_any (g o m f n : Nat) (C : Con) (w : World) (h : ConAt w g o m C) (hf : f < 16) (hn : n ≤ 16777216) (hgm : g ≠ m) :
    Calls Try.prog 54 #[.pointer (some ⟨g, o, none⟩), .int .i64 f, .int .i64 n] w fun e w' => e = .returned (.tuple #[]) ∧ PutPost g o m (C.cut f n) w w' := by
  have hp := h.ptr
  have hg := h.lt
  have hm := h.map.lt
  have H0 := Lib.hid h
  have hni : (0 : Int) ≤ n ∧ (n : Int) ≤ 16777216 := by omega
  obtain ⟨look, hlook, hblk, hlk⟩ := h.map.blocks
  have HLK := Lib.hid hlk
  have b0 : Below w.heap.size w ((w.alloc (.cells #[.int .i64 f] 3)).alloc (.cells #[.int .i64 f, .int .i64 ((n : Int) / 64)] 76)) := ((Below.refl _ w).alloc (Nat.le_refl _) _).alloc (by simp) _
  have hxF : Blk ((w.alloc (.cells #[.int .i64 f] 3)).alloc (.cells #[.int .i64 f, .int .i64 ((n : Int) / 64)] 76)) w.heap.size 3 #[.int .i64 f] := (Blk.fresh w _ _).kept _
  have hxL : Blk ((w.alloc (.cells #[.int .i64 f] 3)).alloc (.cells #[.int .i64 f, .int .i64 ((n : Int) / 64)] 76)) (w.heap.size + 1) 76 #[.int .i64 f, .int .i64 ((n : Int) / 64)] := by
    have := Blk.fresh (w.alloc (.cells #[.int .i64 f] 3)) 76 #[.int .i64 f, .int .i64 ((n : Int) / 64)]
    simpa using this
  have hargs : CutArgs w.heap.size (w.heap.size + 1) f (n / 64) ((w.alloc (.cells #[.int .i64 f] 3)).alloc (.cells #[.int .i64 f, .int .i64 ((n : Int) / 64)] 76)) :=
    ⟨by rw [hxF.at]; rfl, by rw [hxL.at]; rfl, by rw [hxL.at]; show some (Value.int .i64 ((n : Int) / 64)) = _; congr 2⟩
  have HD := Lib.hid (delFunc_any m w.heap.size (w.heap.size + 1) f (n / 64) look _ (hlook.keep (b0.block m hm)) hblk hargs (by omega) (by omega))
  have HXF := Lib.hid hxF
  have HXL := Lib.hid hxL
  have HB0 := Lib.hid b0
  have hz0 : ((w.alloc (.cells #[.int .i64 f] 3)).alloc (.cells #[.int .i64 f, .int .i64 ((n : Int) / 64)] 76)).heap.size = w.heap.size + 2 := by simp
  have HZ0 := Lib.hid hz0
  clear h hlk hlook hblk b0 hxF hxL hargs hz0
  go_enter Try.func54, Try.ntmps54
  go_wp2_with fail
  refine HD.out.mono ?_
  rintro e w1 ⟨rfl, hm1, ho1⟩
  generalize ((w.alloc (.cells #[.int .i64 f] 3)).alloc (.cells #[.int .i64 f, .int .i64 ((n : Int) / 64)] 76)) = w0 at *
  have hs1 : w.heap.size + 2 ≤ w1.heap.size := by have := ho1.size; rw [HZ0.out] at this; exact this
  have HM1 := Lib.hid hm1
  have e1 : ∀ b, b < w.heap.size → b ≠ m → w1.heap[b]? = w.heap[b]? := fun b hb hne => (ho1.block b (by have := HZ0.out; omega) hne).trans (HB0.out.block b hb)
  have hxL1 : Blk w1 (w.heap.size + 1) 76 #[.int .i64 f, .int .i64 ((n : Int) / 64)] := (ho1.block _ (by have := HZ0.out; omega) (by omega)).trans HXL.out
  have hxF1 : Blk w1 w.heap.size 3 #[.int .i64 f] := (ho1.block _ (by have := HZ0.out; omega) (by omega)).trans HXF.out
  have HO1 : Hid (Only (fun b => b = g ∨ b = m) w w1) := Lib.hid ((Only.of_below HB0.out).same (ho1.mono fun x hx => .inl (.inr hx)))
  have HC1 : Hid (CutH w w1.heap.size g o m w.heap.size (w.heap.size + 1) f n look w1) := Lib.hid ⟨e1 g hg hgm, hxF1, hxL1, HM1.out, by omega⟩
  clear hm1 ho1 e1 hxL1 hxF1
  go_wp2_with ((refine wpList_alloc_zero rfl rfl ?_; intro w2 hz2 hb2 hs2))
  have HC2 : Hid (CutH w w1.heap.size g o m w.heap.size (w.heap.size + 1) f n look w2.drew) := Lib.hid (HC1.out.keep fun b hb => hb2.block b hb)
  have HZ2 := Lib.hid hz2
  have HBL2 := Lib.hid hb2
  have hz2' := hs2
  have HS2 := Lib.hid hs2
  clear hz2 hb2 hs2 hz2'
  try go_frame
  refine wp_region_sorted (Lc4 (w.heap.size + 1) g o m f n C) [0, 1, 2, 3, 4, 5] [6, 7] (by kernel_rfl) (by kernel_rfl) (HC2.out.lks H0.out HLK.out hf hn) ?_
  repeat refine RD.next rfl rfl (by intro w' hS; simp only [Lc4] at hS; go_simp; with_reducible rfl) ?_
  refine RD.done ?_
  refine CH.next rfl rfl fun K hK => ?_
  go_simp
  refine step_alloc 64 rfl ?_
  intro w3 ht3 hb3 hs3
  have HC3 : Hid (CutH w w1.heap.size g o m w.heap.size (w.heap.size + 1) f n look w3) := Lib.hid (HC2.out.keep fun b hb => hb3.block b (by have := HS2.out; omega))
  refine hK _ _ (HC3.out.lks H0.out HLK.out hf hn) ?_
  clear hK
  refine CH.next rfl rfl fun K hK => ?_
  refine wp_store_lie _ _ _ rfl w2.heap.size 0 64 (blkL C f (n / 64)) rfl rfl (blkL_len _ _ _) ht3 (by kernel_rfl) (blkL_one _ _ _) ?_
  intro w4 he4 hl4 hg4
  clear he4
  have hlt3 : w2.heap.size < w3.heap.size := by omega
  have HC4 : Hid (CutH w w1.heap.size g o m w.heap.size (w.heap.size + 1) f n look w4) := Lib.hid (HC3.out.keep fun b hb => hg4.block b (by have := HS2.out; omega) (by intro e; injection e with e; have := HS2.out; omega))
  have HZ4 : Hid (Lie w4 w1.heap.size 0 zeroL) := Lib.hid ((HZ2.out.keep (w' := w3) (hb3.block _ (by have := HS2.out; omega))).keep (hg4.block _ (by have := HS2.out; omega) (by intro e; injection e with e; have := HS2.out; omega)))
  have HB4 : Hid (Below w1.heap.size w1 w4) := Lib.hid ((HBL2.out.trans (hb3.mono (by have := HS2.out; omega))).trans (grown_below hg4 (by have := HS2.out; omega) (by have := HBL2.out.size; have := hb3.size; omega)))
  refine hK _ _ (HC4.out.lks H0.out HLK.out hf hn) ?_
  clear hK
  refine CH.done (NoPanic.normal ?_)
  have HL4 := Lib.hid hl4
  have hs4 : w2.heap.size < w4.heap.size := Nat.lt_of_lt_of_le hlt3 hg4.size
  clear hl4 hg4 ht3 hb3 hs3 HC3
  go_wp2_with fail
  try go_frame
  have hr64 : n % 64 ≤ 64 := by omega
  have hsl : ∀ w' : World, (Instr.sliceAt 89 (.pointer (some ⟨w1.heap.size, 0, none⟩)) none (some (.int .i64 ((n : Int).tmod 64))) none).run Try.prog w' = .ok (.slice (some ⟨w1.heap.size, 0, none⟩) (n % 64) 64) w' := fun w' => by
    rw [Int.tmod_eq_emod_of_nonneg (by omega), show (n : Int) % 64 = ((n % 64 : Nat) : Int) from by omega]
    exact slice_to w' _ hr64
  have hsm : ∀ w' : World, (Instr.sliceAt 89 (.pointer (some ⟨w1.heap.size, 0, none⟩)) none (some (.int .i64 ((n : Int) % 64))) none).run Try.prog w' = .ok (.slice (some ⟨w1.heap.size, 0, none⟩) (n % 64) 64) w' := fun w' => by
    rw [show (n : Int) % 64 = ((n % 64 : Nat) : Int) from by omega]
    exact slice_to w' _ hr64
  have hsa := fun w' => slice_all w' w2.heap.size
  refine wp_region_sorted (fun _ => True) [0, 1, 2, 3] [4] (by kernel_rfl) (by kernel_rfl) trivial ?_
  repeat refine RD.next rfl rfl (by intro w' hS; go_simp; with_reducible rfl) ?_
  refine RD.done ?_
  clear hsl hsm hsa
  refine CH.next rfl rfl fun K hK => ?_
  have hnl : ((blkL C f (n / 64)).take (n % 64)).length = n % 64 := by rw [List.length_take, blkL_len]; omega
  have ht4 : w4.drew.there w1.heap.size 0 (n % 64) := fun j hj => by have := HZ4.out.there j (by rw [zeroL_len]; omega); exact this
  refine wp_copy_cells (g := w1.heap.size) (off := 0) (dLen := n % 64) (dCap := 64) (x := .slice (some ⟨w2.heap.size, 0, none⟩) 64 64) _ _ _ _ rfl Try.underlying94 size_byte 64 (n % 64) ((blkL C f (n / 64)).take (n % 64)) (by go_simp) (by go_simp) (From.slice _ _ hnl (fun j u hu => ?_) (fun u hu => blkL_one C f _ u (List.mem_of_mem_take hu))) (by show min 64 (n % 64) = n % 64; omega) ht4 ?_
  · have hj : j < n % 64 := by have := (List.getElem?_eq_some_iff.1 hu).1; omega
    rw [List.getElem?_take, if_pos hj] at hu
    have h1 := HL4.out.cells j u hu
    rw [Nat.zero_add] at h1
    rw [row_add', Nat.zero_add]
    exact h1
  have hl5 : Lie (w4.drew.setCells w1.heap.size 0 ((blkL C f (n / 64)).take (n % 64))) w1.heap.size 0 (blkL (C.cut f n) f (n / 64)) :=
    Lie.part (i := 0) (o := 0) (w := w4.drew) (g := w1.heap.size) (cs := zeroL) (HZ4.out.keep rfl) (by rw [blkL_len, zeroL_len]) (by rw [hnl, zeroL_len]; omega) cut_last
  have hg5 := grown_cells w1.heap.size ((blkL C f (n / 64)).take (n % 64)) 0 w4.drew
  have hs44 := HB4.out.size
  have HC5 : Hid (CutH w w1.heap.size g o m w.heap.size (w.heap.size + 1) f n look (w4.drew.setCells w1.heap.size 0 ((blkL C f (n / 64)).take (n % 64)))) := Lib.hid (HC4.out.keep fun b hb => hg5.block b (by simp; omega) (by intro e; injection e with e; omega))
  have HB5 : Hid (Below w1.heap.size w1 (w4.drew.setCells w1.heap.size 0 ((blkL C f (n / 64)).take (n % 64)))) := Lib.hid (HB4.out.drew.trans (grown_below hg5 (Nat.le_refl _) hs44))
  generalize w4.drew.setCells w1.heap.size 0 ((blkL C f (n / 64)).take (n % 64)) = w5 at *
  have HL5 := Lib.hid hl5
  have hs5 : w1.heap.size < w5.heap.size := World.block_lt_of_cell? w5 ⟨w1.heap.size, 0 + 0, none⟩ (hl5.cells 0 _ (blkL_get _ _ _ _ (by omega)))
  clear hl5 hg5 ht4 hnl
  refine hK _ _ trivial ?_
  clear hK
  refine CH.done (NoPanic.normal ?_)
  obtain ⟨w6, hup, hm6, hg6⟩ := cut_store (w := w5.drew) (HC5.out.keep (v' := w5.drew) fun _ _ => rfl).map HLK.out hf (by omega)
  unfold keyV blockV at hup
  rw [show ((n / 64 : Nat) : Int) = (n : Int) / 64 from by omega] at hup
  have HUP := Lib.hid hup
  have HM6 := Lib.hid hm6
  have hlk5 := (HC5.out.lks H0.out HLK.out hf hn)
  have HL6 : Hid (Lc6 w1.heap.size (w.heap.size + 1) g o m f n (blkL (C.cut f n) f (n / 64)) w5.drew) := Lib.hid ⟨hlk5.1, hlk5.2.1, hlk5.2.2.1, HL5.out.cells⟩
  have hg6' : w5.grownBy w6 (some m) := ⟨hg6.os, hg6.tape, hg6.output, hg6.size, hg6.block⟩
  have e6 : ∀ b, b < w5.heap.size → b ≠ m → w6.heap[b]? = w5.heap[b]? := fun b hb hne => hg6'.block b hb (by intro e; injection e with e; exact hne e)
  have HG6 := Lib.hid hg6'
  have HE6 := Lib.hid e6
  clear hup hm6 hg6 hg6' e6 hlk5
  try go_frame
  go_wp2_with fail
  try go_frame
  refine wp_region_late (Lc6 w1.heap.size (w.heap.size + 1) g o m f n (blkL (C.cut f n) f (n / 64))) [0, 1, 2, 3, 4, 5] [] [6] (by kernel_rfl) (by kernel_rfl) (by kernel_rfl) HL6.out ?_
  iterate 5 refine RD.next rfl rfl (by intro w' hS; simp only [Lc6] at hS; go_simp; with_reducible rfl) ?_
  refine RD.nextY rfl rfl (yieldsIf_load_mid rfl _ _ rfl w1.heap.size 0 (by go_simp) _ _ (fun w' hS => hS.2.2.2) Try.underlying89 rfl (by rw [blkL_len]; kernel_rfl)) ?_
  refine RD.done ?_
  refine CHW.done ?_
  refine CH.next rfl rfl fun K hK => ?_
  have hup := HUP.out
  go_simp
  clear hup
  refine hK _ _ trivial ?_
  clear hK
  refine CH.done (NoPanic.normal ?_)
  have eg6 : w6.heap[g]? = w.heap[g]? := (HE6.out g (by omega) hgm).trans HC5.out.eg
  have hbF : Blk w6 w.heap.size 3 #[.int .i64 f] := (HE6.out w.heap.size (by omega) (by omega)).trans HC5.out.box
  have HT6 := Lib.hid (there_keep H0.out.there eg6)
  have HC6 := Lib.hid (range_keep H0.out.cells eg6)
  have HL7 : Hid (Lc7 w.heap.size g o f (C.size f) w6.drew) := Lib.hid ⟨by rw [World.cell?_drew, hbF.at]; rfl, by rw [Nat.add_assoc]; exact HC6.out (1 + f) _ (conL_siz m C hf), by rw [Nat.add_assoc]; exact (HT6.out (1 + f) (by omega)).2⟩
  have HEG := Lib.hid eg6
  clear eg6 hbF
  try go_frame
  go_wp2_with fail
  try go_frame
  have hix := fun w' => index_siz w' g (o + 1) hf
  refine wp_region_late (Lc7 w.heap.size g o f (C.size f)) [0, 1, 2] [3, 4, 5] [6] (by kernel_rfl) (by kernel_rfl) (by kernel_rfl) HL7.out ?_
  repeat refine RD.next rfl rfl (by intro w' hS; simp only [Lc7] at hS; go_simp; with_reducible rfl) ?_
  refine RD.done ?_
  have hS := HL7.out
  simp only [Lc7] at hS
  iterate 3
    refine CHW.next rfl rfl fun K hK => ?_
    go_simp
    refine hK _ _ HL7.out ?_
    clear hK
  refine CHW.done ?_
  refine CH.next rfl rfl fun K hK => ?_
  go_simp
  clear hS hix
  have HF : Hid (PutPost g o m (C.cut f n) w (w6.setCell ⟨g, o + 1 + f, none⟩ (.int .i64 n)).drew) := Lib.hid (by
    have k1 : Keeps w w6 g o 17 := Keeps.block HEG.out
    have k4 : Keeps w6 (w6.setCell ⟨g, o + 1 + f, none⟩ (.int .i64 n)) g o 17 := Keeps.put _ (by omega) (by omega)
    have o2 : Only (fun b => b = g ∨ b = m) w1 w5 := Only.of_below HB5.out
    have o3 : Only (fun b => b = g ∨ b = m) w5 w6 := Only.of_grown HG6.out (.inl (.inr rfl))
    have o4 : Only (fun b => b = g ∨ b = m) w6 (w6.setCell ⟨g, o + 1 + f, none⟩ (.int .i64 n)) := Only.set _ _ _ _ (.inl rfl)
    have o12 := ((HO1.out.same o2).same o3).same o4
    refine ⟨⟨?_, ?_, ?_⟩, k1.trans k4, ⟨o12.os, o12.tape, o12.output, o12.size, o12.block⟩⟩
    · have h1 := range_put HC6.out (i := 1 + f) (by rw [conL_len]; omega) (.int .i64 n)
      rw [show (Value.int .i64 (n : Int)) = .int .i64 ((C.cut f n).size f : Nat) from by show _ = Value.int .i64 ((if f = f then n else C.size f : Nat) : Int); rw [if_pos rfl]] at h1 ⊢
      rw [conL_set m C _ hf (fun g hg => by show (if g = f then n else C.size g) = C.size g; rw [if_neg hg]), ← Nat.add_assoc] at h1
      exact h1
    · exact there_put HT6.out _ _
    · exact HM6.out.keep (Below.heap_setCell _ _ _ _ (fun e => hgm e.symm)))
  generalize (w6.setCell ⟨g, o + 1 + f, none⟩ (.int .i64 n)).drew = w7 at *
  refine hK _ _ trivial ?_
  clear hK
  refine CH.done (NoPanic.normal ?_)
  go_wp2_with fail
  go_returns
  exact ⟨rfl, HF.out⟩
end Dsk
end Go.Proofs.Ytgaclibokapfaaa

/- Bytes read out of contents. -/
import Derived.Test.YtgaclibokapfaaaPut
import Derived.LoopTactic
import Derived.Deep.DeepCutAuto
import Derived.Deep.RegionWith
namespace Go.Proofs.Ytgaclibokapfaaa
open Go.RowKit Wire
set_option linter.unusedVariables false
set_option linter.unusedSimpArgs false
open Txt
namespace Dsk

/-- 'var b block', or a variable for one. -/
theorem wpList_alloc_blk {w : World} {ops : Array Oper} {rest : List Oper} {o : Oper} {a : Act} {Q : Exit → Act → World → Prop} (hgd : o.guard = none) (ho : o.op = .alloc 89)
    (h : ∀ w', w'.there w.heap.size 0 64 → Below w.heap.size w w' → w'.heap.size = w.heap.size + 1 → wpList Try.prog ops Q rest (a.put o.dst (.pointer (some ⟨w.heap.size, 0, none⟩))) w') : wpList Try.prog ops Q (o :: rest) a w :=
  wpList_plain hgd fun K hK => by
    have hb : Blk (w.alloc (.cells (Array.replicate 64 (.int .u8 0)) 89)) w.heap.size _ _ := Blk.fresh w _ _
    have hr : (execOp a.eval o).run Try.prog w = .ok (.value (.pointer (some ⟨w.heap.size, 0, none⟩))) (w.alloc (.cells (Array.replicate 64 (.int .u8 0)) 89)) := by
      unfold execOp
      simp only [ho]
      kernel_rfl
    unfold Oper.wp
    rw [hr]
    refine hK _ _ (h _ (fun j hj => ?_) ((Below.refl _ w).alloc (Nat.le_refl _) _) (by simp))
    rw [Nat.zero_add, hb.at, hb.thaw]
    exact ⟨by rw [Array.getElem?_eq_getElem (by simpa using hj)]; rfl, rfl⟩

theorem wpList_store_blk {w : World} {ops : Array Oper} {rest : List Oper} {o : Oper} {a : Act} {Q : Exit → Act → World → Prop} (hgd : o.guard = none) (x y : Operand) (ho : o.op = .store 89 x y) (g : Nat) (cs : List Value)
    (hx : a.eval x = .pointer (some ⟨g, 0, none⟩)) (hy : a.eval y = .agg cs.toArray) (hn : cs.length = 64) (ht : w.there g 0 64) (h1 : ∀ v ∈ cs, v.oneCell' = true)
    (h : ∀ w', Lie w' g 0 cs → w.grownBy w' (some g) → wpList Try.prog ops Q rest (a.put o.dst undef) w') : wpList Try.prog ops Q (o :: rest) a w :=
  wpList_plain hgd fun K hK => wp_store_lie 89 x y ho g 0 64 cs hx hy hn ht (by kernel_rfl) h1 fun w' _ h2 h3 => hK _ _ (h w' h2 h3)

theorem wpList_make_bytes {w : World} {ops : Array Oper} {rest : List Oper} {o : Oper} {a : Act} {Q : Exit → Act → World → Prop} (hgd : o.guard = none) (l c : Operand) (hop : o.op = Op.makeSlice 94 l c) (n : Nat) (L M : Int) (hl : a.eval l = .int .i64 L) (hc : a.eval c = .int .i64 M) (hL : L = n) (hC : M = n) (hn : n ≤ 1000000000)
    (h : ∀ w', w'.there w.heap.size 0 n → Below w.heap.size w w' → w.heap.size < w'.heap.size → wpList Try.prog ops Q rest (a.put o.dst (.slice (some ⟨w.heap.size, 0, none⟩) n n)) w') :
    wpList Try.prog ops Q (o :: rest) a w := by
  refine wpList_plain hgd fun K hK' => ?_
  obtain ⟨i0, hi0, hi1, hi2, hi3⟩ := info_parts info_byte
  have hrun := run_make (P := Try.prog) w 94 5 i0 (.int .u8 0) Try.underlying94 hi0 hi1 .i64 .i64 (n : Int) (n : Int) (by omega) (by omega) (by rw [hi3]; omega) (by omega)
  have e : ((n : Int)).toNat = n := by omega
  rw [e, hi2, Nat.mul_one] at hrun
  subst hL
  subst hC
  have hb : Blk (w.alloc (.cells (madeCells (Value.int .u8 0).cells n) 5)) w.heap.size _ _ := Blk.fresh w _ _
  have hz : (madeCells (Value.int .u8 0).cells n).size = n := size_madeCells _ _
  unfold Oper.wp
  simp [execOp, hop, hl, hc, hrun, Result.andThen]
  refine hK' _ _ (h _ (fun j hj => ?_) ((Below.refl _ w).alloc (Nat.le_refl _) _) (by simp))
  rw [Nat.zero_add, hb.at, hb.thaw]
  exact ⟨by rw [Array.getElem?_eq_getElem (by omega)]; rfl, rfl⟩

theorem slice_row (w : World) (g : Nat) {k n : Nat} (hk : k < n) : (Instr.sliceAt 94 (.slice (some ⟨g, 0, none⟩) n n) (some (.int .i64 k)) none none).run Try.prog w = .ok (.slice (some ⟨g, k, none⟩) (n - k) (n - k)) w := by
  have h1 : (k : Int) ≤ n := by omega
  have h2 : ¬ n = k := by omega
  have h3 : k ≤ n := by omega
  have hs : (sizeOf 5).run Try.prog w = .ok 1 w := by kernel_rfl
  have e : (⟨g, 0, none⟩ : Addr).add k = ⟨g, k, none⟩ := by rw [row_add', Nat.zero_add]
  simp [Instr.sliceAt, Instr.slice, Instr.sliceBounds, Instr.sliceBound, asIntOf, run_underlying Try.underlying94, h1, h2, h3, hs, e, Result.andThen]

/-- The head of a round: k bytes are there. -/
structure RedRel (W : World) (g o m : Nat) (C : Con) (f a n G : Nat) (iv : Value) (w : World) (k : Nat) : Prop where
  i : iv = .int .i64 k
  le : k ≤ min n (C.size f - a)
  con : ConAt w g o m C
  below : Below W.heap.size W w
  new : W.heap.size ≤ G ∧ G < w.heap.size
  there : w.there G 0 (min n (C.size f - a))
  bytes : ∀ j, j < k → w.cell? ⟨G, j, none⟩ = some (.int .u8 (C.byte f (a + j)).toNat)

theorem blk_part {C : Con} {f q r c : Nat} {j : Nat} (hj : j < c) (hc : c ≤ 64 - r) : (((blkL C f q).drop r).take c)[j]? = some (.int .u8 (C.byte f (64 * q + (r + j))).toNat) := by
  rw [List.getElem?_take, if_pos hj, List.getElem?_drop, blkL_get _ _ _ _ (by omega)]

theorem RedRel.next {W wr w2 w3 : World} {g o m f a n G k c L : Nat} {C : Con} (hL : L = min n (C.size f - a)) (hkl : k ≤ L) (hcon : ConAt wr g o m C) (hbel : Below W.heap.size W wr) (hnew : W.heap.size ≤ G ∧ G < wr.heap.size) (hg : g < W.heap.size) (hm : m < W.heap.size)
    (hth : wr.there G 0 L) (hby : ∀ j, j < k → wr.cell? ⟨G, j, none⟩ = some (.int .u8 (C.byte f (a + j)).toNat)) (hb2 : Below wr.heap.size wr w2) (hz2 : w2.heap.size = wr.heap.size + 1) (hg3 : w2.grownBy w3 (some wr.heap.size))
    (hc : 0 < c ∧ c ≤ 64 - (a + k) % 64 ∧ c ≤ L - k) : RedRel W g o m C f a n G (.int .i64 ((k + c : Nat) : Int)) (w3.drew.setCells G k (((blkL C f ((a + k) / 64)).drop ((a + k) % 64)).take c)) (k + c) := by
  have e3 : ∀ b, b < wr.heap.size → w3.drew.heap[b]? = wr.heap[b]? := fun b hb => (hg3.block b (by omega) (by intro e; injection e with e; omega)).trans (hb2.block b hb)
  have hgr := grown_cells G (((blkL C f ((a + k) / 64)).drop ((a + k) % 64)).take c) k w3.drew
  have hs3 : wr.heap.size < w3.drew.heap.size := by have := hg3.size; show _ < w3.heap.size; omega
  have e4 : ∀ b, b < wr.heap.size → b ≠ G → (w3.drew.setCells G k (((blkL C f ((a + k) / 64)).drop ((a + k) % 64)).take c)).heap[b]? = wr.heap[b]? := fun b hb hne => (hgr.block b (by omega) (by intro e; injection e with e; exact hne e)).trans (e3 b hb)
  have hs := hbel.size
  have hdl : (((blkL C f ((a + k) / 64)).drop ((a + k) % 64)).take c).length = c := by rw [List.length_take, List.length_drop, blkL_len]; omega
  have ht3 : w3.drew.there G 0 L := there_keep hth (e3 G hnew.2)
  refine ⟨rfl, by omega, hcon.keep (e4 g (by omega) (by omega)) (e4 m (by omega) (by omega)), ?_, ⟨hnew.1, Nat.lt_of_lt_of_le (Nat.lt_trans hnew.2 hs3) hgr.size⟩, ?_, fun j hj => ?_⟩
  · have o2 : Below W.heap.size W w2 := hbel.trans (hb2.mono hs)
    have o3 : Below W.heap.size W w3 := o2.trans (grown_below hg3 (by omega) (by have := hb2.size; omega))
    exact o3.drew.trans (grown_below hgr hnew.1 (by omega))
  · rw [← hL]
    exact there_set ht3
  · by_cases hjk : j < k
    · rw [World.cell?_setCells_out G _ k w3.drew ⟨G, j, none⟩ (fun _ _ => .inl hjk)]
      exact (World.cell?_of_block (a := ⟨G, j, none⟩) (e3 G hnew.2)).trans (hby j hjk)
    · obtain ⟨i, rfl⟩ : ∃ i, j = k + i := ⟨j - k, by omega⟩
      have hi : i < c := by omega
      have hin := World.cell?_setCells_in G (((blkL C f ((a + k) / 64)).drop ((a + k) % 64)).take c) k w3.drew (fun i hi => by have := (ht3 (k + i) (by omega)).1; rwa [Nat.zero_add] at this) i (by omega)
      rw [hin, ← List.getElem?_eq_getElem, blk_part hi hc.2.1, show 64 * ((a + k) / 64) + ((a + k) % 64 + i) = a + (k + i) from by omega]

set_option maxRecDepth 8000 in
set_option maxHeartbeats 1000000 in
theorem read_any (g o m f a n : Nat) (C : Con) (w : World) (h : ConAt w g o m C) (hC : C.size f ≤ 16777216) (hf : f < 16) (ha : a ≤ 9223372036854775807) (hn : n ≤ 9223372036854775807) :
    Calls Try.prog 48 #[.pointer (some ⟨g, o, none⟩), .int .i64 f, .int .i64 a, .int .i64 n] w fun e w' => e = .returned (str (C.read f a n)) ∧ Below w.heap.size w w' := by
  have hix := fun w' => index_siz w' g (o + 1) hf
  have hc : w.cell? ⟨g, o + 1 + f, none⟩ = some (.int .i64 (C.size f)) := by rw [Nat.add_assoc]; exact h.siz hf
  have H0 := Lib.hid h
  clear h
  have hsub : IntKind.i64.wrap ((C.size f : Int) - a) = (C.size f : Int) - a := IntWalk.i64_in _ (by omega)
  obtain ⟨L, hL⟩ : ∃ L, L = min n (C.size f - a) := ⟨_, rfl⟩
  have hLb : L ≤ n ∧ L ≤ C.size f ∧ (0 < L → a + L ≤ C.size f) := by omega
  have HL := Lib.hid hL
  clear hL
  go_enter Try.func48, Try.ntmps48
  go_upto_region 1 with (fail)
  go_cut [9] (fun v9 wx => v9 = .int .i64 ((C.size f - a : Nat) : Int) ∧ w = wx)
  case first =>
    by_cases hlt : (C.size f : Int) - a < 0
    · have h2 : (0 : Int) = ((C.size f - a : Nat) : Int) := by omega
      have H2 := Lib.hid h2
      clear h2
      go_wp2_with fail
      all_goals
        go_meet
        case rel => exact ⟨by rw [← H2.out], rfl⟩
    · have h2 : ((C.size f : Int) - a) = ((C.size f - a : Nat) : Int) := by omega
      have H2 := Lib.hid h2
      clear h2
      go_wp2_with fail
      all_goals
        go_meet
        case rel => exact ⟨by rw [H2.out], rfl⟩
  case rest =>
    obtain ⟨rfl, rfl⟩ := hcut
    clear hix hc hsub
    go_upto_region 2 with (fail)
    go_cut [10] (fun v10 wx => v10 = .slice (some ⟨w.heap.size, 0, none⟩) L L ∧ wx.there w.heap.size 0 L ∧ Below w.heap.size w wx ∧ w.heap.size < wx.heap.size)
    case first =>
      go_wp2_with ((at_make; refine wpList_make_bytes rfl _ _ rfl L _ _ rfl rfl (by have := HL.out; omega) (by have := HL.out; omega) (by omega) ?_; intro w1 ht1 hb1 hz1))
      all_goals
        go_meet
        case rel => exact ⟨rfl, ht1, hb1, hz1⟩
    case rest =>
      obtain ⟨rfl, ht1, hb1, hz1⟩ := hcut
      have HT1 := Lib.hid ht1
      have hL0 : 0 ≤ L := Nat.zero_le L
      clear ht1
      go_wp2_with fail
      go_loopw [11] (fun iv wr => ∃ k, RedRel w g o m C f a n w.heap.size iv wr k) (fun iv _ => L - (intOf iv).toNat)
      case atStart => exact ⟨0, rfl, Nat.zero_le _, H0.out.below hb1, hb1, ⟨Nat.le_refl _, hz1⟩, by rw [← HL.out]; exact HT1.out, fun j hj => by omega⟩
      case round =>
        obtain ⟨k, hk⟩ := hrel
        obtain ⟨rfl, hkl, hcon, hbel, hnew, hth, hby⟩ := hk
        rw [← HL.out] at hkl hth
        clear hb1 hz1
        by_cases hlt : k < L
        · have hq : (a + k) / 64 ≤ 262144 := by omega
          have hlk := hcon.map.lookup hf hq
          rw [show keyV f ((a + k) / 64) = .agg #[.int .i64 f, .int .i64 (((a : Int) + (k : Int)) / 64)] from by unfold keyV; rw [show (((a + k) / 64 : Nat) : Int) = ((a : Int) + k) / 64 from by omega]] at hlk
          have hptr := hcon.ptr
          have HC := Lib.hid hcon
          have HBY := Lib.hid hby
          clear hcon hby
          go_wp2_with (first
            | (refine wpList_alloc_blk rfl rfl ?_; intro w2 ht2 hb2 hz2)
            | (refine wpList_store_blk rfl _ _ rfl wr.heap.size (blkL C f ((a + k) / 64)) rfl rfl (blkL_len _ _ _) ht2 (blkL_one _ _ _) ?_; intro w3 hl3 hg3))
          clear hlk hptr
          have hs1 : ∀ w' : World, (Instr.sliceAt 94 (.slice (some ⟨w.heap.size, 0, none⟩) L L) (some (.int .i64 k)) none none).run Try.prog w' = .ok (.slice (some ⟨w.heap.size, k, none⟩) (L - k) (L - k)) w' := fun w' => slice_row w' _ hlt
          have hs2 : ∀ w' : World, (Instr.sliceAt 89 (.pointer (some ⟨wr.heap.size, 0, none⟩)) (some (.int .i64 (((a : Int) + (k : Int)).tmod 64))) none none).run Try.prog w' = .ok (.slice (some ⟨wr.heap.size, (a + k) % 64, none⟩) (64 - (a + k) % 64) (64 - (a + k) % 64)) w' := fun w' => by
            rw [Int.tmod_eq_emod_of_nonneg (by omega), show ((a : Int) + (k : Int)) % 64 = (((a + k) % 64 : Nat) : Int) from by omega]
            exact slice_arr w' wr.heap.size (Nat.mod_lt _ (by omega))
          have hw1 : IntKind.i64.wrap ((a : Int) + k) = (a : Int) + k := IntWalk.i64_in _ (by omega)
          have hak : (0 : Int) ≤ (a : Int) + k ∧ (a : Int) + k ≤ 16777216 := by omega
          refine wp_region_sorted (fun _ => True) [0, 1, 2, 3, 4, 5, 6, 7, 8] [9, 10, 11] (by kernel_rfl) (by kernel_rfl) trivial ?_
          repeat refine RD.next rfl rfl (by intro w' hS; go_simp; with_reducible rfl) ?_
          refine RD.done ?_
          refine CH.next rfl rfl fun K hK => ?_
          obtain ⟨c, hc⟩ : ∃ c, c = min (64 - (a + k) % 64) (L - k) := ⟨_, rfl⟩
          have hcb : 0 < c ∧ c ≤ 64 - (a + k) % 64 ∧ c ≤ L - k := by omega
          have hdl : (((blkL C f ((a + k) / 64)).drop ((a + k) % 64)).take c).length = c := by rw [List.length_take, List.length_drop, blkL_len]; omega
          have hcm : (64 - (a + k) % 64).min (L - k) = c := by show min (64 - (a + k) % 64) (L - k) = c; omega
          clear hc
          have hgn : w.heap.size ≠ wr.heap.size := by omega
          have hth3 : w3.drew.there w.heap.size k c := fun j hj => by
            have h1 := there_keep hth (hb2.block w.heap.size hnew.2)
            have h2 := there_keep h1 (hg3.block w.heap.size (by omega) (by intro e; injection e with e; omega))
            have h3 := h2 (k + j) (by omega)
            rw [Nat.zero_add] at h3
            exact h3
          refine wp_copy_cells (g := w.heap.size) (off := k) (dLen := L - k) (dCap := L - k) (x := .slice (some ⟨wr.heap.size, (a + k) % 64, none⟩) (64 - (a + k) % 64) (64 - (a + k) % 64)) _ _ _ _ rfl Try.underlying94 size_byte (64 - (a + k) % 64) c (((blkL C f ((a + k) / 64)).drop ((a + k) % 64)).take c) (by go_simp) (by go_simp) (From.slice _ _ hdl (fun j u hu => ?_) (fun u hu => blkL_one C f _ u (List.mem_of_mem_drop (List.mem_of_mem_take hu)))) hcm hth3 ?_
          · have hj : j < c := by have := (List.getElem?_eq_some_iff.1 hu).1; omega
            rw [blk_part hj hcb.2.1] at hu
            have h1 := hl3.cells ((a + k) % 64 + j) (.int .u8 (C.byte f (64 * ((a + k) / 64) + ((a + k) % 64 + j))).toNat) (blkL_get _ _ _ _ (by omega))
            rw [Nat.zero_add] at h1
            rw [row_add', ← hu]
            exact h1
          · have HN : Hid (RedRel w g o m C f a n w.heap.size (.int .i64 ((k + c : Nat) : Int)) (w3.drew.setCells w.heap.size k (((blkL C f ((a + k) / 64)).drop ((a + k) % 64)).take c)) (k + c)) :=
              Lib.hid (RedRel.next HL.out hkl HC.out hbel hnew H0.out.lt H0.out.map.lt hth HBY.out hb2 hz2 hg3 hcb)
            generalize w3.drew.setCells w.heap.size k (((blkL C f ((a + k) / 64)).drop ((a + k) % 64)).take c) = w4 at *
            clear hs1 hs2 hw1 hl3 hg3 hb2 hz2 hth3 hdl hth ht2 hcm
            have hw2 : IntKind.i64.wrap ((k : Int) + (c : Int)) = ((k + c : Nat) : Int) := by rw [IntWalk.i64_in _ (by omega)]; omega
            refine hK _ _ trivial ?_
            clear hK
            refine CH.next rfl rfl fun K hK => ?_
            go_simp
            refine hK _ _ trivial ?_
            clear hK
            refine CH.next rfl rfl fun K hK => ?_
            go_simp
            refine hK _ _ trivial ?_
            clear hK
            refine CH.done (NoPanic.normal ?_)
            clear hw2
            go_wp2_with fail
            go_roundw
            case rel => exact ⟨k + c, HN.out⟩
            case measure => simp [intOf]; omega
        · have hkL : k = L := by omega
          have HB := Lib.hid (fun j hj => hby j hj : ∀ j, j < k → wr.cell? ⟨w.heap.size, j, none⟩ = some (.int .u8 (C.byte f (a + j)).toNat))
          have hlen : (C.read f a n).length = L := by rw [Con.read_len]; exact HL.out.symm
          have hcv := run_convert_bytes_back (P := Try.prog) wr 94 9 5 ⟨w.heap.size, 0, none⟩ L (C.read f a n) Try.underlying94 Try.underlying5 Try.underlying9 (fun j hj => by
            have h1 := Con.read_get C f a n j (by rw [← HL.out]; omega)
            rw [List.getElem?_eq_getElem hj] at h1
            rw [row_add', Nat.zero_add, HB.out j (by omega)]
            injection h1 with h1
            rw [h1])
          rw [hlen] at hcv
          clear hby hth hcon hlen
          obtain rfl := hkL
          go_wp2_with fail
          go_ret
          exact ⟨rfl, hbel⟩
end Dsk
end Go.Proofs.Ytgaclibokapfaaa

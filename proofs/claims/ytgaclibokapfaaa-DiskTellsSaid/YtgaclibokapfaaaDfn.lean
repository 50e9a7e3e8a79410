/- maps.DeleteFunc with the closure of cut. -/
import Derived.Test.YtgaclibokapfaaaDel
namespace Go.Proofs.Ytgaclibokapfaaa
open Go.RowKit Wire
set_option linter.unusedVariables false
set_option linter.unusedSimpArgs false
open Txt
namespace Dsk

theorem wpList_next_run {w w' : World} {ops : Array Oper} {rest : List Oper} {o : Oper} {a : Act} {Q : Exit → Act → World → Prop} (hgd : o.guard = none) (it : Operand) (hop : o.op = .next it false) {r : Nat} {v : Value} (hit : a.eval it = .pointer (some ⟨r, 0, none⟩))
    (hrun : (Instr.next (.pointer (some ⟨r, 0, none⟩)) false 0).run Try.prog w = .ok v w') (h : wpList Try.prog ops Q rest (a.put o.dst v) w') : wpList Try.prog ops Q (o :: rest) a w :=
  wpList_plain hgd fun K hK => by
    have hrun' : (Instr.next (.pointer (some ⟨r, 0, none⟩)) false o.type).run Try.prog w = .ok v w' := hrun
    unfold Oper.wp
    simp [execOp, hop, hit, hrun', Result.andThen]
    exact hK _ _ h
theorem wpList_delete_run {w w' : World} {ops : Array Oper} {rest : List Oper} {o : Oper} {a : Act} {Q : Exit → Act → World → Prop} (hgd : o.guard = none) (d s : Operand) {t k : TypeId} (ho : o.op = .call { callee := .builtin .delete, args := #[d, s], argTypes := #[t, k] }) {x y : Value} (hd : a.eval d = x) (hs : a.eval s = y)
    (hrun : ∀ ty, (Builtin.delete_ #[t, k] ty #[x, y]).run Try.prog w = .ok (.tuple #[]) w') (h : wpList Try.prog ops Q rest (a.put o.dst (.tuple #[])) w') : wpList Try.prog ops Q (o :: rest) a w :=
  wpList_plain hgd fun K hK => by
    have hr := hrun o.type
    unfold Oper.wp execOp
    simp only [ho, resolve, invoke, builtin, Sem.run_bind, Sem.run_pure, Result.andThen_ok, List.map_toArray, List.map_cons, List.map_nil, hd, hs, hr]
    exact hK _ _ h

/-- What the values of a map of sectors are. -/
def Blocks (look : Nat → Nat → Option Value) : Prop := ∀ g k v, look g k = some v → ∃ cs : List Value, v = .agg cs.toArray ∧ cs.length = 64 ∧ ∀ u ∈ cs, u.oneCell' = true

/-- A round's head. -/
structure DfnRel (W : World) (m r F L f n : Nat) (old : Nat → Nat → Option Value) (w : World) (cnt : Nat) : Prop where
  rng : Rng w m r f n old cnt
  args : CutArgs F L f n w
  new : W.heap.size ≤ r
  only : Only (fun b => b = m) W w

theorem there_two {w1 w2 : World} {o : Obj} (h : w2.there (w1.alloc o).heap.size 0 64) : ∀ a1 v1 a2 v2, ((w2.setCell a1 v1).setCell a2 v2).there (w1.heap.size + 1) 0 64 := by
  rw [show (w1.alloc o).heap.size = w1.heap.size + 1 from by simp] at h
  exact fun a1 v1 a2 v2 => there_put (there_put h a1 v1) a2 v2
theorem box_step {w1 w2 w3 : World} {z0 z1 x y : Value} {t : TypeId} (hb2 : Below (w1.alloc (.cells #[z0, z1] t)).heap.size (w1.alloc (.cells #[z0, z1] t)) w2)
    (hg3 : ((w2.setCell ⟨w1.heap.size, 0, none⟩ x).setCell ⟨w1.heap.size, 1, none⟩ y).grownBy w3 (some (w1.heap.size + 1))) : w3.cell? ⟨w1.heap.size, 0, none⟩ = some x ∧ w3.cell? ⟨w1.heap.size, 1, none⟩ = some y ∧ Below w1.heap.size w1 w3 := by
  have hx1 : Blk (w1.alloc (.cells #[z0, z1] t)) w1.heap.size t #[z0, z1] := Blk.fresh w1 _ _
  have hx2 : Blk w2 w1.heap.size t #[z0, z1] := hx1.under hb2 hx1.inside
  have hx3 := ((hx2.put 0 x).put 1 y)
  have hx4 : Blk w3 w1.heap.size t _ := hx3.past hg3 (by simp)
  have hb2' : Below w1.heap.size w1 w2 := ((Below.refl _ w1).alloc (Nat.le_refl _) _).trans (hb2.mono (by simp))
  refine ⟨by rw [hx4.at]; rfl, by rw [hx4.at]; rfl, ?_⟩
  have h1 : w2.grownBy (w2.setCell ⟨w1.heap.size, 0, none⟩ x) (some w1.heap.size) := grown_set _ _ _ _
  have h2 : (w2.setCell ⟨w1.heap.size, 0, none⟩ x).grownBy ((w2.setCell ⟨w1.heap.size, 0, none⟩ x).setCell ⟨w1.heap.size, 1, none⟩ y) (some w1.heap.size) := grown_set _ _ _ _
  have hs := hb2'.size
  have b1 := hb2'.trans (grown_below h1 (Nat.le_refl _) hs)
  have b2 := b1.trans (grown_below h2 (Nat.le_refl _) b1.size)
  exact b2.trans (grown_below hg3 (by omega) b2.size)
theorem CutArgs.keep {F L f n : Nat} {a b : World} (h : CutArgs F L f n a) (e1 : b.heap[F]? = a.heap[F]?) (e2 : b.heap[L]? = a.heap[L]?) : CutArgs F L f n b :=
  ⟨(World.cell?_of_block (a := ⟨F, 0, none⟩) e1).trans h.1, (World.cell?_of_block (a := ⟨L, 0, none⟩) e2).trans h.2.1, (World.cell?_of_block (a := ⟨L, 1, none⟩) e2).trans h.2.2⟩

set_option maxRecDepth 8000 in
set_option maxHeartbeats 2000000 in
theorem delFunc_any (m F L f n : Nat) (old : Nat → Nat → Option Value) (w : World) (h : IsMap w m old) (hb : Blocks old) (hc : CutArgs F L f n w) (hF : F ≠ m) (hL : L ≠ m) :
    Calls Try.prog 66 #[.map (some m), .func (Fn.func 67) #[] #[.pointer (some ⟨F, 0, none⟩), .pointer (some ⟨L, 0, none⟩)]] w
      fun e w' => e = .returned (.tuple #[]) ∧ IsMap w' m (fun g k => if past f n g k = true then none else old g k) ∧ Only (fun b => b = m) w w' := by
  have hm := h.lt
  have hFl := World.block_lt_of_cell? w _ hc.1
  have hLl := World.block_lt_of_cell? w _ hc.2.1
  simp only at hFl hLl
  obtain ⟨cnt, w0, hrg, hR, hb0⟩ := h.range (t := 52) Try.underlying52 f n
  have HR : Hid (DfnRel w m w.heap.size F L f n old w0 cnt) := Lib.hid ⟨hR, ⟨(hb0.cell (p := ⟨F, 0, none⟩) hFl).trans hc.1, (hb0.cell (p := ⟨L, 0, none⟩) hLl).trans hc.2.1, (hb0.cell (p := ⟨L, 1, none⟩) hLl).trans hc.2.2⟩, Nat.le_refl _, Only.of_below hb0⟩
  have HBL := Lib.hid hb
  clear hR hc h hb0 hb
  go_enter Try.func66, Try.ntmps66
  go_wp2_with fail
  clear hrg
  try go_frame
  go_loopg [] cnt (fun k wr => DfnRel w m w.heap.size F L f n old wr k)
  case atStart => exact HR.out
  case round =>
    obtain ⟨hrng, hargs, hnew, honly⟩ := hrel
    have hmr : m ≠ w.heap.size := by omega
    rcases hrng.next hmr 0 with ⟨hnx, hend⟩ | ⟨g, k, v, w1, hg, hk, hv, hnx, hen, hg1, hs1, hno, hyes⟩
    · have HP : Hid (IsMap wr m (fun g k => if past f n g k = true then none else old g k) ∧ Only (fun b => b = m) w wr) := Lib.hid ⟨hend, honly⟩
      clear hrng hargs hend honly
      go_wp2_with ((refine wpList_next_run rfl _ rfl rfl hnx ?_))
      go_returns
      exact ⟨rfl, HP.out⟩
    · obtain ⟨cs, rfl, hl, hone⟩ := HBL.out g k v hv
      have HS := Lib.hid hs1
      have HG1 := Lib.hid hg1
      have HA := Lib.hid hargs
      have HON := Lib.hid honly
      have HNX := Lib.hid hnx
      have HLN := Lib.hid hl
      have hrl := hrng.lt.2
      have hml := hrng.lt.1
      have hws := honly.size
      clear hs1 hg1 hargs hrng honly hv hnx hl
      have HA1 : Hid (CutArgs F L f n w1) := Lib.hid (HA.out.keep (HG1.out.block F (by omega) (by intro e; injection e with e; omega)) (HG1.out.block L (by omega) (by intro e; injection e with e; omega)))
      have HO1 : Hid (Only (fun b => b = m) w w1) := Lib.hid (HON.out.trans (Only.of_grown (F := fun b => w.heap.size ≤ b) HG1.out (.inl (Nat.le_refl _))) fun x hx => .inr hx)
      have hw1 : w.heap.size < w1.heap.size := by rw [HS.out]; exact hrl
      unfold keyV at *
      have hcut := cut1_any F L f n g k cs.toArray
      cases hp : past f n g k with
      | false =>
        have HNO := Lib.hid (hno hp)
        rw [hp] at hcut
        clear hno hyes hp
        go_wp2_with (first
          | (at_next; refine wpList_next_run rfl _ rfl rfl HNX.out ?_)
          | (refine wpList_alloc_blk rfl rfl ?_; intro w2 ht2 hb2 hz2; have HT2 := Lib.hid (there_two ht2); clear ht2; obtain ⟨hc2, hf2⟩ := bcell hb2)
          | (refine wpList_store_blk rfl _ _ rfl (w1.heap.size + 1) cs (by go_simp) (by go_simp) HLN.out (HT2.out _ _ _ _) hone ?_; intro w3 hl3 hg3; obtain ⟨hk0, hk1, hb3⟩ := box_step hb2 hg3; have ha3 := HA1.out.keep (hb3.block F (by omega)) (hb3.block L (by omega)); clear HT2 hb2 hz2 hc2 hf2 hg3)
          | (refine wpList_load_mid rfl 89 _ rfl (w1.heap.size + 1) 0 (by go_simp) cs _ hl3.cells Try.underlying89 rfl (by rw [HLN.out]; kernel_rfl) ?_)
          | (go_at_call 67; refine (hcut _ ha3).mono ?_; rintro e w4 ⟨rfl, hb4⟩))
        obtain ⟨c, hc, hr⟩ := HNO.out
        have hs3 := hb3.size
        have HN : Hid (DfnRel w m w.heap.size F L f n old w4 c) := Lib.hid (by
          have e4 : ∀ b, b < w1.heap.size → w4.heap[b]? = w1.heap[b]? := fun b hb => (hb4.block b (by omega)).trans (hb3.block b hb)
          exact ⟨hr.keep (e4 m (by omega)) (e4 w.heap.size hw1), HA1.out.keep (e4 F (by omega)) (e4 L (by omega)), Nat.le_refl _, (HO1.out.same (Only.of_below hb3)).same (Only.of_below hb4)⟩)
        clear hb4 hb3 hr ha3 hl3
        go_roundg c
        case rel => exact HN.out
        case measure => exact hc
      | true =>
        have HYES := Lib.hid (hyes hp)
        rw [hp] at hcut
        clear hno hyes hp
        go_wp2_with (first
          | (at_next; refine wpList_next_run rfl _ rfl rfl HNX.out ?_)
          | (refine wpList_alloc_blk rfl rfl ?_; intro w2 ht2 hb2 hz2; have HT2 := Lib.hid (there_two ht2); clear ht2; obtain ⟨hc2, hf2⟩ := bcell hb2)
          | (refine wpList_store_blk rfl _ _ rfl (w1.heap.size + 1) cs (by go_simp) (by go_simp) HLN.out (HT2.out _ _ _ _) hone ?_; intro w3 hl3 hg3; obtain ⟨hk0, hk1, hb3⟩ := box_step hb2 hg3; have ha3 := HA1.out.keep (hb3.block F (by omega)) (hb3.block L (by omega)); clear HT2 hb2 hz2 hc2 hf2 hg3)
          | (refine wpList_load_mid rfl 89 _ rfl (w1.heap.size + 1) 0 (by go_simp) cs _ hl3.cells Try.underlying89 rfl (by rw [HLN.out]; kernel_rfl) ?_)
          | (go_at_call 67; refine (hcut _ ha3).mono ?_; rintro e w4 ⟨rfl, hb4⟩; obtain ⟨hc4, hf4⟩ := bcell hb4; have hz3 : w1.heap.size < w3.heap.size := World.block_lt_of_cell? w3 _ hk0))
        have e4 : ∀ b, b < w1.heap.size → w4.heap[b]? = w1.heap[b]? := fun b hb => (hb4.block b (by omega)).trans (hb3.block b hb)
        have hs3 := hb3.size
        have hs4 := hb4.size
        obtain ⟨c, w5, hc, hd⟩ := HYES.out w4 (e4 m (by omega)) (e4 w.heap.size hw1)
        obtain ⟨hrun, hg5, hr5⟩ := hd 52 _ 0 Try.underlying52
        have e5 : ∀ b, b < w1.heap.size → b ≠ m → w5.heap[b]? = w1.heap[b]? := fun b hb hne => (hg5.block b (by omega) (by intro e; injection e with e; exact hne e)).trans (e4 b hb)
        have HN : Hid (DfnRel w m w.heap.size F L f n old w5 c) := Lib.hid
          ⟨hr5, HA1.out.keep (e5 F (by omega) hF) (e5 L (by omega) hL), Nat.le_refl _, ((HO1.out.same (Only.of_below hb3)).same (Only.of_below hb4)).same (Only.of_grown hg5 (.inl rfl))⟩
        clear hb4 hb3 ha3 hl3 hc4 hf4 e4 e5 hg5 hr5 hd
        rw [hrun]
        clear hrun
        go_simp
        go_wp2_with fail
        go_roundg c
        case rel => exact HN.out
        case measure => exact hc
end Dsk
end Go.Proofs.Ytgaclibokapfaaa

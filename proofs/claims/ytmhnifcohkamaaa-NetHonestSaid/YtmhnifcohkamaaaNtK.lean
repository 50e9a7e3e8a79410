/- The reference's Double; Same. -/
import Derived.Test.YtmhnifcohkamaaaNtJ
namespace Go.Proofs.Ytmhnifcohkamaaa
open Go.RowKit Wire
open Txt (Row)
open Dsk (Only below_of_grown Grow.bare)
set_option linter.unusedVariables false
set_option linter.unusedSimpArgs false
namespace Dsk
section
variable {P : Program} {ops : Array Oper} {Q : Exit → Act → World → Prop} {S : World → Prop} {D : List Nat} {fuel : Nat} {listed : Array Bool} {a : Act} {w : World}
theorem anyW_done (h : Region.ready .any ops listed = []) (hq : Q .normal a w) : wpAnyW P .any ops Q S D fuel listed a w := by
  cases fuel with
  | zero => exact ⟨h, hq⟩
  | succ fuel => exact ⟨fun _ => hq, fun i hi => by rw [h] at hi; cases hi⟩
/-- One of the operations that are ready, whichever it is. -/
def Take (P : Program) (ops : Array Oper) (Q : Exit → Act → World → Prop) (S : World → Prop) (D : List Nat) (fuel : Nat) (listed : Array Bool) (a : Act) (w : World) (i : Nat) : Prop :=
  ∃ o, nth ops.toList i = some o ∧ Region.wanted o (yielded ops a.tmps) = true ∧ Oper.wp P o a w (fun a' w' => (i ∈ D ∨ S w') ∧ wpAnyW P .any ops Q S D fuel (listed.setIfInBounds i true) a' w') Q
theorem Take.mk {i : Nat} {o : Oper} (ho : nth ops.toList i = some o) (hw : Region.wanted o (yielded ops a.tmps) = true) (h : ∀ K : Act → World → Prop, (∀ a' w', (i ∈ D ∨ S w') → wpAnyW P .any ops Q S D fuel (listed.setIfInBounds i true) a' w' → K a' w') → Oper.wp P o a w K Q) : Take P ops Q S D fuel listed a w i :=
  ⟨o, ho, hw, h _ fun a' w' h1 h2 => ⟨h1, h2⟩⟩
theorem anyW_all {l : List Nat} (hr : Region.ready .any ops listed = l) (hl : l ≠ []) (h : ∀ i ∈ l, Take P ops Q S D fuel listed a w i) : wpAnyW P .any ops Q S D (fuel + 1) listed a w := by
  refine ⟨fun e => absurd (hr.symm.trans e) hl, fun i hi => ?_⟩
  rw [hr] at hi
  obtain ⟨o, ho, hw, hp⟩ := h i hi
  unfold wpOp
  rw [nth_ops ho]
  show if _ then _ else _
  rw [if_pos hw]
  exact .inl hp
theorem reads_of_any {L : List Nat} {k : Nat} (hsel : Region.noSelect ops = true) (hQ : ∀ c a d v w, Q (.panic c) (Act.put a d v) w → Q (.panic c) a w) (hS : S w) :
    ∀ (I : List Nat) (listed last : Array Bool) (a : Act), waits ops I L = true → sortedReads ops I listed = some last →
      RD P ops S (fun a => wpAnyW P .any ops Q S L k last a w) I a → wpAnyW P .any ops Q S L (I.length + k) listed a w
  | [], listed, last, a, _, hs, h => by
    have : listed = last := by simpa [sortedReads] using hs
    subst this
    rw [show ([] : List Nat).length + k = k from by simp]
    exact h
  | i :: I, listed, last, a, hwt, hs, h => by
    unfold sortedReads at hs
    split at hs
    · rename_i hb
      simp only [Bool.and_eq_true] at hb
      obtain ⟨o, ho, hw, v, hv, hr⟩ := h
      have hwt' : waits ops I L = true := by
        unfold waits at hwt ⊢
        rw [List.all_eq_true] at hwt ⊢
        intro j hj
        have := hwt j hj
        split at this
        · rw [List.all_cons, Bool.and_eq_true] at this
          exact this.2
        · cases this
      rw [show (i :: I).length + k = (I.length + k) + 1 from by simp; omega]
      refine wpAnyW_first (nth_ops ho) (Region.noSelect_spec hsel) (fun c a w => hQ c a _ _ w) (fun j oj hj hoj => ?_) _ listed a w (Region.free_spec (nth_ops ho) hb.1) (by simpa using hb.2) (.inl ⟨hw, hv⟩) hS (reads_of_any hsel hQ hS I _ last _ hwt' hs hr)
      unfold waits at hwt
      rw [List.all_eq_true] at hwt
      have h1 := hwt j hj
      have h2 : nth ops.toList j = some oj := by rw [nth_eq]; simpa using hoj
      rw [h2] at h1
      simp only [List.all_cons, Bool.and_eq_true, List.any_eq_true, beq_iff_eq] at h1
      obtain ⟨e, he, h3, h4⟩ := h1.1
      exact ⟨e, by simpa using he, h3, h4⟩
    · cases hs
/-- The region: first all that only read, then whatever is ready. -/
theorem wp_region_any_order {id : Nat} (S : World → Prop) (I L : List Nat) (k : Nat) (last : Array Bool) (hm : P.follows .mixedOrders = true) (hsel : Region.noSelect ops = true) (hs : sortedReads ops I (Array.replicate ops.size false) = some last) (hk : I.length + k = ops.size) (hwt : waits ops I L = true) (hS : S w.drew)
    (h : RD P ops S (fun a => wpAnyW P .any ops (NoPanic Q) S L k last a w.drew) I a) : (Code.region id ops true).wp P Q a w := by
  have := wpAny_of_w _ _ _ _ (reads_of_any (Q := NoPanic Q) hsel (fun _ _ _ _ _ h => h) hS I _ last a hwt hs h)
  rw [hk] at this
  exact wp_region_noPanic (wp_region_any hm this)
end
end Dsk
namespace Ntw
set_option maxHeartbeats 1000000 in
theorem qDouble_none {w : World} {p : Nat} {S : Nt} {F : Nat → Prop} (h : NetAt 29 w p S F) (i : Int) (hi : S.has i = false) :
    Calls Try.prog 28 #[ptr p, .int .i64 i] w fun e w' => e = .returned (.int .i64 4) ∧ w = w' := by
  obtain ⟨v, hV⟩ := h.pieces
  have c0 := hV.cell
  obtain ⟨A, c, rfl⟩ := hV.row.slice
  have hn := none_two hi
  clear h hi hV
  generalize S.L.length = n at *
  rcases hn with hn | ⟨hn, hm⟩
  · go_enter Try.func28, Try.ntmps28
    go_wp2_with fail
    go_ret
    exact ⟨rfl, rfl⟩
  · go_enter Try.func28, Try.ntmps28
    go_wp2_with fail
    go_ret
    exact ⟨rfl, rfl⟩
set_option maxHeartbeats 1000000 in
theorem qDouble_full {w : World} {p : Nat} {S : Nt} {F : Nat → Prop} (h : NetAt 29 w p S F) (i : Nat) (hi : i < S.L.length) (hl : 500 ≤ S.L.length) :
    Calls Try.prog 28 #[ptr p, .int .i64 i] w fun e w' => e = .returned (.int .i64 6) ∧ w = w' := by
  obtain ⟨v, hV⟩ := h.pieces
  have c0 := hV.cell
  obtain ⟨A, c, rfl⟩ := hV.row.slice
  have hi2 : ¬ (S.L.length : Int) ≤ i := by omega
  have hl2 : (500 : Int) ≤ S.L.length := by omega
  clear h hi hV hl
  generalize S.L.length = n at *
  go_enter Try.func28, Try.ntmps28
  go_wp2_with fail
  go_ret
  exact ⟨rfl, rfl⟩
/-- What Double's region reads. -/
def DblS (p : Nat) (v : Value) (g o : Nat) (q : Pk) (w : World) : Prop := w.cell? ⟨p, 0, none⟩ = some v ∧ w.frozen? ⟨p, 0, none⟩ = false ∧ w.cell? ⟨g, o, none⟩ = some (.int .i64 q.src) ∧ w.cell? ⟨g, o + 1, none⟩ = some (.int .i64 q.dst) ∧ w.cell? ⟨g, o + 2, none⟩ = some (.string q.body)
set_option maxRecDepth 8000 in
set_option maxHeartbeats 2000000 in
theorem qDouble_ok {w : World} {p : Nat} {S : Nt} {F : Nat → Prop} (h : NetAt 29 w p S F) (i : Nat) (q : Pk) (hq : S.L[i]? = some q) (hl : S.L.length < 500) :
    Calls Try.prog 28 #[ptr p, .int .i64 i] w fun e w' => e = .returned (.int .i64 0) ∧ NPost 29 p { S with L := S.L ++ [q] } F w w' := by
  have hlt := (List.getElem?_eq_some_iff.1 hq).1
  obtain ⟨v, hV⟩ := h.pieces
  have c0 := hV.cell
  obtain ⟨A, c, rfl, hr⟩ := Grow.row hV.row
  obtain ⟨g, o, rfl, hg, hc⟩ := row_pk hr (Below.refl _ _) hq
  have hi2 : ¬ (S.L.length : Int) ≤ i := by omega
  have hi3 : (i : Int) < S.L.length := by omega
  have hl2 : ¬ (500 : Int) ≤ S.L.length := by omega
  have HS : Hid (∀ w', Below w.heap.size w w' → DblS p (.slice (some ⟨g, o, none⟩) S.L.length c) g (o + i * 3) q w') := Lib.hid fun w' b => ⟨(hV.below b).blk.at 0, (hV.below b).blk.thaw 0, (hc w' b).1, (hc w' b).2.1, (hc w' b).2.2⟩
  have HL2 := Lib.hid (show S.L.length + 1 ≤ 100000 from by omega)
  have HO2 := Lib.hid (h.ok.add hl (h.ok.at hq))
  have HCP : Hid (∀ w3 v0, Below w.heap.size w w3 → Grow w3 w.heap.size 3 v0 0 [] → ∃ v1 w1, (Builtin.append_ #[27, 27] 27 #[v0, .slice (some ⟨g, o, none⟩) S.L.length c]).run Try.prog w3 = .ok v1 w1 ∧ Below w.heap.size w w1 ∧ Grow w1 w.heap.size 3 v1 S.L.length (pks S.L) ∧ w3.grownBy w1 v0.ownBlock) := Lib.hid fun w3 v0 b g0 => copy_run hV b g0
  have HPU : Hid (∀ w4 v1 xb, Below w.heap.size w w4 → Grow w4 w.heap.size 3 v1 S.L.length (pks S.L) → Blk w4 xb 33 #[.int .i64 q.src, .int .i64 q.dst, .string q.body] → ∃ A5 m5 c5 w5, (Builtin.append_ #[27, 27] 27 #[v1, .slice (some ⟨xb, 0, none⟩) 1 1]).run Try.prog w4 = .ok (.slice A5 m5 c5) w5 ∧ Below w.heap.size w w5 ∧ NPost 29 p { S with L := S.L ++ [q] } F w (w5.setCell ⟨p, 0, none⟩ (.slice A5 m5 c5))) := Lib.hid fun w4 v1 xb b g1 hx => by
    have hsrc : Src Try.prog 3 27 (.slice (some ⟨xb, 0, none⟩) 1 1) 1 (pks [q]) w4 := Src.ofSlice w4 Try.underlying27 ⟨xb, 0, none⟩ 1 1 (pks [q]) rfl (fun j u hu => by
      rw [row_add', Nat.zero_add, hx.at]
      rw [pks_one] at hu
      simpa using hu) (one_pks _)
    obtain ⟨v2, w5, r2, g2, _, b2⟩ := app_run g1 b.size hsrc HL2.out
    have hp := new_store (S' := { S with L := S.L ++ [q] }) hV HO2.out rfl (b.trans b2) (by
      show Grow w5 w.heap.size 3 v2 (S.L ++ [q]).length (pks (S.L ++ [q]))
      rw [List.length_append]
      exact g2)
    obtain ⟨A5, c5, rfl⟩ := g2.slice
    exact ⟨A5, _, c5, w5, r2, b.trans b2, hp⟩
  generalize hWA : (w.alloc (.cells #[] 33)).drew = wA
  generalize hWC : (w.alloc (.cells #[.int .i64 q.src, .int .i64 q.dst, .string q.body] 33)).drew = wC
  have bA : Below w.heap.size w wA := hWA ▸ ((Below.refl _ w).alloc (Nat.le_refl _) _).drew
  have bC : Below w.heap.size w wC := hWC ▸ ((Below.refl _ w).alloc (Nat.le_refl _) _).drew
  have gA : Grow wA w.heap.size 3 (.slice (some ⟨w.heap.size, 0, none⟩) 0 0) 0 [] := hWA ▸ (Grow.bare w 33 3).drew
  have xC : Blk wC w.heap.size 33 #[.int .i64 q.src, .int .i64 q.dst, .string q.body] := by rw [← hWC]; exact Blk.fresh w _ _
  have sC : wC.heap.size = w.heap.size + 1 := by rw [← hWC]; exact size_alloc1 w _
  have HWA := Lib.hid hWA
  have HWC := Lib.hid hWC
  have HBA := Lib.hid bA
  have HBC := Lib.hid bC
  have HGA := Lib.hid gA
  have HXC := Lib.hid xC
  have HSC := Lib.hid sC
  have HB : Hid (Below w.heap.size w w.drew) := Lib.hid (Below.refl _ w).drew
  clear h hV hq hr hc hg hWA hWC bA bC gA xC sC
  generalize S.L.length = n at *
  go_enter Try.func28, Try.ntmps28
  go_upto_region 5 with (fail)
  try go_frame
  refine Dsk.wp_region_any_order (DblS p (.slice (some ⟨g, o, none⟩) n c) g (o + i * 3) q) [0, 2, 3, 4, 5, 7, 8, 9, 10, 11, 12, 13] [18] 7 #[true, false, true, true, true, true, false, true, true, true, true, true, true, true, false, false, false, false, false] (by kernel_rfl) (by kernel_rfl) (by kernel_rfl) (by kernel_rfl) (by kernel_rfl) (HS.out _ HB.out) ?_
  repeat refine Dsk.RD.next rfl rfl (by intro w' hS; obtain ⟨s0, s1, s2, s3, s4⟩ := hS; go_simp; with_reducible rfl) ?_
  refine Dsk.RD.done ?_
  refine Dsk.anyW_all (l := [1, 14]) (by kernel_rfl) (by simp) fun j hj => ?_
  obtain rfl | rfl : j = 1 ∨ j = 14 := by simpa using hj
  · clear hj
    refine Dsk.Take.mk rfl rfl fun K hK => ?_
    go_simp
    rw [HWA.out]
    refine hK _ _ (.inr (HS.out _ HBA.out)) ?_
    clear hK
    refine Dsk.anyW_all (l := [6, 14]) (by kernel_rfl) (by simp) fun j hj => ?_
    obtain rfl | rfl : j = 6 ∨ j = 14 := by simpa using hj
    · clear hj
      obtain ⟨v1, w1, r1, b1, g1, gr1⟩ := HCP.out wA _ HBA.out HGA.out
      generalize hWX : w1.alloc (.cells #[.int .i64 q.src, .int .i64 q.dst, .string q.body] 33) = wX
      have bX : Below w1.heap.size w1 wX := hWX ▸ (Below.refl _ w1).alloc (Nat.le_refl _) _
      have xX : Blk wX w1.heap.size 33 #[.int .i64 q.src, .int .i64 q.dst, .string q.body] := by rw [← hWX]; exact Blk.fresh w1 _ _
      obtain ⟨A5, m5, c5, w5, r5, b5, hp5⟩ := HPU.out wX v1 _ (b1.trans (bX.mono b1.size)) (g1.below bX) xX
      have R1 := Lib.hid r1
      have B1 := Lib.hid b1
      have BX := Lib.hid (b1.trans (bX.mono b1.size))
      have HWX := Lib.hid hWX
      have R5 := Lib.hid r5
      have B5 := Lib.hid b5
      have HP5 := Lib.hid hp5
      clear r1 b1 hWX r5 b5 hp5 g1 gr1 bX xX
      refine Dsk.Take.mk rfl rfl fun K hK => ?_
      refine wp_append_run _ _ _ _ rfl (by simp [go_sem]) (by simp [go_sem]) R1.out ?_
      refine hK _ _ (.inr (HS.out _ B1.out)) ?_
      clear hK
      refine Dsk.chain_of_j (L := [18]) (fun _ h => h) [14, 15, 16, 17] _ _ _ _ (by decide) (by kernel_rfl) ?_
      refine Dsk.CHW.next rfl rfl fun K hK => ?_
      go_simp
      rw [HWX.out]
      refine hK _ _ (HS.out _ BX.out) ?_
      clear hK
      refine Dsk.CHW.next rfl rfl fun K hK => ?_
      refine wp_append_run _ _ _ _ rfl (by simp [go_sem]) (by simp [go_sem]) R5.out ?_
      refine hK _ _ (HS.out _ B5.out) ?_
      clear hK
      iterate 2
        refine Dsk.CHW.next rfl rfl fun K hK => ?_
        go_simp
        refine hK _ _ (HS.out _ B5.out) ?_
        clear hK
      refine Dsk.CHW.done ?_
      refine Dsk.CH.next rfl rfl fun K hK => ?_
      have s0 := (HS.out _ B5.out).1
      have s1 := (HS.out _ B5.out).2.1
      go_simp
      refine hK _ _ trivial ?_
      clear hK
      refine Dsk.CH.done (NoPanic.normal ?_)
      try go_frame
      go_wp2_with fail
      go_ret
      exact ⟨rfl, HP5.out⟩
    · clear hj
      generalize hWX : (wA.alloc (.cells #[.int .i64 q.src, .int .i64 q.dst, .string q.body] 33)) = wX
      have bX : Below wA.heap.size wA wX := hWX ▸ (Below.refl _ wA).alloc (Nat.le_refl _) _
      have xX : Blk wX wA.heap.size 33 #[.int .i64 q.src, .int .i64 q.dst, .string q.body] := by rw [← hWX]; exact Blk.fresh wA _ _
      obtain ⟨v1, w1, r1, b1, g1, gr1⟩ := HCP.out wX _ (HBA.out.trans (bX.mono HBA.out.size)) (HGA.out.below bX)
      have xX2 := xX.past gr1 (fun e => by have := (HGA.out.block _ e.symm).2; omega)
      obtain ⟨A5, m5, c5, w5, r5, b5, hp5⟩ := HPU.out w1 v1 _ b1 g1 xX2
      have R1 := Lib.hid r1
      have B1 := Lib.hid b1
      have BX := Lib.hid (HBA.out.trans (bX.mono HBA.out.size))
      have HWX := Lib.hid hWX
      have R5 := Lib.hid r5
      have B5 := Lib.hid b5
      have HP5 := Lib.hid hp5
      clear r1 b1 hWX r5 b5 hp5 g1 gr1 bX xX xX2
      refine Dsk.Take.mk rfl rfl fun K hK => ?_
      go_simp
      rw [HWX.out]
      refine hK _ _ (.inr (HS.out _ BX.out)) ?_
      clear hK
      refine Dsk.chain_of_j (L := [18]) (fun _ h => h) [6, 15, 16, 17] _ _ _ _ (by decide) (by kernel_rfl) ?_
      refine Dsk.CHW.next rfl rfl fun K hK => ?_
      refine wp_append_run _ _ _ _ rfl (by simp [go_sem]) (by simp [go_sem]) R1.out ?_
      refine hK _ _ (HS.out _ B1.out) ?_
      clear hK
      refine Dsk.CHW.next rfl rfl fun K hK => ?_
      refine wp_append_run _ _ _ _ rfl (by simp [go_sem]) (by simp [go_sem]) R5.out ?_
      refine hK _ _ (HS.out _ B5.out) ?_
      clear hK
      iterate 2
        refine Dsk.CHW.next rfl rfl fun K hK => ?_
        go_simp
        refine hK _ _ (HS.out _ B5.out) ?_
        clear hK
      refine Dsk.CHW.done ?_
      refine Dsk.CH.next rfl rfl fun K hK => ?_
      have s0 := (HS.out _ B5.out).1
      have s1 := (HS.out _ B5.out).2.1
      go_simp
      refine hK _ _ trivial ?_
      clear hK
      refine Dsk.CH.done (NoPanic.normal ?_)
      try go_frame
      go_wp2_with fail
      go_ret
      exact ⟨rfl, HP5.out⟩
  · clear hj
    generalize hWX : (wC.alloc (.cells #[] 33)) = wX
    have bX : Below wC.heap.size wC wX := hWX ▸ (Below.refl _ wC).alloc (Nat.le_refl _) _
    have gX : Grow wX wC.heap.size 3 (.slice (some ⟨wC.heap.size, 0, none⟩) 0 0) 0 [] := hWX ▸ Grow.bare wC 33 3
    have bXw := HBC.out.trans (bX.mono HBC.out.size)
    obtain ⟨v1, w1, r1, b1, g1, gr1⟩ := HCP.out wX _ bXw (gX.lower HBC.out.size)
    have xX2 := (HXC.out.under bX (by have := HSC.out; omega)).past gr1 (fun e => by have := HSC.out; simp [Value.ownBlock] at e; omega)
    obtain ⟨A5, m5, c5, w5, r5, b5, hp5⟩ := HPU.out w1 v1 _ b1 g1 xX2
    have R1 := Lib.hid r1
    have B1 := Lib.hid b1
    have BX := Lib.hid bXw
    have HWX := Lib.hid hWX
    have R5 := Lib.hid r5
    have B5 := Lib.hid b5
    have HP5 := Lib.hid hp5
    clear r1 b1 hWX r5 b5 hp5 g1 gr1 bX xX2 gX bXw
    refine Dsk.Take.mk rfl rfl fun K hK => ?_
    go_simp
    rw [HWC.out]
    refine hK _ _ (.inr (HS.out _ HBC.out)) ?_
    clear hK
    refine Dsk.chain_of_j (L := [18]) (fun _ h => h) [1, 6, 15, 16, 17] _ _ _ _ (by decide) (by kernel_rfl) ?_
    refine Dsk.CHW.next rfl rfl fun K hK => ?_
    go_simp
    rw [HWX.out]
    refine hK _ _ (HS.out _ BX.out) ?_
    clear hK
    refine Dsk.CHW.next rfl rfl fun K hK => ?_
    refine wp_append_run _ _ _ _ rfl (by simp [go_sem]) (by simp [go_sem]) R1.out ?_
    refine hK _ _ (HS.out _ B1.out) ?_
    clear hK
    refine Dsk.CHW.next rfl rfl fun K hK => ?_
    refine wp_append_run _ _ _ _ rfl (by simp [go_sem]) (by simp [go_sem]) R5.out ?_
    refine hK _ _ (HS.out _ B5.out) ?_
    clear hK
    iterate 2
      refine Dsk.CHW.next rfl rfl fun K hK => ?_
      go_simp
      refine hK _ _ (HS.out _ B5.out) ?_
      clear hK
    refine Dsk.CHW.done ?_
    refine Dsk.CH.next rfl rfl fun K hK => ?_
    have s0 := (HS.out _ B5.out).1
    have s1 := (HS.out _ B5.out).2.1
    go_simp
    refine hK _ _ trivial ?_
    clear hK
    refine Dsk.CH.done (NoPanic.normal ?_)
    try go_frame
    go_wp2_with fail
    go_ret
    exact ⟨rfl, HP5.out⟩
end Ntw
end Go.Proofs.Ytmhnifcohkamaaa

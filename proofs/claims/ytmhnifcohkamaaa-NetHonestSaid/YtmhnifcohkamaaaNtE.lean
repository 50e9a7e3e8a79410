/- The calls of package net that touch packets. -/
import Derived.Test.YtmhnifcohkamaaaNtD
namespace Go.Proofs.Ytmhnifcohkamaaa
open Go.RowKit Wire
open Txt (Row)
open Dsk (Only below_of_grown Grow.bare)
set_option linter.unusedVariables false
set_option linter.unusedSimpArgs false
namespace Ntw

/-- A new network. -/
theorem NetAt.fresh {ty : TypeId} {w w1 : World} {S : Nt} {v : Value} (ho : S.ok) (b : Below w.heap.size w w1) (h : Grow w1 w.heap.size 3 v S.L.length (pks S.L)) :
    ∃ F, NetAt ty (w1.alloc (.cells #[v, .int .i64 S.m] ty)) w1.heap.size S F ∧ (∀ x, F x → w.heap.size ≤ x ∧ x < (w1.alloc (.cells #[v, .int .i64 S.m] ty)).heap.size) := by
  have hz : (w1.alloc (.cells #[v, .int .i64 S.m] ty)).heap.size = w1.heap.size + 1 := Array.size_push ..
  have hs := b.size
  refine ⟨fun x => x = w1.heap.size ∨ v.ownBlock = some x, ⟨ho, v, Blk.fresh w1 ty _, (h.alloc _).lower (Nat.zero_le _), fun e => by have := (h.block _ e).2; omega, fun x => Iff.rfl⟩, fun x hx => ?_⟩
  rcases hx with rfl | hx
  · exact ⟨hs, by omega⟩
  · have := h.block x hx; omega
/-- A network that a call makes. -/
def Made (ty : TypeId) (S : Nt) (w : World) (e : Ending) (w' : World) : Prop := ∃ p F, e = .returned (ptr p) ∧ NetAt ty w' p S F ∧ (∀ x, F x → w.heap.size ≤ x ∧ x < w'.heap.size) ∧ Below w.heap.size w w'
theorem made_of {ty : TypeId} {w w1 : World} {S : Nt} {v : Value} (ho : S.ok) (b : Below w.heap.size w w1) (h : Grow w1 w.heap.size 3 v S.L.length (pks S.L)) :
    Made ty S w (.returned (ptr w1.heap.size)) (w1.alloc (.cells #[v, .int .i64 S.m] ty)) := by
  obtain ⟨F, h1, h2⟩ := NetAt.fresh (ty := ty) ho b h
  exact ⟨_, F, rfl, h1, h2, b.trans ((Below.refl _ w1).alloc b.size _)⟩
theorem nNew_any (w : World) : Calls Try.prog 8 #[] w (Made 56 Nt.empty w) := by
  have H := Lib.hid (made_of (ty := 56) (w := w) (S := Nt.empty) Nt.ok_empty (Below.refl _ _) (Grow.nil w w.heap.size 3))
  go_enter Try.func8, Try.ntmps8
  go_wp2_with fail
  go_ret
  exact H.out
set_option maxHeartbeats 1000000 in
theorem nCopy_any {w : World} {p : Nat} {S : Nt} {F : Nat → Prop} (h : NetAt 56 w p S F) :
    Calls Try.prog 10 #[ptr p] w (Made 56 S w) := by
  have ho := h.ok
  have HLS := Lib.hid (fun w' (b : Below w.heap.size w w') => nList_any (h.below b))
  obtain ⟨_, v, h1, h2, h3, h4⟩ := h
  have c1 : ∀ w', Below w.heap.size w w' → w'.cell? ⟨p, 1, none⟩ = some (.int .i64 S.m) := fun w' b => (b.cell (p := ⟨p, 1, none⟩) h1.inside).trans (h1.at 1)
  have HM := Lib.hid (fun (w1 : World) (v : Value) => made_of (ty := 56) (w := w) (w1 := w1) (S := S) (v := v) ho)
  have H1 := Lib.hid c1
  clear h1 h2 h3 h4 ho c1
  go_enter Try.func10, Try.ntmps10
  go_upto_region 1 with (fail)
  try go_frame
  refine Dsk.wp_region_sorted (fun w' => Below w.heap.size w w') [0, 2, 3, 4, 5] [1, 6, 7, 8] (by kernel_rfl) (by kernel_rfl) ((Below.refl _ w).drew) ?_
  repeat refine Dsk.RD.next rfl rfl (by intro w' hS; have c1 := H1.out w' hS; go_simp; with_reducible rfl) ?_
  refine Dsk.RD.done ?_
  refine Dsk.CH.next rfl rfl fun K hK => ?_
  go_simp
  refine (HLS.out _ ((Below.refl _ w).drew)).mono ?_
  rintro e w1 ⟨v1, rfl, g1, b1⟩
  have B1 : Below w.heap.size w w1 := ((Below.refl _ w).drew).trans b1
  have HX := Lib.hid (HM.out w1 v1 B1 g1)
  have BX := Lib.hid (B1.alloc (Nat.le_of_lt_succ (Nat.lt_succ_of_le B1.size)) (.cells #[v1, .int .i64 S.m] 56))
  obtain ⟨A1, c1, rfl⟩ := g1.slice
  refine hK _ _ B1 ?_
  clear hK HM H1 g1
  iterate 2
    refine Dsk.CH.next rfl rfl fun K hK => ?_
    go_simp
    refine hK _ _ (by first | exact B1 | exact BX.out) ?_
    clear hK
  refine Dsk.CH.next rfl rfl fun K hK => ?_
  go_simp
  refine hK _ _ BX.out ?_
  clear hK
  refine Dsk.CH.done (NoPanic.normal ?_)
  try go_frame
  go_wp2_with fail
  go_ret
  exact HX.out

/-- A packet with this index. -/
def Nt.at_ (S : Nt) (i : Int) : Option Pk := if S.has i then S.L[i.toNat]? else none
set_option maxHeartbeats 1000000 in
theorem nat_none {w : World} {p : Nat} {S : Nt} {F : Nat → Prop} (h : NetAt 56 w p S F) (i : Int) (hi : S.has i = false) :
    Calls Try.prog 36 #[ptr p, .int .i64 i] w fun e w' => e = .returned Pk.zero.val ∧ Below w.heap.size w w' := by
  obtain ⟨ho, v, h1, h2, h3, h4⟩ := h
  have b : ∀ o, Below w.heap.size w (w.alloc o) := fun o => (Below.refl _ w).alloc (Nat.le_refl _) o
  have c0 : ∀ o, (w.alloc o).cell? ⟨p, 0, none⟩ = some v := fun o => ((b o).cell (p := ⟨p, 0, none⟩) h1.inside).trans (h1.at 0)
  obtain ⟨A, c, rfl⟩ := h2.slice
  have hn : i < 0 ∨ (0 ≤ i ∧ (S.L.length : Int) ≤ i) := by
    have := of_decide_eq_false hi
    omega
  have HB := Lib.hid b
  clear h1 h2 h3 h4 ho hi b
  generalize S.L.length = n at *
  rcases hn with hn | ⟨hn, hm⟩
  · go_enter Try.func36, Try.ntmps36
    go_wp2_with fail
    exact bodyPost_ret (v := .agg #[.int .i64 0, .int .i64 0, .string ⟨#[]⟩]) (by simp [results, Try.results36, go_sem]) rfl ⟨rfl, HB.out _⟩
  · go_enter Try.func36, Try.ntmps36
    go_wp2_with fail
    exact bodyPost_ret (v := .agg #[.int .i64 0, .int .i64 0, .string ⟨#[]⟩]) (by simp [results, Try.results36, go_sem]) rfl ⟨rfl, HB.out _⟩
set_option maxHeartbeats 1000000 in
theorem nat_some {w : World} {p : Nat} {S : Nt} {F : Nat → Prop} (h : NetAt 56 w p S F) (i : Nat) (q : Pk) (hq : S.L[i]? = some q) :
    Calls Try.prog 36 #[ptr p, .int .i64 i] w fun e w' => e = .returned q.val ∧ Below w.heap.size w w' := by
  obtain ⟨ho, v, h1, h2, h3, h4⟩ := h
  have b : ∀ o, Below w.heap.size w (w.alloc o) := fun o => (Below.refl _ w).alloc (Nat.le_refl _) o
  have c0 : ∀ o, (w.alloc o).cell? ⟨p, 0, none⟩ = some v := fun o => ((b o).cell (p := ⟨p, 0, none⟩) h1.inside).trans (h1.at 0)
  have hlt := (List.getElem?_eq_some_iff.1 hq).1
  obtain ⟨A, c, rfl, hr⟩ := Grow.row h2
  obtain ⟨g, o, rfl, hg, hc⟩ := row_pk hr (Below.refl _ _) hq
  have k0 := fun ob => (hc _ (b ob)).1
  have k1 := fun ob => (hc _ (b ob)).2.1
  have k2 := fun ob => (hc _ (b ob)).2.2
  have hi : (i : Int) < S.L.length := by omega
  have HB := Lib.hid b
  clear h1 h2 h3 h4 ho b hr hc hg hq
  generalize S.L.length = n at *
  go_enter Try.func36, Try.ntmps36
  go_wp2_with fail
  exact bodyPost_ret (v := .agg #[.int .i64 q.src, .int .i64 q.dst, .string q.body]) (by simp [results, Try.results36, go_sem]) rfl ⟨rfl, HB.out _⟩
theorem nisNone_any (q : Pk) (w : World) : Calls Try.prog 37 #[q.val] w fun e w' => e = .returned (.bool (decide (q = Pk.zero))) ∧ Below w.heap.size w w' := by
  have hq : ∀ w, (binOp .eql 33 (.agg #[.int .i64 q.src, .int .i64 q.dst, .string q.body]) (.agg #[.int .i64 0, .int .i64 0, .string ⟨#[]⟩])).run Try.prog w = .ok (.bool (decide (q = Pk.zero))) w := fun w => eql_pk q Pk.zero w
  have b : ∀ o, Below w.heap.size w (w.alloc o) := fun o => (Below.refl _ w).alloc (Nat.le_refl _) o
  generalize decide (q = Pk.zero) = r at *
  go_enter Try.func37, Try.ntmps37
  go_wp2_with fail
  go_ret
  exact ⟨rfl, b _⟩
/-- A row's store. -/
theorem net_store {ty : TypeId} {w w1 : World} {p : Nat} {S S' : Nt} {F : Nat → Prop} {v v' : Value} (h2 : Grow w 0 3 v S.L.length (pks S.L)) (h1 : Blk w p ty #[v, .int .i64 S.m]) (h3 : v.ownBlock ≠ some p) (h4 : ∀ b, F b ↔ b = p ∨ v.ownBlock = some b)
    (ho : S'.ok) (hm : S'.m = S.m) (hb : Blk w1 p ty #[v, .int .i64 S.m]) (hg : Grow w1 0 3 v' S'.L.length (pks S'.L)) (hv : v'.ownBlock = v.ownBlock ∨ ∃ x, v'.ownBlock = some x ∧ w.heap.size ≤ x) (hO : Only F w w1) :
    NPost ty p S' F w (w1.setCell ⟨p, 0, none⟩ v') := by
  have hp := h1.inside
  have hne : v'.ownBlock ≠ some p := by
    rcases hv with e | ⟨x, e, hx⟩
    · rw [e]; exact h3
    · rw [e]; intro e2; injection e2 with e2; omega
  have hz : (w1.setCell ⟨p, 0, none⟩ v').heap.size = w1.heap.size := by simp [World.setCell]
  refine ⟨fun x => x = p ∨ v'.ownBlock = some x, ⟨ho, v', ?_, hg.keep (Nat.le_of_eq hz.symm) (fun g hg2 => Below.heap_setCell _ _ _ _ (fun e => hne (by rw [hg2]; exact congrArg some e))), hne, fun x => Iff.rfl⟩, fun x hx => ?_, hO.same (Only.set F w1 _ _ ((h4 p).2 (.inl rfl)))⟩
  · rw [hm]
    exact hb.put 0 v'
  · rcases hx with rfl | hx
    · exact .inl ((h4 x).2 (.inl rfl))
    · rcases hv with e | ⟨y, e, hy⟩
      · exact .inl ((h4 x).2 (.inr (by rw [← e]; exact hx)))
      · have := (hg.block x hx).2
        rw [e] at hx
        injection hx with hx
        exact .inr (by omega)
set_option maxHeartbeats 1000000 in
theorem nadd_full {w : World} {p : Nat} {S : Nt} {F : Nat → Prop} (h : NetAt 56 w p S F) (q : Pk) (hl : 500 ≤ S.L.length) :
    Calls Try.prog 35 #[ptr p, q.val] w fun e w' => e = .returned (.int .i64 6) ∧ Below w.heap.size w w' := by
  obtain ⟨ho, v, h1, h2, h3, h4⟩ := h
  have b : ∀ o, Below w.heap.size w (w.alloc o) := fun o => (Below.refl _ w).alloc (Nat.le_refl _) o
  have c0 : ∀ o, (w.alloc o).cell? ⟨p, 0, none⟩ = some v := fun o => ((b o).cell (p := ⟨p, 0, none⟩) h1.inside).trans (h1.at 0)
  obtain ⟨A, c, rfl⟩ := h2.slice
  have HB := Lib.hid b
  have hl2 : (500 : Int) ≤ S.L.length := by omega
  clear h1 h2 h3 h4 ho b hl
  generalize S.L.length = n at *
  go_enter Try.func35, Try.ntmps35
  go_wp2_with fail
  go_ret
  exact ⟨rfl, HB.out _⟩
/-- The pieces of a network. -/
structure NetV (ty : TypeId) (w : World) (p : Nat) (S : Nt) (F : Nat → Prop) (v : Value) : Prop where
  ok : S.ok
  blk : Blk w p ty #[v, .int .i64 S.m]
  row : Grow w 0 3 v S.L.length (pks S.L)
  apart : v.ownBlock ≠ some p
  has : ∀ b, F b ↔ b = p ∨ v.ownBlock = some b
theorem NetAt.pieces {ty : TypeId} {w : World} {p : Nat} {S : Nt} {F : Nat → Prop} (h : NetAt ty w p S F) : ∃ v, NetV ty w p S F v := by
  obtain ⟨ho, v, h1, h2, h3, h4⟩ := h
  exact ⟨v, ho, h1, h2, h3, h4⟩
theorem push_run {ty : TypeId} {w w3 : World} {p : Nat} {S : Nt} {F : Nat → Prop} {v : Value} (h : NetV ty w p S F v) (q : Pk) (hl : S.L.length < 500) (hq : isEnd q.src = true ∧ isEnd q.dst = true ∧ q.src ≠ q.dst)
    (b : Below w.heap.size w w3) {xb : Nat} {tb : TypeId} (hx : Blk w3 xb tb #[.int .i64 q.src, .int .i64 q.dst, .string q.body]) :
    ∃ v' w', (Builtin.append_ #[27, 27] 27 #[v, .slice (some ⟨xb, 0, none⟩) 1 1]).run Try.prog w3 = .ok v' w' ∧ w3.grownBy w' v.ownBlock ∧ (∃ A' m' c', v' = .slice A' m' c') ∧ NPost ty p { S with L := S.L ++ [q] } F w (w'.setCell ⟨p, 0, none⟩ v') := by
  obtain ⟨i0, hi, hz0, hz1, hz2⟩ := info_parts info_pk
  have hsrc : Src Try.prog 3 27 (.slice (some ⟨xb, 0, none⟩) 1 1) 1 (pks [q]) w3 := Src.ofSlice w3 Try.underlying27 ⟨xb, 0, none⟩ 1 1 (pks [q]) rfl (fun j u hu => by
    rw [row_add', Nat.zero_add, hx.at]
    rw [pks_one] at hu
    simpa using hu) (one_pks _)
  have hs := b.size
  obtain ⟨v', w', hr, hg, hgr, hv⟩ := run_append_src (P := Try.prog) w3 0 27 27 27 33 i0 _ 3 32 Try.underlying27 hi hz0 hz1 hz2 rfl (by omega) v S.L.length (pks S.L) (h.row.below b) _ 1 (pks [q]) hsrc (by unfold maxLen; omega) (by omega) (Nat.zero_le _)
  rw [← pks_append] at hg
  have hp := h.blk.inside
  refine ⟨v', w', hr, hgr, (by obtain ⟨A', c', e⟩ := hg.slice; exact ⟨A', _, c', e⟩), net_store (S' := { S with L := S.L ++ [q] }) h.row h.blk h.apart h.has (h.ok.add hl hq) rfl ((h.blk.under b hp).past hgr (fun e => h.apart e.symm)) (by
    show Grow w' 0 3 v' (S.L ++ [q]).length (pks (S.L ++ [q]))
    rw [List.length_append]
    exact hg) ?_ ?_⟩
  · rcases hv with e | e
    · exact .inl e
    · exact .inr ⟨_, e, hs⟩
  · exact (Only.of_below b).trans (Only.of_grown' (F := F) hgr fun m hm => .inl ((h.has m).2 (.inr hm))) fun x hx => .inl hx
/-- What the region that adds a packet reads. -/
def AddS (p : Nat) (v : Value) (b3 : Nat) (q : Pk) (w : World) : Prop :=
  w.cell? ⟨p, 0, none⟩ = some v ∧ w.frozen? ⟨p, 0, none⟩ = false ∧ w.cell? ⟨b3, 0, none⟩ = some (.int .i64 q.src) ∧ w.cell? ⟨b3, 1, none⟩ = some (.int .i64 q.dst) ∧ w.cell? ⟨b3, 2, none⟩ = some (.string q.body)
theorem AddS.keep {p b3 : Nat} {v : Value} {q : Pk} {w w' : World} (h : AddS p v b3 q w) (hp : w'.heap[p]? = w.heap[p]?) (hb : w'.heap[b3]? = w.heap[b3]?) : AddS p v b3 q w' := by
  obtain ⟨s0, s1, s2, s3, s4⟩ := h
  exact ⟨(World.cell?_of_block (a := ⟨p, 0, none⟩) hp).trans s0, (World.frozen?_of_block (a := ⟨p, 0, none⟩) hp).trans s1, (World.cell?_of_block (a := ⟨b3, 0, none⟩) hb).trans s2, (World.cell?_of_block (a := ⟨b3, 1, none⟩) hb).trans s3, (World.cell?_of_block (a := ⟨b3, 2, none⟩) hb).trans s4⟩
set_option maxRecDepth 8000 in
set_option maxHeartbeats 2000000 in
theorem nadd_ok {w : World} {p : Nat} {S : Nt} {F : Nat → Prop} (h : NetAt 56 w p S F) (q : Pk) (hl : S.L.length < 500) (hq : isEnd q.src = true ∧ isEnd q.dst = true ∧ q.src ≠ q.dst) :
    Calls Try.prog 35 #[ptr p, q.val] w fun e w' => e = .returned (.int .i64 0) ∧ NPost 56 p { S with L := S.L ++ [q] } F w w' := by
  obtain ⟨v, hV⟩ := h.pieces
  generalize hwB : w.alloc (.cells #[.int .i64 q.src, .int .i64 q.dst, .string q.body] 33) = wB
  have bB : Below w.heap.size w wB := hwB ▸ (Below.refl _ w).alloc (Nat.le_refl _) _
  have hsz : wB.heap.size = w.heap.size + 1 := by rw [← hwB]; exact Array.size_push ..
  have hBk : Blk wB w.heap.size 33 #[.int .i64 q.src, .int .i64 q.dst, .string q.body] := by rw [← hwB]; exact Blk.fresh w _ _
  have hp := hV.blk.inside
  have hpB : Blk wB p 56 #[v, .int .i64 S.m] := hV.blk.under bB hp
  generalize hwC : (wB.alloc (.cells #[.int .i64 q.src, .int .i64 q.dst, .string q.body] 33)).drew = wC
  have bC : Below wB.heap.size wB wC := hwC ▸ ((Below.refl _ wB).alloc (Nat.le_refl _) _).drew
  have hCk : Blk wC wB.heap.size 33 #[.int .i64 q.src, .int .i64 q.dst, .string q.body] := by rw [← hwC]; exact Blk.fresh wB _ _
  have hc0 : ∀ o, (w.alloc o).cell? ⟨p, 0, none⟩ = some v := fun o => (((Below.refl _ w).alloc (Nat.le_refl _) o).cell (p := ⟨p, 0, none⟩) hp).trans (hV.blk.at 0)
  obtain ⟨v', w', hr, hgr, ⟨A', m', c', rfl⟩, hpost⟩ := push_run hV q hl hq (next_below bB bC) hCk
  have a0 : AddS p v w.heap.size q wB := ⟨hpB.at 0, hpB.thaw 0, hBk.at 0, hBk.at 1, hBk.at 2⟩
  have a1 : AddS p v w.heap.size q wC := a0.keep (bC.block p (by omega)) (bC.block _ (by omega))
  have hsC := bC.size
  have a2 : AddS p v w.heap.size q w' := a1.keep (hgr.block p (by omega) (fun e => hV.apart e.symm)) (hgr.block _ (by omega) (fun e => by have := (hV.row.block _ e.symm).2; omega))
  have A0 : Hid (AddS p v w.heap.size q wB.drew) := Lib.hid a0
  have A1 := Lib.hid a1
  have A2 := Lib.hid a2
  have HR := Lib.hid hr
  have HP := Lib.hid hpost
  have HWB := Lib.hid hwB
  have HWC := Lib.hid hwC
  obtain ⟨A, c, rfl⟩ := hV.row.slice
  have hl2 : ¬ (500 : Int) ≤ S.L.length := by omega
  clear hwB hwC a0 a1 a2 hr hpost hl bB hsz hBk hp hpB bC hCk hV h hq hgr hsC
  generalize S.L.length = n at *
  go_enter Try.func35, Try.ntmps35
  go_upto_region 3 with (fail)
  try go_frame
  rw [HWB.out]
  clear hc0
  refine Dsk.wp_region_late (AddS p (.slice A n c) w.heap.size q) [0, 1, 2, 3, 4, 5] [6, 7, 8, 9] [10] (by kernel_rfl) (by kernel_rfl) (by kernel_rfl) A0.out ?_
  repeat refine Dsk.RD.next rfl rfl (by intro w' hS; obtain ⟨s0, s1, s2, s3, s4⟩ := hS; go_simp; with_reducible rfl) ?_
  refine Dsk.RD.done ?_
  refine Dsk.CHW.next rfl rfl fun K hK => ?_
  go_simp
  rw [HWC.out]
  refine hK _ _ A1.out ?_
  clear hK
  refine Dsk.CHW.next rfl rfl fun K hK => ?_
  refine wp_append_run _ _ _ _ rfl (by simp [go_sem]) (by simp [go_sem]) HR.out ?_
  refine hK _ _ A2.out ?_
  clear hK
  iterate 2
    refine Dsk.CHW.next rfl rfl fun K hK => ?_
    go_simp
    refine hK _ _ A2.out ?_
    clear hK
  refine Dsk.CHW.done ?_
  refine Dsk.CH.next rfl rfl fun K hK => ?_
  have s0 : w'.cell? ⟨p, 0, none⟩ = some (.slice A n c) := A2.out.1
  have s1 : w'.frozen? ⟨p, 0, none⟩ = false := A2.out.2.1
  go_simp
  refine hK _ _ trivial ?_
  clear hK
  refine Dsk.CH.done (NoPanic.normal ?_)
  try go_frame
  go_wp2_with fail
  go_ret
  exact ⟨rfl, HP.out⟩
end Ntw
end Go.Proofs.Ytmhnifcohkamaaa

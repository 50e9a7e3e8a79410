/- The reference's calls that touch packets. -/
import Derived.Test.YtmhnifcohkamaaaNtH
import Derived.Test.YtmhnifcohkamaaaNtG
namespace Go.Proofs.Ytmhnifcohkamaaa
open Go.RowKit Wire
open Txt (Row)
open Dsk (Only below_of_grown Grow.bare)
set_option linter.unusedVariables false
set_option linter.unusedSimpArgs false
namespace Ntw
/-- What the regions of the reference read. -/
def RefS (p : Nat) (v : Value) (w : World) : Prop := w.cell? ⟨p, 0, none⟩ = some v ∧ w.frozen? ⟨p, 0, none⟩ = false
theorem NetV.refS {ty : TypeId} {w w' : World} {p : Nat} {S : Nt} {F : Nat → Prop} {v : Value} (h : NetV ty w p S F v) (b : Below w.heap.size w w') : RefS p v w' := ⟨(h.below b).blk.at 0, (h.below b).blk.thaw 0⟩
/-- The store behind rows that are new. -/
theorem new_store {ty : TypeId} {w w2 : World} {p : Nat} {S S' : Nt} {F : Nat → Prop} {v v2 : Value} (h : NetV ty w p S F v) (ho : S'.ok) (hm : S'.m = S.m) (b : Below w.heap.size w w2) (hg : Grow w2 w.heap.size 3 v2 S'.L.length (pks S'.L)) :
    NPost ty p S' F w (w2.setCell ⟨p, 0, none⟩ v2) := by
  rcases hg.form with ⟨rfl, _⟩ | ⟨g, cap, rfl, h1, h2, _⟩
  · have hb : Blk w2 p ty #[v, .int .i64 S.m] := h.blk.under b h.blk.inside
    have hz : (w2.setCell ⟨p, 0, none⟩ (.slice none 0 0)).heap.size = w2.heap.size := by simp [World.setCell]
    refine ⟨fun x => x = p, ⟨ho, .slice none 0 0, ?_, (hg.lower (Nat.zero_le _)).keep (Nat.le_of_eq hz.symm) (fun g e => by cases e), (fun e => by cases e), fun x => ⟨.inl, fun e => by rcases e with e | e; exact e; cases e⟩⟩, fun x hx => .inl ((h.has x).2 (.inl hx)), (Only.of_below b).same (Only.set F w2 _ _ ((h.has p).2 (.inl rfl)))⟩
    rw [hm]
    exact hb.put 0 _
  · exact net_store h.row h.blk h.apart h.has ho hm (h.blk.under b h.blk.inside) (hg.lower (Nat.zero_le _)) (.inr ⟨g, rfl, h1⟩) (Only.of_below b)
theorem erase_run {ty : TypeId} {w w3 : World} {p i g cap : Nat} {S : Nt} {F : Nat → Prop} (h : NetV ty w p S F (.slice (some ⟨g, 0, none⟩) S.L.length cap)) (hi : i < S.L.length) (b : Below w.heap.size w w3) {v0 : Value} (h0 : Grow w3 w.heap.size 3 v0 0 []) :
    ∃ v1 w1 v2 w2, (Builtin.append_ #[27, 27] 27 #[v0, .slice (some ⟨g, 0, none⟩) i cap]).run Try.prog w3 = .ok v1 w1 ∧ Below w.heap.size w w1 ∧
      (Builtin.append_ #[27, 27] 27 #[v1, .slice (if cap = i + 1 then some ⟨g, 0, none⟩ else some ⟨g, (i + 1) * 3, none⟩) (S.L.length - (i + 1)) (cap - (i + 1))]).run Try.prog w1 = .ok v2 w2 ∧ Below w.heap.size w w2 ∧
      (∃ A m c, v2 = .slice A m c) ∧ NPost ty p { S with L := S.L.eraseIdx i } F w (w2.setCell ⟨p, 0, none⟩ v2) := by
  have hr : ∀ w', Below w.heap.size w w' → Row w' w'.heap.size (some ⟨g, 0, none⟩) (pks S.L) := fun w' b => by
    obtain ⟨A, c, e, hrow⟩ := Grow.row h.row
    injection e with e1 e2 e3
    rw [e1]
    exact hrow.lift b
  have hle := h.ok.len
  have hlt : (S.L.take i).length = i := by rw [List.length_take]; omega
  have hld : (S.L.drop (i + 1)).length = S.L.length - (i + 1) := List.length_drop
  have s1 := src_row (c := cap) (row_take (hr _ b) i)
  rw [hlt] at s1
  obtain ⟨v1, w1, r1, g1, _, b1⟩ := app_run (X := []) h0 b.size s1 (by omega)
  have B1 := b.trans b1
  have s2 : Src Try.prog 3 27 (.slice (if cap = i + 1 then some ⟨g, 0, none⟩ else some ⟨g, (i + 1) * 3, none⟩) (S.L.length - (i + 1)) (cap - (i + 1))) (S.L.length - (i + 1)) (pks (S.L.drop (i + 1))) w1 := by
    by_cases e : cap = i + 1
    · rw [if_pos e]
      have hcap : S.L.length ≤ cap := by
        rcases h.row.form with ⟨e, _⟩ | ⟨g', cap', e, _, _, h3, _⟩
        · cases e
        · injection e with _ _ e3
          omega
      have h0 : S.L.drop (i + 1) = [] := List.eq_nil_of_length_eq_zero (by omega)
      rw [h0, show S.L.length - (i + 1) = 0 from by omega]
      exact Src.ofSlice _ Try.underlying27 _ _ _ _ rfl (fun k u hu => by simp [pks] at hu) (fun u hu => by simp [pks] at hu)
    · rw [if_neg e, ← hld]
      have := row_drop (hr _ B1) (i + 1)
      rw [Nat.zero_add] at this
      exact src_row this
  obtain ⟨v2, w2, r2, g2, _, b2⟩ := app_run (by simpa using g1) B1.size s2 (by omega)
  have B2 := B1.trans b2
  refine ⟨v1, w1, v2, w2, r1, B1, r2, B2, ?_, ?_⟩
  · obtain ⟨A, c, e⟩ := g2.slice
    exact ⟨A, _, c, e⟩
  · have e : S.L.take i ++ S.L.drop (i + 1) = S.L.eraseIdx i := (List.eraseIdx_eq_take_drop_succ ..).symm
    refine new_store (S' := { S with L := S.L.eraseIdx i }) h (h.ok.less i) rfl B2 ?_
    show Grow w2 w.heap.size 3 v2 (S.L.eraseIdx i).length (pks (S.L.eraseIdx i))
    rw [← e, List.length_append, hlt, hld]
    simpa using g2
set_option maxRecDepth 8000 in
set_option maxHeartbeats 2000000 in
theorem qremove_any {w : World} {p : Nat} {S : Nt} {F : Nat → Prop} (h : NetAt 29 w p S F) (i : Nat) (hi : i < S.L.length) :
    Calls Try.prog 39 #[ptr p, .int .i64 i] w fun e w' => e = .returned (.tuple #[]) ∧ NPost 29 p { S with L := S.L.eraseIdx i } F w w' := by
  obtain ⟨v, hV⟩ := h.pieces
  obtain ⟨g, cap, rfl, h1, h2, h3, h4, h5, h6, h7⟩ := hV.row.form.resolve_left (fun e => by omega)
  have hle := h.ok.len
  have HS := Lib.hid (fun w' b => hV.refS (w' := w') b)
  have HE := Lib.hid (fun w3 v0 b h0 => erase_run (w3 := w3) (v0 := v0) hV hi b h0)
  have hic : (i : Int) ≤ cap := by omega
  have hin1 : 0 ≤ (i : Int) + 1 ∧ (i : Int) + 1 ≤ S.L.length := by omega
  have hw := run_plus i (by omega)
  have HB : Hid (Below w.heap.size w w.drew) := Lib.hid (Below.refl _ w).drew
  generalize hW3 : (w.alloc (.cells #[] 33)).drew = w3
  have b3 : Below w.heap.size w w3 := hW3 ▸ ((Below.refl _ w).alloc (Nat.le_refl _) _).drew
  have g0 : Grow w3 w.heap.size 3 (.slice (some ⟨w.heap.size, 0, none⟩) 0 0) 0 [] := hW3 ▸ (Grow.bare w 33 3).drew
  obtain ⟨v1, w1, v2, w2, r1, b1, r2, b2, ⟨A2, m2, c2, rfl⟩, hp⟩ := HE.out w3 _ b3 g0
  have HW3 := Lib.hid hW3
  have R1 := Lib.hid r1
  have R2 := Lib.hid r2
  have HP := Lib.hid hp
  have S3 := Lib.hid (HS.out _ b3)
  have S1 := Lib.hid (HS.out _ b1)
  have S2 := Lib.hid (HS.out _ b2)
  have S0 := Lib.hid (HS.out _ HB.out)
  clear h hV h1 h2 h3 h4 h5 h6 h7 hle hi hW3 r1 r2 hp b3 b1 b2 g0 HE HS
  generalize S.L.length = n at *
  go_enter Try.func39, Try.ntmps39
  go_upto_region 0 with (fail)
  try go_frame
  refine Dsk.wp_region_late (RefS p (.slice (some ⟨g, 0, none⟩) n cap)) [0, 2, 3, 4, 5, 6, 7, 9, 10, 11, 12, 13, 14, 15] [1, 8, 16, 17, 18] [19] (by kernel_rfl) (by kernel_rfl) (by kernel_rfl) S0.out ?_
  repeat refine Dsk.RD.next rfl rfl (by intro w' hS; obtain ⟨s0, s1⟩ := hS; go_simp; with_reducible rfl) ?_
  refine Dsk.RD.done ?_
  refine Dsk.CHW.next rfl rfl fun K hK => ?_
  go_simp
  rw [HW3.out]
  refine hK _ _ S3.out ?_
  clear hK
  refine Dsk.CHW.next rfl rfl fun K hK => ?_
  refine wp_append_run _ _ _ _ rfl (by simp [go_sem]) (by simp [go_sem]) R1.out ?_
  refine hK _ _ S1.out ?_
  clear hK
  refine Dsk.CHW.next rfl rfl fun K hK => ?_
  refine wp_append_run _ _ _ _ rfl (by simp [go_sem]) (by simp [go_sem]) R2.out ?_
  refine hK _ _ S2.out ?_
  clear hK
  iterate 2
    refine Dsk.CHW.next rfl rfl fun K hK => ?_
    go_simp
    refine hK _ _ S2.out ?_
    clear hK
  refine Dsk.CHW.done ?_
  refine Dsk.CH.next rfl rfl fun K hK => ?_
  have s0 := S2.out.1
  have s1 := S2.out.2
  go_simp
  refine hK _ _ trivial ?_
  clear hK
  refine Dsk.CH.done (NoPanic.normal ?_)
  try go_frame
  go_wp2_with fail
  all_goals
    go_returns
    exact ⟨rfl, HP.out⟩
end Ntw
end Go.Proofs.Ytmhnifcohkamaaa

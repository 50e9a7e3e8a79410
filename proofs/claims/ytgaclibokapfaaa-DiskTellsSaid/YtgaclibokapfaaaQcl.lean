/- A copy of a queue. -/
import Derived.Test.YtgaclibokapfaaaQue
namespace Go.Proofs.Ytgaclibokapfaaa
open Go.RowKit Wire
set_option linter.unusedVariables false
set_option linter.unusedSimpArgs false
open Txt
namespace Dsk

theorem build_que (w : World) (m : Nat) (A : Option Addr) (n c : Nat) : (Instr.build 60 #[(0, .slice A n c), (1, .map (some m))]).run Try.prog w = .ok (.agg #[.slice A n c, .map (some m)]) w := by kernel_rfl

abbrev Qls (g o mh : Nat) (v : Value) (l : List (Nat × Nat)) (w' : World) : Prop := w'.cell? ⟨g, o, none⟩ = some v ∧ w'.cell? ⟨g, o + 1, none⟩ = some (.map (some mh)) ∧ QueAt w' g o mh v l

set_option maxRecDepth 8000 in
set_option maxHeartbeats 2000000 in
theorem qcl_any (g o mh : Nat) (v : Value) (l : List (Nat × Nat)) (w : World) (h : QueAt w g o mh v l) (hl : l.length ≤ 1000000000) :
    Calls Try.prog 44 #[.pointer (some ⟨g, o, none⟩)] w fun e w' => ∃ v' m', e = .returned (.agg #[v', .map (some m')]) ∧ Grow w' w.heap.size 2 v' l.length (l.flatMap secL) ∧ IsMap w' m' (hasL l) ∧ Below w.heap.size w w' ∧ w.heap.size ≤ m' ∧ v'.ownBlock ≠ some m' := by
  have HLies : Hid (∀ w', Below w.heap.size w w' → Qls g o mh v l w') := Lib.hid fun w' b => ⟨(h.below b).ptr, (h.below b).has, h.below b⟩
  obtain ⟨A0, c0, rfl⟩ := h.row.slice
  clear h
  go_enter Try.func44, Try.ntmps44
  go_wp2_with fail
  refine wp_region_sorted (Qls g o mh (.slice A0 l.length c0) l) [0, 1, 2, 3, 5, 6, 7, 8] [4, 9, 10, 11] (by kernel_rfl) (by kernel_rfl) (HLies.out _ (below_new _)) ?_
  repeat refine RD.next rfl rfl (by intro w' hS; simp only [Qls] at hS; go_simp; with_reducible rfl) ?_
  refine RD.done ?_
  refine CH.next rfl rfl fun K hK => ?_
  go_simp
  refine (cloneSecs_any 0 _ l hl _ (HLies.out _ (below_new _)).2.2.row).mono ?_
  rintro e w2 ⟨v', rfl, hv', b2⟩
  obtain ⟨B2, T2⟩ := new_step b2
  simp only [Oper.upon]
  refine hK _ _ (HLies.out _ B2) ?_
  clear hK
  refine CH.next rfl rfl fun K hK => ?_
  go_simp
  refine (cloneH_any mh (hasL l) _ (HLies.out _ B2).2.2.map).mono ?_
  rintro e w3 ⟨m', rfl, hm', b3, hle⟩
  have B3 : Below w.heap.size w w3 := B2.trans (b3.mono B2.size)
  have T3 := there_keep T2 (b3.block w.heap.size (by have := b2.size; simp at this; omega))
  simp only [Oper.upon]
  refine hK _ _ (HLies.out _ B3) ?_
  clear hK
  have hv3 := hv'.below b3
  have hvb := fun b e => (hv'.block b e)
  obtain ⟨A1, c1, rfl⟩ := hv'.slice
  refine CH.next rfl rfl fun K hK => ?_
  refine wp_of_run (v := .agg #[.slice A1 l.length c1, .map (some m')]) (w' := w3) ?_ ?_
  · exact run_build_op [(0, .slice A1 l.length c1), (1, .map (some m'))] rfl rfl (build_que w3 m' A1 l.length c1)
  refine hK _ _ (HLies.out _ B3) ?_
  clear hK
  refine CH.next rfl rfl fun K hK => ?_
  refine wp_store_lie _ _ _ rfl w.heap.size 0 2 [.slice A1 l.length c1, .map (some m')] rfl rfl rfl T3 (by kernel_rfl) (by simp [Value.oneCell']) ?_
  intro w4 he4 hl4 hg4
  clear he4
  have hs2 : w.heap.size < w2.heap.size := by have := b2.size; simp at this; omega
  have HB := Lib.hid (B3.trans (grown_below hg4 (Nat.le_refl _) B3.size))
  have HM := Lib.hid (hm'.keep (hg4.block m' hm'.lt (by intro e; injection e with e; omega)))
  have HV := Lib.hid (hv3.keep hg4.size (fun b e => hg4.block b (hv3.block b e).2 (by intro e2; injection e2 with e2; have := (hvb b e).1; simp at this; omega)))
  have HV2 := Lib.hid (HV.out.lower (B' := w.heap.size) (by simp))
  have HNE : Hid (Value.ownBlock (.slice A1 l.length c1) ≠ some m') := Lib.hid fun e => by have := (hvb m' e).2; omega
  have hmm : w.heap.size ≤ m' := by omega
  have HL4 := Lib.hid hl4
  refine hK _ _ (HLies.out _ HB.out) ?_
  clear hK b2 b3 hle hm' B2 T2 B3 T3 hg4 hv3 hv' hvb hl4 HV
  refine CH.done (NoPanic.normal ?_)
  try go_frame
  go_wp2_with fail
  refine bodyPost_ret (v := .agg #[.slice A1 l.length c1, .map (some m')]) ?_ rfl ⟨_, m', rfl, HV2.out, HM.out, HB.out, hmm, HNE.out⟩
  exact results_mid rfl _ w4 w.heap.size [.slice A1 l.length c1, .map (some m')] _ rfl HL4.out.cells Try.underlying60 rfl (by kernel_rfl)
end Dsk
end Go.Proofs.Ytgaclibokapfaaa

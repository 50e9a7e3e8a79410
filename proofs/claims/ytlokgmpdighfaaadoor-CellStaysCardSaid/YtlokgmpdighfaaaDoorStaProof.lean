/- For every input (list of operations, string, list of ints, list of ints) that can be read as data: taquinlaw04.CellStays returns true, and all read afterwards as they read before. The package variable of the offsets reads, when the call begins, as the program lays it (the card ties that to the program's text). No condition beside the row's own. -/
import Derived.Test.YtlokgmpdighfaaaDoorStaw
import Derived.Test.YtlokgmpdighfaaaDoorOpc
import Derived.Test.YtlokgmpdighfaaaDoorCards
import Derived.Test.YtlokgmpdighfaaaDoorTie
import Derived.SevenTiedAt
namespace Go.Proofs.YtlokgmpdighfaaaDoor
open Go.ChangeShapes Go.WideShapes Go.ChangeAt Go.RowKit Go.Deep Wire
open Go.ChangeMaps (open_string)
set_option linter.unusedVariables false
set_option linter.unusedSimpArgs false
open Txt
namespace Dsk

set_option maxRecDepth 100000 in
theorem stays_lifted (os : Os) (started : os.Started) (H : Type) (enc : TypeId × Value → H) :
    ReturnsInHanded {} Tryd.checked os 6 .any (fun w args => (Rows.cellStaysSpec.pre enc Tryd.prog Tryd.f6 [] false w args ∧ laidMetH Tryd.prog Rows.cellStaysRow.laid w) ∧ sizedMet enc Tryd.prog Tryd.f6 (OpenSpec.ofChange Rows.cellStaysSpec) false w args) (Rows.cellStaysSpec.post enc Tryd.prog Tryd.f6 false true false false) := by
  refine returnsInHanded_of_change_and (C := Tryd.checked) (X := fun w _ => laidMetH Tryd.prog Rows.cellStaysRow.laid w) (fun _ _ _ hh h => h.of_heap hh) own started (by kernel_rfl) Tryd.func6
    (ChangeSpec.witness_shaped (enc := enc) (C := Tryd.checked) (os := os) (X := fun w _ => laidMetH Tryd.prog Rows.cellStaysRow.laid w) false (World.doorLaid Tryd.prog 14 os) #[.slice none 0 0, .string ⟨#[]⟩, .slice none 0 0, .slice none 0 0] 8 rfl (World.shaped_of_RefB (by kernel_rfl) (by kernel_rfl)) (by kernel_rfl) (by kernel_rfl) (by kernel_rfl) (door_met os _)) ?_
  intro W base args ds gs before hval0 hW _ _ hL _
  have hval : ∀ (j : Nat) t v, Tryd.f6.params[j]? = some t → args[j]? = some v → Value.okWide Tryd.prog W .any base t v := hval0
  have hW' := hW
  obtain ⟨p, q, hA0, hV, rfl, hfz, hnd⟩ := hW
  have hA : DataW.TrodAll enc Tryd.prog W 0 (fun _ => true) true Tryd.f6.params.toList args.toList ds p := hA0
  rw [Tryd.params6] at hA hval
  have hoff := off_of_laid hL
  obtain ⟨v0, v1, v2, v3, d0, d1, d2, d3, p0, p1, p2, p3, rfl, rfl, rfl, h0, h1, h2, h3⟩ := trodAll_four hA
  obtain ⟨rfl, rfl⟩ := trodVars_none hV
  obtain ⟨a0, len0, cap0, rfl⟩ := okWide_slice Tryd.underlying22 (hval 0 22 v0 rfl rfl)
  have g0 := h0
  obtain ⟨fuel0, hf0⟩ := g0
  obtain ⟨A0, c0, l0, hcs0, hg0⟩ := open_ops hf0
  have e0 : Value.slice a0 len0 cap0 = .slice A0 l0.length c0 := by
    have e : [Value.slice a0 len0 cap0] = [.slice A0 l0.length c0] := hcs0
    exact List.head_eq_of_cons_eq e
  rw [e0] at h0 hval hW' ⊢
  obtain ⟨s1, rfl, rfl, rfl, ws1⟩ := open_string Tryd.underlying9 (hval 1 9 v1 rfl rfl) h1
  obtain ⟨a2, len2, cap2, rfl⟩ := okWide_slice Tryd.underlying36 (hval 2 36 v2 rfl rfl)
  have g2 := h2
  obtain ⟨fuel2, hf2⟩ := g2
  obtain ⟨A2, c2, l2, hcs2, hg2⟩ := open_nums hf2
  have e2 : Value.slice a2 len2 cap2 = .slice A2 l2.length c2 := by
    have e : [Value.slice a2 len2 cap2] = [.slice A2 l2.length c2] := hcs2
    exact List.head_eq_of_cons_eq e
  rw [e2] at h2 hval hW' ⊢
  obtain ⟨a3, len3, cap3, rfl⟩ := okWide_slice Tryd.underlying36 (hval 3 36 v3 rfl rfl)
  have g3 := h3
  obtain ⟨fuel3, hf3⟩ := g3
  obtain ⟨A3, c3, l3, hcs3, hg3⟩ := open_nums hf3
  have e3 : Value.slice a3 len3 cap3 = .slice A3 l3.length c3 := by
    have e : [Value.slice a3 len3 cap3] = [.slice A3 l3.length c3] := hcs3
    exact List.head_eq_of_cons_eq e
  rw [e3] at h3 hval hW' ⊢
  simp only [List.append_nil, List.nil_append] at hW'
  refine (stays_law A0 c0 l0 s1 A2 c2 l2 A3 c3 l3 W hoff hg0 ws1 hg2 hg3).mono fun e W' ⟨he, hb⟩ => ?_
  subst he
  refine ⟨_, rfl, _, _, _, [], _, [], hW', trodAll_mk1 (shut_bool Tryd.underlying4 true),
    trodAll_mk4 (Below.trod laidOut readable_ops listed_ops h0 hb (fun x hx => hW'.lt x (by simp [hx]))) (Below.trod laidOut readable_string listed_string h1 hb (fun x hx => by cases hx)) (Below.trod laidOut readable_ints listed_ints h2 hb (fun x hx => hW'.lt x (by simp [hx]))) (Below.trod laidOut readable_ints listed_ints h3 hb (fun x hx => hW'.lt x (by simp [hx]))), rfl, hb.frame _, fun h => by cases h⟩

theorem stays_holds : Rows.CellStaysSaid :=
  OpenClaim.holds_of_wide 6 Tryd.f6 rfl rfl rfl rfl rfl rfl rfl ⟨rfl, rfl, rfl, rfl, rfl⟩ rfl rfl rfl rfl rfl (by kernel_rfl) Tryd.func6 (by kernel_rfl)
    (of_decide_eq_true (by kernel_rfl)) (by unfold Func.isWrapper; first | (rw [if_pos (by decide +kernel)]; kernel_rfl) | (rw [if_neg (by decide +kernel)]; exact ⟨rfl, rfl⟩))
    (fun os started H enc _ => stays_lifted os started H enc)

theorem stays_card : Rows.CellStaysCardSaid :=
  Claim7.holds_tied_plain_at .later [] [.data] true _ true
    stays_holds (fun _ h => by cases h) (by kernel_rfl) (fun _ h => by cases h) cellStays_row_tie rfl ⟨rfl, rfl⟩ (by kernel_rfl) rfl
    (fun f fn hf hfn => by
      obtain rfl : f = 6 := Option.some.inj ((show Tryd.prog.funcNamed "taquin/taquinlaw04.CellStays" = some 6 by kernel_rfl).symm.trans hf) |>.symm
      obtain rfl : fn = Tryd.f6 := (Option.some.inj (Tryd.func6.symm.trans hfn)).symm
      exact ⟨by kernel_rfl, fun j t ht => by
        rw [Tryd.params6] at ht
        match j, ht with
        | 0, ht => exact (Option.some.inj ht) ▸ (show Tryd.prog.wantsStandIn 22 = false by kernel_rfl)
        | 1, ht => exact (Option.some.inj ht) ▸ (show Tryd.prog.wantsStandIn 9 = false by kernel_rfl)
        | 2, ht => exact (Option.some.inj ht) ▸ (show Tryd.prog.wantsStandIn 36 = false by kernel_rfl)
        | 3, ht => exact (Option.some.inj ht) ▸ (show Tryd.prog.wantsStandIn 36 = false by kernel_rfl)
        | j + 4, ht => simp at ht⟩)
    (by kernel_rfl)
end Dsk
end Go.Proofs.YtlokgmpdighfaaaDoor

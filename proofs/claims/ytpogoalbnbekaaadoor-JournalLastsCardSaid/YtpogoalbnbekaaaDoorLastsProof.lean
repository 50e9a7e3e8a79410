/- For every input (list of operations, list of ints) that can be read as data: taquinlaw05.JournalLasts returns true, and all read afterwards as they read before. The package variable of the offsets reads, when the call begins, as the program lays it (the card ties that to the program's text). No condition beside the row's own. -/
import Derived.Test.YtpogoalbnbekaaaDoorJlw
import Derived.Test.YtpogoalbnbekaaaDoorJoc
import Derived.Test.YtpogoalbnbekaaaDoorCards
import Derived.Test.YtpogoalbnbekaaaDoorTie
import Derived.SevenTiedAt
namespace Go.Proofs.YtpogoalbnbekaaaDoor
open Go.ChangeShapes Go.WideShapes Go.ChangeAt Go.RowKit Go.Deep Wire
open Go.ChangeMaps (open_string)
set_option linter.unusedVariables false
set_option linter.unusedSimpArgs false
open Txt
namespace Dsk

set_option maxRecDepth 100000 in
theorem lasts_lifted (os : Os) (started : os.Started) (H : Type) (enc : TypeId × Value → H) :
    ReturnsInHanded {} Tryd.checked os 3 .any (fun w args => (Rows.journalLastsSpec.pre enc Tryd.prog Tryd.f3 [] false w args ∧ laidMetH Tryd.prog Rows.journalLastsRow.laid w) ∧ sizedMet enc Tryd.prog Tryd.f3 (OpenSpec.ofChange Rows.journalLastsSpec) false w args) (Rows.journalLastsSpec.post enc Tryd.prog Tryd.f3 false true false false) := by
  refine returnsInHanded_of_change_and (C := Tryd.checked) (X := fun w _ => laidMetH Tryd.prog Rows.journalLastsRow.laid w) (fun _ _ _ hh h => h.of_heap hh) own started (by kernel_rfl) Tryd.func3
    (ChangeSpec.witness_shaped (enc := enc) (C := Tryd.checked) (os := os) (X := fun w _ => laidMetH Tryd.prog Rows.journalLastsRow.laid w) false (World.doorLaid Tryd.prog 14 os) #[.slice none 0 0, .slice none 0 0] 8 rfl (World.shaped_of_RefB (by kernel_rfl) (by kernel_rfl)) (by kernel_rfl) (by kernel_rfl) (by kernel_rfl) (door_met os _)) ?_
  intro W base args ds gs before hval0 hW _ _ hL _
  have hval : ∀ (j : Nat) t v, Tryd.f3.params[j]? = some t → args[j]? = some v → Value.okWide Tryd.prog W .any base t v := hval0
  have hW' := hW
  obtain ⟨p, q, hA0, hV, rfl, hfz, hnd⟩ := hW
  have hA : DataW.TrodAll enc Tryd.prog W 0 (fun _ => true) true Tryd.f3.params.toList args.toList ds p := hA0
  rw [Tryd.params3] at hA hval
  have hoff := off_of_laid hL
  obtain ⟨v0, v1, d0, d1, p0, p1, rfl, rfl, rfl, h0, h1⟩ := trodAll_two hA
  obtain ⟨rfl, rfl⟩ := trodVars_none hV
  obtain ⟨a0, len0, cap0, rfl⟩ := okWide_slice Tryd.underlying22 (hval 0 22 v0 rfl rfl)
  have g0 := h0
  obtain ⟨fuel0, hf0⟩ := g0
  obtain ⟨A0, c0, l0, hcs0, hg0⟩ := open_ops hf0
  have e0 : Value.slice a0 len0 cap0 = .slice A0 l0.length c0 := by
    have e : [Value.slice a0 len0 cap0] = [.slice A0 l0.length c0] := hcs0
    exact List.head_eq_of_cons_eq e
  rw [e0] at h0 hval hW' ⊢
  obtain ⟨a1, len1, cap1, rfl⟩ := okWide_slice Tryd.underlying23 (hval 1 23 v1 rfl rfl)
  have g1 := h1
  obtain ⟨fuel1, hf1⟩ := g1
  obtain ⟨A1, c1, l1, hcs1, hg1⟩ := open_nums hf1
  have e1 : Value.slice a1 len1 cap1 = .slice A1 l1.length c1 := by
    have e : [Value.slice a1 len1 cap1] = [.slice A1 l1.length c1] := hcs1
    exact List.head_eq_of_cons_eq e
  rw [e1] at h1 hval hW' ⊢
  simp only [List.append_nil, List.nil_append] at hW'
  refine (jlasts_law A0 c0 l0 A1 c1 l1 W hoff hg0 hg1.1 hg1.2).mono fun e W' ⟨he, hb⟩ => ?_
  subst he
  refine ⟨_, rfl, _, _, _, [], _, [], hW', trodAll_mk1 (shut_bool Tryd.underlying4 true),
    trodAll_mk2 (Below.trod laidOut readable_ops listed_ops h0 hb (fun x hx => hW'.lt x (by simp [hx]))) (Below.trod laidOut readable_ints listed_ints h1 hb (fun x hx => hW'.lt x (by simp [hx]))), rfl, hb.frame _, fun h => by cases h⟩

theorem lasts_holds : Rows.JournalLastsSaid :=
  OpenClaim.holds_of_wide 3 Tryd.f3 rfl rfl rfl rfl rfl rfl rfl ⟨rfl, rfl, rfl, rfl, rfl⟩ rfl rfl rfl rfl rfl (by kernel_rfl) Tryd.func3 (by kernel_rfl)
    (of_decide_eq_true (by kernel_rfl)) (by unfold Func.isWrapper; first | (rw [if_pos (by decide +kernel)]; kernel_rfl) | (rw [if_neg (by decide +kernel)]; exact ⟨rfl, rfl⟩))
    (fun os started H enc _ => lasts_lifted os started H enc)

theorem lasts_card : Rows.JournalLastsCardSaid :=
  Claim7.holds_tied_plain_at .later [] [.data] true _ true
    lasts_holds (fun _ h => by cases h) (by kernel_rfl) (fun _ h => by cases h) journalLasts_row_tie rfl ⟨rfl, rfl⟩ (by kernel_rfl) rfl
    (fun f fn hf hfn => by
      obtain rfl : f = 3 := Option.some.inj ((show Tryd.prog.funcNamed "taquin/taquinlaw05.JournalLasts" = some 3 by kernel_rfl).symm.trans hf) |>.symm
      obtain rfl : fn = Tryd.f3 := (Option.some.inj (Tryd.func3.symm.trans hfn)).symm
      exact ⟨by kernel_rfl, fun j t ht => by
        rw [Tryd.params3] at ht
        match j, ht with
        | 0, ht => exact (Option.some.inj ht) ▸ (show Tryd.prog.wantsStandIn 22 = false by kernel_rfl)
        | 1, ht => exact (Option.some.inj ht) ▸ (show Tryd.prog.wantsStandIn 23 = false by kernel_rfl)
        | j + 2, ht => simp at ht⟩)
    (by kernel_rfl)
end Dsk
end Go.Proofs.YtpogoalbnbekaaaDoor

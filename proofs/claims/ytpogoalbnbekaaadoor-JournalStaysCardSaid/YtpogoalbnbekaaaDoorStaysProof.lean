/- For every input (list of operations, list of strings, list of ints, list of ints) that can be read as data: taquinlaw05.JournalStays returns true, and all read afterwards as they read before. The package variable of the offsets reads, when the call begins, as the program lays it (the card ties that to the program's text). No condition beside the row's own. -/
import Derived.Test.YtpogoalbnbekaaaDoorJsw
import Derived.Test.YtpogoalbnbekaaaDoorJoc
import Derived.Test.YtpogoalbnbekaaaDoorCards
import Derived.Test.YtpogoalbnbekaaaDoorTie
import Derived.SevenTiedAt
namespace Go.Proofs.YtpogoalbnbekaaaDoor
open Go.ChangeShapes Go.WideShapes Go.ChangeAt Go.RowKit Go.Deep Wire
open Go.ChangeMaps (open_string)
set_option linter.unusedVariables false
set_option linter.unusedSimpArgs false
open Txt
namespace Dsk

set_option maxRecDepth 100000 in
theorem stays_lifted (os : Os) (started : os.Started) (H : Type) (enc : TypeId × Value → H) :
    ReturnsInHanded {} Tryd.checked os 4 .any (fun w args => (Rows.journalStaysSpec.pre enc Tryd.prog Tryd.f4 [] false w args ∧ laidMetH Tryd.prog Rows.journalStaysRow.laid w) ∧ sizedMet enc Tryd.prog Tryd.f4 (OpenSpec.ofChange Rows.journalStaysSpec) false w args) (Rows.journalStaysSpec.post enc Tryd.prog Tryd.f4 false true false false) := by
  refine returnsInHanded_of_change_and (C := Tryd.checked) (X := fun w _ => laidMetH Tryd.prog Rows.journalStaysRow.laid w) (fun _ _ _ hh h => h.of_heap hh) own started (by kernel_rfl) Tryd.func4
    (ChangeSpec.witness_shaped (enc := enc) (C := Tryd.checked) (os := os) (X := fun w _ => laidMetH Tryd.prog Rows.journalStaysRow.laid w) false (World.doorLaid Tryd.prog 14 os) #[.slice none 0 0, .slice none 0 0, .slice none 0 0, .slice none 0 0] 8 rfl (World.shaped_of_RefB (by kernel_rfl) (by kernel_rfl)) (by kernel_rfl) (by kernel_rfl) (by kernel_rfl) (door_met os _)) ?_
  intro W base args ds gs before hval0 hW _ _ hL _
  have hval : ∀ (j : Nat) t v, Tryd.f4.params[j]? = some t → args[j]? = some v → Value.okWide Tryd.prog W .any base t v := hval0
  have hW' := hW
  obtain ⟨p, q, hA0, hV, rfl, hfz, hnd⟩ := hW
  have hA : DataW.TrodAll enc Tryd.prog W 0 (fun _ => true) true Tryd.f4.params.toList args.toList ds p := hA0
  rw [Tryd.params4] at hA hval
  have hoff := off_of_laid hL
  obtain ⟨v0, v1, v2, v3, d0, d1, d2, d3, p0, p1, p2, p3, rfl, rfl, rfl, h0, h1, h2, h3⟩ := trodAll_four hA
  obtain ⟨rfl, rfl⟩ := trodVars_none hV
  obtain ⟨a0, len0, cap0, rfl⟩ := okWide_slice Tryd.underlying22 (hval 0 22 v0 rfl rfl)
  have g0 := h0
  obtain ⟨fuel0, hf0⟩ := g0
  obtain ⟨A0, c0, l0, hcs0, hg0⟩ := open_ops hf0
  have e0 : Value.slice a0 len0 cap0 = .slice A0 l0.length c0 := by
    have e : [Value.slice a0 len0 cap0] = [.slice A0 l0.length c0] := hcs0
    exact List.head_eq_of_cons_eq e
  rw [e0] at h0 hval hW' ⊢
  obtain ⟨a1, len1, cap1, rfl⟩ := okWide_slice Tryd.underlying32 (hval 1 32 v1 rfl rfl)
  have g1 := h1
  obtain ⟨fuel1, hf1⟩ := g1
  obtain ⟨A1, c1, l1, hcs1, hg1⟩ := open_strs' hf1
  have e1 : Value.slice a1 len1 cap1 = .slice A1 l1.length c1 := by
    have e : [Value.slice a1 len1 cap1] = [.slice A1 l1.length c1] := hcs1
    exact List.head_eq_of_cons_eq e
  rw [e1] at h1 hval hW' ⊢
  obtain ⟨a2, len2, cap2, rfl⟩ := okWide_slice Tryd.underlying23 (hval 2 23 v2 rfl rfl)
  have g2 := h2
  obtain ⟨fuel2, hf2⟩ := g2
  obtain ⟨A2, c2, l2, hcs2, hg2⟩ := open_nums hf2
  have e2 : Value.slice a2 len2 cap2 = .slice A2 l2.length c2 := by
    have e : [Value.slice a2 len2 cap2] = [.slice A2 l2.length c2] := hcs2
    exact List.head_eq_of_cons_eq e
  rw [e2] at h2 hval hW' ⊢
  obtain ⟨a3, len3, cap3, rfl⟩ := okWide_slice Tryd.underlying23 (hval 3 23 v3 rfl rfl)
  have g3 := h3
  obtain ⟨fuel3, hf3⟩ := g3
  obtain ⟨A3, c3, l3, hcs3, hg3⟩ := open_nums hf3
  have e3 : Value.slice a3 len3 cap3 = .slice A3 l3.length c3 := by
    have e : [Value.slice a3 len3 cap3] = [.slice A3 l3.length c3] := hcs3
    exact List.head_eq_of_cons_eq e
  rw [e3] at h3 hval hW' ⊢
  simp only [List.append_nil, List.nil_append] at hW'
  refine (jstays_law A0 c0 l0 A1 c1 l1 A2 c2 l2 A3 c3 l3 W hoff hg0 hg1.1 hg1.2 hg2.1 hg2.2 hg3.1 hg3.2).mono fun e W' ⟨he, hb⟩ => ?_
  subst he
  refine ⟨_, rfl, _, _, _, [], _, [], hW', trodAll_mk1 (shut_bool Tryd.underlying4 true),
    trodAll_mk4 (Below.trod laidOut readable_ops listed_ops h0 hb (fun x hx => hW'.lt x (by simp [hx]))) (Below.trod laidOut readable_strings listed_strings h1 hb (fun x hx => hW'.lt x (by simp [hx]))) (Below.trod laidOut readable_ints listed_ints h2 hb (fun x hx => hW'.lt x (by simp [hx]))) (Below.trod laidOut readable_ints listed_ints h3 hb (fun x hx => hW'.lt x (by simp [hx]))), rfl, hb.frame _, fun h => by cases h⟩

theorem stays_holds : Rows.JournalStaysSaid :=
  OpenClaim.holds_of_wide 4 Tryd.f4 rfl rfl rfl rfl rfl rfl rfl ⟨rfl, rfl, rfl, rfl, rfl⟩ rfl rfl rfl rfl rfl (by kernel_rfl) Tryd.func4 (by kernel_rfl)
    (of_decide_eq_true (by kernel_rfl)) (by unfold Func.isWrapper; first | (rw [if_pos (by decide +kernel)]; kernel_rfl) | (rw [if_neg (by decide +kernel)]; exact ⟨rfl, rfl⟩))
    (fun os started H enc _ => stays_lifted os started H enc)

theorem stays_card : Rows.JournalStaysCardSaid :=
  Claim7.holds_tied_plain_at .later [] [.data] true _ true
    stays_holds (fun _ h => by cases h) (by kernel_rfl) (fun _ h => by cases h) journalStays_row_tie rfl ⟨rfl, rfl⟩ (by kernel_rfl) rfl
    (fun f fn hf hfn => by
      obtain rfl : f = 4 := Option.some.inj ((show Tryd.prog.funcNamed "taquin/taquinlaw05.JournalStays" = some 4 by kernel_rfl).symm.trans hf) |>.symm
      obtain rfl : fn = Tryd.f4 := (Option.some.inj (Tryd.func4.symm.trans hfn)).symm
      exact ⟨by kernel_rfl, fun j t ht => by
        rw [Tryd.params4] at ht
        match j, ht with
        | 0, ht => exact (Option.some.inj ht) ▸ (show Tryd.prog.wantsStandIn 22 = false by kernel_rfl)
        | 1, ht => exact (Option.some.inj ht) ▸ (show Tryd.prog.wantsStandIn 32 = false by kernel_rfl)
        | 2, ht => exact (Option.some.inj ht) ▸ (show Tryd.prog.wantsStandIn 23 = false by kernel_rfl)
        | 3, ht => exact (Option.some.inj ht) ▸ (show Tryd.prog.wantsStandIn 23 = false by kernel_rfl)
        | j + 4, ht => simp at ht⟩)
    (by kernel_rfl)
end Dsk
end Go.Proofs.YtpogoalbnbekaaaDoor

/- For every input (list of strings, int, list of strings) that can be read as data: taquinlaw05.JournalCuts returns true, and all read afterwards as they read before. The package variable of the offsets reads, when the call begins, as the program lays it (the card ties that to the program's text). No condition beside the row's own. -/
import Derived.Test.YtpogoalbnbekaaaDoorJcw
import Derived.Test.YtpogoalbnbekaaaDoorJoc
import Derived.Test.YtpogoalbnbekaaaDoorCards
import Derived.Test.YtpogoalbnbekaaaDoorTie
import Derived.SevenTiedAt
namespace Go.Proofs.YtpogoalbnbekaaaDoor
open Go.ChangeShapes Go.WideShapes Go.ChangeAt Go.RowKit Go.Deep Wire
open Go.ChangeMaps (open_string)
set_option linter.unusedVariables false
set_option linter.unusedSimpArgs false
open Txt
namespace Dsk

section
variable {H : Type} {enc : TypeId × Value → H} {w : World} {held : Bool} {fuel : Nat} {cs : List Value} {x : DataW H × List MemPlace}
/-- A list of strings that comes in has no fewer places than elements. -/
theorem open_strs2 (h : DataW.trod enc Tryd.prog w 0 (fun _ => true) held fuel 32 cs = some x) :
    ∃ A c, ∃ t : List ByteArray, cs = [.slice A t.length c] ∧ Row w w.heap.size A (Sls.strs t) ∧ t.length ≤ maxLen ∧ t.length ≤ c := by
  rcases open_strings Tryd.underlying32 Tryd.underlying9 cells_string h with ⟨rfl, _⟩ | ⟨a, len, cap, ss, rfl, _, hl, hm, hz, _, hcell, hws⟩
  · exact ⟨none, 0, [], rfl, fun k u hu => by simp at hu, Nat.zero_le _, Nat.zero_le _⟩
  · have hz' : ss.length = cap := by simpa using hz
    refine ⟨some a, cap, ss.take len, by rw [List.length_take, Nat.min_eq_left (by omega)], ?_, by rw [List.length_take]; omega, by rw [List.length_take]; omega⟩
    rw [show Sls.strs (ss.take len) = (Sls.strs ss).take len from List.map_take]
    refine row_of (by rw [List.length_map]; omega) fun i u hu => ?_
    rw [List.getElem?_map] at hu
    obtain ⟨z, h1, rfl⟩ := Option.map_eq_some_iff.1 hu
    rw [hcell i (List.getElem?_eq_some_iff.1 h1).1, List.getD_eq_getElem?_getD, h1]
    rfl
end
set_option maxRecDepth 100000 in
theorem cuts_lifted (os : Os) (started : os.Started) (H : Type) (enc : TypeId × Value → H) :
    ReturnsInHanded {} Tryd.checked os 6 .any (fun w args => (Rows.journalCutsSpec.pre enc Tryd.prog Tryd.f6 [] false w args ∧ laidMetH Tryd.prog Rows.journalCutsRow.laid w) ∧ sizedMet enc Tryd.prog Tryd.f6 (OpenSpec.ofChange Rows.journalCutsSpec) false w args) (Rows.journalCutsSpec.post enc Tryd.prog Tryd.f6 false true false false) := by
  refine returnsInHanded_of_change_and (C := Tryd.checked) (X := fun w _ => laidMetH Tryd.prog Rows.journalCutsRow.laid w) (fun _ _ _ hh h => h.of_heap hh) own started (by kernel_rfl) Tryd.func6
    (ChangeSpec.witness_shaped (enc := enc) (C := Tryd.checked) (os := os) (X := fun w _ => laidMetH Tryd.prog Rows.journalCutsRow.laid w) false (World.doorLaid Tryd.prog 14 os) #[.slice none 0 0, .int .i64 0, .slice none 0 0] 8 rfl (World.shaped_of_RefB (by kernel_rfl) (by kernel_rfl)) (by kernel_rfl) (by kernel_rfl) (by kernel_rfl) (door_met os _)) ?_
  intro W base args ds gs before hval0 hW _ _ hL _
  have hval : ∀ (j : Nat) t v, Tryd.f6.params[j]? = some t → args[j]? = some v → Value.okWide Tryd.prog W .any base t v := hval0
  have hW' := hW
  obtain ⟨p, q, hA0, hV, rfl, hfz, hnd⟩ := hW
  have hA : DataW.TrodAll enc Tryd.prog W 0 (fun _ => true) true Tryd.f6.params.toList args.toList ds p := hA0
  rw [Tryd.params6] at hA hval
  have hoff := off_of_laid hL
  obtain ⟨v0, v1, v2, d0, d1, d2, p0, p1, p2, rfl, rfl, rfl, h0, h1, h2⟩ := trodAll_three hA
  obtain ⟨rfl, rfl⟩ := trodVars_none hV
  obtain ⟨a0, len0, cap0, rfl⟩ := okWide_slice Tryd.underlying32 (hval 0 32 v0 rfl rfl)
  have g0 := h0
  obtain ⟨fuel0, hf0⟩ := g0
  obtain ⟨A0, c0, l0, hcs0, hg0⟩ := open_strs2 hf0
  have e0 : Value.slice a0 len0 cap0 = .slice A0 l0.length c0 := by
    have e : [Value.slice a0 len0 cap0] = [.slice A0 l0.length c0] := hcs0
    exact List.head_eq_of_cons_eq e
  rw [e0] at h0 hval hW' ⊢
  obtain ⟨z1, rfl, rfl, rfl, wz1⟩ := open_int Tryd.underlying3 (hval 1 3 v1 rfl rfl) h1
  obtain ⟨a2, len2, cap2, rfl⟩ := okWide_slice Tryd.underlying32 (hval 2 32 v2 rfl rfl)
  have g2 := h2
  obtain ⟨fuel2, hf2⟩ := g2
  obtain ⟨A2, c2, l2, hcs2, hg2⟩ := open_strs' hf2
  have e2 : Value.slice a2 len2 cap2 = .slice A2 l2.length c2 := by
    have e : [Value.slice a2 len2 cap2] = [.slice A2 l2.length c2] := hcs2
    exact List.head_eq_of_cons_eq e
  rw [e2] at h2 hval hW' ⊢
  simp only [List.append_nil, List.nil_append] at hW'
  refine (jcuts_law A0 c0 l0 z1 A2 c2 l2 W hoff hg0.1 hg0.2.1 (fits_of wz1) hg2.1 hg2.2 hg0.2.2).mono fun e W' ⟨he, hb⟩ => ?_
  subst he
  refine ⟨_, rfl, _, _, _, [], _, [], hW', trodAll_mk1 (shut_bool Tryd.underlying4 true),
    trodAll_mk3 (Below.trod laidOut readable_strings listed_strings h0 hb (fun x hx => hW'.lt x (by simp [hx]))) (Below.trod laidOut readable_int listed_int h1 hb (fun x hx => by cases hx)) (Below.trod laidOut readable_strings listed_strings h2 hb (fun x hx => hW'.lt x (by simp [hx]))), rfl, hb.frame _, fun h => by cases h⟩

theorem cuts_holds : Rows.JournalCutsSaid :=
  OpenClaim.holds_of_wide 6 Tryd.f6 rfl rfl rfl rfl rfl rfl rfl ⟨rfl, rfl, rfl, rfl, rfl⟩ rfl rfl rfl rfl rfl (by kernel_rfl) Tryd.func6 (by kernel_rfl)
    (of_decide_eq_true (by kernel_rfl)) (by unfold Func.isWrapper; first | (rw [if_pos (by decide +kernel)]; kernel_rfl) | (rw [if_neg (by decide +kernel)]; exact ⟨rfl, rfl⟩))
    (fun os started H enc _ => cuts_lifted os started H enc)

theorem cuts_card : Rows.JournalCutsCardSaid :=
  Claim7.holds_tied_plain_at .later [] [.data] true _ true
    cuts_holds (fun _ h => by cases h) (by kernel_rfl) (fun _ h => by cases h) journalCuts_row_tie rfl ⟨rfl, rfl⟩ (by kernel_rfl) rfl
    (fun f fn hf hfn => by
      obtain rfl : f = 6 := Option.some.inj ((show Tryd.prog.funcNamed "taquin/taquinlaw05.JournalCuts" = some 6 by kernel_rfl).symm.trans hf) |>.symm
      obtain rfl : fn = Tryd.f6 := (Option.some.inj (Tryd.func6.symm.trans hfn)).symm
      exact ⟨by kernel_rfl, fun j t ht => by
        rw [Tryd.params6] at ht
        match j, ht with
        | 0, ht => exact (Option.some.inj ht) ▸ (show Tryd.prog.wantsStandIn 32 = false by kernel_rfl)
        | 1, ht => exact (Option.some.inj ht) ▸ (show Tryd.prog.wantsStandIn 3 = false by kernel_rfl)
        | 2, ht => exact (Option.some.inj ht) ▸ (show Tryd.prog.wantsStandIn 32 = false by kernel_rfl)
        | j + 3, ht => simp at ht⟩)
    (by kernel_rfl)
end Dsk
end Go.Proofs.YtpogoalbnbekaaaDoor

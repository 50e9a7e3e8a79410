/- For every int n, all strings s and p and every list of strings l: taquinlaw02.TextTells returns true, and all read afterwards as they read before. No condition beside the row's own. -/
import Derived.Test.YtpmmbbaigfjhnaaTell
import Derived.Test.YtpmmbbaigfjhnaaTexs
import Derived.Carry
namespace Go.Proofs.Ytpmmbbaigfjhnaa
open Go.ChangeShapes Go.WideShapes Go.ChangeAt Go.RowKit Go.Deep Wire
open Go.ChangeMaps (open_string)
set_option linter.unusedVariables false
set_option linter.unusedSimpArgs false
namespace Txt

set_option maxRecDepth 100000 in
theorem tell_lifted (os : Os) (started : os.Started) (H : Type) (enc : TypeId × Value → H) :
    ReturnsInHanded {} Try.checked os 3 .any (Rows.textTellsSpec.pre6 enc Try.prog Try.f3 Rows.textTellsRow.domain false) (Rows.textTellsSpec.post enc Try.prog Try.f3 false true false false) := by
  refine returnsInHanded_of_change (C := Try.checked) own started (by kernel_rfl) Try.func3
    (ChangeSpec.witness6 (enc := enc) (C := Try.checked) false ⟨#[], #[.int .i64 0, .string ⟨#[]⟩, .string ⟨#[]⟩, .slice none 0 0], []⟩ 8 (by kernel_rfl) (by kernel_rfl) (by kernel_rfl) (by kernel_rfl)) ?_
  intro W base args ds gs before hval0 hW hcnd _
  have hval : ∀ (j : Nat) t v, Try.f3.params[j]? = some t → args[j]? = some v → Value.okWide Try.prog W .any base t v := hval0
  have hW' := hW
  obtain ⟨p, q, hA0, hV, rfl, hfz, hnd⟩ := hW
  have hA : DataW.TrodAll enc Try.prog W 0 (fun _ => true) true Try.f3.params.toList args.toList ds p := hA0
  rw [Try.params3] at hA hval
  obtain ⟨v0, v1, v2, v3, d0, d1, d2, d3, p0, p1, p2, p3, rfl, rfl, rfl, h0, h1, h2, h3⟩ := trodAll_four hA
  obtain ⟨rfl, rfl⟩ := trodVars_none hV
  obtain ⟨n, rfl, rfl, rfl, wn⟩ := open_int Try.underlying3 (hval 0 3 v0 rfl rfl) h0
  obtain ⟨s, rfl, rfl, rfl, hs⟩ := open_string Try.underlying9 (hval 1 9 v1 rfl rfl) h1
  obtain ⟨q, rfl, rfl, rfl, hq⟩ := open_string Try.underlying9 (hval 2 9 v2 rfl rfl) h2
  obtain ⟨A0, n0, c0, rfl⟩ := okWide_slice Try.underlying22 (hval 3 22 v3 rfl rfl)
  have h3' := h3
  obtain ⟨fuel, hf⟩ := h3'
  obtain ⟨A, c, t, hcs, hr, hn, hz⟩ := open_texts hf
  have hcs' : Value.slice A0 n0 c0 = .slice A t.length c := by simpa [Value.cells] using hcs
  rw [hcs'] at h3
  rw [hcs'] at hW' ⊢
  simp only [List.append_nil, List.nil_append] at hW'
  refine (tell_any n (fits_of wn) s q A c t (max_room hs) (max_room hq) (max_room hn) W hr (fun y hy => max_room (hz y hy))).mono fun e W' ⟨he, hbl⟩ => ?_
  subst he
  refine ⟨_, rfl, _, _, _, [], _, [], hW', trodAll_mk1 (shut_bool Try.underlying4 true), trodAll_mk4 (Below.trod laidOut readable_int listed_int h0 hbl (fun x hx => by cases hx)) (Below.trod laidOut readable_string listed_string h1 hbl (fun x hx => by cases hx)) (Below.trod laidOut readable_string listed_string h2 hbl (fun x hx => by cases hx)) (Below.trod laidOut readable_strings listed_strings h3 hbl (fun x hx => hW'.lt x (by simp [hx]))), rfl, hbl.frame _, fun h => by cases h⟩

theorem tell_holds : Rows.TextTellsSaid :=
  OpenClaim.holds_of_wide 3 Try.f3 rfl rfl rfl rfl rfl rfl rfl ⟨rfl, rfl, rfl, rfl, rfl⟩ rfl rfl rfl rfl rfl (by kernel_rfl) Try.func3 (by kernel_rfl)
    (of_decide_eq_true (by kernel_rfl)) (by unfold Func.isWrapper; first | (rw [if_pos (by decide +kernel)]; kernel_rfl) | (rw [if_neg (by decide +kernel)]; exact ⟨rfl, rfl⟩))
    (fun os started H enc _ => tell_lifted os started H enc)
end Txt
end Go.Proofs.Ytpmmbbaigfjhnaa

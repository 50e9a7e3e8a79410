/- For every list of strings l and every string s: taquinlaw02.TextLines returns true, and both read afterwards as they read before. No condition beside the row's own. -/
import Derived.Test.YtpmmbbaigfjhnaaLinl
import Derived.Test.YtpmmbbaigfjhnaaTexs
namespace Go.Proofs.Ytpmmbbaigfjhnaa
open Go.ChangeShapes Go.WideShapes Go.ChangeAt Go.RowKit Go.Deep Wire
open Go.ChangeMaps (open_string)
set_option linter.unusedVariables false
set_option linter.unusedSimpArgs false
namespace Txt

set_option maxRecDepth 100000 in
theorem linl_lifted (os : Os) (started : os.Started) (H : Type) (enc : TypeId × Value → H) :
    ReturnsInHanded {} Try.checked os 5 .any (Rows.textLinesSpec.pre6 enc Try.prog Try.f5 Rows.textLinesRow.domain false) (Rows.textLinesSpec.post enc Try.prog Try.f5 false true false false) := by
  refine returnsInHanded_of_change (C := Try.checked) own started (by kernel_rfl) Try.func5
    (ChangeSpec.witness6 (enc := enc) (C := Try.checked) false ⟨#[], #[.slice none 0 0, .string ⟨#[]⟩], []⟩ 8 (by kernel_rfl) (by kernel_rfl) (by kernel_rfl) (by kernel_rfl)) ?_
  intro W base args ds gs before hval0 hW hcnd _
  have hval : ∀ (j : Nat) t v, Try.f5.params[j]? = some t → args[j]? = some v → Value.okWide Try.prog W .any base t v := hval0
  have hW' := hW
  obtain ⟨p, q, hA0, hV, rfl, hfz, hnd⟩ := hW
  have hA : DataW.TrodAll enc Try.prog W 0 (fun _ => true) true Try.f5.params.toList args.toList ds p := hA0
  rw [Try.params5] at hA hval
  obtain ⟨v0, v1, d0, d1, p0, p1, rfl, rfl, rfl, h0, h1⟩ := trodAll_two hA
  obtain ⟨rfl, rfl⟩ := trodVars_none hV
  obtain ⟨A0, n0, c0, rfl⟩ := okWide_slice Try.underlying22 (hval 0 22 v0 rfl rfl)
  have h0' := h0
  obtain ⟨fuel, hf⟩ := h0'
  obtain ⟨A, c, t, hcs, hr, hn, hz⟩ := open_texts hf
  have hcs' : Value.slice A0 n0 c0 = .slice A t.length c := by simpa [Value.cells] using hcs
  rw [hcs'] at h0
  obtain ⟨b, rfl, rfl, rfl, hb⟩ := open_string Try.underlying9 (hval 1 9 v1 rfl rfl) h1
  rw [hcs'] at hW' ⊢
  simp only [List.append_nil] at hW'
  refine (linl_any A c t b (max_room hn) (max_room hb) W hr (fun y hy => max_room (hz y hy))).mono fun e W' ⟨he, hbl⟩ => ?_
  subst he
  refine ⟨_, rfl, _, _, _, [], _, [], hW', trodAll_mk1 (shut_bool Try.underlying4 true), trodAll_mk2 (Below.trod laidOut readable_strings listed_strings h0 hbl (fun x hx => hW'.lt x (by simp [hx]))) (Below.trod laidOut readable_string listed_string h1 hbl (fun x hx => by cases hx)), rfl, hbl.frame _, fun h => by cases h⟩

theorem linl_holds : Rows.TextLinesSaid :=
  OpenClaim.holds_of_wide 5 Try.f5 rfl rfl rfl rfl rfl rfl rfl ⟨rfl, rfl, rfl, rfl, rfl⟩ rfl rfl rfl rfl rfl (by kernel_rfl) Try.func5 (by kernel_rfl)
    (of_decide_eq_true (by kernel_rfl)) (by unfold Func.isWrapper; first | (rw [if_pos (by decide +kernel)]; kernel_rfl) | (rw [if_neg (by decide +kernel)]; exact ⟨rfl, rfl⟩))
    (fun os started H enc _ => linl_lifted os started H enc)
end Txt
end Go.Proofs.Ytpmmbbaigfjhnaa

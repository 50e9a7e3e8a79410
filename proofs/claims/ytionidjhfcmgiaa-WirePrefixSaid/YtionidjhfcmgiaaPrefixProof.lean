/- For all values v and w that can be read as data: taquinlaw01.WirePrefix returns true, and both read afterwards as they read before. No condition beside the row's own. -/
import Derived.Test.YtionidjhfcmgiaaPrefix
import Derived.Test.YtionidjhfcmgiaaWritesProof
namespace Go.Proofs.Ytionidjhfcmgiaa
open Go.ChangeShapes Go.WideShapes Go.ChangeAt Go.RowKit Go.Deep
set_option linter.unusedVariables false
set_option linter.unusedSimpArgs false
namespace Wire

set_option maxRecDepth 100000 in
theorem prefix_lifted (os : Os) (started : os.Started) (H : Type) (enc : TypeId × Value → H) :
    ReturnsInHanded {} Try.checked os 7 .any (Rows.wirePrefixSpec.pre6 enc Try.prog Try.f7 Rows.wirePrefixRow.domain false) (Rows.wirePrefixSpec.post enc Try.prog Try.f7 false true false false) := by
  refine returnsInHanded_of_change (C := Try.checked) own started (by kernel_rfl) Try.func7
    (ChangeSpec.witness6 (enc := enc) (C := Try.checked) false ⟨#[], #[.agg #[.int .i64 0, .int .i64 0, .string ⟨#[]⟩, .slice none 0 0, .slice none 0 0], .agg #[.int .i64 0, .int .i64 0, .string ⟨#[]⟩, .slice none 0 0, .slice none 0 0]], []⟩ 8 (by kernel_rfl) (by kernel_rfl) (by kernel_rfl) (by kernel_rfl)) ?_
  intro W base args ds gs before hval0 hW hcnd _
  have hval : ∀ (j : Nat) t v, Try.f7.params[j]? = some t → args[j]? = some v → Value.okWide Try.prog W .any base t v := hval0
  have hW' := hW
  obtain ⟨p, q, hA0, hV, rfl, hfz, hnd⟩ := hW
  have hA : DataW.TrodAll enc Try.prog W 0 (fun _ => true) true Try.f7.params.toList args.toList ds p := hA0
  rw [Try.params7] at hA hval
  obtain ⟨v0, v1, d0, d1, p0, p1, rfl, rfl, rfl, h0, h1⟩ := trodAll_two hA
  obtain ⟨rfl, rfl⟩ := trodVars_none hV
  obtain ⟨cs, rfl, _⟩ := okWide_struct Try.underlying25 (hval 0 25 v0 rfl rfl)
  obtain ⟨es, rfl, _⟩ := okWide_struct Try.underlying25 (hval 1 25 v1 rfl rfl)
  have h0' := h0
  have h1' := h1
  obtain ⟨fuel, hf⟩ := h0'
  obtain ⟨fuel2, hf2⟩ := h1'
  obtain ⟨v, A, c, A', c', hcs, hr1, hr2, hk, hn, hz⟩ := open_val hf
  obtain ⟨u, D, d, D', d', hes, hs1, hs2, hk2, hn2, hz2⟩ := open_val hf2
  have hcs' : cs = (cellsOf v A c A' c').toArray := by
    have : cs.toList = cellsOf v A c A' c' := hcs
    rw [← this]
  have hes' : es = (cellsOf u D d D' d').toArray := by
    have : es.toList = cellsOf u D d D' d' := hes
    rw [← this]
  subst hcs' hes'
  simp only [List.append_nil] at hW'
  refine (prefix_any v u A c A' c' D d D' d' W ⟨hr1, hr2, hk, hn, hz⟩ ⟨hs1, hs2, hk2, hn2, hz2⟩).mono fun e W' ⟨he, hb⟩ => ?_
  subst he
  refine ⟨_, rfl, _, _, _, [], p0 ++ p1, [], hW', trodAll_mk1 (shut_bool Try.underlying4 true),
    trodAll_mk2 (Below.trod laidOut readable_value listed_value h0 hb (fun x hx => hW'.lt x (by simp [hx]))) (Below.trod laidOut readable_value listed_value h1 hb (fun x hx => hW'.lt x (by simp [hx]))), rfl, hb.frame _, fun h => by cases h⟩

theorem prefix_holds : Rows.WirePrefixSaid :=
  OpenClaim.holds_of_wide 7 Try.f7 rfl rfl rfl rfl rfl rfl rfl ⟨rfl, rfl, rfl, rfl, rfl⟩ rfl rfl rfl rfl rfl (by kernel_rfl) Try.func7 (by kernel_rfl)
    (of_decide_eq_true (by kernel_rfl)) (by unfold Func.isWrapper; first | (rw [if_pos (by decide +kernel)]; kernel_rfl) | (rw [if_neg (by decide +kernel)]; exact ⟨rfl, rfl⟩))
    (fun os started H enc _ => prefix_lifted os started H enc)
end Wire
end Go.Proofs.Ytionidjhfcmgiaa

/- For every input (list of operations, list of ints) that can be read as data: taquinlaw06.NetOrders returns true, and all read afterwards as they read before. No condition beside the row's own. -/
import Derived.Test.YtmhnifcohkamaaaNow
import Derived.Test.YtmhnifcohkamaaaNso
namespace Go.Proofs.Ytmhnifcohkamaaa
open Go.ChangeShapes Go.WideShapes Go.ChangeAt Go.RowKit Go.Deep Wire
open Go.ChangeMaps (open_string)
set_option linter.unusedVariables false
set_option linter.unusedSimpArgs false
open Txt
open Dsk (laidOut)
namespace Ntw

set_option maxRecDepth 100000 in
theorem netOrders_lifted (os : Os) (started : os.Started) (H : Type) (enc : TypeId × Value → H) :
    ReturnsInHanded {} Try.checked os 5 .any (Rows.netOrdersSpec.pre6 enc Try.prog Try.f5 Rows.netOrdersRow.domain false) (Rows.netOrdersSpec.post enc Try.prog Try.f5 false true false false) := by
  refine returnsInHanded_of_change (C := Try.checked) own started (by kernel_rfl) Try.func5
    (ChangeSpec.witness6 (enc := enc) (C := Try.checked) false ⟨#[], #[.slice none 0 0, .slice none 0 0], []⟩ 8 (by kernel_rfl) (by kernel_rfl) (by kernel_rfl) (by kernel_rfl)) ?_
  intro W base args ds gs before hval0 hW hcnd _
  have hval : ∀ (j : Nat) t v, Try.f5.params[j]? = some t → args[j]? = some v → Value.okWide Try.prog W .any base t v := hval0
  have hW' := hW
  obtain ⟨p, q, hA0, hV, rfl, hfz, hnd⟩ := hW
  have hA : DataW.TrodAll enc Try.prog W 0 (fun _ => true) true Try.f5.params.toList args.toList ds p := hA0
  rw [Try.params5] at hA hval
  obtain ⟨v0, v1, d0, d1, p0, p1, rfl, rfl, rfl, h0, h1⟩ := trodAll_two hA
  obtain ⟨rfl, rfl⟩ := trodVars_none hV
  obtain ⟨a0, len0, cap0, rfl⟩ := okWide_slice Try.underlying22 (hval 0 22 v0 rfl rfl)
  have g0 := h0
  obtain ⟨fuel0, hf0⟩ := g0
  obtain ⟨A0, c0, l0, hcs0, hg0⟩ := nopen_ops hf0
  have e0 : Value.slice a0 len0 cap0 = .slice A0 l0.length c0 := by
    have e : [Value.slice a0 len0 cap0] = [.slice A0 l0.length c0] := hcs0
    exact List.head_eq_of_cons_eq e
  rw [e0] at h0 hval hW' ⊢
  obtain ⟨a1, len1, cap1, rfl⟩ := okWide_slice Try.underlying47 (hval 1 47 v1 rfl rfl)
  have g1 := h1
  obtain ⟨fuel1, hf1⟩ := g1
  obtain ⟨A1, c1, l1, hcs1, hg1⟩ := nopen_nums hf1
  have e1 : Value.slice a1 len1 cap1 = .slice A1 l1.length c1 := by
    have e : [Value.slice a1 len1 cap1] = [.slice A1 l1.length c1] := hcs1
    exact List.head_eq_of_cons_eq e
  rw [e1] at h1 hval hW' ⊢
  try simp only [List.append_nil, List.nil_append] at hW'
  refine (orders W A0 c0 l0 A1 c1 l1 hg0 hg1.1 hg1.2).mono fun e W' ⟨he, hb⟩ => ?_
  subst he
  refine ⟨_, rfl, _, _, _, [], _, [], hW', trodAll_mk1 (shut_bool Try.underlying4 true),
    trodAll_mk2 (Below.trod laidOut readable_ops listed_ops h0 hb (fun x hx => hW'.lt x (by simp [hx]))) (Below.trod laidOut readable_ints listed_ints h1 hb (fun x hx => hW'.lt x (by simp [hx]))), rfl, hb.frame _, fun h => by cases h⟩

theorem netOrders_holds : Rows.NetOrdersSaid :=
  OpenClaim.holds_of_wide 5 Try.f5 rfl rfl rfl rfl rfl rfl rfl ⟨rfl, rfl, rfl, rfl, rfl⟩ rfl rfl rfl rfl rfl (by kernel_rfl) Try.func5 (by kernel_rfl)
    (of_decide_eq_true (by kernel_rfl)) (by unfold Func.isWrapper; first | (rw [if_pos (by decide +kernel)]; kernel_rfl) | (rw [if_neg (by decide +kernel)]; exact ⟨rfl, rfl⟩))
    (fun os started H enc _ => netOrders_lifted os started H enc)
end Ntw
end Go.Proofs.Ytmhnifcohkamaaa

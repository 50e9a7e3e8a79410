/- For every input (list of acts, int, list of ints) that can be read as data: taquinlaw03.DiskArms returns true, and all read afterwards as they read before. No condition beside the row's own. -/
import Derived.Test.YtgaclibokapfaaaArmw
import Derived.Test.YtgaclibokapfaaaOpn
namespace Go.Proofs.Ytgaclibokapfaaa
open Go.ChangeShapes Go.WideShapes Go.ChangeAt Go.RowKit Go.Deep Wire
open Go.ChangeMaps (open_string)
set_option linter.unusedVariables false
set_option linter.unusedSimpArgs false
open Txt
namespace Dsk

set_option maxRecDepth 100000 in
theorem arms_lifted (os : Os) (started : os.Started) (H : Type) (enc : TypeId × Value → H) :
    ReturnsInHanded {} Try.checked os 6 .any (Rows.diskArmsSpec.pre6 enc Try.prog Try.f6 Rows.diskArmsRow.domain false) (Rows.diskArmsSpec.post enc Try.prog Try.f6 false true false false) := by
  refine returnsInHanded_of_change (C := Try.checked) own started (by kernel_rfl) Try.func6
    (ChangeSpec.witness6 (enc := enc) (C := Try.checked) false ⟨#[], #[.slice none 0 0, .int .i64 0, .slice none 0 0], []⟩ 8 (by kernel_rfl) (by kernel_rfl) (by kernel_rfl) (by kernel_rfl)) ?_
  intro W base args ds gs before hval0 hW hcnd _
  have hval : ∀ (j : Nat) t v, Try.f6.params[j]? = some t → args[j]? = some v → Value.okWide Try.prog W .any base t v := hval0
  have hW' := hW
  obtain ⟨p, q, hA0, hV, rfl, hfz, hnd⟩ := hW
  have hA : DataW.TrodAll enc Try.prog W 0 (fun _ => true) true Try.f6.params.toList args.toList ds p := hA0
  rw [Try.params6] at hA hval
  obtain ⟨v0, v1, v2, d0, d1, d2, p0, p1, p2, rfl, rfl, rfl, h0, h1, h2⟩ := trodAll_three hA
  obtain ⟨rfl, rfl⟩ := trodVars_none hV
  obtain ⟨a0, len0, cap0, rfl⟩ := okWide_slice Try.underlying22 (hval 0 22 v0 rfl rfl)
  have g0 := h0
  obtain ⟨fuel0, hf0⟩ := g0
  obtain ⟨A0, c0, l0, hcs0, hg0⟩ := open_acts hf0
  have e0 : Value.slice a0 len0 cap0 = .slice A0 l0.length c0 := by
    have e : [Value.slice a0 len0 cap0] = [.slice A0 l0.length c0] := hcs0
    exact List.head_eq_of_cons_eq e
  rw [e0] at h0 hval hW' ⊢
  obtain ⟨z1, rfl, rfl, rfl, wz1⟩ := open_int Try.underlying3 (hval 1 3 v1 rfl rfl) h1
  obtain ⟨a2, len2, cap2, rfl⟩ := okWide_slice Try.underlying31 (hval 2 31 v2 rfl rfl)
  have g2 := h2
  obtain ⟨fuel2, hf2⟩ := g2
  obtain ⟨A2, c2, l2, hcs2, hg2⟩ := open_nums hf2
  have e2 : Value.slice a2 len2 cap2 = .slice A2 l2.length c2 := by
    have e : [Value.slice a2 len2 cap2] = [.slice A2 l2.length c2] := hcs2
    exact List.head_eq_of_cons_eq e
  rw [e2] at h2 hval hW' ⊢
  simp only [List.append_nil, List.nil_append] at hW'
  refine (arms_law A0 c0 l0 z1 A2 c2 l2 W hg0 hg2).mono fun e W' ⟨he, hb⟩ => ?_
  subst he
  refine ⟨_, rfl, _, _, _, [], _, [], hW', trodAll_mk1 (shut_bool Try.underlying4 true),
    trodAll_mk3 (Below.trod laidOut readable_acts listed_acts h0 hb (fun x hx => hW'.lt x (by simp [hx]))) (Below.trod laidOut readable_int listed_int h1 hb (fun x hx => by cases hx)) (Below.trod laidOut readable_ints listed_ints h2 hb (fun x hx => hW'.lt x (by simp [hx]))), rfl, hb.frame _, fun h => by cases h⟩

theorem arms_holds : Rows.DiskArmsSaid :=
  OpenClaim.holds_of_wide 6 Try.f6 rfl rfl rfl rfl rfl rfl rfl ⟨rfl, rfl, rfl, rfl, rfl⟩ rfl rfl rfl rfl rfl (by kernel_rfl) Try.func6 (by kernel_rfl)
    (of_decide_eq_true (by kernel_rfl)) (by unfold Func.isWrapper; first | (rw [if_pos (by decide +kernel)]; kernel_rfl) | (rw [if_neg (by decide +kernel)]; exact ⟨rfl, rfl⟩))
    (fun os started H enc _ => arms_lifted os started H enc)
end Dsk
end Go.Proofs.Ytgaclibokapfaaa

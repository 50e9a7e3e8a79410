/- For every input (floor, list of ints, list of ints, list of ints, int) that can be read as data: taquinlaw08.RegionTells returns true, and all read afterwards as they read before. The package variables steps and opposites of package floor read, when the call begins, as the program lays them (the card ties that to the program's text). No condition beside the row's own. -/
import Derived.Test.YtgophgnfiboefaaGreatDoorRwT
import Derived.Test.YtgophgnfiboefaaGreatDoorRoA
import Derived.Test.YtgophgnfiboefaaGreatDoorCards
import Derived.Test.YtgophgnfiboefaaGreatDoorTie
import Derived.SevenTiedAt
namespace Go.Proofs.YtgophgnfiboefaaGreatDoor
open Go.ChangeShapes Go.WideShapes Go.ChangeAt Go.RowKit Go.Deep Wire
set_option linter.unusedVariables false
set_option linter.unusedSimpArgs false
open Txt
namespace Rgn
open Flo

set_option maxRecDepth 100000 in
theorem tells_lifted (os : Os) (started : os.Started) (H : Type) (enc : TypeId × Value → H) :
    ReturnsInHanded {} Tryz.checked os 3 .any (fun w args => (Rows.regionTellsSpec.pre enc Tryz.prog Tryz.f3 [] false w args ∧ laidMetH Tryz.prog Rows.regionTellsRow.laid w) ∧ sizedMet enc Tryz.prog Tryz.f3 (OpenSpec.ofChange Rows.regionTellsSpec) false w args) (Rows.regionTellsSpec.post enc Tryz.prog Tryz.f3 false true false false) := by
  refine returnsInHanded_of_change_and (C := Tryz.checked) (X := fun w _ => laidMetH Tryz.prog Rows.regionTellsRow.laid w) (fun _ _ _ hh h => h.of_heap hh) own started (by kernel_rfl) Tryz.func3
    (ChangeSpec.witness_shaped (enc := enc) (C := Tryz.checked) (os := os) (X := fun w _ => laidMetH Tryz.prog Rows.regionTellsRow.laid w) false (World.doorLaid Tryz.prog 25 os) #[.agg #[.int .i64 0, .int .i64 0, .int .i64 0, .slice none 0 0, .slice none 0 0], .slice none 0 0, .slice none 0 0, .slice none 0 0, .int .i64 0] 8 rfl (World.shaped_of_RefB (by kernel_rfl) (by kernel_rfl)) (by kernel_rfl) (by kernel_rfl) (by kernel_rfl) (door2_met os _)) ?_
  intro W base args ds gs before hval0 hW _ _ hL _
  have hval : ∀ (j : Nat) t v, Tryz.f3.params[j]? = some t → args[j]? = some v → Value.okWide Tryz.prog W .any base t v := hval0
  have hW' := hW
  obtain ⟨p, q, hA0, hV, rfl, hfz, hnd⟩ := hW
  have hA : DataW.TrodAll enc Tryz.prog W 0 (fun _ => true) true Tryz.f3.params.toList args.toList ds p := hA0
  rw [Tryz.params3] at hA hval
  have hvars := vso_of_laid hL
  obtain ⟨v0, vs0, d0, ds0, p0, q0, hargs, rfl, rfl, h0, r0⟩ := trodAll_cons hA
  obtain ⟨v1, vs1, d1, ds1, p1, q1, rfl, rfl, rfl, h1, r1⟩ := trodAll_cons r0
  obtain ⟨v2, vs2, d2, ds2, p2, q2, rfl, rfl, rfl, h2, r2⟩ := trodAll_cons r1
  obtain ⟨v3, vs3, d3, ds3, p3, q3, rfl, rfl, rfl, h3, r3⟩ := trodAll_cons r2
  obtain ⟨v4, vs4, d4, ds4, p4, q4, rfl, rfl, rfl, h4, r4⟩ := trodAll_cons r3
  obtain ⟨rfl, rfl, rfl⟩ := trodAll_nil r4
  obtain rfl : args = #[v0, v1, v2, v3, v4] := Array.ext' hargs
  obtain ⟨rfl, rfl⟩ := trodVars_none hV
  obtain ⟨cs0, rfl, hsz0⟩ := okWide_struct Tryz.underlying24 (hval 0 24 v0 rfl rfl)
  have g0 := h0
  obtain ⟨fuel0, hf0⟩ := g0
  obtain ⟨f, pl, hcs0, hin, hk1, hk2⟩ := fopen_floor hf0
  have e0 : Value.agg cs0 = f.val pl := by
    have e : cs0.toList = [Value.int .i64 f.W, .int .i64 f.H, .int .i64 f.D, .slice pl.A1 f.Kind.length pl.c1, .slice pl.A2 f.Out.length pl.c2] := hcs0
    exact congrArg Value.agg (Array.ext' (ys := (#[.int .i64 f.W, .int .i64 f.H, .int .i64 f.D, .slice pl.A1 f.Kind.length pl.c1, .slice pl.A2 f.Out.length pl.c2] : Array Value)) e)
  rw [e0] at h0 hval hW' ⊢
  obtain ⟨a1, len1, cap1, rfl⟩ := okWide_slice Tryz.underlying22 (hval 1 22 v1 rfl rfl)
  have g1 := h1
  obtain ⟨fuel1, hf1⟩ := g1
  obtain ⟨A1, c1, l1, hcs1, hr1, hm1⟩ := fopen_nums hf1
  have e1 : Value.slice a1 len1 cap1 = .slice A1 l1.length c1 := by
    have e : [Value.slice a1 len1 cap1] = [.slice A1 l1.length c1] := hcs1
    exact List.head_eq_of_cons_eq e
  rw [e1] at h1 hval hW' ⊢
  obtain ⟨a2, len2, cap2, rfl⟩ := okWide_slice Tryz.underlying22 (hval 2 22 v2 rfl rfl)
  have g2 := h2
  obtain ⟨fuel2, hf2⟩ := g2
  obtain ⟨A2, c2, l2, hcs2, hr2, hm2⟩ := fopen_nums hf2
  have e2 : Value.slice a2 len2 cap2 = .slice A2 l2.length c2 := by
    have e : [Value.slice a2 len2 cap2] = [.slice A2 l2.length c2] := hcs2
    exact List.head_eq_of_cons_eq e
  rw [e2] at h2 hval hW' ⊢
  obtain ⟨a3, len3, cap3, rfl⟩ := okWide_slice Tryz.underlying22 (hval 3 22 v3 rfl rfl)
  have g3 := h3
  obtain ⟨fuel3, hf3⟩ := g3
  obtain ⟨A3, c3, l3, hcs3, hr3, hm3⟩ := fopen_nums hf3
  have e3 : Value.slice a3 len3 cap3 = .slice A3 l3.length c3 := by
    have e : [Value.slice a3 len3 cap3] = [.slice A3 l3.length c3] := hcs3
    exact List.head_eq_of_cons_eq e
  rw [e3] at h3 hval hW' ⊢
  obtain ⟨z4, rfl, rfl, rfl, wz4⟩ := open_int Tryz.underlying3 (hval 4 3 v4 rfl rfl) h4
  try simp only [List.append_nil, List.nil_append] at hW'
  refine (tells_holds8 f pl A1 c1 l1 A2 c2 l2 A3 c3 l3 z4 W hvars hin hk1 hk2 hr1 hm1 hr2 hm2 hr3 hm3).mono fun e W' ⟨he, hb⟩ => ?_
  subst he
  refine ⟨_, rfl, _, _, _, [], _, [], hW', trodAll_mk1 (shut_bool Tryz.underlying4 true),
    ⟨_, _, (Below.trod laidAll readable_floor listed_floor h0 hb (fun x hx => hW'.lt x (by simp [hx]))), ⟨_, _, (Below.trod laidAll readable_ints listed_ints h1 hb (fun x hx => hW'.lt x (by simp [hx]))), ⟨_, _, (Below.trod laidAll readable_ints listed_ints h2 hb (fun x hx => hW'.lt x (by simp [hx]))), ⟨_, _, (Below.trod laidAll readable_ints listed_ints h3 hb (fun x hx => hW'.lt x (by simp [hx]))), trodAll_mk1 (Below.trod laidAll readable_int listed_int h4 hb (fun x hx => by cases hx)), rfl⟩, rfl⟩, rfl⟩, rfl⟩, rfl, hb.frame _, fun h => by cases h⟩

theorem tells_holds : Rows.RegionTellsSaid :=
  OpenClaim.holds_of_wide 3 Tryz.f3 rfl rfl rfl rfl rfl rfl rfl ⟨rfl, rfl, rfl, rfl, rfl⟩ rfl rfl rfl rfl rfl (by kernel_rfl) Tryz.func3 (by kernel_rfl)
    (of_decide_eq_true (by kernel_rfl)) (by unfold Func.isWrapper; first | (rw [if_pos (by decide +kernel)]; kernel_rfl) | (rw [if_neg (by decide +kernel)]; exact ⟨rfl, rfl⟩))
    (fun os started H enc _ => tells_lifted os started H enc)

theorem tells_card : Rows.RegionTellsCardSaid :=
  Claim7.holds_tied_plain_at .later [] [.data, .data] true _ false
    tells_holds (fun _ h => by cases h) (by kernel_rfl) (fun _ h => by cases h) regionTells_row_tie rfl ⟨rfl, rfl⟩ (by kernel_rfl) rfl
    (fun f fn hf hfn => by
      obtain rfl : f = 3 := Option.some.inj ((show Tryz.prog.funcNamed "taquin/taquinlaw08.RegionTells" = some 3 by kernel_rfl).symm.trans hf) |>.symm
      obtain rfl : fn = Tryz.f3 := (Option.some.inj (Tryz.func3.symm.trans hfn)).symm
      exact ⟨by kernel_rfl, fun j t ht => by
        rw [Tryz.params3] at ht
        match j, ht with
        | 0, ht => exact (Option.some.inj ht) ▸ (show Tryz.prog.wantsStandIn 24 = false by kernel_rfl)
        | 1, ht => exact (Option.some.inj ht) ▸ (show Tryz.prog.wantsStandIn 22 = false by kernel_rfl)
        | 2, ht => exact (Option.some.inj ht) ▸ (show Tryz.prog.wantsStandIn 22 = false by kernel_rfl)
        | 3, ht => exact (Option.some.inj ht) ▸ (show Tryz.prog.wantsStandIn 22 = false by kernel_rfl)
        | 4, ht => exact (Option.some.inj ht) ▸ (show Tryz.prog.wantsStandIn 3 = false by kernel_rfl)
        | j + 5, ht => simp at ht⟩)
    (by kernel_rfl)
end Rgn
end Go.Proofs.YtgophgnfiboefaaGreatDoor

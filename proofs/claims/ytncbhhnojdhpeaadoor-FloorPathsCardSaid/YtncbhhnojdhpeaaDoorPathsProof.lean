/- For every input (floor, int, int, list of ints) that can be read as data: taquinlaw07.FloorPaths returns true, and all read afterwards as they read before. The package variables steps of package floor read, when the call begins, as the program lays them (the card ties that to the program's text). No condition beside the row's own. -/
import Derived.Test.YtncbhhnojdhpeaaDoorFwP
import Derived.Test.YtncbhhnojdhpeaaDoorFoA
import Derived.Test.YtncbhhnojdhpeaaDoorCards
import Derived.Test.YtncbhhnojdhpeaaDoorTie
import Derived.SevenTiedAt
namespace Go.Proofs.YtncbhhnojdhpeaaDoor
open Go.ChangeShapes Go.WideShapes Go.ChangeAt Go.RowKit Go.Deep Wire
set_option linter.unusedVariables false
set_option linter.unusedSimpArgs false
open Txt
namespace Flo

set_option maxRecDepth 100000 in
theorem paths_lifted (os : Os) (started : os.Started) (H : Type) (enc : TypeId × Value → H) :
    ReturnsInHanded {} Tryd.checked os 7 .any (fun w args => (Rows.floorPathsSpec.pre enc Tryd.prog Tryd.f7 [] false w args ∧ laidMetH Tryd.prog Rows.floorPathsRow.laid w) ∧ sizedMet enc Tryd.prog Tryd.f7 (OpenSpec.ofChange Rows.floorPathsSpec) false w args) (Rows.floorPathsSpec.post enc Tryd.prog Tryd.f7 false true false false) := by
  refine returnsInHanded_of_change_and (C := Tryd.checked) (X := fun w _ => laidMetH Tryd.prog Rows.floorPathsRow.laid w) (fun _ _ _ hh h => h.of_heap hh) own started (by kernel_rfl) Tryd.func7
    (ChangeSpec.witness_shaped (enc := enc) (C := Tryd.checked) (os := os) (X := fun w _ => laidMetH Tryd.prog Rows.floorPathsRow.laid w) false (World.doorLaid Tryd.prog 25 os) #[.agg #[.int .i64 0, .int .i64 0, .int .i64 0, .slice none 0 0, .slice none 0 0], .int .i64 0, .int .i64 0, .slice none 0 0] 8 rfl (World.shaped_of_RefB (by kernel_rfl) (by kernel_rfl)) (by kernel_rfl) (by kernel_rfl) (by kernel_rfl) (door1_met os _)) ?_
  intro W base args ds gs before hval0 hW _ _ hL _
  have hval : ∀ (j : Nat) t v, Tryd.f7.params[j]? = some t → args[j]? = some v → Value.okWide Tryd.prog W .any base t v := hval0
  have hW' := hW
  obtain ⟨p, q, hA0, hV, rfl, hfz, hnd⟩ := hW
  have hA : DataW.TrodAll enc Tryd.prog W 0 (fun _ => true) true Tryd.f7.params.toList args.toList ds p := hA0
  rw [Tryd.params7] at hA hval
  have hvars := vs_of_laid hL
  obtain ⟨v0, vs0, d0, ds0, p0, q0, hargs, rfl, rfl, h0, r0⟩ := trodAll_cons hA
  obtain ⟨v1, vs1, d1, ds1, p1, q1, rfl, rfl, rfl, h1, r1⟩ := trodAll_cons r0
  obtain ⟨v2, vs2, d2, ds2, p2, q2, rfl, rfl, rfl, h2, r2⟩ := trodAll_cons r1
  obtain ⟨v3, vs3, d3, ds3, p3, q3, rfl, rfl, rfl, h3, r3⟩ := trodAll_cons r2
  obtain ⟨rfl, rfl, rfl⟩ := trodAll_nil r3
  obtain rfl : args = #[v0, v1, v2, v3] := Array.ext' hargs
  obtain ⟨rfl, rfl⟩ := trodVars_none hV
  obtain ⟨cs0, rfl, hsz0⟩ := okWide_struct Tryd.underlying24 (hval 0 24 v0 rfl rfl)
  have g0 := h0
  obtain ⟨fuel0, hf0⟩ := g0
  obtain ⟨f, pl, hcs0, hin, hk1, hk2⟩ := fopen_floor hf0
  have e0 : Value.agg cs0 = f.val pl := by
    have e : cs0.toList = [Value.int .i64 f.W, .int .i64 f.H, .int .i64 f.D, .slice pl.A1 f.Kind.length pl.c1, .slice pl.A2 f.Out.length pl.c2] := hcs0
    exact congrArg Value.agg (Array.ext' (ys := (#[.int .i64 f.W, .int .i64 f.H, .int .i64 f.D, .slice pl.A1 f.Kind.length pl.c1, .slice pl.A2 f.Out.length pl.c2] : Array Value)) e)
  rw [e0] at h0 hval hW' ⊢
  obtain ⟨z1, rfl, rfl, rfl, wz1⟩ := open_int Tryd.underlying3 (hval 1 3 v1 rfl rfl) h1
  obtain ⟨z2, rfl, rfl, rfl, wz2⟩ := open_int Tryd.underlying3 (hval 2 3 v2 rfl rfl) h2
  obtain ⟨a3, len3, cap3, rfl⟩ := okWide_slice Tryd.underlying22 (hval 3 22 v3 rfl rfl)
  have g3 := h3
  obtain ⟨fuel3, hf3⟩ := g3
  obtain ⟨A3, c3, l3, hcs3, hr3, hm3⟩ := fopen_nums hf3
  have e3 : Value.slice a3 len3 cap3 = .slice A3 l3.length c3 := by
    have e : [Value.slice a3 len3 cap3] = [.slice A3 l3.length c3] := hcs3
    exact List.head_eq_of_cons_eq e
  rw [e3] at h3 hval hW' ⊢
  try simp only [List.append_nil, List.nil_append] at hW'
  refine (paths_law f pl z1 z2 A3 c3 l3 W hvars hin hk1 hk2 hr3 hm3).mono fun e W' ⟨he, hb⟩ => ?_
  subst he
  refine ⟨_, rfl, _, _, _, [], _, [], hW', trodAll_mk1 (shut_bool Tryd.underlying4 true),
    ⟨_, _, (Below.trod laidAll readable_floor listed_floor h0 hb (fun x hx => hW'.lt x (by simp [hx]))), ⟨_, _, (Below.trod laidAll readable_int listed_int h1 hb (fun x hx => by cases hx)), ⟨_, _, (Below.trod laidAll readable_int listed_int h2 hb (fun x hx => by cases hx)), trodAll_mk1 (Below.trod laidAll readable_ints listed_ints h3 hb (fun x hx => hW'.lt x (by simp [hx]))), rfl⟩, rfl⟩, rfl⟩, rfl, hb.frame _, fun h => by cases h⟩

theorem paths_holds : Rows.FloorPathsSaid :=
  OpenClaim.holds_of_wide 7 Tryd.f7 rfl rfl rfl rfl rfl rfl rfl ⟨rfl, rfl, rfl, rfl, rfl⟩ rfl rfl rfl rfl rfl (by kernel_rfl) Tryd.func7 (by kernel_rfl)
    (of_decide_eq_true (by kernel_rfl)) (by unfold Func.isWrapper; first | (rw [if_pos (by decide +kernel)]; kernel_rfl) | (rw [if_neg (by decide +kernel)]; exact ⟨rfl, rfl⟩))
    (fun os started H enc _ => paths_lifted os started H enc)

theorem paths_card : Rows.FloorPathsCardSaid :=
  Claim7.holds_tied_plain_at .later [] [.data] true _ false
    paths_holds (fun _ h => by cases h) (by kernel_rfl) (fun _ h => by cases h) floorPaths_row_tie rfl ⟨rfl, rfl⟩ (by kernel_rfl) rfl
    (fun f fn hf hfn => by
      obtain rfl : f = 7 := Option.some.inj ((show Tryd.prog.funcNamed "taquin/taquinlaw07.FloorPaths" = some 7 by kernel_rfl).symm.trans hf) |>.symm
      obtain rfl : fn = Tryd.f7 := (Option.some.inj (Tryd.func7.symm.trans hfn)).symm
      exact ⟨by kernel_rfl, fun j t ht => by
        rw [Tryd.params7] at ht
        match j, ht with
        | 0, ht => exact (Option.some.inj ht) ▸ (show Tryd.prog.wantsStandIn 24 = false by kernel_rfl)
        | 1, ht => exact (Option.some.inj ht) ▸ (show Tryd.prog.wantsStandIn 3 = false by kernel_rfl)
        | 2, ht => exact (Option.some.inj ht) ▸ (show Tryd.prog.wantsStandIn 3 = false by kernel_rfl)
        | 3, ht => exact (Option.some.inj ht) ▸ (show Tryd.prog.wantsStandIn 22 = false by kernel_rfl)
        | j + 4, ht => simp at ht⟩)
    (by kernel_rfl)
end Flo
end Go.Proofs.YtncbhhnojdhpeaaDoor

/- For every input (floor, int, int, int, int, list of ints, list of ints) that can be read as data: taquinlaw07.FloorTells returns true, and all read afterwards as they read before. The package variables steps and opposites of package floor read, when the call begins, as the program lays them (the card ties that to the program's text). No condition beside the row's own. -/
import Derived.Test.YtncbhhnojdhpeaaDoorFwT
import Derived.Test.YtncbhhnojdhpeaaDoorFoA
import Derived.Test.YtncbhhnojdhpeaaDoorCards
import Derived.Test.YtncbhhnojdhpeaaDoorTie
import Derived.SevenTiedAt
namespace Go.Proofs.YtncbhhnojdhpeaaDoor
open Go.ChangeShapes Go.WideShapes Go.ChangeAt Go.RowKit Go.Deep Wire
set_option linter.unusedVariables false
set_option linter.unusedSimpArgs false
open Txt
namespace Flo

set_option maxRecDepth 100000 in
theorem tells_lifted (os : Os) (started : os.Started) (H : Type) (enc : TypeId × Value → H) :
    ReturnsInHanded {} Tryd.checked os 3 .any (fun w args => (Rows.floorTellsSpec.pre enc Tryd.prog Tryd.f3 [] false w args ∧ laidMetH Tryd.prog Rows.floorTellsRow.laid w) ∧ sizedMet enc Tryd.prog Tryd.f3 (OpenSpec.ofChange Rows.floorTellsSpec) false w args) (Rows.floorTellsSpec.post enc Tryd.prog Tryd.f3 false true false false) := by
  refine returnsInHanded_of_change_and (C := Tryd.checked) (X := fun w _ => laidMetH Tryd.prog Rows.floorTellsRow.laid w) (fun _ _ _ hh h => h.of_heap hh) own started (by kernel_rfl) Tryd.func3
    (ChangeSpec.witness_shaped (enc := enc) (C := Tryd.checked) (os := os) (X := fun w _ => laidMetH Tryd.prog Rows.floorTellsRow.laid w) false (World.doorLaid Tryd.prog 25 os) #[.agg #[.int .i64 0, .int .i64 0, .int .i64 0, .slice none 0 0, .slice none 0 0], .int .i64 0, .int .i64 0, .int .i64 0, .int .i64 0, .slice none 0 0, .slice none 0 0] 8 rfl (World.shaped_of_RefB (by kernel_rfl) (by kernel_rfl)) (by kernel_rfl) (by kernel_rfl) (by kernel_rfl) (door2_met os _)) ?_
  intro W base args ds gs before hval0 hW _ _ hL _
  have hval : ∀ (j : Nat) t v, Tryd.f3.params[j]? = some t → args[j]? = some v → Value.okWide Tryd.prog W .any base t v := hval0
  have hW' := hW
  obtain ⟨p, q, hA0, hV, rfl, hfz, hnd⟩ := hW
  have hA : DataW.TrodAll enc Tryd.prog W 0 (fun _ => true) true Tryd.f3.params.toList args.toList ds p := hA0
  rw [Tryd.params3] at hA hval
  have hvars := vso_of_laid hL
  obtain ⟨v0, vs0, d0, ds0, p0, q0, hargs, rfl, rfl, h0, r0⟩ := trodAll_cons hA
  obtain ⟨v1, vs1, d1, ds1, p1, q1, rfl, rfl, rfl, h1, r1⟩ := trodAll_cons r0
  obtain ⟨v2, vs2, d2, ds2, p2, q2, rfl, rfl, rfl, h2, r2⟩ := trodAll_cons r1
  obtain ⟨v3, vs3, d3, ds3, p3, q3, rfl, rfl, rfl, h3, r3⟩ := trodAll_cons r2
  obtain ⟨v4, vs4, d4, ds4, p4, q4, rfl, rfl, rfl, h4, r4⟩ := trodAll_cons r3
  obtain ⟨v5, vs5, d5, ds5, p5, q5, rfl, rfl, rfl, h5, r5⟩ := trodAll_cons r4
  obtain ⟨v6, vs6, d6, ds6, p6, q6, rfl, rfl, rfl, h6, r6⟩ := trodAll_cons r5
  obtain ⟨rfl, rfl, rfl⟩ := trodAll_nil r6
  obtain rfl : args = #[v0, v1, v2, v3, v4, v5, v6] := Array.ext' hargs
  obtain ⟨rfl, rfl⟩ := trodVars_none hV
  obtain ⟨cs0, rfl, hsz0⟩ := okWide_struct Tryd.underlying24 (hval 0 24 v0 rfl rfl)
  have g0 := h0
  obtain ⟨fuel0, hf0⟩ := g0
  obtain ⟨f, pl, hcs0, hin, hm1, hm2⟩ := fopen_floor hf0
  have e0 : Value.agg cs0 = f.val pl := by
    have e : cs0.toList = [Value.int .i64 f.W, .int .i64 f.H, .int .i64 f.D, .slice pl.A1 f.Kind.length pl.c1, .slice pl.A2 f.Out.length pl.c2] := hcs0
    exact congrArg Value.agg (Array.ext' (ys := (#[.int .i64 f.W, .int .i64 f.H, .int .i64 f.D, .slice pl.A1 f.Kind.length pl.c1, .slice pl.A2 f.Out.length pl.c2] : Array Value)) e)
  rw [e0] at h0 hval hW' ⊢
  obtain ⟨z1, rfl, rfl, rfl, wz1⟩ := open_int Tryd.underlying3 (hval 1 3 v1 rfl rfl) h1
  obtain ⟨z2, rfl, rfl, rfl, wz2⟩ := open_int Tryd.underlying3 (hval 2 3 v2 rfl rfl) h2
  obtain ⟨z3, rfl, rfl, rfl, wz3⟩ := open_int Tryd.underlying3 (hval 3 3 v3 rfl rfl) h3
  obtain ⟨z4, rfl, rfl, rfl, wz4⟩ := open_int Tryd.underlying3 (hval 4 3 v4 rfl rfl) h4
  obtain ⟨a5, len5, cap5, rfl⟩ := okWide_slice Tryd.underlying22 (hval 5 22 v5 rfl rfl)
  have g5 := h5
  obtain ⟨fuel5, hf5⟩ := g5
  obtain ⟨A5, c5, l5, hcs5, hr5, hm5⟩ := fopen_nums hf5
  have e5 : Value.slice a5 len5 cap5 = .slice A5 l5.length c5 := by
    have e : [Value.slice a5 len5 cap5] = [.slice A5 l5.length c5] := hcs5
    exact List.head_eq_of_cons_eq e
  rw [e5] at h5 hval hW' ⊢
  obtain ⟨a6, len6, cap6, rfl⟩ := okWide_slice Tryd.underlying22 (hval 6 22 v6 rfl rfl)
  have g6 := h6
  obtain ⟨fuel6, hf6⟩ := g6
  obtain ⟨A6, c6, l6, hcs6, hr6, hm6⟩ := fopen_nums hf6
  have e6 : Value.slice a6 len6 cap6 = .slice A6 l6.length c6 := by
    have e : [Value.slice a6 len6 cap6] = [.slice A6 l6.length c6] := hcs6
    exact List.head_eq_of_cons_eq e
  rw [e6] at h6 hval hW' ⊢
  try simp only [List.append_nil, List.nil_append] at hW'
  refine (tells_law f pl z1 z2 z3 z4 A5 c5 l5 A6 c6 l6 W hvars hin hm1 hm2 hr5 hm5 hr6 hm6).mono fun e W' ⟨he, hb⟩ => ?_
  subst he
  refine ⟨_, rfl, _, _, _, [], _, [], hW', trodAll_mk1 (shut_bool Tryd.underlying4 true),
    ⟨_, _, (Below.trod laidAll readable_floor listed_floor h0 hb (fun x hx => hW'.lt x (by simp [hx]))), ⟨_, _, (Below.trod laidAll readable_int listed_int h1 hb (fun x hx => by cases hx)), ⟨_, _, (Below.trod laidAll readable_int listed_int h2 hb (fun x hx => by cases hx)), ⟨_, _, (Below.trod laidAll readable_int listed_int h3 hb (fun x hx => by cases hx)), ⟨_, _, (Below.trod laidAll readable_int listed_int h4 hb (fun x hx => by cases hx)), ⟨_, _, (Below.trod laidAll readable_ints listed_ints h5 hb (fun x hx => hW'.lt x (by simp [hx]))), trodAll_mk1 (Below.trod laidAll readable_ints listed_ints h6 hb (fun x hx => hW'.lt x (by simp [hx]))), rfl⟩, rfl⟩, rfl⟩, rfl⟩, rfl⟩, rfl⟩, rfl, hb.frame _, fun h => by cases h⟩

theorem tells_holds : Rows.FloorTellsSaid :=
  OpenClaim.holds_of_wide 3 Tryd.f3 rfl rfl rfl rfl rfl rfl rfl ⟨rfl, rfl, rfl, rfl, rfl⟩ rfl rfl rfl rfl rfl (by kernel_rfl) Tryd.func3 (by kernel_rfl)
    (of_decide_eq_true (by kernel_rfl)) (by unfold Func.isWrapper; first | (rw [if_pos (by decide +kernel)]; kernel_rfl) | (rw [if_neg (by decide +kernel)]; exact ⟨rfl, rfl⟩))
    (fun os started H enc _ => tells_lifted os started H enc)

theorem tells_card : Rows.FloorTellsCardSaid :=
  Claim7.holds_tied_plain_at .later [] [.data, .data] true _ false
    tells_holds (fun _ h => by cases h) (by kernel_rfl) (fun _ h => by cases h) floorTells_row_tie rfl ⟨rfl, rfl⟩ (by kernel_rfl) rfl
    (fun f fn hf hfn => by
      obtain rfl : f = 3 := Option.some.inj ((show Tryd.prog.funcNamed "taquin/taquinlaw07.FloorTells" = some 3 by kernel_rfl).symm.trans hf) |>.symm
      obtain rfl : fn = Tryd.f3 := (Option.some.inj (Tryd.func3.symm.trans hfn)).symm
      exact ⟨by kernel_rfl, fun j t ht => by
        rw [Tryd.params3] at ht
        match j, ht with
        | 0, ht => exact (Option.some.inj ht) ▸ (show Tryd.prog.wantsStandIn 24 = false by kernel_rfl)
        | 1, ht => exact (Option.some.inj ht) ▸ (show Tryd.prog.wantsStandIn 3 = false by kernel_rfl)
        | 2, ht => exact (Option.some.inj ht) ▸ (show Tryd.prog.wantsStandIn 3 = false by kernel_rfl)
        | 3, ht => exact (Option.some.inj ht) ▸ (show Tryd.prog.wantsStandIn 3 = false by kernel_rfl)
        | 4, ht => exact (Option.some.inj ht) ▸ (show Tryd.prog.wantsStandIn 3 = false by kernel_rfl)
        | 5, ht => exact (Option.some.inj ht) ▸ (show Tryd.prog.wantsStandIn 22 = false by kernel_rfl)
        | 6, ht => exact (Option.some.inj ht) ▸ (show Tryd.prog.wantsStandIn 22 = false by kernel_rfl)
        | j + 7, ht => simp at ht⟩)
    (by kernel_rfl)
end Flo
end Go.Proofs.YtncbhhnojdhpeaaDoor

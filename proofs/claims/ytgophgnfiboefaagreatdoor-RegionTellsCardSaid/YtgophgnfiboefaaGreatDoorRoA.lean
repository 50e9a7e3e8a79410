/- How the arguments of the statements read; what the variables hold. -/
import Derived.Test.YtgophgnfiboefaaGreatDoorRsA
import Derived.Test.YtgophgnfiboefaaGreatDoorRows
import Derived.ProofKit
import Derived.Deep.Fields
import Derived.Deep.Slices
import Derived.Deep.Strs
import Derived.SliceStrings
import Derived.OpenShut
import Derived.LaidMore
import Derived.Stop.Joined
namespace Go.Proofs.YtgophgnfiboefaaGreatDoor
open Go.ChangeShapes Go.WideShapes Go.ChangeAt Go.RowKit Go.Deep Wire
set_option linter.unusedVariables false
set_option linter.unusedSimpArgs false
open Txt
open Go.Proofs.YtgophgnfiboefaaGreatDoor.Own
namespace Rgn
open Flo
theorem own : ownKnob Tryz.prog.godebug = none := by kernel_rfl
theorem laidAll : laidOutB Tryz.prog = true := by kernel_rfl
theorem c_int : Tryz.prog.cellsOf 3 = 1 := by kernel_rfl
theorem c_ints : Tryz.prog.cellsOf 22 = 1 := by kernel_rfl
theorem c_step : Tryz.prog.cellsOf 84 = 3 := by kernel_rfl
theorem c_steps : Tryz.prog.cellsOf 85 = 18 := by kernel_rfl
theorem c_opps : Tryz.prog.cellsOf 87 = 6 := by kernel_rfl
theorem c_floor : Tryz.prog.cellsOf 24 = 5 := by kernel_rfl
theorem readable_int : Tryz.prog.readableRec 3 = true := by kernel_rfl
theorem readable_ints : Tryz.prog.readableRec 22 = true := by kernel_rfl
theorem readable_floor : Tryz.prog.readableRec 24 = true := by kernel_rfl
theorem listed_int : 3 < Tryz.prog.types.size := by rw [show Tryz.prog.types.size = Tryz.prog.types.size from rfl]; exact of_decide_eq_true (by kernel_rfl)
theorem listed_ints : 22 < Tryz.prog.types.size := by rw [show Tryz.prog.types.size = Tryz.prog.types.size from rfl]; exact of_decide_eq_true (by kernel_rfl)
theorem listed_floor : 24 < Tryz.prog.types.size := by rw [show Tryz.prog.types.size = Tryz.prog.types.size from rfl]; exact of_decide_eq_true (by kernel_rfl)
theorem gSteps : Tryz.prog.globalNamed "taquin/floor.steps" = some 0 := by kernel_rfl
theorem tSteps : (Tryz.prog.globals[0]?).map (·.type) = some 85 := by kernel_rfl
theorem gOpps : Tryz.prog.globalNamed "taquin/floor.opposites" = some 1 := by kernel_rfl
theorem tOpps : (Tryz.prog.globals[1]?).map (·.type) = some 87 := by kernel_rfl
section
variable {H : Type} {enc : TypeId × Value → H} {w : World} {held : Bool} {fuel : Nat} {cs : List Value} {x : DataW H × List MemPlace}
set_option maxRecDepth 100000 in
theorem int_of (h : DataW.trod enc Tryz.prog w 0 (fun _ => true) held fuel 3 cs = some x) {z : Int} (e : x.1 = .lit (.int .i64 z)) : cs = [.int .i64 z] := by
  obtain ⟨k, a, b, _⟩ := DataW.trod_int Tryz.underlying3 h
  rw [b] at e
  have : k = z := by simpa using e
  rw [a, this]
set_option maxRecDepth 100000 in
theorem step_of (h : DataW.trod enc Tryz.prog w 0 (fun _ => true) held fuel 84 cs = some x) {a b c : Int} (e : x.1 = .agg [.lit (.int .i64 a), .lit (.int .i64 b), .lit (.int .i64 c)]) : cs = [.int .i64 a, .int .i64 b, .int .i64 c] := by
  obtain ⟨y0, y1, y2, n, rfl, hl, h0, h1, h2⟩ := trod_struct3 Tryz.underlying84 h
  rw [c_step] at hl
  simp only [DataW.agg.injEq, List.cons.injEq, and_true] at e
  obtain ⟨e0, e1, e2⟩ := e
  match cs, hl with
  | [c0, c1, c2], _ =>
    have g0 := int_of h0 e0
    have g1 := int_of h1 e1
    have g2 := int_of h2 e2
    rw [show Tryz.prog.cellsOf _ = 1 from c_int] at g0 g1 g2
    have g0' : [c0] = [.int .i64 a] := g0
    have g1' : [c1] = [.int .i64 b] := g1
    have g2' : [c2] = [.int .i64 c] := g2
    rw [List.head_eq_of_cons_eq g0', List.head_eq_of_cons_eq g1', List.head_eq_of_cons_eq g2']
end
theorem at_part {l : List Value} {a k n : Nat} {v : Value} {r : List Value} (h : (l.drop a).take n = r) (hv : r[k]? = some v) : l[a + k]? = some v := by
  have hk : k < n := by
    have := (List.getElem?_eq_some_iff.1 hv).1
    rw [← h, List.length_take] at this
    omega
  rw [← h, List.getElem?_take, if_pos hk, List.getElem?_drop] at hv
  exact hv
set_option maxRecDepth 100000 in
/-- What steps holds. -/
theorem vs_of {W : World} {cs1 : Array Value} {fuel : Nat} {p : List MemPlace} (hv : W.var? Tryz.prog "taquin/floor.steps" = some cs1) (hd : DataW.trod (fun _ => ()) Tryz.prog W 0 (fun _ => true) false fuel 85 cs1.toList = some (Rows.laid_taquin_floor_steps, p)) : VS W := by
  obtain ⟨xs, m1, rfl, hx1, hlen, hn6, hel⟩ := DataW.trod_array Tryz.underlying85 hd
  have hx2 := congrArg Prod.fst hx1
  match xs, hn6 with
  | [x0, x1, x2, x3, x4, x5], _ =>
    simp only [Rows.laid_taquin_floor_steps, DataW.agg.injEq, List.map_cons, List.map_nil, List.cons.injEq, and_true] at hx2
    obtain ⟨e0, e1, e2, e3, e4, e5⟩ := hx2
    have s0 := step_of (hel 0 (by decide)) e0.symm
    have s1 := step_of (hel 1 (by decide)) e1.symm
    have s2 := step_of (hel 2 (by decide)) e2.symm
    have s3 := step_of (hel 3 (by decide)) e3.symm
    have s4 := step_of (hel 4 (by decide)) e4.symm
    have s5 := step_of (hel 5 (by decide)) e5.symm
    have key : ∀ (d : Nat) (a b c : Int), (cs1.toList.drop (d * 3)).take 3 = [.int .i64 a, .int .i64 b, .int .i64 c] → W.cell? ⟨0, d * 3, none⟩ = some (.int .i64 a) ∧ W.cell? ⟨0, d * 3 + 1, none⟩ = some (.int .i64 b) ∧ W.cell? ⟨0, d * 3 + 2, none⟩ = some (.int .i64 c) := by
      intro d a b c h
      refine ⟨?_, ?_, ?_⟩
      · rw [World.var?_cell gSteps hv, ← Array.getElem?_toList]
        exact at_part (k := 0) h rfl
      · rw [World.var?_cell gSteps hv, ← Array.getElem?_toList]
        exact at_part (k := 1) h rfl
      · rw [World.var?_cell gSteps hv, ← Array.getElem?_toList]
        exact at_part (k := 2) h rfl
    rw [c_step] at s0 s1 s2 s3 s4 s5
    intro d hd
    obtain rfl | rfl | rfl | rfl | rfl | rfl : d = 0 ∨ d = 1 ∨ d = 2 ∨ d = 3 ∨ d = 4 ∨ d = 5 := by omega
    · exact key 0 _ _ _ s0
    · exact key 1 _ _ _ s1
    · exact key 2 _ _ _ s2
    · exact key 3 _ _ _ s3
    · exact key 4 _ _ _ s4
    · exact key 5 _ _ _ s5
set_option maxRecDepth 100000 in
/-- What opposites holds. -/
theorem vo_of {W : World} {cs1 : Array Value} {fuel : Nat} {p : List MemPlace} (hv : W.var? Tryz.prog "taquin/floor.opposites" = some cs1) (hd : DataW.trod (fun _ => ()) Tryz.prog W 0 (fun _ => true) false fuel 87 cs1.toList = some (Rows.laid_taquin_floor_opposites, p)) : VO W := by
  obtain ⟨xs, m1, rfl, hx1, hlen, hn6, hel⟩ := DataW.trod_array Tryz.underlying87 hd
  have hx2 := congrArg Prod.fst hx1
  match xs, hn6 with
  | [x0, x1, x2, x3, x4, x5], _ =>
    simp only [Rows.laid_taquin_floor_opposites, DataW.agg.injEq, List.map_cons, List.map_nil, List.cons.injEq, and_true] at hx2
    obtain ⟨e0, e1, e2, e3, e4, e5⟩ := hx2
    have s0 := int_of (hel 0 (by decide)) e0.symm
    have s1 := int_of (hel 1 (by decide)) e1.symm
    have s2 := int_of (hel 2 (by decide)) e2.symm
    have s3 := int_of (hel 3 (by decide)) e3.symm
    have s4 := int_of (hel 4 (by decide)) e4.symm
    have s5 := int_of (hel 5 (by decide)) e5.symm
    have key : ∀ (d : Nat) (a : Int), (cs1.toList.drop (d * 1)).take 1 = [.int .i64 a] → W.cell? ⟨1, d, none⟩ = some (.int .i64 a) := by
      intro d a h
      rw [World.var?_cell gOpps hv, ← Array.getElem?_toList]
      have := at_part (k := 0) h rfl
      rwa [Nat.mul_one, Nat.add_zero] at this
    rw [c_int] at s0 s1 s2 s3 s4 s5
    intro d hd
    obtain rfl | rfl | rfl | rfl | rfl | rfl : d = 0 ∨ d = 1 ∨ d = 2 ∨ d = 3 ∨ d = 4 ∨ d = 5 := by omega
    · exact key 0 _ s0
    · exact key 1 _ s1
    · exact key 2 _ s2
    · exact key 3 _ s3
    · exact key 4 _ s4
    · exact key 5 _ s5
theorem vso_of_laid {W : World} (h : laidMetH Tryz.prog [("taquin/floor.steps", Rows.laid_taquin_floor_steps), ("taquin/floor.opposites", Rows.laid_taquin_floor_opposites)] W) : VS W ∧ VO W := by
  rw [MakeChecks.laidMetH_plain _ _ _ (by kernel_rfl)] at h
  obtain ⟨ps, ⟨g1, t1, cs1, f1, p1, q1, hg1, ht1, hv1, hd1, ⟨g2, t2, cs2, f2, p2, q2, hg2, ht2, hv2, hd2, _, _⟩, _⟩, _, _⟩ := h
  obtain rfl := Option.some.inj (gSteps.symm.trans hg1)
  obtain rfl := Option.some.inj (tSteps.symm.trans ht1)
  obtain rfl := Option.some.inj (gOpps.symm.trans hg2)
  obtain rfl := Option.some.inj (tOpps.symm.trans ht2)
  exact ⟨vs_of hv1 hd1, vo_of hv2 hd2⟩
/-- The door's own heap meets the conditions. -/
theorem door2_met (os : Os) (args : Array Value) : laidMetH Tryz.prog [("taquin/floor.steps", Rows.laid_taquin_floor_steps), ("taquin/floor.opposites", Rows.laid_taquin_floor_opposites)] ((World.doorLaid Tryz.prog 25 os).forCall (fun _ _ => 0) ⟨#[], args, []⟩).memory :=
  laidMetH_of_parts3 (fuel := 8) (laidMet_of_run' 8 (by kernel_rfl) (by kernel_rfl)) (by kernel_rfl) (by kernel_rfl)

/-! Arguments. -/
theorem spot_none {w : World} {a : Addr} {v : Value} (h : w.cell? a = some v) : ∃ b o, a = ⟨b, o, none⟩ := by
  obtain ⟨b, o, s⟩ := a
  have hs : s = none := by simpa using World.cell?_spot h
  subst hs
  exact ⟨b, o, rfl⟩
section
variable {H : Type} {enc : TypeId × Value → H} {w : World} {held : Bool} {fuel : Nat} {cs : List Value} {x : DataW H × List MemPlace}
theorem row_of {A : Addr} {xs : List Value} {n : Nat} (hn : n ≤ xs.length) (h : ∀ i u, xs[i]? = some u → w.cell? (A.add i) = some u) : Row w w.heap.size (some A) (xs.take n) := by
  intro k u hu
  have hk : k < n := by
    have := (List.getElem?_eq_some_iff.1 hu).1
    simp at this
    omega
  rw [List.getElem?_take_of_lt hk] at hu
  have hc := h k u hu
  obtain ⟨b, o, e⟩ := spot_none hc
  have hb : A.block < w.heap.size := by
    have := World.block_lt_of_cell? w _ hc
    rwa [show (A.add k).block = A.block from by unfold Addr.add; split <;> rfl] at this
  have hc0 : ∃ u0, w.cell? (A.add 0) = some u0 := by
    have hlt : 0 < xs.length := by omega
    exact ⟨xs[0], h 0 _ (List.getElem?_eq_getElem hlt)⟩
  obtain ⟨u0, hu0⟩ := hc0
  obtain ⟨b', o', e'⟩ := spot_none (a := A) (by simpa [Addr.add] using hu0)
  subst e'
  exact ⟨b', o', rfl, hb, by rw [← row_add']; exact hc⟩
theorem fopen_nums (h : DataW.trod enc Tryz.prog w 0 (fun _ => true) held fuel 22 cs = some x) :
    ∃ A c, ∃ zs : List Int, cs = [.slice A zs.length c] ∧ Row w w.heap.size A (ivs zs) ∧ zs.length ≤ maxLen := by
  rcases open_ints Tryz.underlying22 Tryz.underlying3 c_int h with ⟨rfl, _⟩ | ⟨a, len, cap, zs, rfl, _, hl, hm, hz, _, hcell, hwz⟩
  · exact ⟨none, 0, [], rfl, fun k u hu => by simp at hu, Nat.zero_le _⟩
  · have hz' : zs.length = cap := by simpa using hz
    refine ⟨some a, cap, zs.take len, by rw [List.length_take, Nat.min_eq_left (by omega)], ?_, by rw [List.length_take]; omega⟩
    rw [show ivs (zs.take len) = (ivs zs).take len from List.map_take ..]
    refine row_of (by rw [List.length_map]; omega) fun i u hu => ?_
    rw [List.getElem?_map] at hu
    obtain ⟨z, h1, rfl⟩ := Option.map_eq_some_iff.1 hu
    rw [hcell i (List.getElem?_eq_some_iff.1 h1).1, List.getD_eq_getElem?_getD, h1]
    rfl
set_option maxRecDepth 100000 in
theorem fopen_floor (h : DataW.trod enc Tryz.prog w 0 (fun _ => true) held fuel 24 cs = some x) :
    ∃ (f : Fl) (p : Pl), cs = [.int .i64 f.W, .int .i64 f.H, .int .i64 f.D, .slice p.A1 f.Kind.length p.c1, .slice p.A2 f.Out.length p.c2] ∧ FlIn w f p ∧ f.Kind.length ≤ maxLen ∧ f.Out.length ≤ maxLen := by
  obtain ⟨xs, n, _, _, hlen, hxl, hf⟩ := DataW.trod_struct Tryz.underlying24 h
  rw [c_floor] at hlen
  match cs, hlen with
  | [c0, c1, c2, c3, c4], _ =>
    match xs, hxl with
    | [y0, y1, y2, y3, y4], _ =>
      have h0 : DataW.trod enc Tryz.prog w 0 (fun _ => true) held n 3 [c0] = some y0 := hf 0 _ rfl
      have h1 : DataW.trod enc Tryz.prog w 0 (fun _ => true) held n 3 [c1] = some y1 := hf 1 _ rfl
      have h2 : DataW.trod enc Tryz.prog w 0 (fun _ => true) held n 3 [c2] = some y2 := hf 2 _ rfl
      have h3 : DataW.trod enc Tryz.prog w 0 (fun _ => true) held n 22 [c3] = some y3 := hf 3 _ rfl
      have h4 : DataW.trod enc Tryz.prog w 0 (fun _ => true) held n 22 [c4] = some y4 := hf 4 _ rfl
      obtain ⟨k, e0, _, w0⟩ := DataW.trod_int Tryz.underlying3 h0
      obtain ⟨m, e1, _, w1⟩ := DataW.trod_int Tryz.underlying3 h1
      obtain ⟨t, e2, _, w2⟩ := DataW.trod_int Tryz.underlying3 h2
      obtain ⟨A1, q1, l1, e3, r1, m1⟩ := fopen_nums h3
      obtain ⟨A2, q2, l2, e4, r2, m2⟩ := fopen_nums h4
      simp only [List.cons.injEq, and_true] at e0 e1 e2 e3 e4
      subst e0 e1 e2 e3 e4
      exact ⟨⟨k, m, t, l1, l2⟩, ⟨A1, q1, A2, q2⟩, rfl, ⟨r1, r2⟩, m1, m2⟩
end
theorem room {n : Nat} (h : n ≤ maxLen) : n ≤ 9223372036854775807 := by
  unfold maxLen at h
  omega
section
variable {H : Type} {enc : TypeId × Value → H} {P : Program} {w : World} {base : Nat} {spare : Nat → Bool} {held : Bool}
theorem trodAll_list : ∀ {ts : List TypeId} {vs : List Value} {ds : List (DataW H)} {ps : List MemPlace}, DataW.TrodAll enc P w base spare held ts vs ds ps → ts.length = vs.length
  | [], vs, ds, ps, h => by
    obtain ⟨rfl, _, _⟩ := trodAll_nil h
    rfl
  | t :: ts, vs, ds, ps, h => by
    obtain ⟨v, vs', d, ds', p, q, rfl, rfl, rfl, _, h2⟩ := trodAll_cons h
    simp [trodAll_list h2]
end
end Rgn
end Go.Proofs.YtgophgnfiboefaaGreatDoor

/- What the rows of layer 2 share. What the variables of package draft hold. -/
import Derived.Test.YtibeangcjfjeiaaDoorMgH
import Derived.Test.YtibeangcjfjeiaaDoorMgD
import Derived.ProofKit
import Derived.Deep.Fields
import Derived.Deep.Slices
import Derived.SliceStrings
import Derived.OpenShut
import Derived.Test.YtibeangcjfjeiaaDoorMgP
import Derived.Test.YtibeangcjfjeiaaDoorRows
import Derived.Lay
import Derived.LaidMore
import Derived.Carry
import Derived.ChangeSame
namespace Go.Proofs.YtibeangcjfjeiaaDoor
open Go.ChangeShapes Go.WideShapes Go.ChangeAt Go.RowKit Go.Deep Wire
set_option linter.unusedVariables false
set_option maxRecDepth 100000
set_option linter.unusedSimpArgs false
namespace Txt

theorem own : ownKnob Tryd.prog.godebug = none := by kernel_rfl
theorem laidOut : laidOutB Tryd.prog = true := by kernel_rfl
theorem cells_string : Tryd.prog.cellsOf 9 = 1 := by kernel_rfl
theorem readable_int : Tryd.prog.readableRec 3 = true := by kernel_rfl
theorem readable_string : Tryd.prog.readableRec 9 = true := by kernel_rfl
theorem readable_strings : Tryd.prog.readableRec 45 = true := by kernel_rfl
theorem listed_int : 3 < Tryd.prog.types.size := by rw [show Tryd.prog.types.size = Tryd.prog.types.size from rfl]; exact of_decide_eq_true (by kernel_rfl)
theorem listed_string : 9 < Tryd.prog.types.size := by rw [show Tryd.prog.types.size = Tryd.prog.types.size from rfl]; exact of_decide_eq_true (by kernel_rfl)
theorem listed_strings : 45 < Tryd.prog.types.size := by rw [show Tryd.prog.types.size = Tryd.prog.types.size from rfl]; exact of_decide_eq_true (by kernel_rfl)

theorem fits_of {x : Int} (h : (Lit.int .i64 x).wf = true) : Fits x := by
  simpa [Lit.wf, IntKind.min, IntKind.max, IntKind.signed, IntKind.bits] using h
theorem max_room {n : Nat} (h : n ≤ maxLen) : n ≤ 9223372036854775807 := by
  unfold maxLen at h
  omega
end Txt
end Go.Proofs.YtibeangcjfjeiaaDoor

namespace Go.Proofs.YtibeangcjfjeiaaDoor
open Go.ChangeShapes Go.WideShapes Go.ChangeAt Go.RowKit Go.Deep Wire
set_option linter.unusedVariables false
set_option maxRecDepth 100000
set_option linter.unusedSimpArgs false
open Txt
namespace Drf
theorem c_form : Tryd.prog.cellsOf 89 = 2 := by kernel_rfl
theorem c_str : Tryd.prog.cellsOf 9 = 1 := by kernel_rfl
theorem gForms : Tryd.prog.globalNamed "taquin/draft.forms" = some 0 := by kernel_rfl
theorem tForms : (Tryd.prog.globals[0]?).map (·.type) = some 90 := by kernel_rfl
theorem gDirs : Tryd.prog.globalNamed "taquin/draft.directions" = some 1 := by kernel_rfl
theorem tDirs : (Tryd.prog.globals[1]?).map (·.type) = some 94 := by kernel_rfl
section
variable {H : Type} {enc : TypeId × Value → H} {w : World} {held : Bool} {fuel : Nat} {cs : List Value} {x : DataW H × List MemPlace}
theorem str_of (h : DataW.trod enc Tryd.prog w 0 (fun _ => true) held fuel 9 cs = some x) {l : List UInt8} (e : x.1 = .lit (.string l)) : cs = [str l] := by
  obtain ⟨s, a, b, _⟩ := DataW.trod_string Tryd.underlying9 h
  rw [b] at e
  have : s.data.toList = l := by simpa using e
  rw [a, ← this]
theorem form_of (h : DataW.trod enc Tryd.prog w 0 (fun _ => true) held fuel 89 cs = some x) {a b : List UInt8} (e : x.1 = .agg [.lit (.string a), .lit (.string b)]) : cs = [str a, str b] := by
  obtain ⟨y0, y1, n, rfl, hl, h0, h1⟩ := trod_struct2 Tryd.underlying89 h
  rw [c_form] at hl
  simp only [DataW.agg.injEq, List.cons.injEq, and_true] at e
  obtain ⟨e0, e1⟩ := e
  match cs, hl with
  | [c0, c1], _ =>
    have g0 := str_of h0 e0
    have g1 := str_of h1 e1
    rw [show Tryd.prog.cellsOf _ = 1 from c_str] at g0 g1
    have g0' : [c0] = [str a] := g0
    have g1' : [c1] = [str b] := g1
    rw [List.head_eq_of_cons_eq g0', List.head_eq_of_cons_eq g1']
end
theorem at_part {l : List Value} {a k n : Nat} {v : Value} {r : List Value} (h : (l.drop a).take n = r) (hv : r[k]? = some v) : l[a + k]? = some v := by
  have hk : k < n := by
    have := (List.getElem?_eq_some_iff.1 hv).1
    rw [← h, List.length_take] at this
    omega
  rw [← h, List.getElem?_take, if_pos hk, List.getElem?_drop] at hv
  exact hv
/-- What forms holds. -/
theorem vf_of {W : World} {cs1 : Array Value} {fuel : Nat} {p : List MemPlace} (hv : W.var? Tryd.prog "taquin/draft.forms" = some cs1) (hd : DataW.trod (fun _ => ()) Tryd.prog W 0 (fun _ => true) false fuel 90 cs1.toList = some (Rows.laid_taquin_draft_forms, p)) : VF W := by
  obtain ⟨xs, m1, rfl, hx1, hlen, hn6, hel⟩ := DataW.trod_array Tryd.underlying90 hd
  have hx2 := congrArg Prod.fst hx1
  match xs, hn6 with
  | [x0, x1, x2, x3, x4, x5], _ =>
    simp only [Rows.laid_taquin_draft_forms, DataW.agg.injEq, List.map_cons, List.map_nil, List.cons.injEq, and_true] at hx2
    obtain ⟨e0, e1, e2, e3, e4, e5⟩ := hx2
    have s0 := form_of (hel 0 (by decide)) e0.symm
    have s1 := form_of (hel 1 (by decide)) e1.symm
    have s2 := form_of (hel 2 (by decide)) e2.symm
    have s3 := form_of (hel 3 (by decide)) e3.symm
    have s4 := form_of (hel 4 (by decide)) e4.symm
    have s5 := form_of (hel 5 (by decide)) e5.symm
    have key : ∀ (d : Nat) (a b : List UInt8), (cs1.toList.drop (d * 2)).take 2 = [str a, str b] → W.cell? ⟨0, d * 2, none⟩ = some (str a) ∧ W.cell? ⟨0, d * 2 + 1, none⟩ = some (str b) := by
      intro d a b h
      refine ⟨?_, ?_⟩
      · rw [World.var?_cell gForms hv, ← Array.getElem?_toList]
        exact at_part (k := 0) h rfl
      · rw [World.var?_cell gForms hv, ← Array.getElem?_toList]
        exact at_part (k := 1) h rfl
    rw [c_form] at s0 s1 s2 s3 s4 s5
    intro d hd
    obtain rfl | rfl | rfl | rfl | rfl | rfl : d = 0 ∨ d = 1 ∨ d = 2 ∨ d = 3 ∨ d = 4 ∨ d = 5 := by omega
    · exact key 0 _ _ s0
    · exact key 1 _ _ s1
    · exact key 2 _ _ s2
    · exact key 3 _ _ s3
    · exact key 4 _ _ s4
    · exact key 5 _ _ s5
/-- What directions holds. -/
theorem vd_of {W : World} {cs1 : Array Value} {fuel : Nat} {p : List MemPlace} (hv : W.var? Tryd.prog "taquin/draft.directions" = some cs1) (hd : DataW.trod (fun _ => ()) Tryd.prog W 0 (fun _ => true) false fuel 94 cs1.toList = some (Rows.laid_taquin_draft_directions, p)) : VD W := by
  obtain ⟨xs, m1, rfl, hx1, hlen, hn6, hel⟩ := DataW.trod_array Tryd.underlying94 hd
  have hx2 := congrArg Prod.fst hx1
  match xs, hn6 with
  | [x0, x1, x2, x3, x4, x5], _ =>
    simp only [Rows.laid_taquin_draft_directions, DataW.agg.injEq, List.map_cons, List.map_nil, List.cons.injEq, and_true] at hx2
    obtain ⟨e0, e1, e2, e3, e4, e5⟩ := hx2
    have s0 := str_of (hel 0 (by decide)) e0.symm
    have s1 := str_of (hel 1 (by decide)) e1.symm
    have s2 := str_of (hel 2 (by decide)) e2.symm
    have s3 := str_of (hel 3 (by decide)) e3.symm
    have s4 := str_of (hel 4 (by decide)) e4.symm
    have s5 := str_of (hel 5 (by decide)) e5.symm
    have key : ∀ (d : Nat) (a : List UInt8), (cs1.toList.drop (d * 1)).take 1 = [str a] → W.cell? ⟨1, d, none⟩ = some (str a) := by
      intro d a h
      rw [World.var?_cell gDirs hv, ← Array.getElem?_toList]
      have := at_part (k := 0) h rfl
      rwa [Nat.mul_one, Nat.add_zero] at this
    rw [c_str] at s0 s1 s2 s3 s4 s5
    intro d hd
    obtain rfl | rfl | rfl | rfl | rfl | rfl : d = 0 ∨ d = 1 ∨ d = 2 ∨ d = 3 ∨ d = 4 ∨ d = 5 := by omega
    · exact key 0 _ s0
    · exact key 1 _ s1
    · exact key 2 _ s2
    · exact key 3 _ s3
    · exact key 4 _ s4
    · exact key 5 _ s5
theorem vars_of {W : World} (h : laidMetH Tryd.prog Rows.draftBlanksRow.laid W) : VD W ∧ VF W := by
  rw [MakeChecks.laidMetH_plain _ _ _ (by kernel_rfl)] at h
  obtain ⟨ps, ⟨_, _, _, _, _, _, _, _, _, _, ⟨g1, t1, cs1, f1, p1, q1, hg1, ht1, hv1, hd1, ⟨g2, t2, cs2, f2, p2, q2, hg2, ht2, hv2, hd2, _, _⟩, _⟩, _⟩, _, _⟩ := h
  obtain rfl := Option.some.inj (gForms.symm.trans hg1)
  obtain rfl := Option.some.inj (tForms.symm.trans ht1)
  obtain rfl := Option.some.inj (gDirs.symm.trans hg2)
  obtain rfl := Option.some.inj (tDirs.symm.trans ht2)
  exact ⟨vd_of hv2 hd2, vf_of hv1 hd1⟩
end Drf
end Go.Proofs.YtibeangcjfjeiaaDoor

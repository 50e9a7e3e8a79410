import Derived.Test.YtionidjhfcmgiaaSmall
import Derived.ProofKit
import Derived.Deep.Fields
import Derived.Deep.Slices
import Derived.SliceStrings
import Derived.OpenShut
namespace Go.Proofs.Ytionidjhfcmgiaa
open Go.ChangeShapes Go.WideShapes Go.ChangeAt Go.RowKit Go.Deep
set_option linter.unusedVariables false
set_option linter.unusedSimpArgs false
namespace Wire

theorem own : ownKnob Try.prog.godebug = none := by kernel_rfl
theorem laidOut : laidOutB Try.prog = true := by kernel_rfl
theorem cells_int : Try.prog.cellsOf 3 = 1 := by kernel_rfl
theorem cells_string : Try.prog.cellsOf 9 = 1 := by kernel_rfl
theorem cells_value : Try.prog.cellsOf 25 = 5 := by kernel_rfl

/-- The cells of a value that came in. -/
def cellsOf (v : Val) (A : Option Addr) (c : Nat) (A' : Option Addr) (c' : Nat) : List Value := [.int .i64 v.kind, .int .i64 v.n, .string v.s, .slice A v.l.length c, .slice A' v.t.length c']

def Fits (z : Int) : Prop := -9223372036854775808 ≤ z ∧ z ≤ 9223372036854775807
theorem fits_of {n : Int} (h : (Lit.int .i64 n).wf = true) : Fits n := by
  unfold Fits
  simpa [Lit.wf, IntKind.min, IntKind.max, IntKind.signed, IntKind.bits] using h

theorem spot_none {w : World} {a : Addr} {v : Value} (h : w.cell? a = some v) : ∃ b o, a = ⟨b, o, none⟩ := by
  obtain ⟨b, o, s⟩ := a
  have hs : s = none := by simpa using World.cell?_spot h
  subst hs
  exact ⟨b, o, rfl⟩
theorem row_plus (b o k : Nat) : (⟨b, o, none⟩ : Addr).add k = ⟨b, o + k, none⟩ := by
  unfold Addr.add
  split <;> simp_all

section
variable {H : Type} {enc : TypeId × Value → H} {w : World} {held : Bool} {fuel : Nat} {cs : List Value} {x : DataW H × List MemPlace}

theorem row_of {A : Addr} {xs : List Value} {n : Nat} (hn : n ≤ xs.length) (h : ∀ i u, xs[i]? = some u → w.cell? (A.add i) = some u) : Row w w.heap.size (some A) (xs.take n) := by
  intro k u hu
  have hk : k < n := by
    have := (List.getElem?_eq_some_iff.1 hu).1
    simp at this
    omega
  rw [List.getElem?_take_of_lt hk] at hu
  have hc := h k u hu
  obtain ⟨b, o, e⟩ := spot_none hc
  have hb : A.block < w.heap.size := by
    have := World.block_lt_of_cell? w _ hc
    rwa [show (A.add k).block = A.block from by unfold Addr.add; split <;> rfl] at this
  have hc0 : ∃ u0, w.cell? (A.add 0) = some u0 := by
    have hlt : 0 < xs.length := by omega
    exact ⟨xs[0], h 0 _ (List.getElem?_eq_getElem hlt)⟩
  obtain ⟨u0, hu0⟩ := hc0
  obtain ⟨b', o', e'⟩ := spot_none (a := A) (by simpa [Addr.add] using hu0)
  subst e'
  exact ⟨b', o', rfl, hb, by rw [← row_plus]; exact hc⟩

theorem open_nums (h : DataW.trod enc Try.prog w 0 (fun _ => true) held fuel 22 cs = some x) :
    ∃ A c zs, cs = [.slice A (List.length zs) c] ∧ Row w w.heap.size A (zs.map (Value.int .i64)) ∧ ∀ z ∈ zs, Fits z := by
  rcases open_ints Try.underlying22 Try.underlying3 cells_int h with ⟨rfl, _⟩ | ⟨a, len, cap, zs, rfl, _, hl, _, hz, _, hcell, hwz⟩
  · exact ⟨none, 0, [], rfl, fun k u hu => by simp at hu, fun z hz => by cases hz⟩
  · have hz' : zs.length = cap := by simpa using hz
    refine ⟨some a, cap, zs.take len, by rw [List.length_take, Nat.min_eq_left (by omega)], ?_, fun z hz => fits_of (hwz z (List.mem_of_mem_take hz))⟩
    rw [List.map_take]
    refine row_of (by rw [List.length_map]; omega) fun i u hu => ?_
    rw [List.getElem?_map] at hu
    obtain ⟨z, h1, rfl⟩ := Option.map_eq_some_iff.1 hu
    rw [hcell i (List.getElem?_eq_some_iff.1 h1).1, List.getD_eq_getElem?_getD, h1]
    rfl

theorem open_texts (h : DataW.trod enc Try.prog w 0 (fun _ => true) held fuel 23 cs = some x) :
    ∃ A c ss, cs = [.slice A (List.length ss) c] ∧ Row w w.heap.size A (ss.map Value.string) := by
  rcases open_strings Try.underlying23 Try.underlying9 cells_string h with ⟨rfl, _⟩ | ⟨a, len, cap, ss, rfl, _, hl, _, hz, _, hcell, _⟩
  · exact ⟨none, 0, [], rfl, fun k u hu => by simp at hu⟩
  · have hz' : ss.length = cap := by simpa using hz
    refine ⟨some a, cap, ss.take len, by rw [List.length_take, Nat.min_eq_left (by omega)], ?_⟩
    rw [List.map_take]
    refine row_of (by rw [List.length_map]; omega) fun i u hu => ?_
    rw [List.getElem?_map] at hu
    obtain ⟨z, h1, rfl⟩ := Option.map_eq_some_iff.1 hu
    rw [hcell i (List.getElem?_eq_some_iff.1 h1).1, List.getD_eq_getElem?_getD, h1]
    rfl

theorem open_val (h : DataW.trod enc Try.prog w 0 (fun _ => true) held fuel 25 cs = some x) :
    ∃ v A c A' c', cs = cellsOf v A c A' c' ∧ Row w w.heap.size A (v.l.map (Value.int .i64)) ∧ Row w w.heap.size A' (v.t.map Value.string) ∧ Fits v.kind ∧ Fits v.n ∧ ∀ z ∈ v.l, Fits z := by
  obtain ⟨xs, n, _, _, hlen, hxl, hf⟩ := DataW.trod_struct Try.underlying25 h
  rw [cells_value] at hlen
  match cs, hlen with
  | [c0, c1, c2, c3, c4], _ =>
    match xs, hxl with
    | [y0, y1, y2, y3, y4], _ =>
      have h0 : DataW.trod enc Try.prog w 0 (fun _ => true) held n 3 [c0] = some y0 := hf 0 _ rfl
      have h1 : DataW.trod enc Try.prog w 0 (fun _ => true) held n 3 [c1] = some y1 := hf 1 _ rfl
      have h2 : DataW.trod enc Try.prog w 0 (fun _ => true) held n 9 [c2] = some y2 := hf 2 _ rfl
      have h3 : DataW.trod enc Try.prog w 0 (fun _ => true) held n 22 [c3] = some y3 := hf 3 _ rfl
      have h4 : DataW.trod enc Try.prog w 0 (fun _ => true) held n 23 [c4] = some y4 := hf 4 _ rfl
      obtain ⟨k, e0, _, w0⟩ := DataW.trod_int Try.underlying3 h0
      obtain ⟨m, e1, _, w1⟩ := DataW.trod_int Try.underlying3 h1
      obtain ⟨s, e2, _⟩ := DataW.trod_string Try.underlying9 h2
      obtain ⟨A, c, l, e3, r3, f3⟩ := open_nums h3
      obtain ⟨A', c', t, e4, r4⟩ := open_texts h4
      simp only [List.cons.injEq, and_true] at e0 e1 e2 e3 e4
      subst e0 e1 e2 e3 e4
      exact ⟨⟨k, m, s, l, t⟩, A, c, A', c', rfl, r3, r4, fits_of w0, fits_of w1, f3⟩
end
end Wire
end Go.Proofs.Ytionidjhfcmgiaa

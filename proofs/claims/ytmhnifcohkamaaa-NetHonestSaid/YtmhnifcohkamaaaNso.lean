/- How the arguments of the statements read. -/
import Derived.Test.YtmhnifcohkamaaaNsa
import Derived.ProofKit
import Derived.Deep.Fields
import Derived.Deep.Slices
import Derived.SliceStrings
import Derived.OpenShut
namespace Go.Proofs.Ytmhnifcohkamaaa
open Go.ChangeShapes Go.WideShapes Go.ChangeAt Go.RowKit Go.Deep Wire
open Go.ChangeMaps (open_string)
set_option linter.unusedVariables false
set_option linter.unusedSimpArgs false
open Txt
namespace Ntw

theorem own : ownKnob Try.prog.godebug = none := by kernel_rfl
theorem cells_int : Try.prog.cellsOf 3 = 1 := by kernel_rfl
theorem cells_op : Try.prog.cellsOf 38 = 4 := by kernel_rfl
theorem cells_string : Try.prog.cellsOf 9 = 1 := by kernel_rfl
theorem readable_int : Try.prog.readableRec 3 = true := by kernel_rfl
theorem listed_int : 3 < Try.prog.types.size := by rw [show Try.prog.types.size = Try.prog.types.size from rfl]; exact of_decide_eq_true (by kernel_rfl)
theorem readable_bool : Try.prog.readableRec 4 = true := by kernel_rfl
theorem listed_bool : 4 < Try.prog.types.size := by rw [show Try.prog.types.size = Try.prog.types.size from rfl]; exact of_decide_eq_true (by kernel_rfl)
theorem readable_string : Try.prog.readableRec 9 = true := by kernel_rfl
theorem listed_string : 9 < Try.prog.types.size := by rw [show Try.prog.types.size = Try.prog.types.size from rfl]; exact of_decide_eq_true (by kernel_rfl)
theorem readable_ints : Try.prog.readableRec 47 = true := by kernel_rfl
theorem listed_ints : 47 < Try.prog.types.size := by rw [show Try.prog.types.size = Try.prog.types.size from rfl]; exact of_decide_eq_true (by kernel_rfl)
theorem readable_ops : Try.prog.readableRec 22 = true := by kernel_rfl
theorem listed_ops : 22 < Try.prog.types.size := by rw [show Try.prog.types.size = Try.prog.types.size from rfl]; exact of_decide_eq_true (by kernel_rfl)

theorem spot_none {w : World} {a : Addr} {v : Value} (h : w.cell? a = some v) : ∃ b o, a = ⟨b, o, none⟩ := by
  obtain ⟨b, o, s⟩ := a
  have hs : s = none := by simpa using World.cell?_spot h
  subst hs
  exact ⟨b, o, rfl⟩

section
variable {H : Type} {enc : TypeId × Value → H} {w : World} {held : Bool} {fuel : Nat} {cs : List Value} {x : DataW H × List MemPlace}

theorem row_of {A : Addr} {xs : List Value} {n : Nat} (hn : n ≤ xs.length) (h : ∀ i u, xs[i]? = some u → w.cell? (A.add i) = some u) : Row w w.heap.size (some A) (xs.take n) := by
  intro k u hu
  have hk : k < n := by
    have := (List.getElem?_eq_some_iff.1 hu).1
    simp at this
    omega
  rw [List.getElem?_take_of_lt hk] at hu
  have hc := h k u hu
  obtain ⟨b, o, e⟩ := spot_none hc
  have hb : A.block < w.heap.size := by
    have := World.block_lt_of_cell? w _ hc
    rwa [show (A.add k).block = A.block from by unfold Addr.add; split <;> rfl] at this
  have hc0 : ∃ u0, w.cell? (A.add 0) = some u0 := by
    have hlt : 0 < xs.length := by omega
    exact ⟨xs[0], h 0 _ (List.getElem?_eq_getElem hlt)⟩
  obtain ⟨u0, hu0⟩ := hc0
  obtain ⟨b', o', e'⟩ := spot_none (a := A) (by simpa [Addr.add] using hu0)
  subst e'
  exact ⟨b', o', rfl, hb, by rw [← row_add']; exact hc⟩

theorem nopen_nums (h : DataW.trod enc Try.prog w 0 (fun _ => true) held fuel 47 cs = some x) :
    ∃ A c, ∃ zs : List Int, cs = [.slice A zs.length c] ∧ Row w w.heap.size A (zs.map (Value.int .i64)) ∧ zs.length ≤ maxLen := by
  rcases open_ints Try.underlying47 Try.underlying3 cells_int h with ⟨rfl, _⟩ | ⟨a, len, cap, zs, rfl, _, hl, hm, hz, _, hcell, hwz⟩
  · exact ⟨none, 0, [], rfl, fun k u hu => by simp at hu, Nat.zero_le _⟩
  · have hz' : zs.length = cap := by simpa using hz
    refine ⟨some a, cap, zs.take len, by rw [List.length_take, Nat.min_eq_left (by omega)], ?_, by rw [List.length_take]; omega⟩
    rw [List.map_take]
    refine row_of (by rw [List.length_map]; omega) fun i u hu => ?_
    rw [List.getElem?_map] at hu
    obtain ⟨z, h1, rfl⟩ := Option.map_eq_some_iff.1 hu
    rw [hcell i (List.getElem?_eq_some_iff.1 h1).1, List.getD_eq_getElem?_getD, h1]
    rfl
set_option maxRecDepth 100000 in
theorem open_op (h : DataW.trod enc Try.prog w 0 (fun _ => true) held fuel 38 cs = some x) :
    ∃ a : Opn, cs = a.cells ∧ a.fit := by
  obtain ⟨xs, n, _, _, hlen, hxl, hf⟩ := DataW.trod_struct Try.underlying38 h
  rw [cells_op] at hlen
  match cs, hlen with
  | [c0, c1, c2, c3], _ =>
    match xs, hxl with
    | [y0, y1, y2, y3], _ =>
      have h0 : DataW.trod enc Try.prog w 0 (fun _ => true) held n 3 [c0] = some y0 := hf 0 _ rfl
      have h1 : DataW.trod enc Try.prog w 0 (fun _ => true) held n 3 [c1] = some y1 := hf 1 _ rfl
      have h2 : DataW.trod enc Try.prog w 0 (fun _ => true) held n 3 [c2] = some y2 := hf 2 _ rfl
      have h3 : DataW.trod enc Try.prog w 0 (fun _ => true) held n 9 [c3] = some y3 := hf 3 _ rfl
      obtain ⟨k, e0, _, w0⟩ := DataW.trod_int Try.underlying3 h0
      obtain ⟨m, e1, _, w1⟩ := DataW.trod_int Try.underlying3 h1
      obtain ⟨t, e2, _, w2⟩ := DataW.trod_int Try.underlying3 h2
      obtain ⟨s, e3, _, w3⟩ := DataW.trod_string Try.underlying9 h3
      simp only [List.cons.injEq, and_true] at e0 e1 e2 e3
      subst e0 e1 e2 e3
      exact ⟨⟨k, m, t, s⟩, rfl, ⟨fits_of w0, fits_of w1, fits_of w2, w3⟩⟩

theorem choose_list {α : Type} {P : Nat → α → Prop} : ∀ n, (∀ i, i < n → ∃ v, P i v) → ∃ vs : List α, vs.length = n ∧ ∀ i v, vs[i]? = some v → P i v
  | 0, _ => ⟨[], rfl, fun i v h => by simp at h⟩
  | n + 1, h => by
    obtain ⟨vs, h1, h2⟩ := choose_list n (fun i hi => h i (by omega))
    obtain ⟨v, hv⟩ := h n (by omega)
    refine ⟨vs ++ [v], by simp [h1], fun i u hu => ?_⟩
    rcases Nat.lt_or_ge i n with hi | hi
    · rw [List.getElem?_append_left (by omega)] at hu
      exact h2 i u hu
    · have hlt := (List.getElem?_eq_some_iff.1 hu).1
      simp [h1] at hlt
      obtain rfl : i = n := by omega
      rw [List.getElem?_append_right (by omega), h1] at hu
      simp at hu
      subst hu
      exact hv

set_option maxRecDepth 100000 in
theorem nopen_ops (h : DataW.trod enc Try.prog w 0 (fun _ => true) held fuel 22 cs = some x) :
    ∃ A c, ∃ l : List Opn, cs = [.slice A l.length c] ∧ Ops w A l := by
  rcases open_slice Try.underlying22 h with ⟨rfl, _⟩ | ⟨a, len, cap, m, n, D, Pl, rfl, _, hl, hmx, hm, _, hi⟩
  · exact ⟨none, 0, [], rfl, fun i v hv => by simp at hv, (fun v hv => by cases hv), by show 0 ≤ _; omega⟩
  · have hmc : m = cap := by simpa using hm
    have first : 0 < len → ∃ b o, a = ⟨b, o, none⟩ ∧ b < w.heap.size := by
      intro h0
      obtain ⟨cs', hc, ht⟩ := hi 0 (by omega)
      rw [cells_op] at hc
      obtain ⟨_, hcl, hat⟩ := World.cells?_some hc
      have h5 : 0 < cs'.length := by omega
      have hcell : w.cell? a = some cs'[0] := by
        have := hat 0 (by omega)
        rw [List.getElem?_eq_getElem h5] at this
        simpa [Addr.add] using this
      obtain ⟨b, o, rfl⟩ := spot_none hcell
      exact ⟨b, o, rfl, World.block_lt_of_cell? w _ hcell⟩
    have each : ∀ i, i < len → ∃ v : Opn, (∃ b o, a = ⟨b, o, none⟩ ∧ b < w.heap.size ∧ ∀ j u, v.cells[j]? = some u → w.cell? ⟨b, o + i * 4 + j, none⟩ = some u) ∧ v.fit := by
      intro i hlt
      obtain ⟨b, o, rfl, hb⟩ := first (by omega)
      obtain ⟨cs', hc, ht⟩ := hi i (by omega)
      rw [cells_op] at hc
      obtain ⟨v, rfl, f1⟩ := open_op ht
      obtain ⟨_, hcl, hat⟩ := World.cells?_some hc
      refine ⟨v, ⟨b, o, rfl, hb, fun j u hu => ?_⟩, f1⟩
      have hj : j < 4 := (List.getElem?_eq_some_iff.1 hu).1
      have := hat j hj
      rw [row_add', row_add'] at this
      exact this.trans hu
    obtain ⟨vs, h1, h2⟩ := choose_list len each
    refine ⟨some a, cap, vs, by rw [h1], fun i v hv => ?_, fun v hv => ?_, ?_⟩
    · obtain ⟨⟨b, o, rfl, hb, hv2⟩, _⟩ := h2 i v hv
      exact ⟨b, o, rfl, hb, hv2⟩
    · obtain ⟨i, hi1, rfl⟩ := List.getElem_of_mem hv
      exact (h2 i _ (List.getElem?_eq_getElem hi1)).2
    · unfold maxLen at hmx
      omega
end
end Ntw
end Go.Proofs.Ytmhnifcohkamaaa

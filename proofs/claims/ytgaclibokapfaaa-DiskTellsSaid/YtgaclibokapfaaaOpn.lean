/- How the arguments of the statements read. -/
import Derived.Test.YtgaclibokapfaaaPlay
import Derived.ProofKit
import Derived.Deep.Fields
import Derived.Deep.Slices
import Derived.SliceStrings
import Derived.OpenShut
namespace Go.Proofs.Ytgaclibokapfaaa
open Go.ChangeShapes Go.WideShapes Go.ChangeAt Go.RowKit Go.Deep Wire
set_option linter.unusedVariables false
set_option linter.unusedSimpArgs false
open Txt
namespace Dsk

theorem own : ownKnob Try.prog.godebug = none := by kernel_rfl
theorem cells_act : Try.prog.cellsOf 33 = 5 := by kernel_rfl
theorem readable_int : Try.prog.readableRec 3 = true := by kernel_rfl
theorem readable_string : Try.prog.readableRec 9 = true := by kernel_rfl
theorem readable_ints : Try.prog.readableRec 31 = true := by kernel_rfl
theorem readable_acts : Try.prog.readableRec 22 = true := by kernel_rfl
theorem listed_int : 3 < Try.prog.types.size := by rw [show Try.prog.types.size = Try.prog.types.size from rfl]; exact of_decide_eq_true (by kernel_rfl)
theorem listed_string : 9 < Try.prog.types.size := by rw [show Try.prog.types.size = Try.prog.types.size from rfl]; exact of_decide_eq_true (by kernel_rfl)
theorem listed_ints : 31 < Try.prog.types.size := by rw [show Try.prog.types.size = Try.prog.types.size from rfl]; exact of_decide_eq_true (by kernel_rfl)
theorem listed_acts : 22 < Try.prog.types.size := by rw [show Try.prog.types.size = Try.prog.types.size from rfl]; exact of_decide_eq_true (by kernel_rfl)

theorem spot_none {w : World} {a : Addr} {v : Value} (h : w.cell? a = some v) : ∃ b o, a = ⟨b, o, none⟩ := by
  obtain ⟨b, o, s⟩ := a
  have hs : s = none := by simpa using World.cell?_spot h
  subst hs
  exact ⟨b, o, rfl⟩

section
variable {H : Type} {enc : TypeId × Value → H} {w : World} {held : Bool} {fuel : Nat} {cs : List Value} {x : DataW H × List MemPlace}

theorem row_of {A : Addr} {xs : List Value} {n : Nat} (hn : n ≤ xs.length) (h : ∀ i u, xs[i]? = some u → w.cell? (A.add i) = some u) : Row w w.heap.size (some A) (xs.take n) := by
  intro k u hu
  have hk : k < n := by
    have := (List.getElem?_eq_some_iff.1 hu).1
    simp at this
    omega
  rw [List.getElem?_take_of_lt hk] at hu
  have hc := h k u hu
  obtain ⟨b, o, e⟩ := spot_none hc
  have hb : A.block < w.heap.size := by
    have := World.block_lt_of_cell? w _ hc
    rwa [show (A.add k).block = A.block from by unfold Addr.add; split <;> rfl] at this
  have hc0 : ∃ u0, w.cell? (A.add 0) = some u0 := by
    have hlt : 0 < xs.length := by omega
    exact ⟨xs[0], h 0 _ (List.getElem?_eq_getElem hlt)⟩
  obtain ⟨u0, hu0⟩ := hc0
  obtain ⟨b', o', e'⟩ := spot_none (a := A) (by simpa [Addr.add] using hu0)
  subst e'
  exact ⟨b', o', rfl, hb, by rw [← row_add']; exact hc⟩

theorem open_nums (h : DataW.trod enc Try.prog w 0 (fun _ => true) held fuel 31 cs = some x) :
    ∃ A c, ∃ zs : List Int, cs = [.slice A zs.length c] ∧ Row w w.heap.size A (zs.map (Value.int .i64)) := by
  rcases open_ints Try.underlying31 Try.underlying3 cells_int h with ⟨rfl, _⟩ | ⟨a, len, cap, zs, rfl, _, hl, _, hz, _, hcell, hwz⟩
  · exact ⟨none, 0, [], rfl, fun k u hu => by simp at hu⟩
  · have hz' : zs.length = cap := by simpa using hz
    refine ⟨some a, cap, zs.take len, by rw [List.length_take, Nat.min_eq_left (by omega)], ?_⟩
    rw [List.map_take]
    refine row_of (by rw [List.length_map]; omega) fun i u hu => ?_
    rw [List.getElem?_map] at hu
    obtain ⟨z, h1, rfl⟩ := Option.map_eq_some_iff.1 hu
    rw [hcell i (List.getElem?_eq_some_iff.1 h1).1, List.getD_eq_getElem?_getD, h1]
    rfl

set_option maxRecDepth 100000 in
theorem open_act (h : DataW.trod enc Try.prog w 0 (fun _ => true) held fuel 33 cs = some x) :
    ∃ (a : Act) (A : Option Addr) (c : Nat), cs = a.cells A c ∧ Row w w.heap.size A (a.keep.map (Value.int .i64)) ∧ a.fit := by
  obtain ⟨xs, n, _, _, hlen, hxl, hf⟩ := DataW.trod_struct Try.underlying33 h
  rw [cells_act] at hlen
  match cs, hlen with
  | [c0, c1, c2, c3, c4], _ =>
    match xs, hxl with
    | [y0, y1, y2, y3, y4], _ =>
      have h0 : DataW.trod enc Try.prog w 0 (fun _ => true) held n 3 [c0] = some y0 := hf 0 _ rfl
      have h1 : DataW.trod enc Try.prog w 0 (fun _ => true) held n 3 [c1] = some y1 := hf 1 _ rfl
      have h2 : DataW.trod enc Try.prog w 0 (fun _ => true) held n 3 [c2] = some y2 := hf 2 _ rfl
      have h3 : DataW.trod enc Try.prog w 0 (fun _ => true) held n 9 [c3] = some y3 := hf 3 _ rfl
      have h4 : DataW.trod enc Try.prog w 0 (fun _ => true) held n 31 [c4] = some y4 := hf 4 _ rfl
      obtain ⟨k, e0, _, w0⟩ := DataW.trod_int Try.underlying3 h0
      obtain ⟨f, e1, _, w1⟩ := DataW.trod_int Try.underlying3 h1
      obtain ⟨m, e2, _, w2⟩ := DataW.trod_int Try.underlying3 h2
      obtain ⟨s, e3, hx3, w3⟩ := DataW.trod_string Try.underlying9 h3
      obtain ⟨A, c, l, e4, r4⟩ := open_nums h4
      simp only [List.cons.injEq, and_true] at e0 e1 e2 e3 e4
      subst e0 e1 e2 e3 e4
      exact ⟨⟨k, f, m, s, l⟩, A, c, rfl, r4, ⟨fits_of w0, fits_of w1, fits_of w2, w3⟩⟩

theorem choose_list {α : Type} {P : Nat → α → Prop} : ∀ n, (∀ i, i < n → ∃ v, P i v) → ∃ vs : List α, vs.length = n ∧ ∀ i v, vs[i]? = some v → P i v
  | 0, _ => ⟨[], rfl, fun i v h => by simp at h⟩
  | n + 1, h => by
    obtain ⟨vs, h1, h2⟩ := choose_list n (fun i hi => h i (by omega))
    obtain ⟨v, hv⟩ := h n (by omega)
    refine ⟨vs ++ [v], by simp [h1], fun i u hu => ?_⟩
    rcases Nat.lt_or_ge i n with hi | hi
    · rw [List.getElem?_append_left (by omega)] at hu
      exact h2 i u hu
    · have hlt := (List.getElem?_eq_some_iff.1 hu).1
      simp [h1] at hlt
      obtain rfl : i = n := by omega
      rw [List.getElem?_append_right (by omega), h1] at hu
      simp at hu
      subst hu
      exact hv

set_option maxRecDepth 100000 in
theorem open_acts (h : DataW.trod enc Try.prog w 0 (fun _ => true) held fuel 22 cs = some x) :
    ∃ A c, ∃ l : List Act, cs = [.slice A l.length c] ∧ Acts w A l := by
  rcases open_slice Try.underlying22 h with ⟨rfl, _⟩ | ⟨a, len, cap, m, n, D, Pl, rfl, _, hl, hmx, hm, _, hi⟩
  · exact ⟨none, 0, [], rfl, fun i v hv => by simp at hv, (fun v hv => by cases hv), by show 0 ≤ _; omega⟩
  · have hmc : m = cap := by simpa using hm
    have first : 0 < len → ∃ b o, a = ⟨b, o, none⟩ ∧ b < w.heap.size := by
      intro h0
      obtain ⟨cs', hc, ht⟩ := hi 0 (by omega)
      rw [cells_act] at hc
      obtain ⟨_, hcl, hat⟩ := World.cells?_some hc
      have h5 : 0 < cs'.length := by omega
      have hcell : w.cell? a = some cs'[0] := by
        have := hat 0 (by omega)
        rw [List.getElem?_eq_getElem h5] at this
        simpa [Addr.add] using this
      obtain ⟨b, o, rfl⟩ := spot_none hcell
      exact ⟨b, o, rfl, World.block_lt_of_cell? w _ hcell⟩
    have each : ∀ i, i < len → ∃ v : Act, (∃ b o A' c', a = ⟨b, o, none⟩ ∧ b < w.heap.size ∧ (∀ j u, (v.cells A' c')[j]? = some u → w.cell? ⟨b, o + i * 5 + j, none⟩ = some u) ∧ Row w w.heap.size A' (v.keep.map (Value.int .i64))) ∧ v.fit := by
      intro i hlt
      obtain ⟨b, o, rfl, hb⟩ := first (by omega)
      obtain ⟨cs', hc, ht⟩ := hi i (by omega)
      rw [cells_act] at hc
      obtain ⟨v, A1, c1, rfl, r1, f1⟩ := open_act ht
      obtain ⟨_, hcl, hat⟩ := World.cells?_some hc
      refine ⟨v, ⟨b, o, A1, c1, rfl, hb, (fun j u hu => ?_), r1⟩, f1⟩
      have hj : j < 5 := (List.getElem?_eq_some_iff.1 hu).1
      have := hat j hj
      rw [row_add', row_add'] at this
      exact this.trans hu
    obtain ⟨vs, h1, h2⟩ := choose_list len each
    refine ⟨some a, cap, vs, by rw [h1], fun i v hv => ?_, fun v hv => ?_, ?_⟩
    · obtain ⟨⟨b, o, A', c', rfl, hb, hv2, hc⟩, _⟩ := h2 i v hv
      exact ⟨b, o, A', c', rfl, hb, hv2, hc⟩
    · obtain ⟨i, hi1, rfl⟩ := List.getElem_of_mem hv
      exact (h2 i _ (List.getElem?_eq_getElem hi1)).2
    · unfold maxLen at hmx
      omega
end
theorem max_room {n : Nat} (h : n ≤ maxLen) : n ≤ 9223372036854775807 := by
  unfold maxLen at h
  omega
end Dsk
end Go.Proofs.Ytgaclibokapfaaa

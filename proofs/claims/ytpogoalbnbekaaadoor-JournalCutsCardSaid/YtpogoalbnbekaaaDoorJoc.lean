/- How the arguments of the statements read; the offsets of the slots. -/
import Derived.Test.YtpogoalbnbekaaaDoorJop
import Derived.ProofKit
import Derived.Deep.Fields
import Derived.Deep.Slices
import Derived.SliceStrings
import Derived.OpenShut
import Derived.LaidMore
import Derived.Stop.Joined
namespace Go.Proofs.YtpogoalbnbekaaaDoor
open Go.ChangeShapes Go.WideShapes Go.ChangeAt Go.RowKit Go.Deep Wire
set_option linter.unusedVariables false
set_option linter.unusedSimpArgs false
open Txt

namespace Dsk

theorem own : ownKnob Tryd.prog.godebug = none := by kernel_rfl
theorem cells_op : Tryd.prog.cellsOf 34 = 4 := by kernel_rfl
theorem cells_string : Tryd.prog.cellsOf 9 = 1 := by kernel_rfl
theorem readable_int : Tryd.prog.readableRec 3 = true := by kernel_rfl
theorem readable_string : Tryd.prog.readableRec 9 = true := by kernel_rfl
theorem readable_strings : Tryd.prog.readableRec 32 = true := by kernel_rfl
theorem readable_ints : Tryd.prog.readableRec 23 = true := by kernel_rfl
theorem readable_ops : Tryd.prog.readableRec 22 = true := by kernel_rfl
theorem listed_int : 3 < Tryd.prog.types.size := by rw [show Tryd.prog.types.size = Tryd.prog.types.size from rfl]; exact of_decide_eq_true (by kernel_rfl)
theorem listed_string : 9 < Tryd.prog.types.size := by rw [show Tryd.prog.types.size = Tryd.prog.types.size from rfl]; exact of_decide_eq_true (by kernel_rfl)
theorem listed_strings : 32 < Tryd.prog.types.size := by rw [show Tryd.prog.types.size = Tryd.prog.types.size from rfl]; exact of_decide_eq_true (by kernel_rfl)
theorem listed_ints : 23 < Tryd.prog.types.size := by rw [show Tryd.prog.types.size = Tryd.prog.types.size from rfl]; exact of_decide_eq_true (by kernel_rfl)
theorem listed_ops : 22 < Tryd.prog.types.size := by rw [show Tryd.prog.types.size = Tryd.prog.types.size from rfl]; exact of_decide_eq_true (by kernel_rfl)

theorem two_of {α : Type} : ∀ {l : List α}, l.length = 2 → ∃ a b, l = [a, b]
  | [a, b], _ => ⟨a, b, rfl⟩
/-! The one variable. -/
theorem gOffs : Tryd.prog.globalNamed "taquin/cell.offsets" = some 0 := by kernel_rfl
theorem tOffs : (Tryd.prog.globals[0]?).map (·.type) = some 130 := by kernel_rfl
theorem c_int : Tryd.prog.cellsOf 3 = 1 := by kernel_rfl
theorem c_offs : Tryd.prog.cellsOf 130 = 2 := by kernel_rfl
/-- The door's own heap meets the condition. -/
theorem door_met (os : Os) (args : Array Value) : laidMetH Tryd.prog Rows.journalCutsRow.laid ((World.doorLaid Tryd.prog 14 os).forCall (fun _ _ => 0) ⟨#[], args, []⟩).memory :=
  laidMetH_of_parts3 (fuel := 8) (laidMet_of_run' 8 (by kernel_rfl) (by kernel_rfl)) (by kernel_rfl) (by kernel_rfl)
set_option maxRecDepth 100000 in
theorem off_of_laid {W : World} (h : laidMetH Tryd.prog Rows.journalCutsRow.laid W) : Off W := by
  rw [MakeChecks.laidMetH_plain _ _ _ (by kernel_rfl)] at h
  obtain ⟨ps, ⟨g1, t1, cs1, f1, p1, q1, hg1, ht1, hv1, hd1, _, _⟩, _, _⟩ := h
  obtain rfl := Option.some.inj (gOffs.symm.trans hg1)
  obtain rfl := Option.some.inj (tOffs.symm.trans ht1)
  obtain ⟨xs, m1, rfl, hx1, hlen, hn3, hel⟩ := DataW.trod_array Tryd.underlying130 hd1
  have h0 := hel 0 (by decide)
  have h1 := hel 1 (by decide)
  have hx2 := congrArg Prod.fst hx1
  clear hx1
  obtain ⟨l⟩ := cs1
  match xs, hn3, hx2, h0, h1 with
  | [x0, x1], _, hx2, h0, h1 =>
    simp only [Rows.laid_taquin_cell_offsets, DataW.agg.injEq, List.map_cons, List.map_nil, List.cons.injEq, and_true] at hx2
    obtain ⟨e0, e1⟩ := hx2
    rw [c_offs] at hlen
    have hl2 : l.length = 2 := hlen
    obtain ⟨v0, v1, rfl⟩ := two_of hl2
    · have d0 : DataW.trod (fun x => ()) Tryd.prog W 0 (fun x => true) false m1 3 [v0] = some x0 := by rw [c_int] at h0; have t0 : List.take 1 (List.drop (0 * 1) [v0, v1]) = [v0] := rfl; rw [t0] at h0; exact h0
      have d1 : DataW.trod (fun x => ()) Tryd.prog W 0 (fun x => true) false m1 3 [v1] = some x1 := by rw [c_int] at h1; have t0 : List.take 1 (List.drop (1 * 1) [v0, v1]) = [v1] := rfl; rw [t0] at h1; exact h1
      obtain ⟨k0, a0, b0, _⟩ := DataW.trod_int Tryd.underlying3 d0
      obtain ⟨k1, a1, b1, _⟩ := DataW.trod_int Tryd.underlying3 d1
      have z0 : k0 = 64 := by rw [b0] at e0; simpa using e0.symm
      have z1 : k1 = 131072 := by rw [b1] at e1; simpa using e1.symm
      subst z0 z1
      simp only [List.cons.injEq, and_true] at a0 a1
      subst a0 a1
      exact ⟨(World.var?_cell hg1 hv1 0).trans rfl, (World.var?_cell hg1 hv1 1).trans rfl⟩

theorem spot_none {w : World} {a : Addr} {v : Value} (h : w.cell? a = some v) : ∃ b o, a = ⟨b, o, none⟩ := by
  obtain ⟨b, o, s⟩ := a
  have hs : s = none := by simpa using World.cell?_spot h
  subst hs
  exact ⟨b, o, rfl⟩

section
variable {H : Type} {enc : TypeId × Value → H} {w : World} {held : Bool} {fuel : Nat} {cs : List Value} {x : DataW H × List MemPlace}

theorem row_of {A : Addr} {xs : List Value} {n : Nat} (hn : n ≤ xs.length) (h : ∀ i u, xs[i]? = some u → w.cell? (A.add i) = some u) : Row w w.heap.size (some A) (xs.take n) := by
  intro k u hu
  have hk : k < n := by
    have := (List.getElem?_eq_some_iff.1 hu).1
    simp at this
    omega
  rw [List.getElem?_take_of_lt hk] at hu
  have hc := h k u hu
  obtain ⟨b, o, e⟩ := spot_none hc
  have hb : A.block < w.heap.size := by
    have := World.block_lt_of_cell? w _ hc
    rwa [show (A.add k).block = A.block from by unfold Addr.add; split <;> rfl] at this
  have hc0 : ∃ u0, w.cell? (A.add 0) = some u0 := by
    have hlt : 0 < xs.length := by omega
    exact ⟨xs[0], h 0 _ (List.getElem?_eq_getElem hlt)⟩
  obtain ⟨u0, hu0⟩ := hc0
  obtain ⟨b', o', e'⟩ := spot_none (a := A) (by simpa [Addr.add] using hu0)
  subst e'
  exact ⟨b', o', rfl, hb, by rw [← row_add']; exact hc⟩

theorem open_nums (h : DataW.trod enc Tryd.prog w 0 (fun _ => true) held fuel 23 cs = some x) :
    ∃ A c, ∃ zs : List Int, cs = [.slice A zs.length c] ∧ Row w w.heap.size A (zs.map (Value.int .i64)) ∧ zs.length ≤ maxLen := by
  rcases open_ints Tryd.underlying23 Tryd.underlying3 cells_int h with ⟨rfl, _⟩ | ⟨a, len, cap, zs, rfl, _, hl, hm, hz, _, hcell, hwz⟩
  · exact ⟨none, 0, [], rfl, fun k u hu => by simp at hu, Nat.zero_le _⟩
  · have hz' : zs.length = cap := by simpa using hz
    refine ⟨some a, cap, zs.take len, by rw [List.length_take, Nat.min_eq_left (by omega)], ?_, by rw [List.length_take]; omega⟩
    rw [List.map_take]
    refine row_of (by rw [List.length_map]; omega) fun i u hu => ?_
    rw [List.getElem?_map] at hu
    obtain ⟨z, h1, rfl⟩ := Option.map_eq_some_iff.1 hu
    rw [hcell i (List.getElem?_eq_some_iff.1 h1).1, List.getD_eq_getElem?_getD, h1]
    rfl
theorem open_strs' (h : DataW.trod enc Tryd.prog w 0 (fun _ => true) held fuel 32 cs = some x) :
    ∃ A c, ∃ t : List ByteArray, cs = [.slice A t.length c] ∧ Row w w.heap.size A (Sls.strs t) ∧ t.length ≤ maxLen := by
  rcases open_strings Tryd.underlying32 Tryd.underlying9 cells_string h with ⟨rfl, _⟩ | ⟨a, len, cap, ss, rfl, _, hl, hm, hz, _, hcell, hws⟩
  · exact ⟨none, 0, [], rfl, fun k u hu => by simp at hu, Nat.zero_le _⟩
  · have hz' : ss.length = cap := by simpa using hz
    refine ⟨some a, cap, ss.take len, by rw [List.length_take, Nat.min_eq_left (by omega)], ?_, by rw [List.length_take]; omega⟩
    rw [show Sls.strs (ss.take len) = (Sls.strs ss).take len from List.map_take]
    refine row_of (by rw [List.length_map]; omega) fun i u hu => ?_
    rw [List.getElem?_map] at hu
    obtain ⟨z, h1, rfl⟩ := Option.map_eq_some_iff.1 hu
    rw [hcell i (List.getElem?_eq_some_iff.1 h1).1, List.getD_eq_getElem?_getD, h1]
    rfl

set_option maxRecDepth 100000 in
theorem open_op (h : DataW.trod enc Tryd.prog w 0 (fun _ => true) held fuel 34 cs = some x) :
    ∃ (a : Opr) (A1 : Option Addr) (c1 : Nat) (A : Option Addr) (c : Nat), cs = a.cells A1 c1 A c ∧ Row w w.heap.size A1 (Sls.strs a.l) ∧ Row w w.heap.size A (a.keep.map (Value.int .i64)) ∧ a.fit := by
  obtain ⟨xs, n, _, _, hlen, hxl, hf⟩ := DataW.trod_struct Tryd.underlying34 h
  rw [cells_op] at hlen
  match cs, hlen with
  | [c0, c1, c2, c3], _ =>
    match xs, hxl with
    | [y0, y1, y2, y3], _ =>
      have h0 : DataW.trod enc Tryd.prog w 0 (fun _ => true) held n 3 [c0] = some y0 := hf 0 _ rfl
      have h1 : DataW.trod enc Tryd.prog w 0 (fun _ => true) held n 32 [c1] = some y1 := hf 1 _ rfl
      have h2 : DataW.trod enc Tryd.prog w 0 (fun _ => true) held n 3 [c2] = some y2 := hf 2 _ rfl
      have h3 : DataW.trod enc Tryd.prog w 0 (fun _ => true) held n 23 [c3] = some y3 := hf 3 _ rfl
      obtain ⟨k, e0, _, w0⟩ := DataW.trod_int Tryd.underlying3 h0
      obtain ⟨A1, c1', s, e1, r1, m1⟩ := open_strs' h1
      obtain ⟨m, e2, _, w2⟩ := DataW.trod_int Tryd.underlying3 h2
      obtain ⟨A, c, l, e3, r3, m3⟩ := open_nums h3
      simp only [List.cons.injEq, and_true] at e0 e1 e2 e3
      subst e0 e1 e2 e3
      unfold maxLen at m1 m3
      exact ⟨⟨k, s, m, l⟩, A1, c1', A, c, rfl, r1, r3, ⟨fits_of w0, fits_of w2, by show s.length ≤ _; omega, by show l.length ≤ _; omega⟩⟩

theorem choose_list {α : Type} {P : Nat → α → Prop} : ∀ n, (∀ i, i < n → ∃ v, P i v) → ∃ vs : List α, vs.length = n ∧ ∀ i v, vs[i]? = some v → P i v
  | 0, _ => ⟨[], rfl, fun i v h => by simp at h⟩
  | n + 1, h => by
    obtain ⟨vs, h1, h2⟩ := choose_list n (fun i hi => h i (by omega))
    obtain ⟨v, hv⟩ := h n (by omega)
    refine ⟨vs ++ [v], by simp [h1], fun i u hu => ?_⟩
    rcases Nat.lt_or_ge i n with hi | hi
    · rw [List.getElem?_append_left (by omega)] at hu
      exact h2 i u hu
    · have hlt := (List.getElem?_eq_some_iff.1 hu).1
      simp [h1] at hlt
      obtain rfl : i = n := by omega
      rw [List.getElem?_append_right (by omega), h1] at hu
      simp at hu
      subst hu
      exact hv

set_option maxRecDepth 100000 in
theorem open_ops (h : DataW.trod enc Tryd.prog w 0 (fun _ => true) held fuel 22 cs = some x) :
    ∃ A c, ∃ l : List Opr, cs = [.slice A l.length c] ∧ Ops w A l := by
  rcases open_slice Tryd.underlying22 h with ⟨rfl, _⟩ | ⟨a, len, cap, m, n, D, Pl, rfl, _, hl, hmx, hm, _, hi⟩
  · exact ⟨none, 0, [], rfl, fun i v hv => by simp at hv, (fun v hv => by cases hv), by show 0 ≤ _; omega⟩
  · have hmc : m = cap := by simpa using hm
    have first : 0 < len → ∃ b o, a = ⟨b, o, none⟩ ∧ b < w.heap.size := by
      intro h0
      obtain ⟨cs', hc, ht⟩ := hi 0 (by omega)
      rw [cells_op] at hc
      obtain ⟨_, hcl, hat⟩ := World.cells?_some hc
      have h5 : 0 < cs'.length := by omega
      have hcell : w.cell? a = some cs'[0] := by
        have := hat 0 (by omega)
        rw [List.getElem?_eq_getElem h5] at this
        simpa [Addr.add] using this
      obtain ⟨b, o, rfl⟩ := spot_none hcell
      exact ⟨b, o, rfl, World.block_lt_of_cell? w _ hcell⟩
    have each : ∀ i, i < len → ∃ v : Opr, (∃ b o A1 c1 A' c', a = ⟨b, o, none⟩ ∧ b < w.heap.size ∧ (∀ j u, (v.cells A1 c1 A' c')[j]? = some u → w.cell? ⟨b, o + i * 4 + j, none⟩ = some u) ∧ Row w w.heap.size A1 (Sls.strs v.l) ∧ Row w w.heap.size A' (v.keep.map (Value.int .i64))) ∧ v.fit := by
      intro i hlt
      obtain ⟨b, o, rfl, hb⟩ := first (by omega)
      obtain ⟨cs', hc, ht⟩ := hi i (by omega)
      rw [cells_op] at hc
      obtain ⟨v, A0, c0, A1, c1, rfl, r0, r1, f1⟩ := open_op ht
      obtain ⟨_, hcl, hat⟩ := World.cells?_some hc
      refine ⟨v, ⟨b, o, A0, c0, A1, c1, rfl, hb, (fun j u hu => ?_), r0, r1⟩, f1⟩
      have hj : j < 4 := (List.getElem?_eq_some_iff.1 hu).1
      have := hat j hj
      rw [row_add', row_add'] at this
      exact this.trans hu
    obtain ⟨vs, h1, h2⟩ := choose_list len each
    refine ⟨some a, cap, vs, by rw [h1], fun i v hv => ?_, fun v hv => ?_, ?_⟩
    · obtain ⟨⟨b, o, A1, c1, A', c', rfl, hb, hv2, hc0, hc⟩, _⟩ := h2 i v hv
      exact ⟨b, o, A1, c1, A', c', rfl, hb, hv2, hc0, hc⟩
    · obtain ⟨i, hi1, rfl⟩ := List.getElem_of_mem hv
      exact (h2 i _ (List.getElem?_eq_getElem hi1)).2
    · unfold maxLen at hmx
      omega
end
theorem max_room {n : Nat} (h : n ≤ maxLen) : n ≤ 9223372036854775807 := by
  unfold maxLen at h
  omega
end Dsk
end Go.Proofs.YtpogoalbnbekaaaDoor

/- Lists of strings that came in. -/
import Derived.Test.YtpmmbbaigfjhnaaOpn
namespace Go.Proofs.Ytpmmbbaigfjhnaa
open Go.ChangeShapes Go.WideShapes Go.ChangeAt Go.RowKit Go.Deep Wire
set_option linter.unusedVariables false
set_option linter.unusedSimpArgs false
namespace Txt

theorem spot_none {w : World} {a : Addr} {v : Value} (h : w.cell? a = some v) : ∃ b o, a = ⟨b, o, none⟩ := by
  obtain ⟨b, o, s⟩ := a
  have hs : s = none := by simpa using World.cell?_spot h
  subst hs
  exact ⟨b, o, rfl⟩

section
variable {H : Type} {enc : TypeId × Value → H} {w : World} {held : Bool} {fuel : Nat} {cs : List Value} {x : DataW H × List MemPlace}

theorem row_of {A : Addr} {xs : List Value} {n : Nat} (hn : n ≤ xs.length) (h : ∀ i u, xs[i]? = some u → w.cell? (A.add i) = some u) : Row w w.heap.size (some A) (xs.take n) := by
  intro k u hu
  have hk : k < n := by
    have := (List.getElem?_eq_some_iff.1 hu).1
    simp at this
    omega
  rw [List.getElem?_take_of_lt hk] at hu
  have hc := h k u hu
  obtain ⟨b, o, e⟩ := spot_none hc
  have hb : A.block < w.heap.size := by
    have := World.block_lt_of_cell? w _ hc
    rwa [show (A.add k).block = A.block from by unfold Addr.add; split <;> rfl] at this
  have hc0 : ∃ u0, w.cell? (A.add 0) = some u0 := by
    have hlt : 0 < xs.length := by omega
    exact ⟨xs[0], h 0 _ (List.getElem?_eq_getElem hlt)⟩
  obtain ⟨u0, hu0⟩ := hc0
  obtain ⟨b', o', e'⟩ := spot_none (a := A) (by simpa [Addr.add] using hu0)
  subst e'
  exact ⟨b', o', rfl, hb, by rw [← row_add']; exact hc⟩

theorem strs_map (ss : List ByteArray) : (ss.map bl).map str = ss.map Value.string := by
  rw [List.map_map]
  rfl

theorem open_texts (h : DataW.trod enc Try.prog w 0 (fun _ => true) held fuel 22 cs = some x) :
    ∃ A c, ∃ t : List (List UInt8), cs = [.slice A t.length c] ∧ Row w w.heap.size A (t.map str) ∧ t.length ≤ maxLen ∧ ∀ y ∈ t, y.length ≤ maxLen := by
  rcases open_strings Try.underlying22 Try.underlying9 cells_string h with ⟨rfl, _⟩ | ⟨a, len, cap, ss, rfl, _, hl, hm, hz, _, hcell, hws⟩
  · exact ⟨none, 0, [], rfl, fun k u hu => by simp at hu, Nat.zero_le _, fun y hy => by cases hy⟩
  · have hz' : ss.length = cap := by simpa using hz
    refine ⟨some a, cap, (ss.take len).map bl, by rw [List.length_map, List.length_take, Nat.min_eq_left (by omega)], ?_, by rw [List.length_map, List.length_take]; omega, fun y hy => ?_⟩
    · rw [strs_map, List.map_take]
      refine row_of (by rw [List.length_map]; omega) fun i u hu => ?_
      rw [List.getElem?_map] at hu
      obtain ⟨z, h1, rfl⟩ := Option.map_eq_some_iff.1 hu
      rw [hcell i (List.getElem?_eq_some_iff.1 h1).1, List.getD_eq_getElem?_getD, h1]
      rfl
    · obtain ⟨z, h1, rfl⟩ := List.mem_map.1 hy
      rw [bl_len]
      exact hws z (List.mem_of_mem_take h1)
end
end Txt
end Go.Proofs.Ytpmmbbaigfjhnaa

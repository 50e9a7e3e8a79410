/- How the contents of files lie in memory. -/
import Derived.Test.YtgaclibokapfaaaKey
import Derived.Test.YtgaclibokapfaaaCon
import Derived.Test.YtgaclibokapfaaaOwn
import Derived.Deep.MidRow
import Derived.Lib.Hide
namespace Go.Proofs.Ytgaclibokapfaaa
open Go.RowKit Wire
set_option linter.unusedVariables false
set_option linter.unusedSimpArgs false
namespace Dsk

/-- The bytes of a sector, as cells. -/
def blkL (C : Con) (f n : Nat) : List Value := (List.range 64).map fun j => .int .u8 (C.byte f (64 * n + j)).toNat
def blockV (C : Con) (f n : Nat) : Value := .agg (blkL C f n).toArray
def zeroB : Value := .agg (Array.replicate 64 (.int .u8 0))

theorem zero_block (w : World) : (zeroValue 89).run Try.prog w = .ok zeroB w := by kernel_rfl
theorem zero_bool (w : World) : (zeroValue 4).run Try.prog w = .ok (.bool false) w := by kernel_rfl

theorem blkL_len (C : Con) (f n : Nat) : (blkL C f n).length = 64 := by unfold blkL; simp
theorem blkL_get (C : Con) (f n j : Nat) (h : j < 64) : (blkL C f n)[j]? = some (.int .u8 (C.byte f (64 * n + j)).toNat) := by
  unfold blkL
  rw [List.getElem?_map, List.getElem?_range h]
  rfl
theorem blkL_one (C : Con) (f n : Nat) : ∀ v ∈ blkL C f n, v.oneCell' = true := by
  intro v hv
  unfold blkL at hv
  obtain ⟨j, _, rfl⟩ := List.mem_map.1 hv
  rfl
theorem blockV_zero {C : Con} {f n : Nat} (h : ∀ j, j < 64 → C.byte f (64 * n + j) = 0) : blockV C f n = zeroB := by
  unfold blockV zeroB
  congr 1
  apply Array.ext'
  rw [Array.toList_replicate]
  apply List.ext_getElem?
  intro j
  by_cases hj : j < 64
  · rw [blkL_get _ _ _ _ hj, h j hj, List.getElem?_replicate, if_pos hj]
    rfl
  · rw [List.getElem?_eq_none (by rw [blkL_len]; omega), List.getElem?_eq_none (by simp; omega)]
theorem blockV_same {C D : Con} {f n g k : Nat} (h : ∀ j, j < 64 → C.byte f (64 * n + j) = D.byte g (64 * k + j)) : blockV C f n = blockV D g k := by
  unfold blockV
  congr 2
  apply List.ext_getElem?
  intro j
  by_cases hj : j < 64
  · rw [blkL_get _ _ _ _ hj, blkL_get _ _ _ _ hj, h j hj]
  · rw [List.getElem?_eq_none (by rw [blkL_len]; omega), List.getElem?_eq_none (by rw [blkL_len]; omega)]

/-- Block m is a map of the sectors of these contents. -/
def MapC (w : World) (m : Nat) (C : Con) : Prop := ∃ look, IsMap w m look ∧ ∀ f n, f < 16 → n ≤ 262144 → (look f n).getD zeroB = blockV C f n

section
variable {w w' : World} {m g o : Nat} {C : Con}
theorem MapC.lt (h : MapC w m C) : m < w.heap.size := by
  obtain ⟨_, h, _⟩ := h
  exact h.lt
theorem MapC.keep (h : MapC w m C) (e : w'.heap[m]? = w.heap[m]?) : MapC w' m C := by
  obtain ⟨l, h1, h2⟩ := h
  exact ⟨l, h1.keep e, h2⟩
theorem MapC.empty (w : World) : MapC (w.alloc (.map #[] 0)) w.heap.size Con.none :=
  ⟨_, IsMap.empty w, fun f n _ _ => (blockV_zero fun _ _ => rfl).symm⟩
theorem MapC.lookup (h : MapC w m C) {f n : Nat} (hf : f < 16) (hn : n ≤ 262144) :
    (Instr.lookup 52 (.map (some m)) (keyV f n) false).run Try.prog w = .ok (blockV C f n) w := by
  obtain ⟨l, h1, h2⟩ := h
  rw [h1.lookup hf hn Try.underlying52 zero_block, h2 f n hf hn]
theorem MapC.store (h : MapC w m C) {f n : Nat} (hf : f < 16) (hn : n ≤ 262144) (D : Con) (hD : ∀ g k, g < 16 → ¬ (g = f ∧ k = n) → blockV D g k = blockV C g k) :
    ∃ w', (Instr.mapUpdate 52 (.map (some m)) (keyV f n) (blockV D f n)).run Try.prog w = .ok () w' ∧ MapC w' m D ∧ w.grownBy w' (some m) := by
  obtain ⟨l, h1, h2⟩ := h
  obtain ⟨w', r1, r2, r3⟩ := h1.store hf hn Try.underlying52 (blockV D f n)
  refine ⟨w', r1, ⟨_, r2, fun g k hg hk => ?_⟩, r3⟩
  unfold upd
  split
  · rename_i e
    obtain ⟨rfl, rfl⟩ := e
    rfl
  · rename_i e
    rw [h2 g k hg hk, hD g k hg e]

/-- The cells of contents. -/
def conL (m : Nat) (C : Con) : List Value := .map (some m) :: (List.range 16).map fun f => .int .i64 (C.size f)
theorem conL_len (m : Nat) (C : Con) : (conL m C).length = 17 := by unfold conL; simp
theorem conL_ptr (m : Nat) (C : Con) : (conL m C)[0]? = some (.map (some m)) := rfl
theorem conL_siz (m : Nat) (C : Con) {f : Nat} (hf : f < 16) : (conL m C)[1 + f]? = some (.int .i64 (C.size f)) := by
  unfold conL
  rw [Nat.add_comm, List.getElem?_cons_succ, List.getElem?_map, List.getElem?_range hf]
  rfl
theorem conL_set (m : Nat) (C D : Con) {f : Nat} (hf : f < 16) (h : ∀ g, g ≠ f → D.size g = C.size g) : (conL m C).set (1 + f) (.int .i64 (D.size f)) = conL m D := by
  apply List.ext_getElem?
  intro j
  rw [List.getElem?_set]
  by_cases e : 1 + f = j
  · subst e
    rw [if_pos rfl, if_pos (by rw [conL_len]; omega), conL_siz m D hf]
  · rw [if_neg e]
    cases j with
    | zero => rfl
    | succ j =>
      by_cases hj : j < 16
      · rw [Nat.add_comm j 1, conL_siz m C hj, conL_siz m D hj, h j (by omega)]
      · rw [List.getElem?_eq_none (by rw [conL_len]; omega), List.getElem?_eq_none (by rw [conL_len]; omega)]
theorem conL_one (m : Nat) (C : Con) : ∀ v ∈ conL m C, v.oneCell' = true := by
  intro v hv
  unfold conL at hv
  rcases List.mem_cons.1 hv with rfl | hv
  · rfl
  · obtain ⟨j, _, rfl⟩ := List.mem_map.1 hv
    rfl

/-! Cells side by side. -/
theorem range_keep {cs : List Value} (h : w.rangeAt g o cs) (e : w'.heap[g]? = w.heap[g]?) : w'.rangeAt g o cs := fun j v hv =>
  (World.cell?_of_block (a := ⟨g, o + j, none⟩) e).trans (h j v hv)
theorem there_keep {n : Nat} (h : w.there g o n) (e : w'.heap[g]? = w.heap[g]?) : w'.there g o n := fun j hj =>
  ⟨by rw [World.cell?_of_block (a := ⟨g, o + j, none⟩) e]; exact (h j hj).1, by rw [World.frozen?_of_block (a := ⟨g, o + j, none⟩) e]; exact (h j hj).2⟩
theorem range_put {cs : List Value} (h : w.rangeAt g o cs) {i : Nat} (hi : i < cs.length) (v : Value) : (w.setCell ⟨g, o + i, none⟩ v).rangeAt g o (cs.set i v) := by
  intro j u hu
  rw [List.getElem?_set] at hu
  by_cases e : i = j
  · subst e
    rw [if_pos rfl, if_pos hi] at hu
    cases hu
    have hc : ∃ x, w.cell? ⟨g, o + i, none⟩ = some x := ⟨_, h i _ (List.getElem?_eq_getElem hi)⟩
    obtain ⟨x, hx⟩ := hc
    exact World.cell?_setCell_same' _ _ _ (by rw [hx]; rfl)
  · rw [if_neg e] at hu
    rw [World.cell?_setCell_other]
    · exact h j u hu
    · intro e2
      simp only [Addr.mk.injEq, and_true, true_and] at e2
      omega
theorem there_put {n : Nat} (h : w.there g o n) (a : Addr) (v : Value) : (w.setCell a v).there g o n := by
  intro j hj
  refine ⟨?_, ?_⟩
  · have := (h j hj).1
    obtain ⟨x, hx⟩ := Option.isSome_iff_exists.1 this
    by_cases e : (⟨g, o + j, none⟩ : Addr) = a
    · subst e
      rw [World.cell?_setCell_same' _ _ _ (by rw [hx]; rfl)]
      rfl
    · rw [World.cell?_setCell_other]
      · exact this
      · exact fun e2 => e e2.symm
  · rw [World.frozen?_setCell]
    exact (h j hj).2
end
end Dsk
end Go.Proofs.Ytgaclibokapfaaa

/- Empty contents, an empty queue. -/
import Derived.Test.YtgaclibokapfaaaSml
namespace Go.Proofs.Ytgaclibokapfaaa
open Go.RowKit Wire
set_option linter.unusedVariables false
set_option linter.unusedSimpArgs false
namespace Dsk

set_option maxHeartbeats 1000000 in
theorem empty_any (w : World) : Calls Try.prog 31 #[] w fun e w' => ∃ m, e = .returned (.agg (conL m Con.none).toArray) ∧ MapC w' m Con.none ∧ Below w.heap.size w w' ∧ w.heap.size ≤ m := by
  have hmm := @run_makeMap Try.prog
  go_enter Try.func31, Try.ntmps31
  go_wp2_with fail
  have hr : ∀ T : Array Value, T.getD 0 undef = .pointer (some ⟨w.heap.size, 0, none⟩) →
      (results Try.f31 T).run Try.prog ((w.alloc (.cells (conL (w.heap.size + 1) Con.none).toArray 55)).alloc (.map #[] 0)) = .ok (.agg (conL (w.heap.size + 1) Con.none).toArray) _ := fun T hT =>
    results_cell_row (p := 0) (ty := 55) rfl T _ w.heap.size _ _ _ _ hT (heap_alloc2_old _ _ _) Try.underlying55 rfl (by rw [List.size_toArray, conL_len]; kernel_rfl)
  refine bodyPost_ret (hr _ rfl) rfl ⟨_, rfl, ?_, ((Below.refl _ w).alloc (Nat.le_refl _) _).alloc (by simp) _, by omega⟩
  have hm := MapC.empty (w.alloc (.cells (conL (w.heap.size + 1) Con.none).toArray 55))
  rw [show (w.alloc (.cells (conL (w.heap.size + 1) Con.none).toArray 55)).heap.size = w.heap.size + 1 from by simp] at hm
  exact hm

set_option maxHeartbeats 1000000 in
theorem newQueue_any (w : World) : Calls Try.prog 32 #[] w fun e w' => ∃ m, e = .returned (.agg #[.slice none 0 0, .map (some m)]) ∧ IsMap w' m (fun _ _ => none) ∧ Below w.heap.size w w' ∧ w.heap.size ≤ m := by
  have hmm := @run_makeMap Try.prog
  go_enter Try.func32, Try.ntmps32
  go_wp2_with fail
  have hr : ∀ T : Array Value, T.getD 0 undef = .pointer (some ⟨w.heap.size, 0, none⟩) →
      (results Try.f32 T).run Try.prog ((w.alloc (.cells #[.slice none 0 0, .map (some (w.heap.size + 1))] 60)).alloc (.map #[] 0)) = .ok (.agg #[.slice none 0 0, .map (some (w.heap.size + 1))]) _ := fun T hT =>
    results_cell_row (p := 0) (ty := 60) rfl T _ w.heap.size _ _ _ _ hT (heap_alloc2_old _ _ _) Try.underlying60 rfl (by kernel_rfl)
  refine bodyPost_ret (hr _ rfl) rfl ⟨_, rfl, ?_, ((Below.refl _ w).alloc (Nat.le_refl _) _).alloc (by simp) _, by omega⟩
  have hm := IsMap.empty (w.alloc (.cells #[.slice none 0 0, .map (some (w.heap.size + 1))] 60))
  rw [show (w.alloc (.cells #[.slice none 0 0, .map (some (w.heap.size + 1))] 60)).heap.size = w.heap.size + 1 from by simp] at hm
  exact hm
end Dsk
end Go.Proofs.Ytgaclibokapfaaa

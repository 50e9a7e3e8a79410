/- The example's floor. -/
import Derived.Test.YtgophgnfiboefaaDoorFqA
namespace Go.Proofs.YtgophgnfiboefaaDoor
open Go.RowKit Wire
open Txt (Row)
open Own
open Dsk (Only nth)
set_option linter.unusedVariables false
set_option linter.unusedSimpArgs false
namespace Flo
def exF : Fl := ⟨3, 2, 1, [1, 0, 1, 1, 1, 1], [63, 63, 63, 63, 63, 63]⟩
theorem exF_ok : exF.ok := ⟨by decide, by decide, by decide, by decide, by decide, by decide, by decide, by decide, by decide⟩
/-- Five cells stored where a struct of five lies. -/
theorem poke5 {W w : World} {T : List Thing} {g : Nat} {ty : TypeId} {a b c d e a' b' c' d' e' : Value} (h : Sp W w T) (i : Nat) (hi : T[i]? = some (BlkT g ty #[a', b', c', d', e'])) : Sp W (w.setCells g 0 [a, b, c, d, e]) (T.set i (BlkT g ty #[a, b, c, d, e])) := by
  have hlt := (List.getElem?_eq_some_iff.1 hi).1
  have h1 := Sp.poke h i hi 0 a
  have h2 := Sp.poke h1 i (by rw [List.getElem?_set_self hlt]) 1 b
  have h3 := Sp.poke h2 i (by rw [List.getElem?_set_self (by rw [List.length_set]; exact hlt)]) 2 c
  have h4 := Sp.poke h3 i (by rw [List.getElem?_set_self (by rw [List.length_set, List.length_set]; exact hlt)]) 3 d
  have h5 := Sp.poke h4 i (by rw [List.getElem?_set_self (by rw [List.length_set, List.length_set, List.length_set]; exact hlt)]) 4 e
  rw [List.set_set, List.set_set, List.set_set, List.set_set] at h5
  exact h5
theorem five_there {W w : World} {T : List Thing} {g : Nat} {ty : TypeId} {a' b' c' d' e' : Value} (h : Sp W w T) (i : Nat) (hi : T[i]? = some (BlkT g ty #[a', b', c', d', e'])) : w.there g 0 5 := by
  have hb := h.blk i hi
  intro j hj
  rw [Nat.zero_add]
  refine ⟨?_, hb.thaw j⟩
  rw [hb.at]
  obtain rfl | rfl | rfl | rfl | rfl : j = 0 ∨ j = 1 ∨ j = 2 ∨ j = 3 ∨ j = 4 := by omega
  all_goals rfl
theorem info_floor : (Tryd.prog.info? 31).map (·.size) = some 5 := by kernel_rfl
theorem wpList_store5 {P : Program} {w : World} {ops : Array Oper} {rest : List Oper} {o : Oper} {ac : Act} {Q : Exit → Act → World → Prop} (hgd : o.guard = none) (ty : TypeId) (x y : Operand) (ho : o.op = .store ty x y) (g : Nat) (a b c d e : Value)
    (hx : ac.eval x = .pointer (some ⟨g, 0, none⟩)) (hy : ac.eval y = .agg #[a, b, c, d, e]) (ht : w.there g 0 5) (hi : (P.info? ty).map (·.size) = some 5) (h1 : a.oneCell' = true) (h2 : b.oneCell' = true) (h3 : c.oneCell' = true) (h4 : d.oneCell' = true) (h5 : e.oneCell' = true)
    (h : wpList P ops Q rest (ac.put o.dst undef) (w.setCells g 0 [a, b, c, d, e])) : wpList P ops Q (o :: rest) ac w :=
  wpList_plain hgd fun K hK => Dsk.wp_store_lie ty x y ho g 0 5 [a, b, c, d, e] hx hy rfl ht hi (fun v hv => by
    simp at hv
    rcases hv with rfl | rfl | rfl | rfl | rfl
    · exact h1
    · exact h2
    · exact h3
    · exact h4
    · exact h5) fun w' e _ _ => by subst e; exact hK _ _ h
/-- While the example grows. -/
abbrev exT (w : World) (kv ov : Value) (i : Nat) : List Thing :=
  [BlkT w.heap.size 31 #[.int .i64 0, .int .i64 0, .int .i64 0, .slice none 0 0, .slice none 0 0], BlkT (w.heap.size + 1) 31 #[.int .i64 3, .int .i64 2, .int .i64 1, kv, ov], RowT 1 kv (List.replicate i 1).length (qvs (List.replicate i 1)), RowT 1 ov (List.replicate i 63).length (qvs (List.replicate i 63))]
theorem rep_next (i v : Nat) : List.replicate i v ++ [v] = List.replicate (i + 1) v := (List.replicate_succ' ..).symm
end Flo
end Go.Proofs.YtgophgnfiboefaaDoor

/- The reference's comparison of two lists of strings. -/
import Derived.Test.YtpogoalbnbekaaaDoorMemA
import Derived.Deep.QuietTactic
import Derived.BigQuiet
namespace Go.Proofs.YtpogoalbnbekaaaDoor
open Go.RowKit Wire
open Txt (str Row)
set_option linter.unusedVariables false
set_option linter.unusedSimpArgs false
namespace Wr

theorem below_drewN' (w : World) (q : Nat) : Below w.heap.size w (w.drewN q) := ⟨rfl, rfl, rfl, Nat.le_refl _, fun _ _ => rfl⟩

structure TxRel (W : World) (ys zs : List ByteArray) (iv : Value) (w : World) (i : Nat) : Prop where
  iv : iv = .int .i64 i
  le : i ≤ ys.length
  same : ∃ q, w = W.drewN q
  eq : ys.take i = zs.take i

set_option maxHeartbeats 1000000 in
theorem sameTexts_all (A A' : Option Addr) (c c' : Nat) (ys zs : List ByteArray) (hn : ys.length ≤ 9223372036854775807) (hm : zs.length ≤ 9223372036854775807) (w : World) (h1 : Row w w.heap.size A (ys.map Value.string)) (h2 : Row w w.heap.size A' (zs.map Value.string)) :
    Calls Tryd.prog 16 #[.slice A ys.length c, .slice A' zs.length c'] w fun e w' => e = .returned (.bool (decide (ys = zs))) ∧ Below w.heap.size w w' := by
  have H1 := Lib.hid h1
  have H2 := Lib.hid h2
  clear h1 h2
  by_cases hl : ys.length = zs.length
  · go_enter Tryd.func16, Tryd.ntmps16
    go_wp2_with fail
    go_loopw [5] (fun iv wr => ∃ i, TxRel w ys zs iv wr i) (fun iv _ => ys.length - (intOf iv).toNat)
    case atStart => exact ⟨0, rfl, Nat.zero_le _, ⟨0, rfl⟩, rfl⟩
    case round =>
      obtain ⟨i, ⟨rfl, hi, ⟨q, rfl⟩, HE⟩⟩ := hrel
      by_cases hlt : i < ys.length
      · have hlt2 : i < zs.length := hl ▸ hlt
        obtain ⟨b, o, rfl, _, hc1⟩ := H1.out i (.string ys[i]) (by rw [List.getElem?_map, List.getElem?_eq_getElem hlt]; rfl)
        obtain ⟨b', o', rfl, _, hc2⟩ := H2.out i (.string zs[i]) (by rw [List.getElem?_map, List.getElem?_eq_getElem hlt2]; rfl)
        have hy : ys.take (i + 1) = ys.take i ++ [ys[i]] := List.take_succ_eq_append_getElem hlt
        have hz : zs.take (i + 1) = zs.take i ++ [zs[i]] := List.take_succ_eq_append_getElem hlt2
        by_cases he : ys[i] = zs[i]
        · have HE2 := Lib.hid (show ys.take (i + 1) = zs.take (i + 1) by rw [hy, hz, HE, he])
          rw [← he] at hc2
          clear hy hz he
          generalize ys[i] = z at *
          go_wp2_with fail
          go_quiet (fail)
          go_wp2_with fail
          go_roundw
          case rel => exact ⟨i + 1, by simp, hlt, ⟨_, rfl⟩, HE2.out⟩
          case measure => simp [intOf]; omega
        · have HN := Lib.hid (show ¬ ys = zs from fun h => he (by subst h; rfl))
          clear hy hz
          generalize ys[i] = z at *
          generalize zs[i] = x at *
          go_wp2_with fail
          go_quiet (fail)
          go_wp2_with fail
          rotate_left
          · rename_i h
            exact absurd (ByteArray.ext (by have := congrArg List.toArray (show z.toList = x.toList by simpa using h); simpa [ByteArray.toList_eq] using this)) he
          go_ret
          refine ⟨congrArg (fun b => Ending.returned (.bool b)) (decide_eq_false HN.out).symm, ?_⟩
          exact ⟨rfl, rfl, rfl, Nat.le_refl _, fun _ _ => rfl⟩
      · obtain rfl : ys.length = i := by omega
        go_wp2_with fail
        go_ret
        refine ⟨?_, below_drewN' w q⟩
        rw [List.take_length, hl, List.take_length] at HE
        exact congrArg (fun b => Ending.returned (.bool b)) (decide_eq_true HE).symm
  · have hN : ¬ ((ys.length : Int) = zs.length) := by omega
    have HN := Lib.hid (show ¬ ys = zs from fun h => hl (by rw [h]))
    go_enter Tryd.func16, Tryd.ntmps16
    go_wp2_with fail
    go_ret
    refine ⟨congrArg (fun b => Ending.returned (.bool b)) (decide_eq_false HN.out).symm, ?_⟩
    exact ⟨rfl, rfl, rfl, Nat.le_refl _, fun _ _ => rfl⟩

end Wr
end Go.Proofs.YtpogoalbnbekaaaDoor

import Derived.Test.YtpmmbbaigfjhnaaLins
import Derived.Test.YtpmmbbaigfjhnaaQuot
namespace Go.Proofs.Ytpmmbbaigfjhnaa
open Go.RowKit Wire
set_option linter.unusedVariables false
set_option linter.unusedSimpArgs false
namespace Txt

structure UnlRel (W : World) (t : List (List UInt8)) (ov iv : Value) (w : World) (k : Nat) : Prop where
  iv : iv = .int .i64 k
  le : k ≤ t.length
  own : Grow w W.heap.size 1 ov (unlines (t.take k)).length (byteCells ⟨(unlines (t.take k)).toArray⟩)
  below : Below W.heap.size W w

theorem unlines_snoc (t : List (List UInt8)) (k : Nat) (h : k < t.length) : unlines (t.take (k + 1)) = unlines (t.take k) ++ t[k] ++ [10] := by
  unfold unlines
  rw [List.take_succ_eq_append_getElem h, List.flatMap_append]
  simp
theorem unlines_take (t : List (List UInt8)) (k : Nat) : (unlines (t.take k)).length ≤ (unlines t).length := by
  conv => rhs; rw [← List.take_append_drop k t]
  unfold unlines
  rw [List.flatMap_append, List.length_append]
  omega

set_option maxHeartbeats 1000000 in
theorem unlines_any (A : Option Addr) (c : Nat) (t : List (List UInt8)) (w : World) (hr : Row w w.heap.size A (t.map str)) (hn : t.length ≤ 1000000000) (hl : (unlines t).length ≤ 100000000000) :
    Calls Try.prog 20 #[.slice A t.length c] w fun e w' => e = .returned (str (unlines t)) ∧ Below w.heap.size w w' := by
  obtain ⟨i0, hi0, hi1, hi2, hi3⟩ := info_parts info_byte
  have HR := Lib.hid hr
  clear hr
  go_enter Try.func20, Try.ntmps20
  go_wp2_with fail
  go_loopw [3, 8] (fun ov iv wr => ∃ k, UnlRel w t ov iv wr k) (fun _ iv _ => t.length - (intOf iv).toNat)
  case atStart => exact ⟨0, rfl, Nat.zero_le _, Grow.nil _ _ _, Below.refl _ _⟩
  case round =>
    obtain ⟨k, ⟨rfl, hk, hown, hbel⟩⟩ := hrel
    by_cases hlt : k < t.length
    · obtain ⟨b, o, rfl, had, hcell⟩ := HR.out k (str t[k]) (by rw [List.getElem?_map, List.getElem?_eq_getElem hlt]; rfl)
      have hcell2 : wr.cell? ⟨b, o + k, none⟩ = some (str t[k]) := (hbel.cell (p := ⟨b, o + k, none⟩) had).trans hcell
      have HN := Lib.hid (unlines_snoc t k hlt)
      have htk := unlines_take t (k + 1)
      rw [HN.out, List.length_append, List.length_append] at htk
      have HB := Lib.hid (room (n := (unlines (t.take k)).length) (m := (⟨t[k].toArray⟩ : ByteArray).size) (by rw [bytes_size]; omega))
      have HB2 := Lib.hid (room (n := (unlines (t.take k)).length + (⟨t[k].toArray⟩ : ByteArray).size) (m := 1) (by rw [bytes_size]; simp at htk; omega))
      generalize t[k] = x at *
      generalize unlines (t.take k) = u at *
      have HO := Lib.hid hown
      clear htk
      go_wp2_with (first
        | (at_builtin; refine wpList_append_src _ rfl (.tmp 12) (.tmp 13) _ _ rfl w.heap.size 5 i0 _ 1 1 Try.underlying39 hi0 hi1 hi2 hi3 rfl (by omega) _ _ _ rfl hown _ _ _ rfl (Src.ofString _ Try.underlying9 _) HB.out.1 HB.out.2 hbel.size ?_; intro v4 w4 hown4 hg4 _)
        | (at_builtin; refine wpList_append_src _ rfl (.tmp 15) (.tmp 16) _ _ rfl w.heap.size 5 i0 _ 1 1 Try.underlying39 hi0 hi1 hi2 hi3 rfl (by omega) _ _ _ rfl (hown4.alloc _) _ 1 [.int .u8 10] rfl (Src.ofSlice _ Try.underlying39 ⟨w4.heap.size, 0, none⟩ 1 1 [.int .u8 10] rfl (new_cells w4 _ [.int .u8 10]) (by simp [Value.oneCell'])) HB2.out.1 HB2.out.2 (Nat.le_trans (Nat.le_trans hbel.size hg4.size) (by simp)) ?_; intro v5 w5 hown5 hg5 _))
      have HS : Hid (UnlRel w t v5 (.int .i64 ((k : Int) + 1)) w5 (k + 1)) := by
        refine ⟨by simp, hlt, ?_, ?_⟩
        · rw [HN.out, List.length_append, List.length_append, ← bytes_append, ← bytes_append]
          exact hown5
        · refine Below.grown (Below.alloc (Below.grown hbel hg4 hbel.size fun g hg => (hown.block g hg).1) ?_ _) hg5 ?_ fun g hg => (hown4.block g hg).1
          · exact Nat.le_trans hbel.size hg4.size
          · exact Nat.le_trans (Nat.le_trans hbel.size hg4.size) (by simp)
      go_roundw
      case rel => exact ⟨k + 1, HS.out⟩
      case measure => simp [intOf]; omega
    · obtain rfl : t.length = k := by omega
      have HT : Hid (t.take t.length = t) := Lib.hid List.take_length
      rw [HT.out] at hown
      have hrun := run_string_own (P := Try.prog) wr 39 9 5 w.heap.size _ (unlines t) hown Try.underlying39 Try.underlying5 Try.underlying9
      clear hown
      go_wp2_with fail
      go_ret
      exact ⟨rfl, hbel⟩
end Txt
end Go.Proofs.Ytpmmbbaigfjhnaa

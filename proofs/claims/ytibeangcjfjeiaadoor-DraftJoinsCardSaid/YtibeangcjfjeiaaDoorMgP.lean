/- The reference's forms and directions. The reference's comparisons of lists. The reference's directions. The reference's directions by name. The variables; directions by name; a place of a line. Right items by places, plainly; the words of a line. -/
import Derived.Test.YtibeangcjfjeiaaDoorMgM
import Derived.Lib.Hide
import Derived.Deep.QuietTactic
import Derived.BigQuiet
import Derived.Test.YtibeangcjfjeiaaDoorDpD
namespace Go.Proofs.YtibeangcjfjeiaaDoor
open Go.RowKit Wire Txt
set_option linter.unusedVariables false
set_option maxRecDepth 100000
set_option linter.unusedSimpArgs false
namespace Drf

/-- Four results. -/
theorem four_results {fn : Func} {a b c d : Tmp} (h : fn.results = #[.tmp a, .tmp b, .tmp c, .tmp d]) (T : Array Value) (P : Program) (w : World) :
    (results fn T).run P w = .ok (.tuple #[T.getD a undef, T.getD b undef, T.getD c undef, T.getD d undef]) w := by
  simp [results, h]
/-- What the reference says of a kind. -/
def formV (z : Int) : Value := match formI z with
  | some f => .tuple #[str f.word, .int .i64 f.count, .int .i64 f.names, .bool f.more]
  | none => .tuple #[str [], .int .i64 0, .int .i64 0, .bool false]
theorem formV_none {z : Int} (h0 : z ≠ 0) (h1 : z ≠ 1) (h2 : z ≠ 2) (h3 : z ≠ 3) (h4 : z ≠ 4) (h5 : z ≠ 5) : formV z = .tuple #[str [], .int .i64 0, .int .i64 0, .bool false] := by
  have : formI z = none := by
    unfold formI
    by_cases hz : 0 ≤ z
    · rw [if_pos hz]
      obtain ⟨n, rfl⟩ := Int.eq_ofNat_of_zero_le hz
      show form n = none
      unfold form
      split <;> first | rfl | (exfalso; first | exact h0 rfl | exact h1 rfl | exact h2 rfl | exact h3 rfl | exact h4 rfl | exact h5 rfl)
    · rw [if_neg hz]
  unfold formV
  rw [this]
set_option maxHeartbeats 1000000 in
theorem form_any (z : Int) (w : World) : Calls Tryd.prog 22 #[.int .i64 z] w fun e w' => e = .returned (formV z) ∧ w = w' := by
  by_cases h0 : z = 0
  · subst h0
    go_enter Tryd.func22, Tryd.ntmps22
    go_wp2_with fail
    (try simp only [Exit.inBlock, Exit.then])
    refine bodyPost_ret (four_results rfl _ _ _) rfl ?_
    exact ⟨rfl, rfl⟩
  by_cases h1 : z = 1
  · subst h1
    go_enter Tryd.func22, Tryd.ntmps22
    go_wp2_with fail
    (try simp only [Exit.inBlock, Exit.then])
    refine bodyPost_ret (four_results rfl _ _ _) rfl ?_
    exact ⟨rfl, rfl⟩
  by_cases h2 : z = 2
  · subst h2
    go_enter Tryd.func22, Tryd.ntmps22
    go_wp2_with fail
    (try simp only [Exit.inBlock, Exit.then])
    refine bodyPost_ret (four_results rfl _ _ _) rfl ?_
    exact ⟨rfl, rfl⟩
  by_cases h3 : z = 3
  · subst h3
    go_enter Tryd.func22, Tryd.ntmps22
    go_wp2_with fail
    (try simp only [Exit.inBlock, Exit.then])
    refine bodyPost_ret (four_results rfl _ _ _) rfl ?_
    exact ⟨rfl, rfl⟩
  by_cases h4 : z = 4
  · subst h4
    go_enter Tryd.func22, Tryd.ntmps22
    go_wp2_with fail
    (try simp only [Exit.inBlock, Exit.then])
    refine bodyPost_ret (four_results rfl _ _ _) rfl ?_
    exact ⟨rfl, rfl⟩
  by_cases h5 : z = 5
  · subst h5
    go_enter Tryd.func22, Tryd.ntmps22
    go_wp2_with fail
    (try simp only [Exit.inBlock, Exit.then])
    refine bodyPost_ret (four_results rfl _ _ _) rfl ?_
    exact ⟨rfl, rfl⟩
  rw [formV_none h0 h1 h2 h3 h4 h5]
  go_enter Tryd.func22, Tryd.ntmps22
  go_wp2_with fail
  (try simp only [Exit.inBlock, Exit.then])
  refine bodyPost_ret (four_results rfl _ _ _) rfl ?_
  exact ⟨rfl, rfl⟩

end Drf
end Go.Proofs.YtibeangcjfjeiaaDoor

namespace Go.Proofs.YtibeangcjfjeiaaDoor
open Go.RowKit Wire
open Txt (str Row)
set_option linter.unusedVariables false
set_option maxRecDepth 100000
set_option linter.unusedSimpArgs false
namespace Drf

theorem below_drew (w : World) (q : Nat) : Below w.heap.size w (w.drewN q) := ⟨rfl, rfl, rfl, Nat.le_refl _, fun _ _ => rfl⟩

structure TxRel (W : World) (ys zs : List ByteArray) (iv : Value) (w : World) (i : Nat) : Prop where
  iv : iv = .int .i64 i
  le : i ≤ ys.length
  same : ∃ q, w = W.drewN q
  eq : ys.take i = zs.take i

set_option maxHeartbeats 1000000 in
theorem qtexts_all (A A' : Option Addr) (c c' : Nat) (ys zs : List ByteArray) (hn : ys.length ≤ 9223372036854775807) (hm : zs.length ≤ 9223372036854775807) (w : World) (h1 : Row w w.heap.size A (ys.map Value.string)) (h2 : Row w w.heap.size A' (zs.map Value.string)) :
    Calls Tryd.prog 25 #[.slice A ys.length c, .slice A' zs.length c'] w fun e w' => e = .returned (.bool (decide (ys = zs))) ∧ Below w.heap.size w w' := by
  have H1 := Lib.hid h1
  have H2 := Lib.hid h2
  clear h1 h2
  by_cases hl : ys.length = zs.length
  · go_enter Tryd.func25, Tryd.ntmps25
    go_wp2_with fail
    go_loopw [5] (fun iv wr => ∃ i, TxRel w ys zs iv wr i) (fun iv _ => ys.length - (intOf iv).toNat)
    case atStart => exact ⟨0, rfl, Nat.zero_le _, ⟨0, rfl⟩, rfl⟩
    case round =>
      obtain ⟨i, ⟨rfl, hi, ⟨q, rfl⟩, HE⟩⟩ := hrel
      by_cases hlt : i < ys.length
      · have hlt2 : i < zs.length := hl ▸ hlt
        obtain ⟨b, o, rfl, _, hc1⟩ := H1.out i (.string ys[i]) (by rw [List.getElem?_map, List.getElem?_eq_getElem hlt]; rfl)
        obtain ⟨b', o', rfl, _, hc2⟩ := H2.out i (.string zs[i]) (by rw [List.getElem?_map, List.getElem?_eq_getElem hlt2]; rfl)
        have hy : ys.take (i + 1) = ys.take i ++ [ys[i]] := List.take_succ_eq_append_getElem hlt
        have hz : zs.take (i + 1) = zs.take i ++ [zs[i]] := List.take_succ_eq_append_getElem hlt2
        by_cases he : ys[i] = zs[i]
        · have HE2 := Lib.hid (show ys.take (i + 1) = zs.take (i + 1) by rw [hy, hz, HE, he])
          rw [← he] at hc2
          clear hy hz he
          generalize ys[i] = z at *
          go_wp2_with fail
          go_quiet (fail)
          go_wp2_with fail
          go_roundw
          case rel => exact ⟨i + 1, by simp, hlt, ⟨_, rfl⟩, HE2.out⟩
          case measure => simp [intOf]; omega
        · have HN := Lib.hid (show ¬ ys = zs from fun h => he (by subst h; rfl))
          clear hy hz
          generalize ys[i] = z at *
          generalize zs[i] = x at *
          go_wp2_with fail
          go_quiet (fail)
          go_wp2_with fail
          rotate_left
          · rename_i h
            exact absurd (ByteArray.ext (by have := congrArg List.toArray (show z.toList = x.toList by simpa using h); simpa [ByteArray.toList_eq] using this)) he
          go_ret
          refine ⟨congrArg (fun b => Ending.returned (.bool b)) (decide_eq_false HN.out).symm, ?_⟩
          exact ⟨rfl, rfl, rfl, Nat.le_refl _, fun _ _ => rfl⟩
      · obtain rfl : ys.length = i := by omega
        go_wp2_with fail
        go_ret
        refine ⟨?_, below_drew w q⟩
        rw [List.take_length, hl, List.take_length] at HE
        exact congrArg (fun b => Ending.returned (.bool b)) (decide_eq_true HE).symm
  · have hN : ¬ ((ys.length : Int) = zs.length) := by omega
    have HN := Lib.hid (show ¬ ys = zs from fun h => hl (by rw [h]))
    go_enter Tryd.func25, Tryd.ntmps25
    go_wp2_with fail
    go_ret
    refine ⟨congrArg (fun b => Ending.returned (.bool b)) (decide_eq_false HN.out).symm, ?_⟩
    exact ⟨rfl, rfl, rfl, Nat.le_refl _, fun _ _ => rfl⟩

structure NsRel (W : World) (ys zs : List Int) (iv : Value) (w : World) (i : Nat) : Prop where
  iv : iv = .int .i64 i
  le : i ≤ ys.length
  same : ∃ q, w = W.drewN q
  eq : ys.take i = zs.take i

set_option maxHeartbeats 1000000 in
theorem qints_all (A A' : Option Addr) (c c' : Nat) (ys zs : List Int) (hn : ys.length ≤ 9223372036854775807) (hm : zs.length ≤ 9223372036854775807) (w : World) (h1 : Row w w.heap.size A (ys.map (Value.int .i64))) (h2 : Row w w.heap.size A' (zs.map (Value.int .i64))) :
    Calls Tryd.prog 18 #[.slice A ys.length c, .slice A' zs.length c'] w fun e w' => e = .returned (.bool (decide (ys = zs))) ∧ Below w.heap.size w w' := by
  have H1 := Lib.hid h1
  have H2 := Lib.hid h2
  clear h1 h2
  by_cases hl : ys.length = zs.length
  · go_enter Tryd.func18, Tryd.ntmps18
    go_wp2_with fail
    go_loopw [5] (fun iv wr => ∃ i, NsRel w ys zs iv wr i) (fun iv _ => ys.length - (intOf iv).toNat)
    case atStart => exact ⟨0, rfl, Nat.zero_le _, ⟨0, rfl⟩, rfl⟩
    case round =>
      obtain ⟨i, ⟨rfl, hi, ⟨q, rfl⟩, HE⟩⟩ := hrel
      by_cases hlt : i < ys.length
      · have hlt2 : i < zs.length := hl ▸ hlt
        obtain ⟨b, o, rfl, _, hc1⟩ := H1.out i (.int .i64 ys[i]) (by rw [List.getElem?_map, List.getElem?_eq_getElem hlt]; rfl)
        obtain ⟨b', o', rfl, _, hc2⟩ := H2.out i (.int .i64 zs[i]) (by rw [List.getElem?_map, List.getElem?_eq_getElem hlt2]; rfl)
        have hy : ys.take (i + 1) = ys.take i ++ [ys[i]] := List.take_succ_eq_append_getElem hlt
        have hz : zs.take (i + 1) = zs.take i ++ [zs[i]] := List.take_succ_eq_append_getElem hlt2
        by_cases he : ys[i] = zs[i]
        · have HE2 := Lib.hid (show ys.take (i + 1) = zs.take (i + 1) by rw [hy, hz, HE, he])
          rw [← he] at hc2
          clear hy hz he
          generalize ys[i] = z at *
          go_wp2_with fail
          go_quiet (fail)
          go_wp2_with fail
          go_roundw
          case rel => exact ⟨i + 1, by simp, hlt, ⟨_, rfl⟩, HE2.out⟩
          case measure => simp [intOf]; omega
        · have HN := Lib.hid (show ¬ ys = zs from fun h => he (by subst h; rfl))
          clear hy hz
          generalize ys[i] = z at *
          generalize zs[i] = x at *
          go_wp2_with fail
          go_quiet (fail)
          go_wp2_with fail
          go_ret
          refine ⟨congrArg (fun b => Ending.returned (.bool b)) (decide_eq_false HN.out).symm, ?_⟩
          exact ⟨rfl, rfl, rfl, Nat.le_refl _, fun _ _ => rfl⟩
      · obtain rfl : ys.length = i := by omega
        go_wp2_with fail
        go_ret
        refine ⟨?_, below_drew w q⟩
        rw [List.take_length, hl, List.take_length] at HE
        exact congrArg (fun b => Ending.returned (.bool b)) (decide_eq_true HE).symm
  · have hN : ¬ ((ys.length : Int) = zs.length) := by omega
    have HN := Lib.hid (show ¬ ys = zs from fun h => hl (by rw [h]))
    go_enter Tryd.func18, Tryd.ntmps18
    go_wp2_with fail
    go_ret
    refine ⟨congrArg (fun b => Ending.returned (.bool b)) (decide_eq_false HN.out).symm, ?_⟩
    exact ⟨rfl, rfl, rfl, Nat.le_refl _, fun _ _ => rfl⟩

end Drf
end Go.Proofs.YtibeangcjfjeiaaDoor

namespace Go.Proofs.YtibeangcjfjeiaaDoor
open Go.RowKit Wire Txt
set_option linter.unusedVariables false
set_option maxRecDepth 100000
set_option linter.unusedSimpArgs false
namespace Drf

/-- A block more is below nothing that was there. -/
theorem below_more (w : World) (o : Obj) : Below w.heap.size w (w.alloc o) := Below.alloc (Below.refl _ w) (Nat.le_refl _) o
/-- The name of a direction. -/
def dirN (z : Int) : List UInt8 := if 0 ≤ z ∧ z ≤ 5 then dirW z.toNat else []
set_option maxHeartbeats 1000000 in
theorem qdirection_any (z : Int) (w : World) : Calls Tryd.prog 56 #[.int .i64 z] w fun e w' => e = .returned (str (dirN z)) ∧ Below w.heap.size w w' := by
  by_cases h0 : z = 0
  · subst h0
    go_enter Tryd.func56, Tryd.ntmps56
    go_wp2_with fail
    go_ret
    exact ⟨rfl, below_more _ _⟩
  by_cases h1 : z = 1
  · subst h1
    go_enter Tryd.func56, Tryd.ntmps56
    go_wp2_with fail
    go_ret
    exact ⟨rfl, below_more _ _⟩
  by_cases h2 : z = 2
  · subst h2
    go_enter Tryd.func56, Tryd.ntmps56
    go_wp2_with fail
    go_ret
    exact ⟨rfl, below_more _ _⟩
  by_cases h3 : z = 3
  · subst h3
    go_enter Tryd.func56, Tryd.ntmps56
    go_wp2_with fail
    go_ret
    exact ⟨rfl, below_more _ _⟩
  by_cases h4 : z = 4
  · subst h4
    go_enter Tryd.func56, Tryd.ntmps56
    go_wp2_with fail
    go_ret
    exact ⟨rfl, below_more _ _⟩
  by_cases h5 : z = 5
  · subst h5
    go_enter Tryd.func56, Tryd.ntmps56
    go_wp2_with fail
    go_ret
    exact ⟨rfl, below_more _ _⟩
  have e : dirN z = [] := by
    unfold dirN
    rw [if_neg (by omega)]
  rw [e]
  by_cases hn : z < 0
  · go_enter Tryd.func56, Tryd.ntmps56
    go_wp2_with fail
    go_ret
    exact ⟨rfl, below_more _ _⟩
  · have h6 : (5 : Int) < z := by omega
    go_enter Tryd.func56, Tryd.ntmps56
    go_wp2_with fail
    go_ret
    exact ⟨rfl, below_more _ _⟩

end Drf
end Go.Proofs.YtibeangcjfjeiaaDoor

namespace Go.Proofs.YtibeangcjfjeiaaDoor
open Go.RowKit Wire Txt
set_option linter.unusedVariables false
set_option maxRecDepth 100000
set_option linter.unusedSimpArgs false
namespace Drf

theorem dirI_at {w : List UInt8} {i : Nat} (h6 : i < 6) (hn : ∀ j, j < i → dirW j ≠ w) (he : dirW i = w) : dirI w = i := by
  have : dirOf w = some i := by
    unfold dirOf
    rw [List.find?_range_eq_some]
    refine ⟨by simpa using he, List.mem_range.2 h6, fun j hj => by simpa using hn j hj⟩
  unfold dirI
  rw [this]
theorem dirI_none {w : List UInt8} (hn : ∀ j, j < 6 → dirW j ≠ w) : dirI w = -1 := by
  have : dirOf w = none := by
    unfold dirOf
    rw [List.find?_eq_none]
    intro j hj
    simpa using hn j (List.mem_range.1 hj)
  unfold dirI
  rw [this]
theorem below_then {W w w' : World} (h : Below W.heap.size W w) (h2 : Below w.heap.size w w') : Below W.heap.size W w' := h.trans (h2.mono h.size)
structure DrRel (W : World) (s : ByteArray) (iv : Value) (w : World) (i : Nat) : Prop where
  iv : iv = .int .i64 i
  le : i ≤ 6
  below : Below W.heap.size W w
  none : ∀ j, j < i → dirW j ≠ bl s
set_option maxHeartbeats 1000000 in
theorem qdir_any (s : ByteArray) (w : World) : Calls Tryd.prog 49 #[.string s] w fun e w' => e = .returned (.int .i64 (dirI (bl s))) ∧ Below w.heap.size w w' := by
  have HD := Lib.hid (fun z w => qdirection_any z w)
  go_enter Tryd.func49, Tryd.ntmps49
  go_wp2_with fail
  go_loopw [3] (fun iv wr => ∃ i, DrRel w s iv wr i) (fun iv _ => 6 - (intOf iv).toNat)
  case atStart => exact ⟨0, rfl, by omega, Below.refl _ w, fun j hj => by omega⟩
  case round =>
    obtain ⟨i, ⟨rfl, hi, HB, HN⟩⟩ := hrel
    by_cases hlt : i < 6
    · have hw : dirN i = dirW i := by
        unfold dirN
        rw [if_pos (by omega)]
        rfl
      by_cases he : dirW i = bl s
      · have HE := Lib.hid (dirI_at hlt HN he)
        have HE2 := Lib.hid (hw.trans he)
        have HNN := Lib.hid HN
        have HBB := Lib.hid HB
        clear hw he HN HB
        go_wp2_with (go_at_call 56; refine (HD.out _ _).mono ?_; rintro e w3 ⟨rfl, b3⟩; rw [HE2.out, str_bl]; have B3 := Lib.hid (below_then HBB.out b3); clear b3)
        go_ret
        exact ⟨by rw [HE.out]; rfl, B3.out⟩
      · have HE2 := Lib.hid hw
        have HNN := Lib.hid (show ∀ j, j < i + 1 → dirW j ≠ bl s from fun j hj => by
          rcases Nat.lt_or_ge j i with h | h
          · exact HN j h
          · obtain rfl : j = i := by omega
            exact he)
        have HNE := Lib.hid he
        have HBB := Lib.hid HB
        clear hw he HN HB
        go_wp2_with (go_at_call 56; refine (HD.out _ _).mono ?_; rintro e w3 ⟨rfl, b3⟩; rw [HE2.out]; have B3 := Lib.hid (below_then HBB.out b3); clear b3)
        case roundEnd => exact ⟨⟨i + 1, by simp, hlt, B3.out, HNN.out⟩, by simp [intOf]; omega⟩
        rename_i h
        exact absurd ((show dirW i = s.toList by simpa using h).trans (by rw [ByteArray.toList_eq])) HNE.out
    · obtain rfl : i = 6 := by omega
      have HE := Lib.hid (dirI_none HN)
      have HBB := Lib.hid HB
      clear HN HB
      go_wp2_with fail
      go_ret
      exact ⟨by rw [HE.out]; rfl, HBB.out⟩

end Drf
end Go.Proofs.YtibeangcjfjeiaaDoor

namespace Go.Proofs.YtibeangcjfjeiaaDoor
open Go.RowKit Txt Wire Lx
set_option linter.unusedVariables false
set_option maxRecDepth 100000
set_option linter.unusedSimpArgs false
namespace Drf

/-- What stands behind the word of a kind. -/
def places : Nat → List UInt8
  | 0 => [110, 49, 49, 49, 49, 49, 49, 49]
  | 1 => [110, 49, 49]
  | 2 => [49, 49, 49, 100]
  | 3 => [110, 111]
  | 4 => [49, 49, 49, 99]
  | 5 => [49, 49, 49, 49]
  | _ => []
theorem places_are : ∀ k, k < 6 → ∀ p ∈ places k, p = 110 ∨ p = 99 ∨ p = 111 ∨ p = 49 ∨ p = 100 := by decide
theorem places_few : ∀ k, k < 6 → (places k).length ≤ 8 := by decide
theorem class_last : ∀ k, k < 6 → ∀ i, i < 8 → (places k)[i]? = some 99 → i + 1 = (places k).length := by decide
/-- The variable of the directions. -/
def VD (w : World) : Prop := ∀ k, k < 6 → w.cell? ⟨1, k, none⟩ = some (str (dirW k))
/-- The variable of the forms. -/
def VF (w : World) : Prop := ∀ k, k < 6 → w.cell? ⟨0, k * 2, none⟩ = some (str (wordOf k)) ∧ w.cell? ⟨0, k * 2 + 1, none⟩ = some (str (places k))
theorem VD.lt {w : World} (h : VD w) : 1 < w.heap.size := World.block_lt_of_cell? w _ (h 0 (by omega))
theorem VF.lt {w : World} (h : VF w) : 0 < w.heap.size := World.block_lt_of_cell? w _ (h 0 (by omega)).1
theorem VD.below {w w' : World} {B : Nat} (h : VD w) (b : Below B w w') (hB : 1 < B) : VD w' := fun k hk => (b.cell (p := ⟨1, k, none⟩) hB).trans (h k hk)
theorem VF.below {w w' : World} {B : Nat} (h : VF w) (b : Below B w w') (hB : 0 < B) : VF w' := fun k hk =>
  ⟨(b.cell (p := ⟨0, k * 2, none⟩) hB).trans (h k hk).1, (b.cell (p := ⟨0, k * 2 + 1, none⟩) hB).trans (h k hk).2⟩
theorem VD.lift {w w' : World} (h : VD w) (b : Below w.heap.size w w') : VD w' := h.below b h.lt
theorem VF.lift {w w' : World} (h : VF w) (b : Below w.heap.size w w') : VF w' := h.below b h.lt

structure PdRel (W : World) (s : ByteArray) (iv : Value) (w : World) (i : Nat) : Prop where
  iv : iv = .int .i64 i
  le : i ≤ 6
  same : w = W
  none : ∀ j, j < i → dirW j ≠ bl s
set_option maxHeartbeats 4000000 in
theorem pdir_any (s : ByteArray) (w : World) (hv : VD w) : Calls Tryd.prog 93 #[.string s] w fun e w' => e = .returned (.int .i64 (dirI (bl s))) ∧ w = w' := by
  have v0 : w.cell? ⟨1, 0, none⟩ = some (.string ⟨#[101, 97, 115, 116]⟩) := hv 0 (by omega)
  have v1 : w.cell? ⟨1, 1, none⟩ = some (.string ⟨#[115, 111, 117, 116, 104]⟩) := hv 1 (by omega)
  have v2 : w.cell? ⟨1, 2, none⟩ = some (.string ⟨#[119, 101, 115, 116]⟩) := hv 2 (by omega)
  have v3 : w.cell? ⟨1, 3, none⟩ = some (.string ⟨#[110, 111, 114, 116, 104]⟩) := hv 3 (by omega)
  have v4 : w.cell? ⟨1, 4, none⟩ = some (.string ⟨#[117, 112]⟩) := hv 4 (by omega)
  have v5 : w.cell? ⟨1, 5, none⟩ = some (.string ⟨#[100, 111, 119, 110]⟩) := hv 5 (by omega)
  clear hv
  go_enter Tryd.func93, Tryd.ntmps93
  go_wp2_with fail
  clear v0 v1 v2 v3 v4 v5
  go_loopw [6] (fun iv wr => ∃ i, PdRel w s iv wr i) (fun iv _ => 6 - (intOf iv).toNat)
  case atStart => exact ⟨0, rfl, by omega, rfl, fun j hj => by omega⟩
  case round =>
    obtain ⟨i, ⟨rfl, hi, rfl, HN⟩⟩ := hrel
    have stop : ∀ {i : Nat}, i < 6 → (∀ j, j < i → dirW j ≠ bl s) → dirW i = bl s → dirI (bl s) = i := fun h1 h2 h3 => dirI_at h1 h2 h3
    have next : ∀ {i : Nat}, (∀ j, j < i → dirW j ≠ bl s) → dirW i ≠ bl s → ∀ j, j < i + 1 → dirW j ≠ bl s := fun {i} h1 h2 j hj => by
      rcases Nat.lt_or_ge j i with h | h
      · exact h1 j h
      · obtain rfl : j = i := by omega
        exact h2
    obtain rfl | rfl | rfl | rfl | rfl | rfl | rfl : i = 0 ∨ i = 1 ∨ i = 2 ∨ i = 3 ∨ i = 4 ∨ i = 5 ∨ i = 6 := by omega
    · have hix : ∀ w, Sem.run Tryd.prog (Instr.index 94 (.agg #[.string ⟨#[101, 97, 115, 116]⟩, .string ⟨#[115, 111, 117, 116, 104]⟩, .string ⟨#[119, 101, 115, 116]⟩, .string ⟨#[110, 111, 114, 116, 104]⟩, .string ⟨#[117, 112]⟩, .string ⟨#[100, 111, 119, 110]⟩]) (.int .i64 0)) w = .ok (.string ⟨#[101, 97, 115, 116]⟩) w := fun w => (by kernel_rfl)
      by_cases he : dirW 0 = bl s
      · have HE := Lib.hid (stop (i := 0) (by omega) HN he)
        have HB : Hid (bl s = bl ⟨#[101, 97, 115, 116]⟩) := Lib.hid he.symm
        obtain rfl : s = ⟨#[101, 97, 115, 116]⟩ := bl_inj HB.out
        clear he HN stop next
        go_wp2_with fail
        go_ret
        exact ⟨by rw [HE.out]; rfl, rfl⟩
      · have HN2 := Lib.hid (next HN he)
        have HNE := Lib.hid he
        clear he HN stop next
        go_wp2_with fail
        case roundEnd => exact ⟨⟨1, rfl, by omega, rfl, HN2.out⟩, by simp [intOf]⟩
        rename_i h
        exact absurd ((show dirW 0 = s.toList by simpa [dirW, ByteArray.toList_eq] using h).trans (by rw [ByteArray.toList_eq])) HNE.out
    · have hix : ∀ w, Sem.run Tryd.prog (Instr.index 94 (.agg #[.string ⟨#[101, 97, 115, 116]⟩, .string ⟨#[115, 111, 117, 116, 104]⟩, .string ⟨#[119, 101, 115, 116]⟩, .string ⟨#[110, 111, 114, 116, 104]⟩, .string ⟨#[117, 112]⟩, .string ⟨#[100, 111, 119, 110]⟩]) (.int .i64 1)) w = .ok (.string ⟨#[115, 111, 117, 116, 104]⟩) w := fun w => (by kernel_rfl)
      by_cases he : dirW 1 = bl s
      · have HE := Lib.hid (stop (i := 1) (by omega) HN he)
        have HB : Hid (bl s = bl ⟨#[115, 111, 117, 116, 104]⟩) := Lib.hid he.symm
        obtain rfl : s = ⟨#[115, 111, 117, 116, 104]⟩ := bl_inj HB.out
        clear he HN stop next
        go_wp2_with fail
        go_ret
        exact ⟨by rw [HE.out]; rfl, rfl⟩
      · have HN2 := Lib.hid (next HN he)
        have HNE := Lib.hid he
        clear he HN stop next
        go_wp2_with fail
        case roundEnd => exact ⟨⟨2, rfl, by omega, rfl, HN2.out⟩, by simp [intOf]⟩
        rename_i h
        exact absurd ((show dirW 1 = s.toList by simpa [dirW, ByteArray.toList_eq] using h).trans (by rw [ByteArray.toList_eq])) HNE.out
    · have hix : ∀ w, Sem.run Tryd.prog (Instr.index 94 (.agg #[.string ⟨#[101, 97, 115, 116]⟩, .string ⟨#[115, 111, 117, 116, 104]⟩, .string ⟨#[119, 101, 115, 116]⟩, .string ⟨#[110, 111, 114, 116, 104]⟩, .string ⟨#[117, 112]⟩, .string ⟨#[100, 111, 119, 110]⟩]) (.int .i64 2)) w = .ok (.string ⟨#[119, 101, 115, 116]⟩) w := fun w => (by kernel_rfl)
      by_cases he : dirW 2 = bl s
      · have HE := Lib.hid (stop (i := 2) (by omega) HN he)
        have HB : Hid (bl s = bl ⟨#[119, 101, 115, 116]⟩) := Lib.hid he.symm
        obtain rfl : s = ⟨#[119, 101, 115, 116]⟩ := bl_inj HB.out
        clear he HN stop next
        go_wp2_with fail
        go_ret
        exact ⟨by rw [HE.out]; rfl, rfl⟩
      · have HN2 := Lib.hid (next HN he)
        have HNE := Lib.hid he
        clear he HN stop next
        go_wp2_with fail
        case roundEnd => exact ⟨⟨3, rfl, by omega, rfl, HN2.out⟩, by simp [intOf]⟩
        rename_i h
        exact absurd ((show dirW 2 = s.toList by simpa [dirW, ByteArray.toList_eq] using h).trans (by rw [ByteArray.toList_eq])) HNE.out
    · have hix : ∀ w, Sem.run Tryd.prog (Instr.index 94 (.agg #[.string ⟨#[101, 97, 115, 116]⟩, .string ⟨#[115, 111, 117, 116, 104]⟩, .string ⟨#[119, 101, 115, 116]⟩, .string ⟨#[110, 111, 114, 116, 104]⟩, .string ⟨#[117, 112]⟩, .string ⟨#[100, 111, 119, 110]⟩]) (.int .i64 3)) w = .ok (.string ⟨#[110, 111, 114, 116, 104]⟩) w := fun w => (by kernel_rfl)
      by_cases he : dirW 3 = bl s
      · have HE := Lib.hid (stop (i := 3) (by omega) HN he)
        have HB : Hid (bl s = bl ⟨#[110, 111, 114, 116, 104]⟩) := Lib.hid he.symm
        obtain rfl : s = ⟨#[110, 111, 114, 116, 104]⟩ := bl_inj HB.out
        clear he HN stop next
        go_wp2_with fail
        go_ret
        exact ⟨by rw [HE.out]; rfl, rfl⟩
      · have HN2 := Lib.hid (next HN he)
        have HNE := Lib.hid he
        clear he HN stop next
        go_wp2_with fail
        case roundEnd => exact ⟨⟨4, rfl, by omega, rfl, HN2.out⟩, by simp [intOf]⟩
        rename_i h
        exact absurd ((show dirW 3 = s.toList by simpa [dirW, ByteArray.toList_eq] using h).trans (by rw [ByteArray.toList_eq])) HNE.out
    · have hix : ∀ w, Sem.run Tryd.prog (Instr.index 94 (.agg #[.string ⟨#[101, 97, 115, 116]⟩, .string ⟨#[115, 111, 117, 116, 104]⟩, .string ⟨#[119, 101, 115, 116]⟩, .string ⟨#[110, 111, 114, 116, 104]⟩, .string ⟨#[117, 112]⟩, .string ⟨#[100, 111, 119, 110]⟩]) (.int .i64 4)) w = .ok (.string ⟨#[117, 112]⟩) w := fun w => (by kernel_rfl)
      by_cases he : dirW 4 = bl s
      · have HE := Lib.hid (stop (i := 4) (by omega) HN he)
        have HB : Hid (bl s = bl ⟨#[117, 112]⟩) := Lib.hid he.symm
        obtain rfl : s = ⟨#[117, 112]⟩ := bl_inj HB.out
        clear he HN stop next
        go_wp2_with fail
        go_ret
        exact ⟨by rw [HE.out]; rfl, rfl⟩
      · have HN2 := Lib.hid (next HN he)
        have HNE := Lib.hid he
        clear he HN stop next
        go_wp2_with fail
        case roundEnd => exact ⟨⟨5, rfl, by omega, rfl, HN2.out⟩, by simp [intOf]⟩
        rename_i h
        exact absurd ((show dirW 4 = s.toList by simpa [dirW, ByteArray.toList_eq] using h).trans (by rw [ByteArray.toList_eq])) HNE.out
    · have hix : ∀ w, Sem.run Tryd.prog (Instr.index 94 (.agg #[.string ⟨#[101, 97, 115, 116]⟩, .string ⟨#[115, 111, 117, 116, 104]⟩, .string ⟨#[119, 101, 115, 116]⟩, .string ⟨#[110, 111, 114, 116, 104]⟩, .string ⟨#[117, 112]⟩, .string ⟨#[100, 111, 119, 110]⟩]) (.int .i64 5)) w = .ok (.string ⟨#[100, 111, 119, 110]⟩) w := fun w => (by kernel_rfl)
      by_cases he : dirW 5 = bl s
      · have HE := Lib.hid (stop (i := 5) (by omega) HN he)
        have HB : Hid (bl s = bl ⟨#[100, 111, 119, 110]⟩) := Lib.hid he.symm
        obtain rfl : s = ⟨#[100, 111, 119, 110]⟩ := bl_inj HB.out
        clear he HN stop next
        go_wp2_with fail
        go_ret
        exact ⟨by rw [HE.out]; rfl, rfl⟩
      · have HN2 := Lib.hid (next HN he)
        have HNE := Lib.hid he
        clear he HN stop next
        go_wp2_with fail
        case roundEnd => exact ⟨⟨6, rfl, by omega, rfl, HN2.out⟩, by simp [intOf]⟩
        rename_i h
        exact absurd ((show dirW 5 = s.toList by simpa [dirW, ByteArray.toList_eq] using h).trans (by rw [ByteArray.toList_eq])) HNE.out
    · have HE := Lib.hid (dirI_none HN)
      clear HN stop next
      go_wp2_with fail
      go_ret
      exact ⟨by rw [HE.out]; rfl, rfl⟩
end Drf
end Go.Proofs.YtibeangcjfjeiaaDoor

namespace Go.Proofs.YtibeangcjfjeiaaDoor
open Go.RowKit Txt Wire Lx
set_option linter.unusedVariables false
set_option maxRecDepth 100000
set_option linter.unusedSimpArgs false
namespace Drf

/-- Is an item right, place by place? -/
def rpR (x : It) : List UInt8 → Bool → Bool → List Int → Option (Bool × Bool × List Int)
  | [], a, b, l => some (a, b, l)
  | p :: ps, a, b, l =>
    if p = 110 then rpR x ps (word x.name) b l
    else if p = 99 then rpR x ps (x.name == [] || word x.name) b l
    else if p = 111 then rpR x ps a (word x.other) l
    else match l with
      | [] => none
      | z :: l => if z < 0 ∨ (p = 100 ∧ 6 ≤ z) then none else rpR x ps a b l
def rpV : Option (Bool × Bool × List Int) → Bool
  | none => false
  | some (a, b, l) => a && b && l == []
theorem rp_nums (x : It) (ps : List UInt8) (a b : Bool) : ∀ (k : Nat) (l : List Int), rpV (rpR x (List.replicate k 49 ++ ps) a b l) = (decide (k ≤ l.length) && (l.take k).all (fun z => decide (0 ≤ z)) && rpV (rpR x ps a b (l.drop k)))
  | 0, l => by simp
  | k + 1, [] => by simp [List.replicate_succ, rpR, rpV]
  | k + 1, z :: l => by
    show rpV (if z < 0 ∨ ((49 : UInt8) = 100 ∧ 6 ≤ z) then none else rpR x (List.replicate k 49 ++ ps) a b l) = _
    by_cases hz : z < 0
    · rw [if_pos (.inl hz)]
      have : decide (0 ≤ z) = false := decide_eq_false (by omega)
      simp [this, rpV]
    · rw [if_neg (by rintro (h | ⟨h, _⟩); exact hz h; cases h), rp_nums x ps a b k l]
      have : decide (0 ≤ z) = true := decide_eq_true (by omega)
      simp [this]
theorem len_all {l : List Int} {k : Nat} {c : Bool} : (decide (k ≤ l.length) && (l.take k).all (fun z => decide (0 ≤ z)) && (c && l.drop k == [])) = (decide (l.length = k) && l.all (fun z => decide (0 ≤ z)) && c) := by
  by_cases h : l.length = k
  · have h1 : l.take k = l := by rw [← h, List.take_length]
    have h2 : l.drop k = [] := by rw [← h, List.drop_length]
    rw [h1, h2, decide_eq_true (show k ≤ l.length by omega), decide_eq_true h]
    cases c <;> simp
  · rw [decide_eq_false h]
    by_cases h2 : k ≤ l.length
    · have : (l.drop k == []) = false := by
        rw [beq_eq_false_iff_ne]
        intro e
        have := congrArg List.length e
        rw [List.length_drop] at this
        simp at this
        omega
      rw [this]
      simp
    · rw [decide_eq_false h2]
      simp
theorem right_places {x : It} {k : Nat} (hk : x.kind = k) (h6 : k < 6) : rightIt x = rpV (rpR x (places k) (x.name == []) (x.other == []) x.n) := by
  obtain ⟨kd, nm, ot, l, ln⟩ := x
  simp only at hk
  subst hk
  have hn : ∀ (c : Bool), (decide (l.length = 7) = (l.length == 7)) := fun c => by rw [Bool.eq_iff_iff]; simp
  match k, h6 with
  | 0, _ =>
    show _ = rpV (rpR _ (List.replicate 7 49 ++ []) (word nm) (ot == []) l)
    rw [rp_nums]
    show _ = (decide (7 ≤ l.length) && (l.take 7).all (fun z => decide (0 ≤ z)) && (word nm && ot == [] && l.drop 7 == []))
    rw [len_all]
    simp only [rightIt, formI, form]
    rw [Bool.eq_iff_iff]
    simp
    constructor <;> intro h <;> simp_all
  | 1, _ =>
    show _ = rpV (rpR _ (List.replicate 2 49 ++ []) (word nm) (ot == []) l)
    rw [rp_nums]
    show _ = (decide (2 ≤ l.length) && (l.take 2).all (fun z => decide (0 ≤ z)) && (word nm && ot == [] && l.drop 2 == []))
    rw [len_all]
    simp only [rightIt, formI, form]
    rw [Bool.eq_iff_iff]
    simp
    constructor <;> intro h <;> simp_all
  | 2, _ =>
    show _ = rpV (rpR _ (List.replicate 3 49 ++ [100]) (nm == []) (ot == []) l)
    rw [rp_nums]
    simp only [rightIt, formI, form]
    match l with
    | [] => simp [rpR, rpV]
    | [_] => simp [rpR, rpV]
    | [_, _] => simp [rpR, rpV]
    | [_, _, _] => simp [rpR, rpV]
    | [a, b, c, d] =>
      show _ = (decide (3 ≤ 4) && [a, b, c].all (fun z => decide (0 ≤ z)) && rpV (if d < 0 ∨ ((100 : UInt8) = 100 ∧ 6 ≤ d) then none else some (nm == [], ot == [], [])))
      by_cases hd : d < 0 ∨ ((100 : UInt8) = 100 ∧ 6 ≤ d)
      · rw [if_pos hd]
        rw [Bool.eq_iff_iff]
        simp [rpV]
        intros
        omega
      · rw [if_neg hd]
        have h1 : 0 ≤ d ∧ d ≤ 5 := by
          refine ⟨by omega, ?_⟩
          have : ¬ 6 ≤ d := fun h => hd (.inr ⟨rfl, h⟩)
          omega
        rw [Bool.eq_iff_iff]
        simp [rpV, h1.1, h1.2]
        constructor <;> intro h <;> simp_all
    | a :: b :: c :: d :: e :: r =>
      show _ = (decide (3 ≤ _) && [a, b, c].all (fun z => decide (0 ≤ z)) && rpV (if d < 0 ∨ ((100 : UInt8) = 100 ∧ 6 ≤ d) then none else some (nm == [], ot == [], e :: r)))
      by_cases hd : d < 0 ∨ ((100 : UInt8) = 100 ∧ 6 ≤ d)
      · rw [if_pos hd]
        simp [rpV]
      · rw [if_neg hd]
        simp [rpV]
  | 3, _ =>
    show _ = rpV (some (word nm, word ot, l))
    simp only [rightIt, formI, form, rpV]
    rw [Bool.eq_iff_iff]
    simp
    constructor <;> intro h <;> simp_all
  | 4, _ =>
    show _ = rpV (rpR _ (List.replicate 3 49 ++ [99]) (nm == []) (ot == []) l)
    rw [rp_nums]
    show _ = (decide (3 ≤ l.length) && (l.take 3).all (fun z => decide (0 ≤ z)) && ((nm == [] || word nm) && ot == [] && l.drop 3 == []))
    rw [len_all]
    simp only [rightIt, formI, form]
    rw [Bool.eq_iff_iff]
    simp
    constructor <;> intro h <;> simp_all
  | 5, _ =>
    show _ = rpV (rpR _ (List.replicate 4 49 ++ []) (nm == []) (ot == []) l)
    rw [rp_nums]
    show _ = (decide (4 ≤ l.length) && (l.take 4).all (fun z => decide (0 ≤ z)) && (nm == [] && ot == [] && l.drop 4 == []))
    rw [len_all]
    simp only [rightIt, formI, form]
    rw [Bool.eq_iff_iff]
    simp
    constructor <;> intro h <;> simp_all
theorem right_kind {x : It} (h : x.kind < 0 ∨ 6 ≤ x.kind) : rightIt x = false := by
  unfold rightIt
  have : formI x.kind = none := by
    unfold formI
    by_cases h0 : 0 ≤ x.kind
    · rw [if_pos h0]
      obtain ⟨n, hn⟩ := Int.eq_ofNat_of_zero_le h0
      rw [hn]
      show form n = none
      match n, (show 6 ≤ n by omega) with
      | n + 6, _ => rfl
    · rw [if_neg h0]
  rw [this]
end Drf
end Go.Proofs.YtibeangcjfjeiaaDoor

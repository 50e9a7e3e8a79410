/- Merging two lists, plainly; the program's merge: its iterator. -/
import Derived.Test.YtgophgnfiboefaaGreatDoorRpA
import Derived.RangeFuncNested
import Derived.RangeFuncBound
import Derived.RangeFuncCalls
import Derived.RangeFuncLeaves
import Derived.RangeFuncBox
import Derived.Shelf.Abstract
import Derived.Shelf.RegionOpen
import Derived.OwnWalkIn
import Derived.TacticsInMore
import Derived.LoopNIn
import Derived.LoopIn
import Derived.Maps.AppendAt
namespace Go.Proofs.YtgophgnfiboefaaGreatDoor
open Go.RowKit Go.Shelf Wire
open Txt (Row)
open Go.Proofs.YtgophgnfiboefaaGreatDoor.Own Flo
open Dsk (Only nth)
set_option linter.unusedVariables false
set_option linter.unusedSimpArgs false
attribute [local go_sem] Oper.semAt_some
namespace Rgn
abbrev Ow := Nat × Bool × Bool
/-- Both lists together, in order, with who has each number. -/
def mgF : Nat → List Nat → List Nat → List Ow
  | 0, _, _ => []
  | _ + 1, [], [] => []
  | k + 1, [], y :: ys => (y, false, true) :: mgF k [] ys
  | k + 1, x :: xs, [] => (x, true, false) :: mgF k xs []
  | k + 1, x :: xs, y :: ys => if x < y then (x, true, false) :: mgF k xs (y :: ys) else if y < x then (y, false, true) :: mgF k (x :: xs) ys else (x, true, true) :: mgF k xs ys
theorem mgF_more : ∀ (k m : Nat) (a b : List Nat), a.length + b.length ≤ k → k ≤ m → mgF m a b = mgF k a b
  | 0, 0, _, _, _, _ => rfl
  | 0, m + 1, [], [], _, _ => rfl
  | 0, m + 1, [], y :: ys, h, _ => by simp at h
  | 0, m + 1, x :: xs, b, h, _ => by simp at h
  | k + 1, 0, _, _, _, h => by omega
  | k + 1, m + 1, [], [], _, _ => rfl
  | k + 1, m + 1, [], y :: ys, h, hm => by
    simp only [mgF]
    rw [mgF_more k m [] ys (by simp at h ⊢; omega) (by omega)]
  | k + 1, m + 1, x :: xs, [], h, hm => by
    simp only [mgF]
    rw [mgF_more k m xs [] (by simp at h ⊢; omega) (by omega)]
  | k + 1, m + 1, x :: xs, y :: ys, h, hm => by
    simp only [mgF]
    simp only [List.length_cons] at h
    rw [mgF_more k m xs (y :: ys) (by simp; omega) (by omega), mgF_more k m (x :: xs) ys (by simp; omega) (by omega), mgF_more k m xs ys (by omega) (by omega)]
def mg (a b : List Nat) : List Ow := mgF (a.length + b.length) a b
theorem mg_nil : mg [] [] = [] := rfl
theorem mg_l (x : Nat) (xs : List Nat) : mg (x :: xs) [] = (x, true, false) :: mg xs [] := rfl
theorem mg_r (y : Nat) (ys : List Nat) : mg [] (y :: ys) = (y, false, true) :: mg [] ys := by
  unfold mg
  simp [mgF]
theorem mg_c (x y : Nat) (xs ys : List Nat) : mg (x :: xs) (y :: ys) = if x < y then (x, true, false) :: mg xs (y :: ys) else if y < x then (y, false, true) :: mg (x :: xs) ys else (x, true, true) :: mg xs ys := by
  unfold mg
  rw [show (x :: xs).length + (y :: ys).length = (xs.length + ys.length + 1) + 1 from by simp; omega]
  simp only [mgF]
  rw [show xs.length + (y :: ys).length = xs.length + ys.length + 1 from by simp; omega, show (x :: xs).length + ys.length = xs.length + ys.length + 1 from by simp; omega, mgF_more (xs.length + ys.length) (xs.length + ys.length + 1) xs ys (Nat.le_refl _) (by omega)]
theorem drop_nat {a : List Nat} {i : Nat} (h : i < a.length) : a.drop i = a.getD i 0 :: a.drop (i + 1) := by
  rw [List.drop_eq_getElem_cons h, List.getD_eq_getElem?_getD, List.getElem?_eq_getElem h]
  rfl
def mgD (a b : List Nat) (i j : Nat) : List Ow := mg (a.drop i) (b.drop j)
theorem mg_at (a b : List Nat) (i j : Nat) : (i < a.length → b.length ≤ j → mgD a b i j = (a.getD i 0, true, false) :: mgD a b (i + 1) j) ∧
    (a.length ≤ i → j < b.length → mgD a b i j = (b.getD j 0, false, true) :: mgD a b i (j + 1)) ∧
    (i < a.length → j < b.length → a.getD i 0 < b.getD j 0 → mgD a b i j = (a.getD i 0, true, false) :: mgD a b (i + 1) j) ∧
    (i < a.length → j < b.length → b.getD j 0 < a.getD i 0 → mgD a b i j = (b.getD j 0, false, true) :: mgD a b i (j + 1)) ∧
    (i < a.length → j < b.length → a.getD i 0 = b.getD j 0 → mgD a b i j = (a.getD i 0, true, true) :: mgD a b (i + 1) (j + 1)) ∧
    (a.length ≤ i → b.length ≤ j → mgD a b i j = []) := by
  unfold mgD
  refine ⟨fun h1 h2 => ?_, fun h1 h2 => ?_, fun h1 h2 h3 => ?_, fun h1 h2 h3 => ?_, fun h1 h2 h3 => ?_, fun h1 h2 => ?_⟩
  · rw [drop_nat h1, List.drop_eq_nil_of_le h2, mg_l]
  · rw [drop_nat h2, List.drop_eq_nil_of_le h1, mg_r]
  · rw [drop_nat h1, drop_nat h2, mg_c, if_pos h3]
  · rw [drop_nat h1, drop_nat h2, mg_c, if_neg (by omega), if_pos h3]
  · rw [drop_nat h1, drop_nat h2, mg_c, if_neg (by omega), if_neg (by omega)]
  · rw [List.drop_eq_nil_of_le h1, List.drop_eq_nil_of_le h2, mg_nil]
/-- Who is there, and in order. -/
theorem mg_has : ∀ (k : Nat) (a b : List Nat), a.length + b.length ≤ k → a.Pairwise (· < ·) → b.Pairwise (· < ·) →
    (∀ x p q, (x, p, q) ∈ mg a b ↔ (x ∈ a ∨ x ∈ b) ∧ p = decide (x ∈ a) ∧ q = decide (x ∈ b)) ∧ ((mg a b).map (·.1)).Pairwise (· < ·)
  | 0, a, b, h, _, _ => by
    obtain rfl : a = [] := List.eq_nil_of_length_eq_zero (by omega)
    obtain rfl : b = [] := List.eq_nil_of_length_eq_zero (by omega)
    rw [mg_nil]
    simp
  | k + 1, [], [], h, _, _ => by
    rw [mg_nil]
    simp
  | k + 1, x :: xs, [], h, ha, hb => by
    rw [List.pairwise_cons] at ha
    obtain ⟨h1, h2⟩ := mg_has k xs [] (by simp at h ⊢; omega) ha.2 hb
    rw [mg_l]
    refine ⟨fun z p q => ?_, ?_⟩
    · rw [List.mem_cons, h1]
      by_cases e : z = x
      · subst e
        have hn : z ∉ xs := fun m => by have := ha.1 z m; omega
        simp [hn]
      · simp [e]
    · rw [List.map_cons, List.pairwise_cons]
      refine ⟨fun z hz => ?_, h2⟩
      obtain ⟨⟨z', p, q⟩, hm, rfl⟩ := List.mem_map.1 hz
      rcases ((h1 z' p q).1 hm).1 with m | m
      · exact ha.1 _ m
      · simp at m
  | k + 1, [], y :: ys, h, ha, hb => by
    rw [List.pairwise_cons] at hb
    obtain ⟨h1, h2⟩ := mg_has k [] ys (by simp at h ⊢; omega) ha hb.2
    rw [mg_r]
    refine ⟨fun z p q => ?_, ?_⟩
    · rw [List.mem_cons, h1]
      by_cases e : z = y
      · subst e
        have hn : z ∉ ys := fun m => by have := hb.1 z m; omega
        simp [hn]
      · simp [e]
    · rw [List.map_cons, List.pairwise_cons]
      refine ⟨fun z hz => ?_, h2⟩
      obtain ⟨⟨z', p, q⟩, hm, rfl⟩ := List.mem_map.1 hz
      rcases ((h1 z' p q).1 hm).1 with m | m
      · simp at m
      · exact hb.1 _ m
  | k + 1, x :: xs, y :: ys, h, ha, hb => by
    have ha' := List.pairwise_cons.1 ha
    have hb' := List.pairwise_cons.1 hb
    simp only [List.length_cons] at h
    rw [mg_c]
    by_cases c1 : x < y
    · rw [if_pos c1]
      obtain ⟨h1, h2⟩ := mg_has k xs (y :: ys) (by simp; omega) ha'.2 hb
      have hn : x ∉ y :: ys := fun m => by
        rcases List.mem_cons.1 m with m | m
        · omega
        · have := hb'.1 x m; omega
      have hn2 : x ∉ xs := fun m => by have := ha'.1 x m; omega
      refine ⟨fun z p q => ?_, ?_⟩
      · rw [List.mem_cons, h1]
        by_cases e : z = x
        · subst e
          rw [decide_eq_false hn, decide_eq_true (List.mem_cons_self ..)]
          simp [hn, hn2]
        · simp [e]
      · rw [List.map_cons, List.pairwise_cons]
        refine ⟨fun z hz => ?_, h2⟩
        obtain ⟨⟨z', p, q⟩, hm, rfl⟩ := List.mem_map.1 hz
        rcases ((h1 z' p q).1 hm).1 with m | m
        · exact ha'.1 _ m
        · rcases List.mem_cons.1 m with m | m
          · simp only at m ⊢; omega
          · have := hb'.1 _ m
            simp only at this ⊢
            omega
    · rw [if_neg c1]
      by_cases c2 : y < x
      · rw [if_pos c2]
        obtain ⟨h1, h2⟩ := mg_has k (x :: xs) ys (by simp; omega) ha hb'.2
        have hn : y ∉ x :: xs := fun m => by
          rcases List.mem_cons.1 m with m | m
          · omega
          · have := ha'.1 y m; omega
        have hn2 : y ∉ ys := fun m => by have := hb'.1 y m; omega
        refine ⟨fun z p q => ?_, ?_⟩
        · rw [List.mem_cons, h1]
          by_cases e : z = y
          · subst e
            rw [decide_eq_false hn, decide_eq_true (List.mem_cons_self ..)]
            simp [hn, hn2]
          · simp [e]
        · rw [List.map_cons, List.pairwise_cons]
          refine ⟨fun z hz => ?_, h2⟩
          obtain ⟨⟨z', p, q⟩, hm, rfl⟩ := List.mem_map.1 hz
          rcases ((h1 z' p q).1 hm).1 with m | m
          · rcases List.mem_cons.1 m with m | m
            · simp only at m ⊢; omega
            · have := ha'.1 _ m
              simp only at this ⊢
              omega
          · exact hb'.1 _ m
      · rw [if_neg c2]
        obtain rfl : x = y := by omega
        obtain ⟨h1, h2⟩ := mg_has k xs ys (by omega) ha'.2 hb'.2
        have hn : x ∉ xs := fun m => by have := ha'.1 x m; omega
        have hn2 : x ∉ ys := fun m => by have := hb'.1 x m; omega
        refine ⟨fun z p q => ?_, ?_⟩
        · rw [List.mem_cons, h1]
          by_cases e : z = x
          · subst e
            simp [hn, hn2]
          · simp [e]
        · rw [List.map_cons, List.pairwise_cons]
          refine ⟨fun z hz => ?_, h2⟩
          obtain ⟨⟨z', p, q⟩, hm, rfl⟩ := List.mem_map.1 hz
          rcases ((h1 z' p q).1 hm).1 with m | m
          · exact ha'.1 _ m
          · exact hb'.1 _ m
theorem mg_len : ∀ (k : Nat) (a b : List Nat), a.length + b.length ≤ k → (mg a b).length ≤ k
  | 0, a, b, h => by
    obtain rfl : a = [] := List.eq_nil_of_length_eq_zero (by omega)
    obtain rfl : b = [] := List.eq_nil_of_length_eq_zero (by omega)
    rw [mg_nil]
    simp
  | k + 1, [], [], h => by rw [mg_nil]; simp
  | k + 1, x :: xs, [], h => by
    have := mg_len k xs [] (by simp at h ⊢; omega)
    rw [mg_l]
    simp
    omega
  | k + 1, [], y :: ys, h => by
    have := mg_len k [] ys (by simp at h ⊢; omega)
    rw [mg_r]
    simp
    omega
  | k + 1, x :: xs, y :: ys, h => by
    simp only [List.length_cons] at h
    have h1 := mg_len k xs (y :: ys) (by simp; omega)
    have h2 := mg_len k (x :: xs) ys (by simp; omega)
    have h3 := mg_len k xs ys (by omega)
    rw [mg_c]
    split
    · simp; omega
    · split
      · simp; omega
      · simp; omega

/-- What lay below a block lies as it lay, and so do some others. -/
def KpS (S : Nat → Prop) (n₀ : Nat) (A B : World) : Prop := Below n₀ A B ∧ ∀ i, S i → B.heap[i]? = A.heap[i]?
theorem kpS_t {S : Nat → Prop} {n₀ : Nat} {A B C : World} (h : KpS S n₀ A B) (k : KpS S n₀ B C) : KpS S n₀ A C := ⟨h.1.trans k.1, fun i hi => (k.2 i hi).trans (h.2 i hi)⟩
theorem kpS_refl (S : Nat → Prop) (n₀ : Nat) (W : World) : KpS S n₀ W W := ⟨Below.refl _ _, fun _ _ => rfl⟩
theorem kpS_b {S : Nat → Prop} {n₀ : Nat} {w : World} (hn : n₀ ≤ w.heap.size) (hS : ∀ i, S i → i < w.heap.size) (W : World) (l : Nat) (o o' : Obj) (hl : w.heap.size ≤ l) (h : W.heap[l]? = some o) (h1 : o.isCells = false) (h2 : o.isWalk = false) : KpS S n₀ W (W.putObj l o') :=
  ⟨belowK_b hn W l o o' hl h h1 h2, fun i hi => World.putObj_heap_other (fun e => by have := hS i hi; omega)⟩
theorem kpS_below {S : Nat → Prop} {n₀ : Nat} {A B : World} (hn : n₀ ≤ A.heap.size) (hS : ∀ i, S i → i < A.heap.size) (h : Below A.heap.size A B) : KpS S n₀ A B := ⟨h.mono hn, fun i hi => h.block i (hS i hi)⟩
theorem drewN_below (w : World) (q : Nat) : Below w.heap.size w (w.drewN q) := by
  have := (Below.refl w.heap.size w)
  exact ⟨rfl, rfl, rfl, Nat.le_refl _, fun _ _ => rfl⟩
theorem grown_of {w w' : World} (h : Below w.heap.size w w') : w.grownBy w' none := ⟨h.os, h.tape, h.output, h.size, fun k hk _ => h.block k hk⟩
theorem row_valN {w : World} {B : Nat} {A : Option Addr} {l : List Nat} (h : Row w B A (qvs l)) {k : Nat} (hk : k < l.length) : ∃ b o, A = some ⟨b, o, none⟩ ∧ ∀ w', Below B w w' → w'.cell? ⟨b, o + k, none⟩ = some (.int .i64 (l.getD k 0 : Nat)) := by
  obtain ⟨b, o, e, hlt, hc⟩ := h k (.int .i64 (l[k] : Nat)) (by rw [List.getElem?_map, List.getElem?_eq_getElem hk]; rfl)
  refine ⟨b, o, e, fun w' hb => ?_⟩
  rw [List.getD_eq_getElem?_getD, List.getElem?_eq_getElem hk]
  exact (hb.cell (p := ⟨b, o + k, none⟩) hlt).trans hc
set_option maxHeartbeats 400000 in
theorem merge_any (A B : Option Addr) (n m ca cb : Nat) (w : World) :
    Calls Tryz.prog 40 #[.slice A n ca, .slice B m cb] w fun e w' => e = .returned (.func (.func 60) #[] #[.pointer (some ⟨w.heap.size, 0, none⟩), .pointer (some ⟨w.heap.size + 1, 0, none⟩)]) ∧ w' = (w.alloc (.cells #[.slice A n ca] 22)).alloc (.cells #[.slice B m cb] 22) := by
  go_enter Tryz.func40, Tryz.ntmps40
  go_wp2_with fail
  go_ret
  exact ⟨by simp, rfl⟩
abbrev owV (x : Ow) : Array Value := #[.int .i64 (x.1 : Nat), .agg #[.bool x.2.1, .bool x.2.2]]

set_option maxRecDepth 100000 in
set_option maxHeartbeats 4000000 in
theorem merge1_in (n : Nat) (hn : 1 ≤ n) (W : World) (l Ba Bb n₀ : Nat) (S : Nat → Prop) (hSa : S Ba) (hSb : S Bb) (hS : ∀ i, S i → i < W.heap.size) (A B : Option Addr) (ca cb : Nat) (a b : List Nat) (hla : a.length ≤ 1000000) (hlb : b.length ≤ 1000000) (J Jx : List Ow → World → Prop) (hn0 : n₀ ≤ W.heap.size) (hJ : AbidesFrom W.heap.size J)
    (hY : ∀ pre x W1, J pre W1 → pre.length < a.length + b.length → YieldAt Fence.wide (n - 1) Tryz.prog l (owV x) W1 fun e W' =>
      (e = .returned (.bool true) ∧ J (pre ++ [x]) W' ∧ KpS S n₀ W1 W') ∨ (e = .returned (.bool false) ∧ Jx (pre ++ [x]) W'))
    (hra : Row W n₀ A (qvs a)) (hrb : Row W n₀ B (qvs b)) (hba : Go.Boxed W Ba 22 (.slice A a.length ca)) (hbb : Go.Boxed W Bb 22 (.slice B b.length cb)) (h0 : J [] W) :
    CallsIn Fence.wide n Tryz.prog 60 #[.func (.yield l) #[] #[], .pointer (some ⟨Ba, 0, none⟩), .pointer (some ⟨Bb, 0, none⟩)] W fun e W' => (∃ v, e = .returned v) ∧
      ((∃ ys : List Ow, ys = mg a b ∧ J ys W') ∨ (∃ pre : List Ow, pre <+: mg a b ∧ Jx pre W')) := by
  have HRA : Hid (∀ k, k < a.length → ∃ b o, A = some ⟨b, o, none⟩ ∧ ∀ w', Below n₀ W w' → w'.cell? ⟨b, o + k, none⟩ = some (.int .i64 (a.getD k 0 : Nat))) := Lib.hid fun k hk => row_valN hra hk
  have HRB : Hid (∀ k, k < b.length → ∃ b' o, B = some ⟨b', o, none⟩ ∧ ∀ w', Below n₀ W w' → w'.cell? ⟨b', o + k, none⟩ = some (.int .i64 (b.getD k 0 : Nat))) := Lib.hid fun k hk => row_valN hrb hk
  have HMG := Lib.hid (mg_at a b)
  have HBA := Lib.hid hba
  have HBB := Lib.hid hbb
  have HHY : Hid (∀ pre x wr w3, J pre wr → W.heap.size ≤ wr.heap.size → pre.length < a.length + b.length → Below wr.heap.size wr w3 → YieldAt Fence.wide (n - 1) Tryz.prog l (owV x) w3 fun e W' =>
      (e = .returned (.bool true) ∧ J (pre ++ [x]) W' ∧ KpS S n₀ wr W' ∧ W.heap.size ≤ W'.heap.size) ∨ (e = .returned (.bool false) ∧ Jx (pre ++ [x]) W')) := Lib.hid fun pre x wr w3 hj hsz hl hb => by
    have hj3 : J pre w3 := hJ _ _ _ none hj (grown_of hb) (fun r e => by cases e)
    obtain ⟨fn, tmps, assign, body, hy, hR⟩ := hY pre x w3 hj3 hl
    refine ⟨fn, tmps, assign, body, hy, hR.mono ?_⟩
    rintro e W' (⟨h1, h2, h3⟩ | h)
    · refine .inl ⟨h1, h2, ⟨(hb.mono (by omega)).trans h3.1, fun i hi => (h3.2 i hi).trans (hb.block i (by have := hS i hi; omega))⟩, by have := h3.1.size; have := hb.size; omega⟩
    · exact .inr h
  clear hra hrb hY hba hbb hJ
  have H0 := Lib.hid h0
  generalize hla' : a.length = la at *
  generalize hlb' : b.length = lb at *
  generalize a.getD = AA at *
  generalize b.getD = BB at *
  have HST : Hid ([] ++ mgD a b 0 0 = mg a b) := Lib.hid rfl
  generalize mgD a b = MD at *
  generalize mg a b = MG at *
  clear h0
  refine callsIn_of_wp Tryz.func60 rfl trivial ?_ rfl
  have ca0 := HBA.out.cell
  have cb0 := HBB.out.cell
  simp only [Tryz.ntmps60, List.size_toArray, List.length_cons, List.length_nil, Nat.reduceAdd, Nat.reduceSub, Array.replicate_succ, Array.replicate_zero, List.push_toArray, List.append_toArray, List.nil_append, List.cons_append]
  gi_wp2
  gi_loopw [4, 5] (fun iv jv wr => ∃ (i j : Nat) (pre : List Ow), iv = .int .i64 i ∧ jv = .int .i64 j ∧ i ≤ la ∧ j ≤ lb ∧ pre.length ≤ i + j ∧ Hid (pre ++ MD i j = MG) ∧ Hid (J pre wr) ∧ KpS S n₀ W wr ∧ W.heap.size ≤ wr.heap.size)
    (fun iv jv _ => la + lb - ((intOf iv).toNat + (intOf jv).toNat))
  case atStart => exact ⟨0, 0, [], rfl, rfl, Nat.zero_le _, Nat.zero_le _, Nat.le_refl _, HST, H0, kpS_refl _ _ _, Nat.le_refl _⟩
  case round =>
    clear ca0 cb0 H0
    obtain ⟨i, j, pre, rfl, rfl, hi, hj, hpl, HP, HJ, hkp, hsz⟩ := hrel
    have ca1 : wr.cell? ⟨Ba, 0, none⟩ = some (.slice A la ca) := (show Go.Boxed wr Ba 22 (.slice A la ca) from (hkp.2 Ba hSa).trans HBA.out).cell
    have cb1 : wr.cell? ⟨Bb, 0, none⟩ = some (.slice B lb cb) := (show Go.Boxed wr Bb 22 (.slice B lb cb) from (hkp.2 Bb hSb).trans HBB.out).cell
    have HKP := Lib.hid hkp
    have HSZ := Lib.hid hsz
    have HM := Lib.hid (HMG.out i j)
    clear hkp hsz
    by_cases hia : i < la
    · obtain ⟨ba, oa, rfl, xa⟩ := HRA.out i hia
      have za := xa _ HKP.out.1
      clear xa
      by_cases hjb : j < lb
      · obtain ⟨bb, ob, rfl, xb⟩ := HRB.out j hjb
        have zb := xb _ HKP.out.1
        clear xb
        by_cases hlt : AA i 0 < BB j 0
        · have HEQ := Lib.hid (HM.out.2.2.1 hia hjb hlt)
          have HYI := Lib.hid (fun w3 (hb3 : Below wr.heap.size wr w3) => HHY.out pre (AA i 0, true, false) wr w3 HJ.out HSZ.out (by omega) hb3)
          obtain ⟨fn, tmps, assign, body, hy, hR⟩ := HYI.out _ ((Below.refl _ wr).drew.drew)
          dsimp only [owV] at hy
          have HR := Lib.hid hR
          clear hR
          clear HM HHY
          generalize AA i 0 = x at *
          generalize BB j 0 = y at *
          have f1 : ((j : Int) == (lb : Int)) = false := by rw [beq_eq_false_iff_ne]; omega
          have f2 : ((i : Int) == (la : Int)) = false := by rw [beq_eq_false_iff_ne]; omega
          have f3 : decide ((x : Int) ≤ (y : Int)) = true := by rw [decide_eq_true_iff]; omega
          have f4 : decide ((y : Int) ≤ (x : Int)) = false := by rw [decide_eq_false_iff_not]; omega
          gi_wp2
          gi_region
          gi_wp2
          gi_region
          gi_wp2
          refine HR.out.mono ?_
          rintro e W3 (⟨rfl, hJ3, hk3, hz3⟩ | ⟨rfl, hJx3⟩)
          · have HJ3 := Lib.hid hJ3
            have HK3 := Lib.hid (kpS_t HKP.out hk3)
            clear hJ3 hk3 HR HYI
            gi_wp2
            go_roundw
            case rel => exact ⟨i + 1, j, pre ++ [(x, true, false)], by simp, by simp, by omega, by omega, by simp; omega, Lib.hid (by rw [← HP.out, HEQ.out]; simp), HJ3, HK3.out, hz3⟩
            case measure => simp [intOf]; omega
          · have HJ3 := Lib.hid hJx3
            clear hJx3 HR HYI
            gi_wp2
            refine bodyPost_ret (results_none rfl _ _ _) rfl ?_
            exact ⟨⟨_, rfl⟩, .inr ⟨pre ++ [(x, true, false)], ⟨MD (i + 1) (j), by rw [← HP.out, HEQ.out]; simp⟩, HJ3.out⟩⟩
        · by_cases hgt : BB j 0 < AA i 0
          · have HEQ := Lib.hid (HM.out.2.2.2.1 hia hjb hgt)
            have HYI := Lib.hid (fun w3 (hb3 : Below wr.heap.size wr w3) => HHY.out pre (BB j 0, false, true) wr w3 HJ.out HSZ.out (by omega) hb3)
            obtain ⟨fn, tmps, assign, body, hy, hR⟩ := HYI.out _ ((Below.refl _ wr).drew.drew)
            dsimp only [owV] at hy
            have HR := Lib.hid hR
            clear hR
            clear HM HHY
            generalize AA i 0 = x at *
            generalize BB j 0 = y at *
            have f1 : ((j : Int) == (lb : Int)) = false := by rw [beq_eq_false_iff_ne]; omega
            have f2 : ((i : Int) == (la : Int)) = false := by rw [beq_eq_false_iff_ne]; omega
            have f3 : decide ((x : Int) ≤ (y : Int)) = false := by rw [decide_eq_false_iff_not]; omega
            have f4 : decide ((y : Int) ≤ (x : Int)) = true := by rw [decide_eq_true_iff]; omega
            gi_wp2
            gi_region
            gi_wp2
            gi_region
            gi_wp2
            refine HR.out.mono ?_
            rintro e W3 (⟨rfl, hJ3, hk3, hz3⟩ | ⟨rfl, hJx3⟩)
            · have HJ3 := Lib.hid hJ3
              have HK3 := Lib.hid (kpS_t HKP.out hk3)
              clear hJ3 hk3 HR HYI
              gi_wp2
              go_roundw
              case rel => exact ⟨i, j + 1, pre ++ [(y, false, true)], by simp, by simp, by omega, by omega, by simp; omega, Lib.hid (by rw [← HP.out, HEQ.out]; simp), HJ3, HK3.out, hz3⟩
              case measure => simp [intOf]; omega
            · have HJ3 := Lib.hid hJx3
              clear hJx3 HR HYI
              gi_wp2
              refine bodyPost_ret (results_none rfl _ _ _) rfl ?_
              exact ⟨⟨_, rfl⟩, .inr ⟨pre ++ [(y, false, true)], ⟨MD (i) (j + 1), by rw [← HP.out, HEQ.out]; simp⟩, HJ3.out⟩⟩
          · have HEQ := Lib.hid (by have e := HM.out.2.2.2.2.1 hia hjb (by omega); rw [show AA i 0 = BB j 0 from by omega] at e; exact e)
            have HYI := Lib.hid (fun w3 (hb3 : Below wr.heap.size wr w3) => HHY.out pre (BB j 0, true, true) wr w3 HJ.out HSZ.out (by omega) hb3)
            obtain ⟨fn, tmps, assign, body, hy, hR⟩ := HYI.out _ ((Below.refl _ wr).drew.drew)
            dsimp only [owV] at hy
            have HR := Lib.hid hR
            clear hR
            clear HM HHY
            generalize AA i 0 = x at *
            generalize BB j 0 = y at *
            have f1 : ((j : Int) == (lb : Int)) = false := by rw [beq_eq_false_iff_ne]; omega
            have f2 : ((i : Int) == (la : Int)) = false := by rw [beq_eq_false_iff_ne]; omega
            have f3 : decide ((x : Int) ≤ (y : Int)) = true := by rw [decide_eq_true_iff]; omega
            have f4 : decide ((y : Int) ≤ (x : Int)) = true := by rw [decide_eq_true_iff]; omega
            gi_wp2
            gi_region
            gi_wp2
            gi_region
            gi_wp2
            refine HR.out.mono ?_
            rintro e W3 (⟨rfl, hJ3, hk3, hz3⟩ | ⟨rfl, hJx3⟩)
            · have HJ3 := Lib.hid hJ3
              have HK3 := Lib.hid (kpS_t HKP.out hk3)
              clear hJ3 hk3 HR HYI
              gi_wp2
              go_roundw
              case rel => exact ⟨i + 1, j + 1, pre ++ [(y, true, true)], by simp, by simp, by omega, by omega, by simp; omega, Lib.hid (by rw [← HP.out, HEQ.out]; simp), HJ3, HK3.out, hz3⟩
              case measure => simp [intOf]; omega
            · have HJ3 := Lib.hid hJx3
              clear hJx3 HR HYI
              gi_wp2
              refine bodyPost_ret (results_none rfl _ _ _) rfl ?_
              exact ⟨⟨_, rfl⟩, .inr ⟨pre ++ [(y, true, true)], ⟨MD (i + 1) (j + 1), by rw [← HP.out, HEQ.out]; simp⟩, HJ3.out⟩⟩
      · have HEQ := Lib.hid (HM.out.1 hia (by omega))
        have HYI := Lib.hid (fun w3 (hb3 : Below wr.heap.size wr w3) => HHY.out pre (AA i 0, true, false) wr w3 HJ.out HSZ.out (by omega) hb3)
        clear HM HHY
        generalize AA i 0 = x at *
        have f1 : ((j : Int) == (lb : Int)) = true := by rw [beq_iff_eq]; omega
        have f2 : ((i : Int) == (la : Int)) = false := by rw [beq_eq_false_iff_ne]; omega
        have f5 : decide ((j : Int) < (lb : Int)) = false := by rw [decide_eq_false_iff_not]; omega
        gi_wp2
        refine wpIn_wide.2 ?_
        go_quiet (fail)
        generalize nq = q1 at *
        gi_wp2
        refine wpIn_wide.2 ?_
        go_quiet (fail)
        generalize nq = q2 at *
        obtain ⟨fn, tmps, assign, body, hy, hR⟩ := HYI.out (wr.drewN (q1 + q2)) (drewN_below wr _)
        dsimp only [owV] at hy
        have HR := Lib.hid hR
        clear hR
        gi_wp2
        refine HR.out.mono ?_
        rintro e W3 (⟨rfl, hJ3, hk3, hz3⟩ | ⟨rfl, hJx3⟩)
        · have HJ3 := Lib.hid hJ3
          have HK3 := Lib.hid (kpS_t HKP.out hk3)
          clear hJ3 hk3 HR HYI
          gi_wp2
          go_roundw
          case rel => exact ⟨i + 1, j, pre ++ [(x, true, false)], by simp, by simp, by omega, by omega, by simp; omega, Lib.hid (by rw [← HP.out, HEQ.out]; simp), HJ3, HK3.out, hz3⟩
          case measure => simp [intOf]; omega
        · have HJ3 := Lib.hid hJx3
          clear hJx3 HR HYI
          gi_wp2
          refine bodyPost_ret (results_none rfl _ _ _) rfl ?_
          exact ⟨⟨_, rfl⟩, .inr ⟨pre ++ [(x, true, false)], ⟨MD (i + 1) (j), by rw [← HP.out, HEQ.out]; simp⟩, HJ3.out⟩⟩
    · by_cases hjb : j < lb
      · obtain ⟨bb, ob, rfl, xb⟩ := HRB.out j hjb
        have zb := xb _ HKP.out.1
        clear xb
        have HEQ := Lib.hid (HM.out.2.1 (by omega) hjb)
        have HYI := Lib.hid (fun w3 (hb3 : Below wr.heap.size wr w3) => HHY.out pre (BB j 0, false, true) wr w3 HJ.out HSZ.out (by omega) hb3)
        clear HM HHY
        generalize BB j 0 = y at *
        have f1 : ((j : Int) == (lb : Int)) = false := by rw [beq_eq_false_iff_ne]; omega
        have f2 : ((i : Int) == (la : Int)) = true := by rw [beq_iff_eq]; omega
        have f5 : decide ((i : Int) < (la : Int)) = false := by rw [decide_eq_false_iff_not]; omega
        gi_wp2
        refine wpIn_wide.2 ?_
        go_quiet (fail)
        generalize nq = q1 at *
        gi_wp2
        refine wpIn_wide.2 ?_
        go_quiet (fail)
        generalize nq = q2 at *
        obtain ⟨fn, tmps, assign, body, hy, hR⟩ := HYI.out (wr.drewN (q1 + q2)) (drewN_below wr _)
        dsimp only [owV] at hy
        have HR := Lib.hid hR
        clear hR
        gi_wp2
        refine HR.out.mono ?_
        rintro e W3 (⟨rfl, hJ3, hk3, hz3⟩ | ⟨rfl, hJx3⟩)
        · have HJ3 := Lib.hid hJ3
          have HK3 := Lib.hid (kpS_t HKP.out hk3)
          clear hJ3 hk3 HR HYI
          gi_wp2
          go_roundw
          case rel => exact ⟨i, j + 1, pre ++ [(y, false, true)], by simp, by simp, by omega, by omega, by simp; omega, Lib.hid (by rw [← HP.out, HEQ.out]; simp), HJ3, HK3.out, hz3⟩
          case measure => simp [intOf]; omega
        · have HJ3 := Lib.hid hJx3
          clear hJx3 HR HYI
          gi_wp2
          refine bodyPost_ret (results_none rfl _ _ _) rfl ?_
          exact ⟨⟨_, rfl⟩, .inr ⟨pre ++ [(y, false, true)], ⟨MD (i) (j + 1), by rw [← HP.out, HEQ.out]; simp⟩, HJ3.out⟩⟩
      · have HEQ := Lib.hid (HM.out.2.2.2.2.2 (by omega) (by omega))
        clear HM HHY
        gi_wp2
        go_end0
        exact ⟨⟨_, rfl⟩, .inl ⟨pre, by rw [← HP.out, HEQ.out, List.append_nil], HJ.out⟩⟩

/-- Both lists together, one after the other. -/
theorem merge_stops (n : Nat) (hn : 1 ≤ n) (Ba Bb n₀ : Nat) (S : Nat → Prop) (hSa : S Ba) (hSb : S Bb) (A B : Option Addr) (ca cb : Nat) (a b : List Nat) (hla : a.length ≤ 1000000) (hlb : b.length ≤ 1000000) (w : World) (hS : ∀ i, S i → i < w.heap.size) (hn0 : n₀ ≤ w.heap.size)
    (hra : Row w n₀ A (qvs a)) (hrb : Row w n₀ B (qvs b)) (hba : Go.Boxed w Ba 22 (.slice A a.length ca)) (hbb : Go.Boxed w Bb 22 (.slice B b.length cb)) :
    SeqStopsK Fence.wide n Tryz.prog 60 #[.pointer (some ⟨Ba, 0, none⟩), .pointer (some ⟨Bb, 0, none⟩)] owV (KpS S n₀) (fun ys => ys = mg a b) (fun pre => pre <+: mg a b) (a.length + b.length) w :=
  fun l J Jx W hW hJ _ hY h0 => merge1_in n hn W l Ba Bb n₀ S hSa hSb (fun i hi => Nat.lt_of_lt_of_le (hS i hi) hW.size) A B ca cb a b hla hlb J Jx (Nat.le_trans hn0 hW.size) hJ hY (hra.below (hW.mono hn0)) (hrb.below (hW.mono hn0))
    (show Go.Boxed W Ba _ _ from (hW.block Ba hba.lt).trans hba) (show Go.Boxed W Bb _ _ from (hW.block Bb hbb.lt).trans hbb) h0
end Rgn
end Go.Proofs.YtgophgnfiboefaaGreatDoor

import Derived.Test.YtpmmbbaigfjhnaaMatc
import Derived.RangeFuncNested
import Derived.RangeFuncBound
import Derived.RangeFuncCalls
import Derived.RangeFuncLeaves
import Derived.Shelf.Abstract
import Derived.Shelf.RegionOpen
import Derived.OwnWalkIn
import Derived.TacticsInMore
import Derived.LoopNIn
import Derived.LoopIn
namespace Go.Proofs.Ytpmmbbaigfjhnaa
open Go.RowKit Go.Shelf Wire
set_option linter.unusedVariables false
set_option linter.unusedSimpArgs false
attribute [local go_sem] Oper.semAt_some
namespace Txt

/-- What a part of a pattern is like. -/
def Good (q : Pt) : Prop := 1 ≤ q.src.length ∧ q.src.length ≤ 1000000 ∧ (q.kind = 1 → q.src.length = 2)
abbrev GPt := { q : Pt // Good q }

theorem good_part (s : ByteArray) (hs : s.size ≤ 1000000) (i : Nat) (h : i < s.size) : Good (partOf s i h) := by
  have hp := src_pos s i h
  refine ⟨hp.1, by omega, fun hk => ?_⟩
  unfold partOf part at hk ⊢
  split
  · rename_i h92
    rw [if_pos h92] at hk
    cases hd : (bl s).drop (i + 1) with
    | nil => rw [hd] at hk; simp at hk
    | cons d r => simp
  · rename_i h92
    rw [if_neg h92] at hk
    split
    · rename_i h42
      rw [if_pos h42] at hk
      simp at hk
    · rename_i h42
      rw [if_neg h42] at hk
      split
      · rename_i h63
        rw [if_pos h63] at hk
        simp at hk
      · rename_i h63
        rw [if_neg h63] at hk
        split
        · rename_i h91
          rw [if_pos h91] at hk
          split
          · rename_i q hq
            rw [hq] at hk
            have := clsOf_shape hq
            simp only at hk
            omega
          · rename_i hq
            rw [hq] at hk
            simp at hk
        · rename_i h91
          rw [if_neg h91] at hk
          simp at hk

theorem part_at' (p : ByteArray) (i : Nat) (h : i < p.size) : parse ((bl p).drop i) = partOf p i h :: parse ((bl p).drop (i + (partOf p i h).src.length)) := by
  rw [drop_at h, parse_cons, ← drop_at h, List.drop_drop]
  rfl

set_option maxHeartbeats 400000 in
theorem parts_any (p : ByteArray) (w : World) :
    Calls Try.prog 41 #[.string p] w fun e w' => e = .returned (.func (.func 47) #[] #[.pointer (some ⟨w.heap.size, 0, none⟩)]) ∧ w' = w.alloc (.cells #[.string p] 9) := by
  go_enter Try.func41, Try.ntmps41
  go_wp2_with fail
  go_ret
  exact ⟨rfl, rfl⟩

/-- A box with a part of a pattern, or with a string. -/
def Pin (W : World) (i : Nat) : Prop := ∃ (cs : Array Value) (t : TypeId) (fr : Nat × Nat), W.heap[i]? = some (.cells cs t fr) ∧ ((∃ (k : Int) (a b : ByteArray), cs = #[.int .i64 k, .string a, .string b]) ∨ ∃ a : ByteArray, cs = #[.string a])
theorem Pin.same {A B : World} {i : Nat} (h : Pin A i) (e : B.heap[i]? = A.heap[i]?) : Pin B i := by
  obtain ⟨cs, t, fr, hh, hp⟩ := h
  exact ⟨cs, t, fr, e.trans hh, hp⟩
theorem Pin.inside {A : World} {i : Nat} (h : Pin A i) : i < A.heap.size := by
  obtain ⟨cs, t, fr, hh, hp⟩ := h
  exact (Array.getElem?_eq_some_iff.1 hh).1
/-- What lay below a block lies as it lay, and so do all such boxes. -/
def KpP (n₀ : Nat) (A B : World) : Prop := Below n₀ A B ∧ ∀ i, Pin A i → B.heap[i]? = A.heap[i]?
theorem kpP_t {n₀ : Nat} {A B C : World} (h : KpP n₀ A B) (k : KpP n₀ B C) : KpP n₀ A C :=
  ⟨h.1.trans k.1, fun i hi => (k.2 i (hi.same (h.2 i hi))).trans (h.2 i hi)⟩
theorem kpP_b {n₀ : Nat} {w : World} (hn : n₀ ≤ w.heap.size) (W : World) (l : Nat) (o o' : Obj) (hl : w.heap.size ≤ l) (h : W.heap[l]? = some o) (h1 : o.isCells = false) (h2 : o.isWalk = false) : KpP n₀ W (W.putObj l o') :=
  ⟨belowK_b hn W l o o' hl h h1 h2, fun i ⟨cs, t, fr, hh, _⟩ => World.putObj_heap_other (fun e => by subst e; rw [hh] at h; cases h; cases h1)⟩
theorem kpP_refl (n₀ : Nat) (W : World) : KpP n₀ W W := ⟨Below.refl _ _, fun _ _ => rfl⟩
theorem kpP_alloc {n₀ : Nat} {W : World} (h : n₀ ≤ W.heap.size) (o : Obj) : KpP n₀ W (W.alloc o) :=
  ⟨(Below.refl _ _).alloc h _, fun i hi => Below.heap_alloc W o i hi.inside⟩
theorem kpP_grown {n₀ : Nat} {W W' : World} {row : Option Nat} (hg : W.grownBy W' row) (h0 : n₀ ≤ W.heap.size) (hr : ∀ g, row = some g → n₀ ≤ g ∧ ¬ Pin W g) : KpP n₀ W W' :=
  ⟨(Below.refl n₀ W).grown hg h0 fun g e => (hr g e).1, fun i hi => hg.block i hi.inside (fun e => (hr i e.symm).2 hi)⟩

theorem grown_of {w w' : World} (h : Below w.heap.size w w') : w.grownBy w' none := below_none h none

set_option maxRecDepth 100000 in
set_option maxHeartbeats 2000000 in
theorem parts1_in (n : Nat) (hn : 1 ≤ n) (l Bp n₀ : Nat) (p : ByteArray) (hp : p.size ≤ 1000000) (J Jx : List GPt → World → Prop) (W : World) (hn0 : n₀ ≤ W.heap.size) (hJ : AbidesFrom W.heap.size J)
    (hY : ∀ pre x W1, J pre W1 → pre.length < p.size → YieldAt Fence.wide (n - 1) Try.prog l #[ptV x.1] W1 fun e W' =>
      (e = .returned (.bool true) ∧ J (pre ++ [x]) W' ∧ KpP n₀ W1 W') ∨ (e = .returned (.bool false) ∧ Jx (pre ++ [x]) W'))
    (hc : Blk W Bp 9 #[.string p]) (h0 : J [] W) :
    CallsIn Fence.wide n Try.prog 47 #[.func (.yield l) #[] #[], .pointer (some ⟨Bp, 0, none⟩)] W fun e W' => (∃ v, e = .returned v) ∧
      ((∃ ys : List GPt, ys.map (·.1) = parse (bl p) ∧ J ys W') ∨ (∃ pre : List GPt, pre.map (·.1) <+: parse (bl p) ∧ Jx pre W')) := by
  refine callsIn_of_wp Try.func47 rfl trivial ?_ rfl
  have hc0 := hc.at 0
  simp only [Try.ntmps47, List.size_toArray, List.length_cons, List.length_nil, Nat.reduceAdd, Nat.reduceSub, Array.replicate_succ, Array.replicate_zero, List.push_toArray, List.append_toArray, List.nil_append, List.cons_append]
  gi_wp2_with (refine ⟨trivial, ?_⟩; gi_at_call 36; refine (callsIn_wide.2 (last_any p (by omega) _)).mono ?_; rintro e w' ⟨z, rfl, hz, rfl⟩)
  have HZ := Lib.hid hz
  clear hz
  gi_loopw [4] (fun iv wr => ∃ (k : Nat) (pre : List GPt), iv = .int .i64 k ∧ k ≤ p.size ∧ pre.length ≤ k ∧ Hid (pre.map (·.1) ++ parse ((bl p).drop k) = parse (bl p)) ∧ J pre wr ∧ Below n₀ W wr ∧ Hid (Blk wr Bp 9 #[.string p]))
    (fun iv _ => p.size - (intOf iv).toNat)
  case atStart => exact ⟨0, [], rfl, Nat.zero_le _, Nat.le_refl _, Lib.hid rfl, h0, Below.refl _ _, Lib.hid hc⟩
  case round =>
    clear hc0
    obtain ⟨k, pre, rfl, hk, hpk, HP, hJs, hbel, HBk⟩ := hrel
    have hcell : wr.cell? ⟨Bp, 0, none⟩ = some (.string p) := HBk.out.at 0
    by_cases hlt : k < p.size
    · have hsp := src_pos p k hlt
      have HC := Lib.hid (partAt_any p (by omega) k hlt z HZ.out)
      have HN := Lib.hid (part_at' p k hlt)
      have HG := Lib.hid (good_part p hp k hlt)
      obtain ⟨q, hq⟩ : ∃ q, q = partOf p k hlt := ⟨_, rfl⟩
      rw [← hq] at HC hsp HN HG
      clear hq
      have HY : Hid (∀ w3, Below wr.heap.size wr w3 → YieldAt Fence.wide (n - 1) Try.prog l #[ptV q] (w3.alloc (.cells #[.int .i64 (q.kind : Nat), str q.src, str q.set] 49)) fun e W' =>
          (e = .returned (.bool true) ∧ J (pre ++ [⟨q, HG.out⟩]) W' ∧ KpP n₀ (w3.alloc (.cells #[.int .i64 (q.kind : Nat), str q.src, str q.set] 49)) W') ∨ (e = .returned (.bool false) ∧ Jx (pre ++ [⟨q, HG.out⟩]) W')) := by
        intro w3 hb3
        have hj : J pre (w3.alloc (.cells #[.int .i64 (q.kind : Nat), str q.src, str q.set] 49)) :=
          hJ _ _ _ none (hJ _ _ _ none hJs (grown_of hb3) (fun r e => by cases e)) (World.grownBy_alloc _ _ none) (fun r e => by cases e)
        exact hY pre ⟨q, HG.out⟩ _ hj (by omega)
      have hz0 : n₀ ≤ wr.heap.size := Nat.le_trans hn0 hbel.size
      obtain ⟨kd, a, b⟩ := q
      simp only at hsp
      gi_wp2_with (refine ⟨trivial, ?_⟩; gi_at_call 37; refine (callsIn_wide.2 (HC.out _)).mono ?_; rintro e w3 ⟨rfl, hb3⟩; obtain ⟨fn, tmps, assign, body, hy, hR⟩ := HY.out w3 hb3)
      have hpin : (w3.alloc (.cells #[.int .i64 (kd : Nat), str a, str b] 49)).heap[w3.heap.size]? = some (.cells #[.int .i64 (kd : Nat), str a, str b] 49 (0, 0)) := Go.heap_alloc_new w3 _
      refine hR.mono ?_
      rintro e W3 (⟨rfl, hJ3, hk3⟩ | ⟨rfl, hJx3⟩)
      · have hh := (hk3.2 w3.heap.size ⟨_, _, _, hpin, .inl ⟨_, _, _, rfl⟩⟩).trans hpin
        have hc1 : W3.cell? ⟨w3.heap.size, 1, none⟩ = some (str a) := cell_of_row W3 _ 1 _ _ _ hh
        have hb5 : Below n₀ W W3 := ((hbel.trans (hb3.mono hz0)).alloc (Nat.le_trans hz0 hb3.size) _).trans hk3.1
        have hbk3 : Blk (w3.alloc (.cells #[.int .i64 (kd : Nat), str a, str b] 49)) Bp 9 #[.string p] := (HBk.out.under hb3 HBk.out.inside).kept _
        have HB3 : Hid (Blk W3 Bp 9 #[.string p]) := Lib.hid ((hk3.2 Bp ⟨_, _, _, hbk3, .inr ⟨_, rfl⟩⟩).trans hbk3)
        have hc3 : W3.cell? ⟨Bp, 0, none⟩ = some (.string p) := HB3.out.at 0
        have HJ3 := Lib.hid hJ3
        clear hJ3 hk3 hh hpin hbk3
        gi_wp2
        go_roundw
        case rel =>
          refine ⟨k + a.length, pre ++ [⟨⟨kd, a, b⟩, HG.out⟩], by simp, by omega, by simp; omega, Lib.hid ?_, HJ3.out, hb5, HB3⟩
          rw [← HP.out, HN.out, List.map_append, List.append_assoc]
          rfl
        case measure => simp [intOf]; omega
      · gi_wp2
        refine bodyPost_ret (results_none rfl _ _ _) rfl ?_
        refine ⟨⟨_, rfl⟩, .inr ⟨pre ++ [⟨⟨kd, a, b⟩, HG.out⟩], ⟨parse ((bl p).drop (k + a.length)), ?_⟩, hJx3⟩⟩
        rw [← HP.out, HN.out, List.map_append, List.append_assoc]
        rfl
    · obtain rfl : k = p.size := by omega
      gi_wp2
      go_end0
      refine ⟨⟨_, rfl⟩, .inl ⟨pre, ?_, hJs⟩⟩
      rw [← HP.out, drop_end (Nat.le_refl _), parse_nil, List.append_nil]

/-- The parts of a pattern, one after the other. -/
theorem parts_stops (n : Nat) (hn : 1 ≤ n) (Bp n₀ : Nat) (p : ByteArray) (hp : p.size ≤ 1000000) (w : World) (hn0 : n₀ ≤ w.heap.size) (hc : Blk w Bp 9 #[.string p]) :
    SeqStopsK Fence.wide n Try.prog 47 #[.pointer (some ⟨Bp, 0, none⟩)] (fun x : GPt => #[ptV x.1]) (KpP n₀) (fun ys => ys.map (·.1) = parse (bl p)) (fun pre => pre.map (·.1) <+: parse (bl p)) p.size w :=
  fun l J Jx W hW hJ _ hY h0 => parts1_in n hn l Bp n₀ p hp J Jx W (Nat.le_trans hn0 hW.size) hJ hY (hc.under hW hc.inside) h0
end Txt
end Go.Proofs.Ytpmmbbaigfjhnaa

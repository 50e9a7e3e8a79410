/- Sorting a row of a statement's own; things that are cells; slices.Backward. -/
import Derived.Test.YtgophgnfiboefaaGreatDoorRpF
namespace Go.Proofs.YtgophgnfiboefaaGreatDoor
open Go.RowKit Go.Shelf Wire
open Txt (Row)
open Go.Proofs.YtgophgnfiboefaaGreatDoor.Own Flo
open Dsk (Only nth)
open Go.Sort (Holds putRow grow)
set_option linter.unusedVariables false
set_option linter.unusedSimpArgs false
attribute [local go_sem] Oper.semAt_some
namespace Rgn
/-! Sorted rows. -/
section
variable {α : Type} [Inhabited α]
theorem grownBy_put (enc : α → Value) {w : World} {g n : Nat} {os : Array Obj} (d : Array α) : w.grownBy (grow (putRow enc (Sort.ahead w n) g 0 d) os) (some g) := by
  refine ⟨rfl, rfl, rfl, by simp [Sort.ahead], fun k hk hne => ?_⟩
  rw [Sort.heap_grow_old _ _ (by simpa [Sort.ahead] using hk)]
  have : g ≠ k := fun e => hne (by rw [e])
  simp [putRow, Sort.mapBlock, Sort.ahead, Array.getElem?_modify, this]
/-- A row of one-cell elements whose cells have been put anew. -/
theorem Sp.put {W w : World} {T : List Thing} (h : Sp W w T) (i g n cap m : Nat) (enc : α → Value) (xs : List Value) (hi : T[i]? = some (RowT 1 (.slice (some ⟨g, 0, none⟩) n cap) n xs)) (d d' : Array α) (hx : xs = d.toList.map enc) (hs : d'.size = d.size) (os : Array Obj) :
    Sp W (grow (putRow enc (Sort.ahead w m) g 0 d') os) (T.set i (RowT 1 (.slice (some ⟨g, 0, none⟩) n cap) n (d'.toList.map enc))) := by
  refine h.turn i hi fun F hF hlt => ⟨F, ⟨?_, hF.2⟩, fun b hb => .inl hb, Only.of_grown (grownBy_put enc d') (.inl ((hF.2 g).2 rfl))⟩
  have hg := hF.1
  have hgb := hlt g ((hF.2 g).2 rfl)
  refine ⟨by have := hg.len; rw [hx] at this; simp at this ⊢; omega, ?_⟩
  rcases hg.form with ⟨e, _⟩ | ⟨g', cap', e, h1, h2, h3, h4, h5, h6, h7⟩
  · cases e
  · injection e with e1 _ e3
    injection e1 with e1
    injection e1 with e1 _ _
    subst e1 e3
    have hn : d.size = n := by have := hg.len; rw [hx] at this; simpa using this
    have H0 : Holds enc (Sort.ahead w m) g 0 d := fun j hj => by
      have hu : xs[j]? = some (enc d[j]!) := by
        rw [hx, List.getElem?_map, Array.getElem?_toList, Array.getElem?_eq_getElem hj, getElem!_pos d j hj]
        rfl
      rw [Nat.zero_add]
      exact ⟨h7 j _ hu, h6 j (by omega)⟩
    have hsz : g < (putRow enc (Sort.ahead w m) g 0 d').heap.size := by simpa [Sort.ahead] using hgb
    refine .inr ⟨g, cap, rfl, h1, by simp [Sort.ahead]; omega, h3, h4, fun j hj => ?_, fun j hj => ?_, fun j u hu => ?_⟩
    · rw [Sort.cell?_grow _ _ _ hsz]
      by_cases hjn : j < n
      · have := Sort.cell?_putRow enc (Sort.ahead w m) g 0 d d' H0 hs j (by omega)
        rw [Nat.zero_add] at this
        rw [this]
        rfl
      · rw [Sort.cell?_putRow_other _ _ _ _ _ _ (.inr (.inr (by simp; omega)))]
        exact h5 j hj
    · rw [Sort.frozen?_grow _ _ _ hsz, Sort.frozen?_putRow]
      exact h6 j hj
    · have hj : j < d'.size := by
        have := (List.getElem?_eq_some_iff.1 hu).1
        simpa using this
      rw [Sort.cell?_grow _ _ _ hsz]
      have := Sort.cell?_putRow enc (Sort.ahead w m) g 0 d d' H0 hs j hj
      rw [Nat.zero_add] at this
      rw [this, ← hu, List.getElem?_map, Array.getElem?_toList, Array.getElem?_eq_getElem hj, getElem!_pos d' j hj]
      rfl
end
theorem sort_any {W w : World} {T : List Thing} (h : Sp W w T) (i : Nat) (v : Value) (l : List Nat) (hi : T[i]? = some (RowT 1 v l.length (qvs l))) (hl : l.length ≤ 100000) :
    Calls Tryz.prog 47 #[v] w fun e w' => e = .returned (.tuple #[]) ∧ ∃ l' : List Nat, l'.Perm l ∧ l'.Pairwise (· ≤ ·) ∧ Sp W w' (T.set i (RowT 1 v l'.length (qvs l'))) := by
  rcases (h.grow i hi).form with ⟨rfl, h0⟩ | ⟨g, cap, rfl, h1, h2, h3, h4, h5, h6, h7⟩
  · obtain rfl : l = [] := List.eq_nil_of_length_eq_zero h0
    refine (Tryz.slices_Sort_int_none none 0 w).mono ?_
    rintro e w' ⟨rfl, rfl⟩
    refine ⟨rfl, [], List.Perm.refl _, List.Pairwise.nil, ?_⟩
    have : T.set i (RowT 1 (.slice none 0 0) ([] : List Nat).length (qvs [])) = T := by
      refine List.ext_getElem? fun j => ?_
      rw [List.getElem?_set]
      by_cases e : i = j
      · subst e
        rw [if_pos rfl, if_pos (List.getElem?_eq_some_iff.1 hi).1, hi]
      · rw [if_neg e]
    rw [this]
    exact h
  · have H0 : Holds (Value.int .i64) w g 0 (ivn l).toArray := fun j hj => by
      have hj' : j < l.length := by simpa using hj
      rw [Nat.zero_add]
      refine ⟨?_, h6 j (by omega)⟩
      rw [h7 j (.int .i64 (l[j] : Nat)) (by rw [List.getElem?_map, List.getElem?_eq_getElem hj']; rfl)]
      rw [getElem!_pos (ivn l).toArray j hj]
      simp
    have hlen : (ivn l).length = l.length := by simp
    have hc := Tryz.slices_Sort_int g 0 cap (ivn l) w H0 h2 (by omega)
    rw [hlen] at hc
    refine hc.mono ?_
    rintro e w' ⟨rfl, m, os, rfl⟩
    obtain ⟨s, hs⟩ : ∃ s, s = (ivn l).mergeSort fun x y => decide (x ≤ y) := ⟨_, rfl⟩
    have hp : s.Perm (ivn l) := by rw [hs]; exact List.mergeSort_perm _ _
    have ho : s.Pairwise (· ≤ ·) := by
      have := List.pairwise_mergeSort (le := fun x y : Int => decide (x ≤ y)) (fun a b c h1 h2 => by simp at h1 h2 ⊢; omega) (fun a b => by simp; omega) (ivn l)
      rw [← hs] at this
      exact this.imp fun h => by simpa using h
    rw [← hs]
    have he : s = ivn (s.map Int.toNat) := by
      unfold ivn
      rw [List.map_map]
      have : ∀ x ∈ s, ((fun c : Nat => (c : Int)) ∘ Int.toNat) x = x := fun x hx => by
        obtain ⟨k, _, rfl⟩ := List.mem_map.1 (hp.mem_iff.1 hx)
        simp
      rw [List.map_congr_left this, List.map_id']
    refine ⟨rfl, s.map Int.toNat, ?_, ?_, ?_⟩
    · have := hp.map Int.toNat
      rw [show (ivn l).map Int.toNat = l from by unfold ivn; rw [List.map_map]; exact (List.map_congr_left fun x _ => by simp).trans (List.map_id' l)] at this
      exact this
    · rw [List.pairwise_map]
      exact ho.imp fun h => by omega
    · have hq := Sp.put (α := Int) h i g l.length cap m (Value.int .i64) (qvs l) hi (ivn l).toArray s.toArray (by rw [List.toList_toArray]; exact (ivs_ivn l).symm) (by simp [hp.length_eq]) os
      rw [List.toList_toArray] at hq
      rw [show (s.map Int.toNat).length = l.length from by rw [List.length_map, hp.length_eq, hlen], show qvs (s.map Int.toNat) = s.map (Value.int .i64) from by rw [← ivs_ivn, ← he]]
      exact hq

/-! Things that are cells. -/
def CellsT (t : Thing) : Prop := ∀ (w : World) F b, t.at_ w F → F b → ∃ o, w.heap[b]? = some o ∧ o.isCells = true
theorem cellsT_blk (b : Nat) (ty : TypeId) (cs : Array Value) : CellsT (BlkT b ty cs) := fun w F x h hx => by
  rw [(h.2 x).1 hx]
  exact ⟨_, h.1, rfl⟩
theorem cells_of_some {w : World} {g k : Nat} (h : (w.cell? ⟨g, k, none⟩).isSome = true) : ∃ o, w.heap[g]? = some o ∧ o.isCells = true := by
  unfold World.cell? at h
  cases hh : w.heap[g]? with
  | none => rw [hh] at h; simp at h
  | some o =>
    cases o with
    | cells c e fr => exact ⟨_, rfl, rfl⟩
    | _ => rw [hh] at h; simp at h
theorem cellsT_row (v : Value) (n : Nat) (xs : List Value) (h : 0 < n ∨ v = .slice none 0 0) : CellsT (RowT 1 v n xs) := fun w F x ht hx => by
  have hv := (ht.2 x).1 hx
  rcases ht.1.form with ⟨rfl, _⟩ | ⟨g, cap, rfl, h1, h2, h3, h4, h5, _⟩
  · cases hv
  · obtain rfl : g = x := by simpa [Value.ownBlock] using hv
    rcases h with h | h
    · exact cells_of_some (h5 0 (by omega))
    · cases h
theorem Sp.own {W w w' : World} {T : List Thing} {row : Option Nat} {B : Nat} (h : Sp W w T) (hc : ∀ t ∈ T, CellsT t) (hg : w.grownBy w' row) (hB : W.heap.size ≤ B) (hr : ∀ r, row = some r → B ≤ r ∧ ∃ o : Obj, w.heap[r]? = some o ∧ o.isCells = false) : Sp W w' T := by
  obtain ⟨hb, F, h1, h2, h3⟩ := h
  refine ⟨hb.trans ⟨hg.os, hg.tape, hg.output, hg.size, fun k hk => hg.block k (by have := hb.size; omega) fun e => by have := (hr k e.symm).1; omega⟩, F, fun i t ht => t.keep (h1 i t ht) (fun b hbF => ?_) hg.size, fun i b hi => ⟨(h2 i b hi).1, Nat.lt_of_lt_of_le (h2 i b hi).2 hg.size⟩, h3⟩
  refine hg.block b (h2 i b hbF).2 fun e => ?_
  obtain ⟨o, ho, hoc⟩ := hc t (List.mem_of_getElem? ht) w (F i) b (h1 i t ht) hbF
  obtain ⟨_, o', ho', hoc'⟩ := hr b e.symm
  rw [ho] at ho'
  cases ho'
  rw [hoc] at hoc'
  cases hoc'

/-! slices.Backward. -/
/-- What lay below lies as it lay; a box and a row hold on. -/
def KpR (n₀ Bb : Nat) (bv : Value) (A : Option Addr) (L : List Nat) (X Y : World) : Prop :=
  Below n₀ X Y ∧ (Go.Boxed X Bb 22 bv → Go.Boxed Y Bb 22 bv) ∧ (Row X X.heap.size A (qvs L) → Row Y Y.heap.size A (qvs L))
theorem kpR_t {n₀ Bb : Nat} {bv : Value} {A : Option Addr} {L : List Nat} {X Y Z : World} (h : KpR n₀ Bb bv A L X Y) (k : KpR n₀ Bb bv A L Y Z) : KpR n₀ Bb bv A L X Z :=
  ⟨h.1.trans k.1, fun q => k.2.1 (h.2.1 q), fun q => k.2.2 (h.2.2 q)⟩
theorem kpR_refl (n₀ Bb : Nat) (bv : Value) (A : Option Addr) (L : List Nat) (X : World) : KpR n₀ Bb bv A L X X := ⟨Below.refl _ _, fun h => h, fun h => h⟩
theorem kpR_b {n₀ Bb : Nat} {bv : Value} {A : Option Addr} {L : List Nat} {w : World} (hn : n₀ ≤ w.heap.size) (W : World) (l : Nat) (o o' : Obj) (hl : w.heap.size ≤ l) (h : W.heap[l]? = some o) (h1 : o.isCells = false) (h2 : o.isWalk = false) : KpR n₀ Bb bv A L W (W.putObj l o') := by
  refine ⟨belowK_b hn W l o o' hl h h1 h2, fun q => ?_, fun q k u hu => ?_⟩
  · refine (World.putObj_heap_other (fun e => ?_)).trans q
    subst e
    rw [show W.heap[_]? = _ from q] at h
    cases h
    cases h1
  · obtain ⟨b, off, e, hb, hc⟩ := q k u hu
    refine ⟨b, off, e, by simpa using hb, ?_⟩
    obtain ⟨ob, hob, hcs⟩ := cells_of_some (w := W) (g := b) (k := off + k) (by rw [hc]; rfl)
    rw [← hc]
    have : (W.putObj l o').heap[b]? = W.heap[b]? := World.putObj_heap_other (fun e => by subst e; rw [h] at hob; cases hob; rw [h1] at hcs; cases hcs)
    simp only [World.cell?, this]
theorem kpR_below {n₀ Bb : Nat} {bv : Value} {A : Option Addr} {L : List Nat} {X Y : World} (hn : n₀ ≤ X.heap.size) (h : Below X.heap.size X Y) : KpR n₀ Bb bv A L X Y :=
  ⟨h.mono hn, fun q => boxed_below q h, fun q => q.lift h⟩
/-- Pairs of places and elements, backwards. -/
def bkw (L : List Nat) : List (Nat × Nat) := (List.range L.length).reverse.map fun i => (i, L.getD i 0)
theorem bkw_len (L : List Nat) : (bkw L).length = L.length := by simp [bkw]
theorem bkw_at {L : List Nat} {m : Nat} (h : m < L.length) : (bkw L)[m]? = some (L.length - 1 - m, L.getD (L.length - 1 - m) 0) := by
  unfold bkw
  rw [List.getElem?_map, List.getElem?_reverse (by simpa using h), List.length_range, List.getElem?_range (by omega)]
  rfl
abbrev NP (n : Nat) := { x : Nat × Nat // x.2 < n }
set_option maxHeartbeats 400000 in
theorem backward_any (A : Option Addr) (n c : Nat) (w : World) :
    Calls Tryz.prog 44 #[.slice A n c] w fun e w' => e = .returned (.func (.func 64) #[] #[.pointer (some ⟨w.heap.size, 0, none⟩)]) ∧ w' = w.alloc (.cells #[.slice A n c] 22) := by
  go_enter Tryz.func44, Tryz.ntmps44
  go_wp2_with fail
  go_ret
  exact ⟨rfl, rfl⟩
set_option maxRecDepth 100000 in
set_option maxHeartbeats 4000000 in
theorem back1_in (n : Nat) (hn : 1 ≤ n) (W : World) (l Bb n₀ N : Nat) (A : Option Addr) (cb : Nat) (L : List Nat) (hL : ∀ x ∈ L, x < N) (hlL : L.length ≤ 1000000) (J Jx : List (NP N) → World → Prop) (hn0 : n₀ ≤ W.heap.size) (hJ : AbidesFrom W.heap.size J)
    (hY : ∀ pre x W1, J pre W1 → pre.length < L.length → YieldAt Fence.wide (n - 1) Tryz.prog l #[.int .i64 (x.1.1 : Nat), .int .i64 (x.1.2 : Nat)] W1 fun e W' =>
      (e = .returned (.bool true) ∧ J (pre ++ [x]) W' ∧ KpR n₀ Bb (.slice A L.length cb) A L W1 W') ∨ (e = .returned (.bool false) ∧ Jx (pre ++ [x]) W'))
    (hb : Go.Boxed W Bb 22 (.slice A L.length cb)) (hr : Row W W.heap.size A (qvs L)) (h0 : J [] W) :
    CallsIn Fence.wide n Tryz.prog 64 #[.func (.yield l) #[] #[], .pointer (some ⟨Bb, 0, none⟩)] W fun e W' => (∃ v, e = .returned v) ∧
      ((∃ ys : List (NP N), ys.map (·.1) = bkw L ∧ J ys W') ∨ (∃ pre : List (NP N), pre.map (·.1) <+: bkw L ∧ Jx pre W')) := by
  refine callsIn_of_wp Tryz.func64 rfl trivial ?_ rfl
  have cb0 := hb.cell
  simp only [Tryz.ntmps64, List.size_toArray, List.length_cons, List.length_nil, Nat.reduceAdd, Nat.reduceSub, Array.replicate_succ, Array.replicate_zero, List.push_toArray, List.append_toArray, List.nil_append, List.cons_append]
  have HH : Hid (∀ (m k : Nat) (pre : List (NP N)), pre.map (·.1) = (bkw L).take m → k + 1 + m = L.length → ∃ h : L.getD k 0 < N, (pre ++ [(⟨(k, L.getD k 0), h⟩ : NP N)]).map (·.1) = (bkw L).take (m + 1)) := Lib.hid fun m k pre hp hm => by
    obtain rfl : k = L.length - 1 - m := by omega
    have hx : L.getD (L.length - 1 - m) 0 < N := by
      rw [List.getD_eq_getElem?_getD, List.getElem?_eq_getElem (by omega)]
      exact hL _ (List.getElem_mem _)
    refine ⟨hx, ?_⟩
    rw [List.map_append, hp, List.take_add_one, bkw_at (by omega)]
    rfl
  have HT : Hid ((bkw L).take L.length = bkw L) := Lib.hid (by rw [← bkw_len L, List.take_length])
  have HRV : Hid (∀ k w', k < L.length → Row w' w'.heap.size A (qvs L) → ∃ b o, A = some ⟨b, o, none⟩ ∧ w'.cell? ⟨b, o + k, none⟩ = some (.int .i64 (L.getD k 0 : Nat))) := Lib.hid fun k w' hk h => by
    obtain ⟨b, o, e, h1⟩ := row_valN h hk
    exact ⟨b, o, e, h1 w' (Below.refl _ _)⟩
  have HB := Lib.hid hb
  have HR := Lib.hid hr
  have H0 := Lib.hid h0
  have HY := Lib.hid hY
  have HLL := Lib.hid hlL
  have hL9 : (L.length : Int) ≤ 1000000 := by omega
  clear hb hr h0 hL hY hJ hlL
  gi_wp2
  gi_loopw [3] (fun iv wr => ∃ (m : Nat) (pre : List (NP N)), iv = .int .i64 ((L.length : Int) - 1 - m) ∧ m ≤ L.length ∧ Hid (pre.map (·.1) = (bkw L).take m) ∧ Hid (pre.length = m) ∧ Hid (J pre wr) ∧ KpR n₀ Bb (.slice A L.length cb) A L W wr) (fun iv _ => (intOf iv + 1).toNat)
  case atStart => exact ⟨0, [], by simp, Nat.zero_le _, Lib.hid rfl, Lib.hid rfl, H0, kpR_refl _ _ _ _ _ _⟩
  case round =>
    clear cb0 H0
    obtain ⟨m, pre, rfl, hm, HP, HPL, HJ, hk⟩ := hrel
    have hbx := hk.2.1 HB.out
    have hrx := hk.2.2 HR.out
    have cb1 := hbx.cell
    have HK := Lib.hid hk
    clear hk hbx
    by_cases hlt : m < L.length
    · obtain ⟨k, hkk⟩ : ∃ k, k = L.length - 1 - m := ⟨_, rfl⟩
      have e1 : (L.length : Int) - 1 - m = k := by omega
      rw [e1]
      have hkn : k < L.length := by omega
      obtain ⟨b, o, rfl, z⟩ := HRV.out k wr hkn hrx
      obtain ⟨hx, hpx⟩ := HH.out m k pre HP.out (by omega)
      obtain ⟨fn, tmps, assign, body, hy, hR⟩ := HY.out pre ⟨(k, L.getD k 0), hx⟩ wr HJ.out (by have := HPL.out; omega)
      have HR3 := Lib.hid hR
      have HPX := Lib.hid hpx
      have hk9 : (k : Int) < 1000000 := by have := HLL.out; omega
      have HKE : Hid ((k : Int) - 1 = (L.length : Int) - 1 - ((m + 1 : Nat) : Int)) := Lib.hid (by omega)
      clear hR hpx hrx HH hkk e1 HRV
      dsimp only at hy
      generalize L.getD k 0 = x at *
      gi_wp2
      refine HR3.out.mono ?_
      rintro e W3 (⟨rfl, hJ3, hk3⟩ | ⟨rfl, hJx3⟩)
      · have HJ3 := Lib.hid hJ3
        have HK3 := Lib.hid (kpR_t HK.out hk3)
        clear hJ3 hk3 HR3
        gi_wp2
        go_roundw
        case rel => exact ⟨m + 1, _, by rw [← HKE.out], hlt, HPX, Lib.hid (by rw [List.length_append, HPL.out]; rfl), HJ3, HK3.out⟩
        case measure => simp [intOf]
      · have HJ3 := Lib.hid hJx3
        clear hJx3 HR3
        gi_wp2
        refine bodyPost_ret (results_none rfl _ _ _) rfl ?_
        exact ⟨⟨_, rfl⟩, .inr ⟨_, by rw [HPX.out]; exact List.take_prefix _ _, HJ3.out⟩⟩
    · obtain rfl : m = L.length := by omega
      have e1 : (L.length : Int) - 1 - (L.length : Nat) = -1 := by omega
      rw [e1]
      clear hrx HH HRV
      gi_wp2
      go_end0
      exact ⟨⟨_, rfl⟩, .inl ⟨pre, by rw [HP.out, HT.out], HJ.out⟩⟩
/-- The elements, backwards. -/
theorem back_stops (n : Nat) (hn : 1 ≤ n) (Bb n₀ N : Nat) (A : Option Addr) (cb : Nat) (L : List Nat) (hL : ∀ x ∈ L, x < N) (hlL : L.length ≤ 1000000) (w : World) (hn0 : n₀ ≤ w.heap.size) (hb : Go.Boxed w Bb 22 (.slice A L.length cb)) (hr : Row w w.heap.size A (qvs L)) :
    SeqStopsK Fence.wide n Tryz.prog 64 #[.pointer (some ⟨Bb, 0, none⟩)] (fun x : NP N => #[.int .i64 (x.1.1 : Nat), .int .i64 (x.1.2 : Nat)]) (KpR n₀ Bb (.slice A L.length cb) A L) (fun ys => ys.map (·.1) = bkw L) (fun pre => pre.map (·.1) <+: bkw L) L.length w :=
  fun l J Jx W hW hJ _ hY h0 => back1_in n hn W l Bb n₀ N A cb L hL hlL J Jx (Nat.le_trans hn0 hW.size) hJ hY (boxed_below hb hW) (hr.lift hW) h0
end Rgn
end Go.Proofs.YtgophgnfiboefaaGreatDoor

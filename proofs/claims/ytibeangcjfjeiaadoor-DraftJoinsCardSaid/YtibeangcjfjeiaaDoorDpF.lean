/- What a token says at a place of a line. -/
import Derived.Test.YtibeangcjfjeiaaDoorMgP
namespace Go.Proofs.YtibeangcjfjeiaaDoor
open Go.RowKit Txt Wire Lx
set_option linter.unusedVariables false
set_option maxRecDepth 100000
set_option linter.unusedSimpArgs false
namespace Drf

/-- What a token says at a place. -/
def placeR (p : UInt8) (t : Tk) (y : It) : Option It :=
  if p = 110 ∨ p = 99 then (if t.kind = 0 then some { y with name := t.text } else none)
  else if p = 111 then (if t.kind = 0 then some { y with other := t.text } else none)
  else if p = 49 then (if t.kind = 1 then some { y with n := y.n ++ [t.n] } else none)
  else if p = 100 then (match dirOf t.text with | some d => if t.kind = 0 then some { y with n := y.n ++ [(d : Int)] } else none | none => none)
  else none
/-- An item at x whose numbers lie from K on. -/
def ItAt (w : World) (x K : Nat) (y : It) : Prop := x < K ∧ ∃ u, Blk w x 34 #[.int .i64 y.kind, .int .i64 y.line, str y.name, str y.other, u] ∧ Grow w K 1 u y.n.length (y.n.map (Value.int .i64))
abbrev FF (x K k : Nat) : Prop := k = x ∨ K ≤ k
/-- What fill says. -/
def FPost (w : World) (x K : Nat) (r : Option It) (e : Ending) (w' : World) : Prop := e = .returned (.bool r.isSome) ∧ Chg (FF x K) w w' ∧ ∀ y', r = some y' → ItAt w' x K y'
section
variable {w w' : World} {x K : Nat}
theorem fpost_some {y : It} {e : Ending} (he : e = .returned (.bool true)) (hc : Chg (FF x K) w w') (h : ItAt w' x K y) : FPost w x K (some y) e w' := ⟨he, hc, fun y' e => by cases e; exact h⟩
theorem fpost_none {e : Ending} (he : e = .returned (.bool false)) (hc : Chg (FF x K) w w') : FPost w x K none e w' := ⟨he, hc, fun y' e => by cases e⟩
theorem ItAt.chg {y : It} {F : Nat → Prop} (h : ItAt w x K y) (c : Chg F w w') (hF : ∀ k, F k → k < w.heap.size → False) : ItAt w' x K y := by
  obtain ⟨h0, u, h1, h2⟩ := h
  exact ⟨h0, u, c.blk h1 (fun hf => hF _ hf h1.inside), h2.keep c.size fun g hg => c.block g (h2.block g hg).2 fun hf => hF g hf (h2.block g hg).2⟩
end
/-- The world behind a store into an item. -/
theorem item_store {w : World} {x K : Nat} (hK : K ≤ w.heap.size) {o : Obj} {i : Nat} {v : Value} : Chg (FF x K) w ((w.setCell ⟨x, i, none⟩ v).alloc o) := (Chg.set (F := FF x K) (a := ⟨x, i, none⟩) (.inl rfl) v).trans (Chg.alloc o)
theorem item_store2 {w : World} {x K : Nat} (hK : K ≤ w.heap.size) {o : Obj} {i : Nat} {v : Value} : Chg (FF x K) w ((w.alloc o).setCell ⟨x, i, none⟩ v) := (Chg.alloc o).trans (Chg.set (F := FF x K) (a := ⟨x, i, none⟩) (.inl rfl) v)

set_option maxHeartbeats 2000000 in
theorem fill_name {w : World} {x K kd : Nat} {y : It} {s : ByteArray} {tn : Int} {ln : Nat} (h : ItAt w x K y) (hK : K ≤ w.heap.size) :
    Calls Tryd.prog 84 #[ptr x, .int .i32 110, .agg #[.int .i64 kd, .string s, .int .i64 tn, .int .i64 ln]] w (FPost w x K (if kd = 0 then some { y with name := bl s } else none)) := by
  obtain ⟨h0, u, h1, h2⟩ := h
  have hlt := h1.inside
  have f2 := h1.thaw 2
  have c2 : w.cell? ⟨x, 2, none⟩ = some (str y.name) := h1.at 2
  have HP : Hid (∀ o, ItAt ((w.setCell ⟨x, 2, none⟩ (.string s)).alloc o) x K { y with name := bl s }) := Lib.hid fun o => ⟨h0, u, (h1.put 2 (.string s)).kept o, (h2.keep (w' := w.setCell ⟨x, 2, none⟩ (.string s)) (by simp [World.setCell]) fun g hg => Below.heap_setCell _ _ _ _ (fun e => by have := (h2.block g hg).1; have e : g = x := e; omega)).alloc o⟩
  have HC := Lib.hid (fun o => item_store (w := w) (x := x) (K := K) hK (o := o) (i := 2) (v := .string s))
  clear h1 h2 h0
  generalize str y.name = yn at c2
  by_cases hk : kd = 0
  · subst hk
    rw [if_pos rfl]
    go_enter Tryd.func84, Tryd.ntmps84
    go_wp2_with fail
    go_ret
    exact fpost_some rfl (HC.out _) (HP.out _)
  · rw [if_neg hk]
    go_enter Tryd.func84, Tryd.ntmps84
    go_wp2_with fail
    go_ret
    exact fpost_none (congrArg (fun b => Ending.returned (.bool b)) (beq_eq_false_iff_ne.2 (by omega))) (HC.out _)
set_option maxHeartbeats 2000000 in
theorem fill_class {w : World} {x K kd : Nat} {y : It} {s : ByteArray} {tn : Int} {ln : Nat} (h : ItAt w x K y) (hK : K ≤ w.heap.size) :
    Calls Tryd.prog 84 #[ptr x, .int .i32 99, .agg #[.int .i64 kd, .string s, .int .i64 tn, .int .i64 ln]] w (FPost w x K (if kd = 0 then some { y with name := bl s } else none)) := by
  obtain ⟨h0, u, h1, h2⟩ := h
  have hlt := h1.inside
  have f2 := h1.thaw 2
  have c2 : w.cell? ⟨x, 2, none⟩ = some (str y.name) := h1.at 2
  have HP : Hid (∀ o, ItAt ((w.setCell ⟨x, 2, none⟩ (.string s)).alloc o) x K { y with name := bl s }) := Lib.hid fun o => ⟨h0, u, (h1.put 2 (.string s)).kept o, (h2.keep (w' := w.setCell ⟨x, 2, none⟩ (.string s)) (by simp [World.setCell]) fun g hg => Below.heap_setCell _ _ _ _ (fun e => by have := (h2.block g hg).1; have e : g = x := e; omega)).alloc o⟩
  have HC := Lib.hid (fun o => item_store (w := w) (x := x) (K := K) hK (o := o) (i := 2) (v := .string s))
  clear h1 h2 h0
  generalize str y.name = yn at c2
  by_cases hk : kd = 0
  · subst hk
    rw [if_pos rfl]
    go_enter Tryd.func84, Tryd.ntmps84
    go_wp2_with fail
    go_ret
    exact fpost_some rfl (HC.out _) (HP.out _)
  · rw [if_neg hk]
    go_enter Tryd.func84, Tryd.ntmps84
    go_wp2_with fail
    go_ret
    exact fpost_none (congrArg (fun b => Ending.returned (.bool b)) (beq_eq_false_iff_ne.2 (by omega))) (HC.out _)
set_option maxHeartbeats 2000000 in
theorem fill_other {w : World} {x K kd : Nat} {y : It} {s : ByteArray} {tn : Int} {ln : Nat} (h : ItAt w x K y) (hK : K ≤ w.heap.size) :
    Calls Tryd.prog 84 #[ptr x, .int .i32 111, .agg #[.int .i64 kd, .string s, .int .i64 tn, .int .i64 ln]] w (FPost w x K (if kd = 0 then some { y with other := bl s } else none)) := by
  obtain ⟨h0, u, h1, h2⟩ := h
  have hlt := h1.inside
  have f2 := h1.thaw 3
  have c2 : w.cell? ⟨x, 3, none⟩ = some (str y.other) := h1.at 3
  have HP : Hid (∀ o, ItAt ((w.setCell ⟨x, 3, none⟩ (.string s)).alloc o) x K { y with other := bl s }) := Lib.hid fun o => ⟨h0, u, (h1.put 3 (.string s)).kept o, (h2.keep (w' := w.setCell ⟨x, 3, none⟩ (.string s)) (by simp [World.setCell]) fun g hg => Below.heap_setCell _ _ _ _ (fun e => by have := (h2.block g hg).1; have e : g = x := e; omega)).alloc o⟩
  have HC := Lib.hid (fun o => item_store (w := w) (x := x) (K := K) hK (o := o) (i := 3) (v := .string s))
  clear h1 h2 h0
  generalize str y.other = yn at c2
  by_cases hk : kd = 0
  · subst hk
    rw [if_pos rfl]
    go_enter Tryd.func84, Tryd.ntmps84
    go_wp2_with fail
    go_ret
    exact fpost_some rfl (HC.out _) (HP.out _)
  · rw [if_neg hk]
    go_enter Tryd.func84, Tryd.ntmps84
    go_wp2_with fail
    go_ret
    exact fpost_none (congrArg (fun b => Ending.returned (.bool b)) (beq_eq_false_iff_ne.2 (by omega))) (HC.out _)

/-- What fill reads of an item and a token. -/
structure FillIn (w : World) (x r : Nat) (u : Value) (tn : Int) : Prop where
  c4 : w.cell? ⟨x, 4, none⟩ = some u
  r2 : w.cell? ⟨r, 2, none⟩ = some (.int .i64 tn)
set_option maxHeartbeats 4000000 in
theorem fill_number {w : World} {x K kd : Nat} {y : It} {s : ByteArray} {tn : Int} {ln : Nat} (h : ItAt w x K y) (hK : K ≤ w.heap.size) (hn : y.n.length ≤ 100) :
    Calls Tryd.prog 84 #[ptr x, .int .i32 49, .agg #[.int .i64 kd, .string s, .int .i64 tn, .int .i64 ln]] w (FPost w x K (if kd = 1 then some { y with n := y.n ++ [tn] } else none)) := by
  obtain ⟨h0, u, h1, h2⟩ := h
  have hlt := h1.inside
  obtain ⟨Au, cu, rfl⟩ := h2.slice
  have H1 := Lib.hid h1
  have H2 := Lib.hid h2
  have H0 := Lib.hid h0
  obtain ⟨i0, hi0, hi1, hi2, hi3⟩ := info_parts info_int
  clear h1 h2
  generalize hns : y.n.length = n at *
  have HNS := Lib.hid hns
  clear hns
  go_enter Tryd.func84, Tryd.ntmps84
  go_upto_region 10 with (fail)
  have hb1 : Blk (w.alloc (.cells #[.int .i64 kd, .string s, .int .i64 tn, .int .i64 ln] 42)) x 34 #[.int .i64 y.kind, .int .i64 y.line, str y.name, str y.other, .slice Au n cu] := H1.out.kept _
  have hq : Blk (w.alloc (.cells #[.int .i64 kd, .string s, .int .i64 tn, .int .i64 ln] 42)) w.heap.size 42 #[.int .i64 kd, .string s, .int .i64 tn, .int .i64 ln] := Blk.fresh w _ _
  have hgw : Grow (w.alloc (.cells #[.int .i64 kd, .string s, .int .i64 tn, .int .i64 ln] 42)) K 1 (.slice Au n cu) n (y.n.map (Value.int .i64)) := H2.out.alloc _
  have hcw : Chg (FF x K) w (w.alloc (.cells #[.int .i64 kd, .string s, .int .i64 tn, .int .i64 ln] 42)) := Chg.alloc _
  have hsw : (w.alloc (.cells #[.int .i64 kd, .string s, .int .i64 tn, .int .i64 ln] 42)).heap.size = w.heap.size + 1 := by simp
  generalize (w.alloc (.cells #[.int .i64 kd, .string s, .int .i64 tn, .int .i64 ln] 42)) = wa at *
  have HSW := Lib.hid hsw
  clear hsw
  have HI : Hid (FillIn wa x w.heap.size (.slice Au n cu) tn) := Lib.hid ⟨hb1.at 4, hq.at 2⟩
  refine Dsk.wp_region_late (fun w' => FillIn w' x w.heap.size (.slice Au n cu) tn) [0, 1, 2, 3, 4, 5, 6] [7, 8, 9, 10] [11] (by kernel_rfl) (by decide +kernel) (by decide +kernel) ⟨HI.out.c4, HI.out.r2⟩ ?_
  repeat refine Dsk.RD.next rfl rfl (by intro w' ⟨c4, r2⟩; go_simp; with_reducible rfl) ?_
  refine Dsk.RD.done ?_
  refine Dsk.CHW.next rfl rfl fun Kc hK => ?_
  go_simp
  have hi2 : FillIn (wa.alloc (.cells #[.int .i64 tn] 3)).drew x w.heap.size (.slice Au n cu) tn := ⟨(hb1.kept _).at 4, (hq.kept _).at 2⟩
  refine hK _ _ hi2 ?_
  clear hK hi2
  refine Dsk.CHW.next rfl rfl fun Kc hK => ?_
  refine wp_append_src _ _ _ _ _ rfl K 3 i0 _ 1 8 Tryd.underlying32 hi0 hi1 hi2 hi3 rfl (by omega) _ n (y.n.map (Value.int .i64)) rfl (hgw.alloc _).drew _ 1 [.int .i64 tn] rfl (Src.ofSlice _ Tryd.underlying32 ⟨wa.heap.size, 0, none⟩ 1 1 _ rfl (new_cells wa _ _) (by simp [Value.oneCell'])) (by unfold maxLen; omega) (by omega) (by have := HSW.out; simp; omega) ?_
  intro v6 w6 hown6 hgr6 hnear
  obtain ⟨A6, cp6, rfl⟩ := hown6.slice
  have hgr : wa.grownBy w6 (Value.slice Au n cu).ownBlock := grown_trans (below_none (Below.drew ((Below.refl _ wa).alloc (Nat.le_refl _) (.cells #[.int .i64 tn] 3))) _) hgr6
  have hown : ∀ g, (Value.slice Au n cu).ownBlock = some g → K ≤ g ∧ g < w.heap.size := fun g e => H2.out.block g e
  have hb6 : Blk w6 x 34 #[.int .i64 y.kind, .int .i64 y.line, str y.name, str y.other, .slice Au n cu] := hb1.past hgr fun e => by have := hown x e.symm; omega
  have hq6 : Blk w6 w.heap.size 42 #[.int .i64 kd, .string s, .int .i64 tn, .int .i64 ln] := hq.past hgr fun e => by have := hown _ e.symm; omega
  have i6 : FillIn w6 x w.heap.size (.slice Au n cu) tn := ⟨hb6.at 4, hq6.at 2⟩
  have f6 := hb6.thaw 4
  have e6 := i6.c4
  refine hK _ _ i6 ?_
  clear hK
  have hb7 := hb6.put 4 (.slice A6 (n + 1) cp6)
  have hq7 : Blk (w6.setCell ⟨x, 4, none⟩ (.slice A6 (n + 1) cp6)) w.heap.size 42 #[.int .i64 kd, .string s, .int .i64 tn, .int .i64 ln] := hq6.aside (p := ⟨x, 4, none⟩) (by show w.heap.size ≠ x; omega) _
  have hc7 : Chg (FF x K) w (w6.setCell ⟨x, 4, none⟩ (.slice A6 (n + 1) cp6)) := (hcw.trans (Chg.ofGrown hgr fun g e => .inr (hown g e).1)).trans (Chg.set (a := ⟨x, 4, none⟩) (.inl rfl) _)
  have hg7 : Grow (w6.setCell ⟨x, 4, none⟩ (.slice A6 (n + 1) cp6)) K 1 (.slice A6 (n + 1) cp6) (n + 1) (y.n.map (Value.int .i64) ++ [.int .i64 tn]) := hown6.keep (by simp [World.setCell]) fun g hg => Below.heap_setCell _ _ _ _ (fun e => by have := (hown6.block g hg).1; have e : g = x := e; omega)
  have HC := Lib.hid hc7
  have HY : Hid (ItAt (w6.setCell ⟨x, 4, none⟩ (.slice A6 (n + 1) cp6)) x K { y with n := y.n ++ [tn] }) := Lib.hid ⟨h0, _, hb7, by rw [List.length_append, HNS.out, List.map_append]; exact hg7⟩
  have t0 : (w6.setCell ⟨x, 4, none⟩ (.slice A6 (n + 1) cp6)).cell? ⟨w.heap.size, 0, none⟩ = some (.int .i64 kd) := hq7.at 0
  clear hgr6 hnear hgr hown hb7 hq7 hc7 hg7 hown6 hb1 hq hgw hcw hb6 hq6
  refine Dsk.CHW.next rfl rfl fun Kc hK => ?_
  go_simp
  refine hK _ _ i6 ?_
  clear hK
  refine Dsk.CHW.next rfl rfl fun Kc hK => ?_
  go_simp
  refine hK _ _ i6 ?_
  clear hK
  refine Dsk.CHW.done ?_
  refine Dsk.CH.next rfl rfl fun Kc hK => ?_
  go_simp
  refine hK _ _ trivial ?_
  clear hK
  refine Dsk.CH.done (NoPanic.normal ?_)
  generalize w6.setCell ⟨x, 4, none⟩ (.slice A6 (n + 1) cp6) = w7 at *
  by_cases hk : kd = 1
  · subst hk
    rw [if_pos rfl]
    go_wp2_with fail
    go_ret
    exact fpost_some rfl HC.out HY.out
  · rw [if_neg hk]
    go_wp2_with fail
    go_ret
    exact fpost_none (congrArg (fun b => Ending.returned (.bool b)) (beq_eq_false_iff_ne.2 (by omega))) HC.out
set_option maxHeartbeats 4000000 in
theorem fill_dir {w : World} {x K kd : Nat} {y : It} {s : ByteArray} {tn : Int} {ln : Nat} (hv : VD w) (h : ItAt w x K y) (hK : K ≤ w.heap.size) (hn : y.n.length ≤ 100) :
    Calls Tryd.prog 84 #[ptr x, .int .i32 100, .agg #[.int .i64 kd, .string s, .int .i64 tn, .int .i64 ln]] w (FPost w x K (match dirOf (bl s) with | some d => if kd = 0 then some { y with n := y.n ++ [(d : Int)] } else none | none => none)) := by
  have HD : Hid (∀ o, Calls Tryd.prog 93 #[.string s] (w.alloc o) fun e w' => e = .returned (.int .i64 (dirI (bl s))) ∧ w.alloc o = w') := Lib.hid fun o => pdir_any s _ (hv.lift (below_more w o))
  cases hd : dirOf (bl s) with
  | none =>
    have e : dirI (bl s) = -1 := by unfold dirI; rw [hd]
    rw [e] at HD
    have HC : Hid (∀ o, Chg (FF x K) w (w.alloc o)) := Lib.hid fun o => Chg.alloc o
    clear hd e h hv
    go_enter Tryd.func84, Tryd.ntmps84
    go_wp2_with (go_at_call 93; go_must (
      refine (HD.out _).mono ?_; rintro e w1 ⟨rfl, rfl⟩))
    go_ret
    exact fpost_none rfl (HC.out _)
  | some d =>
    have e : dirI (bl s) = d := by unfold dirI; rw [hd]
    rw [e] at HD
    obtain ⟨h0, u, h1, h2⟩ := h
    have hlt := h1.inside
    obtain ⟨Au, cu, rfl⟩ := h2.slice
    have H1 := Lib.hid h1
    have H2 := Lib.hid h2
    have H0 := Lib.hid h0
    obtain ⟨i0, hi0, hi1, hi2, hi3⟩ := info_parts info_int
    generalize hns : y.n.length = n at *
    have HNS := Lib.hid hns
    have hd0 : ¬ ((d : Int) < 0) := by omega
    have hb1 : Blk (w.alloc (.cells #[.int .i64 kd, .string s, .int .i64 tn, .int .i64 ln] 42)) x 34 #[.int .i64 y.kind, .int .i64 y.line, str y.name, str y.other, .slice Au n cu] := h1.kept _
    have hq : Blk (w.alloc (.cells #[.int .i64 kd, .string s, .int .i64 tn, .int .i64 ln] 42)) w.heap.size 42 #[.int .i64 kd, .string s, .int .i64 tn, .int .i64 ln] := Blk.fresh w _ _
    have hgw : Grow (w.alloc (.cells #[.int .i64 kd, .string s, .int .i64 tn, .int .i64 ln] 42)) K 1 (.slice Au n cu) n (y.n.map (Value.int .i64)) := h2.alloc _
    have hcw : Chg (FF x K) w (w.alloc (.cells #[.int .i64 kd, .string s, .int .i64 tn, .int .i64 ln] 42)) := Chg.alloc _
    have hsw : (w.alloc (.cells #[.int .i64 kd, .string s, .int .i64 tn, .int .i64 ln] 42)).heap.size = w.heap.size + 1 := by simp
    have HHD := HD.out (.cells #[.int .i64 kd, .string s, .int .i64 tn, .int .i64 ln] 42)
    have c4 : w.cell? ⟨x, 4, none⟩ = some (.slice Au n cu) := h1.at 4
    have HHW := Lib.hid (And.intro hgw (And.intro hcw (And.intro hsw (And.intro hb1 hq))))
    have HDD := Lib.hid HHD
    clear hd e hv h1 h2 hns HHD hgw hcw hsw hb1 hq
    go_enter Tryd.func84, Tryd.ntmps84
    go_wp2_with (first
      | (go_at_call 93; go_must (
         refine HDD.out.mono ?_; rintro e w1 ⟨rfl, rfl⟩
         obtain ⟨hgw, hcw, hsw, hb1, hq⟩ := HHW.out
         generalize (w.alloc (.cells #[.int .i64 kd, .string s, .int .i64 tn, .int .i64 ln] 42)) = wa at *
         have k4 : wa.cell? ⟨x, 4, none⟩ = some (.slice Au n cu) := hb1.at 4
         have HB1 := Lib.hid hb1
         have HQ := Lib.hid hq
         have HGW := Lib.hid hgw
         have HCW := Lib.hid hcw
         have HSW := Lib.hid hsw
         clear hgw hcw hsw hb1 hq HHW))
      | (at_builtin; go_must (
         refine wpList_append_src _ rfl _ _ _ _ rfl K 3 i0 _ 1 8 Tryd.underlying32 hi0 hi1 hi2 hi3 rfl (by omega) _ _ _ rfl (HGW.out.alloc _) _ 1 [.int .i64 (d : Int)] rfl (Src.ofSlice _ Tryd.underlying32 ⟨wa.heap.size, 0, none⟩ 1 1 _ rfl (new_cells wa _ _) (by simp [Value.oneCell'])) (by unfold maxLen; omega) (by omega) (by have := HSW.out; simp; omega) ?_
         intro v6 w6 hown6 hgr6 hnear
         obtain ⟨A6, cp6, rfl⟩ := hown6.slice
         have hgr : wa.grownBy w6 (Value.slice Au n cu).ownBlock := grown_trans (below_none ((Below.refl _ wa).alloc (Nat.le_refl _) _) _) hgr6
         have hown : ∀ g, (Value.slice Au n cu).ownBlock = some g → K ≤ g ∧ g < w.heap.size := fun g e => H2.out.block g e
         have hb6 : Blk w6 x 34 #[.int .i64 y.kind, .int .i64 y.line, str y.name, str y.other, .slice Au n cu] := HB1.out.past hgr fun e => by have := hown x e.symm; have := H0.out; omega
         have hq6 : Blk w6 w.heap.size 42 #[.int .i64 kd, .string s, .int .i64 tn, .int .i64 ln] := HQ.out.past hgr fun e => by have := hown _ e.symm; omega
         have e6 : w6.cell? ⟨x, 4, none⟩ = some (.slice Au n cu) := hb6.at 4
         have f6 := hb6.thaw 4
         have hb7 := hb6.put 4 (.slice A6 (n + 1) cp6)
         have hq7 : Blk (w6.setCell ⟨x, 4, none⟩ (.slice A6 (n + 1) cp6)) w.heap.size 42 #[.int .i64 kd, .string s, .int .i64 tn, .int .i64 ln] := hq6.aside (p := ⟨x, 4, none⟩) (by show w.heap.size ≠ x; omega) _
         have hc7 : Chg (FF x K) w (w6.setCell ⟨x, 4, none⟩ (.slice A6 (n + 1) cp6)) := (HCW.out.trans (Chg.ofGrown hgr fun g e => .inr (hown g e).1)).trans (Chg.set (a := ⟨x, 4, none⟩) (.inl rfl) _)
         have hg7 : Grow (w6.setCell ⟨x, 4, none⟩ (.slice A6 (n + 1) cp6)) K 1 (.slice A6 (n + 1) cp6) (n + 1) (y.n.map (Value.int .i64) ++ [.int .i64 (d : Int)]) := hown6.keep (by simp [World.setCell]) fun g hg => Below.heap_setCell _ _ _ _ (fun e => by have := (hown6.block g hg).1; have e : g = x := e; have := H0.out; omega)
         have HC := Lib.hid hc7
         have HY : Hid (ItAt (w6.setCell ⟨x, 4, none⟩ (.slice A6 (n + 1) cp6)) x K { y with n := y.n ++ [(d : Int)] }) := Lib.hid ⟨H0.out, _, hb7, by rw [List.length_append, HNS.out, List.map_append]; exact hg7⟩
         have t0 : (w6.setCell ⟨x, 4, none⟩ (.slice A6 (n + 1) cp6)).cell? ⟨w.heap.size, 0, none⟩ = some (.int .i64 kd) := hq7.at 0
         have u0 : w6.cell? ⟨w.heap.size, 0, none⟩ = some (.int .i64 kd) := hq6.at 0
         have hne : ¬ (w.heap.size = x) := by omega
         clear hgr6 hnear hgr hown hb7 hq7 hc7 hg7 hown6 hb6 hq6)))
    · go_ret
      exact fpost_some rfl HC.out HY.out
    · go_ret
      first
      | exact fpost_none rfl HC.out
      | exact fpost_none (congrArg (fun b => Ending.returned (.bool b)) (beq_eq_false_iff_ne.2 (by omega))) HC.out
/-- A place and a token. -/
theorem fill_any {w : World} {x K : Nat} {y : It} {t : Tk} {p : UInt8} (hp : p = 110 ∨ p = 99 ∨ p = 111 ∨ p = 49 ∨ p = 100) (hv : VD w) (h : ItAt w x K y) (hK : K ≤ w.heap.size) (hn : y.n.length ≤ 100) :
    Calls Tryd.prog 84 #[ptr x, .int .i32 p.toNat, t.val] w (FPost w x K (placeR p t y)) := by
  obtain ⟨kd, tx, tn, ln⟩ := t
  obtain ⟨s, rfl⟩ := mk_bl tx
  rcases hp with rfl | rfl | rfl | rfl | rfl
  · exact fill_name h hK
  · exact fill_class h hK
  · exact fill_other h hK
  · exact fill_number h hK hn
  · exact fill_dir hv h hK hn
end Drf
end Go.Proofs.YtibeangcjfjeiaaDoor

/- The reference's Inter, Diff, Within. The reference's Union, Same. -/
import Derived.Test.YtgophgnfiboefaaGreatDoorRqA
import Derived.Test.YtgophgnfiboefaaGreatDoorMhN
import Derived.Test.YtgophgnfiboefaaGreatDoorMgL
namespace Go.Proofs.YtgophgnfiboefaaGreatDoor
open Go.RowKit Wire
open Txt (Row)
open Go.Proofs.YtgophgnfiboefaaGreatDoor.Own Flo
open Dsk (Only nth)
set_option linter.unusedVariables false
set_option linter.unusedSimpArgs false
namespace Rgn
theorem mkN_at (b : List Nat) {c : Nat} (h : c < 4096) : (mkL (ivn b)).getD c false = decide (c ∈ b) := by
  rw [mkL_at _ h, Bool.eq_iff_iff, decide_eq_true_iff, decide_eq_true_iff]
  unfold ivn
  rw [List.mem_map]
  constructor
  · rintro ⟨y, hy, e⟩
    obtain rfl : y = c := by omega
    exact hy
  · exact fun hc => ⟨c, hc, rfl⟩
structure SeI (w : World) (g : Nat) (bs : List Bool) (p : Nat → Bool) (a : List Nat) (rv iv : Value) (wr : World) (i : Nat) (out : List Nat) : Prop where
  iv : iv = .int .i64 i
  le : i ≤ a.length
  isf : out = (a.take i).filter p
  sp : Sp w wr [RowT 1 (slV g 4096) 4096 (bvs bs), RowT 1 rv out.length (qvs out)]
theorem Sp.sndT {W w : World} {a t : Thing} (h : Sp W w [a, t]) : Sp W w [t] := h.pick (fun _ => 1) (fun i j hi hj _ => by simp at hi hj; omega) (fun i t h => by
  match i, h with
  | 0, h => exact h
  | i + 1, h => simp at h)
set_option maxRecDepth 100000 in
set_option maxHeartbeats 4000000 in
theorem rinter_any (w : World) (A B : Option Addr) (ca cb : Nat) (a b : List Nat) (ha : Reg a) (hlb : b.length ≤ 1000000) (hra : Row w w.heap.size A (qvs a)) (hrb : Row w w.heap.size B (qvs b)) :
    Calls Tryz.prog 14 #[.slice A a.length ca, .slice B b.length cb] w (GotL w (a.filter fun x => decide (x ∈ b))) := by
  have HMK := Lib.hid (rmarks_any w B cb (ivn b) (by rw [List.length_map]; omega) (by rw [ivs_ivn]; exact hrb))
  rw [List.length_map] at HMK
  have HAV : Hid (∀ k, k < a.length → ∃ b o, A = some ⟨b, o, none⟩ ∧ ∀ w', Below w.heap.size w w' → w'.cell? ⟨b, o + k, none⟩ = some (.int .i64 (a.getD k 0 : Nat))) := Lib.hid fun k hk => row_valN hra hk
  have HLT : Hid (∀ k, k < a.length → a.getD k 0 < 4096) := Lib.hid fun k hk => ha.lt _ (by rw [List.getD_eq_getElem?_getD, List.getElem?_eq_getElem hk]; exact List.getElem_mem hk)
  have HFS : Hid (∀ i, i < a.length → (a.take (i + 1)).filter (fun x => decide (x ∈ b)) = (a.take i).filter (fun x => decide (x ∈ b)) ++ if decide (a.getD i 0 ∈ b) then [a.getD i 0] else []) := Lib.hid fun i hi => filter_take_succ hi _
  have HBS : Hid (∀ x, x < 4096 → (mkL (ivn b)).getD x false = decide (x ∈ b)) := Lib.hid fun x hx => mkN_at b hx
  have HBL : Hid ((mkL (ivn b)).length = 4096) := Lib.hid (mkL_len _)
  have hla : a.length ≤ 4096 := ha.len
  have HLN : Hid (∀ i, ((a.take i).filter fun x => decide (x ∈ b)).length ≤ 4096) := Lib.hid fun i => by
    have h1 : ((a.take i).filter fun x => decide (x ∈ b)).length ≤ (a.take i).length := List.length_filter_le ..
    have h2 : (a.take i).length ≤ a.length := by rw [List.length_take]; omega
    omega
  have HF : Hid (∀ v w', Sp w w' [RowT 1 v (a.filter fun x => decide (x ∈ b)).length (qvs (a.filter fun x => decide (x ∈ b)))] → GotL w (a.filter fun x => decide (x ∈ b)) (.returned v) w') := Lib.hid fun v w' hs => newL_slice (w := w) (e := .returned v) ⟨v, rfl, hs⟩
  have HTK : Hid ((a.take a.length).filter (fun x => decide (x ∈ b)) = a.filter fun x => decide (x ∈ b)) := Lib.hid (by rw [List.take_length])
  clear hra hrb ha
  generalize GotL w (a.filter fun x => decide (x ∈ b)) = QQ at *
  unfold MkPost at HMK
  generalize mkL (ivn b) = bs at *
  go_enter Tryz.func14, Tryz.ntmps14
  go_upto_region 2 with (go_at_call 32; refine HMK.out.mono ?_; rintro e w1 ⟨g, rfl, hs⟩; have HS1 := Lib.hid (hs.nil_row 1); clear hs)
  clear HMK
  go_wp2_with fail
  go_loopw [6, 7] (fun rv iv wr => ∃ i out, SeI w g bs (fun x => decide (x ∈ b)) a rv iv wr i out) (fun _ iv _ => a.length - (intOf iv).toNat)
  case atStart => exact ⟨0, [], rfl, Nat.zero_le _, rfl, HS1.out⟩
  case round =>
    clear HS1
    obtain ⟨i, out, ⟨rfl, hi, hout, hsp⟩⟩ := hrel
    obtain ⟨Ak, ck, rfl⟩ := (hsp.grow 1 rfl).slice
    have HSP := Lib.hid hsp
    have HOU := Lib.hid hout
    clear hsp
    by_cases hlt : i < a.length
    · obtain ⟨b1, o1, rfl, hc⟩ := HAV.out i hlt
      have z := hc _ HSP.out.below
      have hx := HLT.out i hlt
      have HX := Lib.hid (HFS.out i hlt)
      have HOL : Hid (out.length ≤ 4096) := Lib.hid (by rw [hout]; exact HLN.out i)
      have hi9 : (i : Int) < (a.length : Int) := by omega
      have hi8 : (i : Int) < 4096 := by omega
      clear hc hout
      generalize a.getD i 0 = x at *
      obtain ⟨x0, x1⟩ := Grow.cell (HSP.out.grow 0 rfl) (bvs_at (l := bs) (k := x) (by rw [HBL.out]; exact hx))
      rw [HBS.out x hx] at x0
      have hx2 : (x : Int) < 4096 := by omega
      clear HAV HLT HFS HBS HBL HLN HF HTK
      cases hb : decide (x ∈ b)
      · rw [hb] at x0 HX
        have HE : Hid (out = (a.take (i + 1)).filter fun x => decide (x ∈ b)) := Lib.hid (by rw [HX.out, ← HOU.out]; simp)
        clear HX hb HOU
        go_wp2_with fail
        go_roundw
        case rel => exact ⟨i + 1, out, by simp, hlt, HE.out, HSP.out⟩
        case measure => simp [intOf]; omega
      · rw [hb] at x0 HX
        have HE : Hid (out ++ [x] = (a.take (i + 1)).filter fun x => decide (x ∈ b)) := Lib.hid (by rw [HX.out, ← HOU.out]; simp)
        have HPU := Lib.hid (push_int (q := out) HSP.out 1 rfl x (by have := HOL.out; omega) 3)
        clear HX hb HOU
        go_wp2_with (at_builtin; obtain ⟨v7, w7, r7, h7⟩ := HPU.out; have H7 : Hid (Sp w w7 [RowT 1 (slV g 4096) 4096 (bvs bs), RowT 1 v7 (out ++ [x]).length (qvs (out ++ [x]))]) := Lib.hid h7; refine wpList_append_run rfl _ _ _ _ rfl (by simp [go_sem]) (by simp [go_sem]) r7 ?_; clear r7 h7)
        go_roundw
        case rel => exact ⟨i + 1, out ++ [x], by simp, hlt, HE.out, H7.out⟩
        case measure => simp [intOf]; omega
    · obtain rfl : i = a.length := by omega
      rw [HTK.out] at HOU
      have hh := HOU.out
      subst hh
      have HZ := Lib.hid (HF.out _ _ (Sp.sndT HSP.out))
      clear HAV HLT HFS HBS HBL HLN HF HTK HOU HSP
      go_wp2_with fail
      first | exact HZ.out | (go_ret; exact HZ.out)
set_option maxRecDepth 100000 in
set_option maxHeartbeats 4000000 in
theorem rdiff_any (w : World) (A B : Option Addr) (ca cb : Nat) (a b : List Nat) (ha : Reg a) (hlb : b.length ≤ 1000000) (hra : Row w w.heap.size A (qvs a)) (hrb : Row w w.heap.size B (qvs b)) :
    Calls Tryz.prog 16 #[.slice A a.length ca, .slice B b.length cb] w (GotL w (a.filter fun x => !decide (x ∈ b))) := by
  have HMK := Lib.hid (rmarks_any w B cb (ivn b) (by rw [List.length_map]; omega) (by rw [ivs_ivn]; exact hrb))
  rw [List.length_map] at HMK
  have HAV : Hid (∀ k, k < a.length → ∃ b o, A = some ⟨b, o, none⟩ ∧ ∀ w', Below w.heap.size w w' → w'.cell? ⟨b, o + k, none⟩ = some (.int .i64 (a.getD k 0 : Nat))) := Lib.hid fun k hk => row_valN hra hk
  have HLT : Hid (∀ k, k < a.length → a.getD k 0 < 4096) := Lib.hid fun k hk => ha.lt _ (by rw [List.getD_eq_getElem?_getD, List.getElem?_eq_getElem hk]; exact List.getElem_mem hk)
  have HFS : Hid (∀ i, i < a.length → (a.take (i + 1)).filter (fun x => !decide (x ∈ b)) = (a.take i).filter (fun x => !decide (x ∈ b)) ++ if !decide (a.getD i 0 ∈ b) then [a.getD i 0] else []) := Lib.hid fun i hi => filter_take_succ hi _
  have HBS : Hid (∀ x, x < 4096 → (mkL (ivn b)).getD x false = decide (x ∈ b)) := Lib.hid fun x hx => mkN_at b hx
  have HBL : Hid ((mkL (ivn b)).length = 4096) := Lib.hid (mkL_len _)
  have hla : a.length ≤ 4096 := ha.len
  have HLN : Hid (∀ i, ((a.take i).filter fun x => !decide (x ∈ b)).length ≤ 4096) := Lib.hid fun i => by
    have h1 : ((a.take i).filter fun x => !decide (x ∈ b)).length ≤ (a.take i).length := List.length_filter_le ..
    have h2 : (a.take i).length ≤ a.length := by rw [List.length_take]; omega
    omega
  have HF : Hid (∀ v w', Sp w w' [RowT 1 v (a.filter fun x => !decide (x ∈ b)).length (qvs (a.filter fun x => !decide (x ∈ b)))] → GotL w (a.filter fun x => !decide (x ∈ b)) (.returned v) w') := Lib.hid fun v w' hs => newL_slice (w := w) (e := .returned v) ⟨v, rfl, hs⟩
  have HTK : Hid ((a.take a.length).filter (fun x => !decide (x ∈ b)) = a.filter fun x => !decide (x ∈ b)) := Lib.hid (by rw [List.take_length])
  clear hra hrb ha
  generalize GotL w (a.filter fun x => !decide (x ∈ b)) = QQ at *
  unfold MkPost at HMK
  generalize mkL (ivn b) = bs at *
  go_enter Tryz.func16, Tryz.ntmps16
  go_upto_region 2 with (go_at_call 32; refine HMK.out.mono ?_; rintro e w1 ⟨g, rfl, hs⟩; have HS1 := Lib.hid (hs.nil_row 1); clear hs)
  clear HMK
  go_wp2_with fail
  go_loopw [6, 7] (fun rv iv wr => ∃ i out, SeI w g bs (fun x => !decide (x ∈ b)) a rv iv wr i out) (fun _ iv _ => a.length - (intOf iv).toNat)
  case atStart => exact ⟨0, [], rfl, Nat.zero_le _, rfl, HS1.out⟩
  case round =>
    clear HS1
    obtain ⟨i, out, ⟨rfl, hi, hout, hsp⟩⟩ := hrel
    obtain ⟨Ak, ck, rfl⟩ := (hsp.grow 1 rfl).slice
    have HSP := Lib.hid hsp
    have HOU := Lib.hid hout
    clear hsp
    by_cases hlt : i < a.length
    · obtain ⟨b1, o1, rfl, hc⟩ := HAV.out i hlt
      have z := hc _ HSP.out.below
      have hx := HLT.out i hlt
      have HX := Lib.hid (HFS.out i hlt)
      have HOL : Hid (out.length ≤ 4096) := Lib.hid (by rw [hout]; exact HLN.out i)
      have hi9 : (i : Int) < (a.length : Int) := by omega
      have hi8 : (i : Int) < 4096 := by omega
      clear hc hout
      generalize a.getD i 0 = x at *
      obtain ⟨x0, x1⟩ := Grow.cell (HSP.out.grow 0 rfl) (bvs_at (l := bs) (k := x) (by rw [HBL.out]; exact hx))
      rw [HBS.out x hx] at x0
      have hx2 : (x : Int) < 4096 := by omega
      clear HAV HLT HFS HBS HBL HLN HF HTK
      cases hb : decide (x ∈ b)
      · rw [hb] at x0 HX
        have HE : Hid (out ++ [x] = (a.take (i + 1)).filter fun x => !decide (x ∈ b)) := Lib.hid (by rw [HX.out, ← HOU.out]; simp)
        have HPU := Lib.hid (push_int (q := out) HSP.out 1 rfl x (by have := HOL.out; omega) 3)
        clear HX hb HOU
        go_wp2_with (at_builtin; obtain ⟨v7, w7, r7, h7⟩ := HPU.out; have H7 : Hid (Sp w w7 [RowT 1 (slV g 4096) 4096 (bvs bs), RowT 1 v7 (out ++ [x]).length (qvs (out ++ [x]))]) := Lib.hid h7; refine wpList_append_run rfl _ _ _ _ rfl (by simp [go_sem]) (by simp [go_sem]) r7 ?_; clear r7 h7)
        go_roundw
        case rel => exact ⟨i + 1, out ++ [x], by simp, hlt, HE.out, H7.out⟩
        case measure => simp [intOf]; omega
      · rw [hb] at x0 HX
        have HE : Hid (out = (a.take (i + 1)).filter fun x => !decide (x ∈ b)) := Lib.hid (by rw [HX.out, ← HOU.out]; simp)
        clear HX hb HOU
        go_wp2_with fail
        go_roundw
        case rel => exact ⟨i + 1, out, by simp, hlt, HE.out, HSP.out⟩
        case measure => simp [intOf]; omega
    · obtain rfl : i = a.length := by omega
      rw [HTK.out] at HOU
      have hh := HOU.out
      subst hh
      have HZ := Lib.hid (HF.out _ _ (Sp.sndT HSP.out))
      clear HAV HLT HFS HBS HBL HLN HF HTK HOU HSP
      go_wp2_with fail
      first | exact HZ.out | (go_ret; exact HZ.out)
theorem filter_int {a b : List Nat} (ha : Reg a) : (a.filter fun x => decide (x ∈ b)) = intR a b := asc_unique (ha.asc.filter _) (regOf_asc _ _) fun x => by
  rw [int_mem ha, List.mem_filter, decide_eq_true_iff]
theorem filter_dif {a b : List Nat} (ha : Reg a) : (a.filter fun x => !decide (x ∈ b)) = difR a b := asc_unique (ha.asc.filter _) (regOf_asc _ _) fun x => by
  rw [dif_mem ha, List.mem_filter, Bool.not_eq_true', decide_eq_false_iff_not]
end Rgn
end Go.Proofs.YtgophgnfiboefaaGreatDoor

namespace Go.Proofs.YtgophgnfiboefaaGreatDoor
open Go.RowKit Wire
open Txt (Row)
open Go.Proofs.YtgophgnfiboefaaGreatDoor.Own Flo
open Dsk (Only nth)
set_option linter.unusedVariables false
set_option linter.unusedSimpArgs false
namespace Rgn
theorem src_nats {w : World} {A : Option Addr} {c : Nat} {l : List Nat} (h : Row w w.heap.size A (qvs l)) : Src Tryz.prog 1 22 (.slice A l.length c) l.length (qvs l) w := by
  cases A with
  | none =>
    obtain rfl : l = [] := by
      cases l with
      | nil => rfl
      | cons s r =>
        obtain ⟨b, o, e, _⟩ := h 0 _ rfl
        cases e
    exact Src.ofNil _ Tryz.underlying22 c
  | some a =>
    refine Src.ofSlice _ Tryz.underlying22 a _ _ _ (by rw [List.length_map]; omega) (fun j u hu => ?_) (fun u hu => ?_)
    · obtain ⟨b, o, e, _, hcell⟩ := h j u hu
      injection e with e
      subst e
      rw [row_add']
      exact hcell
    · obtain ⟨x, _, rfl⟩ := List.mem_map.1 hu
      rfl
theorem app_nats {w : World} {B k m : Nat} {v x : Value} {X Y : List Nat} (hg : Grow w B 1 v k (qvs X)) (hB : B ≤ w.heap.size) (hs : Src Tryz.prog 1 22 x m (qvs Y) w) (hm : k + m ≤ 1000000) :
    ∃ v' w', (Builtin.append_ #[22, 22] 22 #[v, x]).run Tryz.prog w = .ok v' w' ∧ Grow w' B 1 v' (k + m) (qvs (X ++ Y)) ∧ Below B w w' := by
  obtain ⟨i0, hi, hz0, hz1, hz2⟩ := info_parts Dsk.info_int
  obtain ⟨v', w', hr, hg', hgr, hv⟩ := run_append_src (P := Tryz.prog) w B 22 22 22 3 i0 _ 1 8 Tryz.underlying22 hi hz0 hz1 hz2 rfl (by omega) v k (qvs X) hg x m (qvs Y) hs (by unfold maxLen; omega) (by omega) hB
  rw [show qvs X ++ qvs Y = qvs (X ++ Y) from (List.map_append ..).symm] at hg'
  refine ⟨v', w', hr, hg', hgr.os, hgr.tape, hgr.output, hgr.size, fun y hy => hgr.block y (by omega) (fun e => ?_)⟩
  have := (hg.block y e.symm).1
  omega
theorem row_from {w : World} {B : Nat} {A : Option Addr} {n c : Nat} {xs : List Value} (h : Grow w B 1 (.slice A n c) n xs) : Row w w.heap.size A xs := by
  rcases h.form with ⟨e, e2⟩ | ⟨g', cap', e, h1, h2, h3, h4, h5, h6, h7⟩
  · intro k u hu
    have := (List.getElem?_eq_some_iff.1 hu).1
    have := h.len
    omega
  · injection e with e1 _ e3
    subst e1
    exact fun k u hu => ⟨_, 0, rfl, h2, by rw [Nat.zero_add]; exact h7 k u hu⟩
set_option maxRecDepth 100000 in
set_option maxHeartbeats 2000000 in
theorem runion_any (w : World) (A B : Option Addr) (ca cb : Nat) (a b : List Nat) (ha : Reg a) (hb : Reg b) (hra : Row w w.heap.size A (qvs a)) (hrb : Row w w.heap.size B (qvs b)) :
    Calls Tryz.prog 12 #[.slice A a.length ca, .slice B b.length cb] w (GotL w (uniR a b)) := by
  have hla := ha.len
  have hlb := hb.len
  have b0 : Below w.heap.size w (w.alloc (.cells #[] 3)) := (Below.refl _ w).alloc (Nat.le_refl _) _
  have g0 : Grow (w.alloc (.cells #[] 3)) w.heap.size 1 (.slice (some ⟨w.heap.size, 0, none⟩) 0 0) 0 (qvs []) := Dsk.Grow.bare w 3 1
  obtain ⟨v1, w1, r1, g1, b1⟩ := app_nats (X := []) g0 b0.size (src_nats (c := ca) (hra.lift b0)) (by omega)
  have B1 := b0.trans b1
  obtain ⟨v2, w2, r2, g2, b2⟩ := app_nats g1 B1.size (src_nats (c := cb) (hrb.lift B1)) (by omega)
  have B2 := B1.trans b2
  have g2' : Grow w2 w.heap.size 1 v2 (a ++ b).length (qvs (a ++ b)) := by
    rw [List.length_append]
    rw [Nat.zero_add] at g2
    exact g2
  obtain ⟨A2, c2, e2⟩ := g2'.slice
  have HO : Hid (Calls Tryz.prog 9 #[v2] w2 (GotL w (uniR a b))) := Lib.hid (by
    rw [e2] at g2' ⊢
    have hrow : Row w2 w2.heap.size A2 (ivs (ivn (a ++ b))) := by
      rw [ivs_ivn]
      exact row_from g2'
    have := rof_any w2 A2 c2 (ivn (a ++ b)) (by rw [List.length_map, List.length_append]; omega) hrow
    rw [List.length_map] at this
    refine this.mono ?_
    intro e w3 h
    have e3 : regOf (fun c : Nat => decide ((c : Int) ∈ ivn (a ++ b))) 4096 = uniR a b := by
      refine asc_unique (regOf_asc _ _) (regOf_asc _ _) fun x => ?_
      rw [regOf_mem, uni_mem ha hb, decide_eq_true_iff]
      unfold ivn
      rw [List.mem_map]
      constructor
      · rintro ⟨h1, y, hy, e⟩
        obtain rfl : y = x := by omega
        exact List.mem_append.1 hy
      · intro h1
        refine ⟨?_, x, List.mem_append.2 h1, rfl⟩
        rcases h1 with h1 | h1
        · exact ha.lt x h1
        · exact hb.lt x h1
    rw [e3] at h
    obtain ⟨A3, c3, h1, h2, h3⟩ := newL_slice h
    exact ⟨A3, c3, h1, h2, next_below B2 h3⟩)
  have HR1 := Lib.hid r1
  have HR2 := Lib.hid r2
  clear r1 r2 g0 g1 g2 g2' e2 B1 B2 b0 b1 b2 hra hrb ha hb
  go_enter Tryz.func12, Tryz.ntmps12
  go_wp2_with (first
    | (at_builtin; have r1 := HR1.out; refine wpList_append_run rfl _ _ _ _ rfl (by simp [go_sem]) (by simp [go_sem]) r1 ?_; clear r1)
    | (at_builtin; have r2 := HR2.out; refine wpList_append_run rfl _ _ _ _ rfl (by simp [go_sem]) (by simp [go_sem]) r2 ?_; clear r2)
    | (go_at_call 9; refine HO.out.mono ?_; rintro e w3 ⟨A3, c3, rfl, h2, h3⟩))
  first | exact ⟨A3, c3, rfl, h2, h3⟩ | (go_ret; exact ⟨A3, c3, rfl, h2, h3⟩)
set_option maxHeartbeats 1000000 in
theorem rsame8_any (w : World) (A B : Option Addr) (c d : Nat) (r s : List Nat) (hr : r.length ≤ 1000000) (hs : s.length ≤ 1000000) (h : Row w w.heap.size A (qvs r)) (k : Row w w.heap.size B (qvs s)) : Calls Tryz.prog 22 #[.slice A r.length c, .slice B s.length d] w fun e w' => e = .returned (.bool (decide (r = s))) ∧ Below w.heap.size w w' := by
  have hq := qSame_any w A B c d (ivn r) (ivn s) (by rw [List.length_map]; omega) (by rw [List.length_map]; omega) (by rw [show (ivn r).map (Value.int .i64) = qvs r from ivs_ivn r]; exact h) (by rw [show (ivn s).map (Value.int .i64) = qvs s from ivs_ivn s]; exact k)
  rw [List.length_map, List.length_map, show decide (ivn r = ivn s) = decide (r = s) from by rw [decide_eq_decide]; exact ⟨ivn_inj, fun e => by rw [e]⟩] at hq
  have HQ := Lib.hid hq
  clear hq h k
  generalize decide (r = s) = res at *
  go_enter Tryz.func22, Tryz.ntmps22
  go_wp2_with (go_at_call 7; refine HQ.out.mono ?_; rintro e w1 ⟨rfl, b1⟩)
  first | exact ⟨rfl, b1⟩ | (go_ret; exact ⟨rfl, b1⟩)
end Rgn
end Go.Proofs.YtgophgnfiboefaaGreatDoor

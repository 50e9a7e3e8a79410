/- The program's Inside. -/
import Derived.Test.YtgophgnfiboefaaGreatDoorRpJ
namespace Go.Proofs.YtgophgnfiboefaaGreatDoor
open Go.RowKit Wire
open Txt (Row)
open Go.Proofs.YtgophgnfiboefaaGreatDoor.Own Flo
open Dsk (Only nth)
set_option linter.unusedVariables false
set_option linter.unusedSimpArgs false
namespace Rgn
/-- The cells of the floor that are not in the region. -/
def offR (f : Fl) (r : List Nat) : List Nat := regOf (difB (List.range f.Kind.length) r) 4096
def InsideIs (f : Fl) (r : List Nat) (src : List Int) (out : List Int) : Prop := ∃ dist, IsDist f.Kind.length (spSrc f src (ivn (offR f r))) (spE f (ivn (offR f r)) false) dist ∧ out = r.map (fun c => if c < f.Kind.length then gt dist c else -1)
def InsPost (f : Fl) (r : List Nat) (src : List Int) (w : World) (e : Ending) (w' : World) : Prop :=
  ∃ A c out, e = .returned (.slice A r.length c) ∧ InsideIs f r src out ∧ Row w' w'.heap.size A (ivs out) ∧ Below w.heap.size w w'
structure InA (w : World) (X : List Thing) (g n : Nat) (iv : Value) (wr : World) (i : Nat) (cs : List Int) : Prop where
  iv : iv = .int .i64 i
  le : i ≤ n
  sp : Sp w wr (RowT 1 (slV g n) n (ivs cs) :: X)
  len : cs.length = n
  val : ∀ c : Nat, c < i → gt cs c = c
theorem InA.done {w wr : World} {X : List Thing} {g n : Nat} {iv : Value} {cs : List Int} (h : InA w X g n iv wr n cs) : cs = ivn (List.range n) := by
  refine List.ext_getElem? fun c => ?_
  by_cases hc : c < n
  · rw [gt_of (by rw [h.len]; exact hc), h.val c hc]
    unfold ivn
    rw [List.getElem?_map, List.getElem?_range hc]
    rfl
  · rw [List.getElem?_eq_none (by rw [h.len]; omega), List.getElem?_eq_none (by simp; omega)]
structure InB (w : World) (g rl : Nat) (vals : List Int) (iv : Value) (wr : World) (i : Nat) (cs : List Int) : Prop where
  iv : iv = .int .i64 i
  le : i ≤ rl
  sp : Sp w wr [RowT 1 (slV g rl) rl (ivs cs)]
  len : cs.length = rl
  val : ∀ c : Nat, c < i → gt cs c = gt vals c
set_option maxRecDepth 100000 in
set_option maxHeartbeats 8000000 in
theorem inside_any {f : Fl} (ho : f.ok) (p : Pl) (B C : Option Addr) (cb cc : Nat) (r : List Nat) (src : List Int) (w : World) (hv : VS w) (hin : FlIn w f p) (hr : Reg r) (hra : Row w w.heap.size B (qvs r)) (hsr : Row w w.heap.size C (ivs src)) (hls : src.length ≤ 1000000) :
    Calls Tryz.prog 29 #[f.val p, .slice B r.length cb, .slice C src.length cc] w (InsPost f r src w) := by
  have hn4 : f.Kind.length ≤ 4096 := by have := ho.kinds; have := ho.size; omega
  obtain ⟨ii, hii, hii0, hii1, hii2⟩ := info_parts Dsk.info_int
  have HAV : Hid (∀ k, k < r.length → ∃ b o, B = some ⟨b, o, none⟩ ∧ ∀ w', Below w.heap.size w w' → w'.cell? ⟨b, o + k, none⟩ = some (.int .i64 (r.getD k 0 : Nat))) := Lib.hid fun k hk => row_valN hra hk
  have HDF : Hid (∀ w' A ca, Below w.heap.size w w' → Row w' w'.heap.size A (qvs (List.range f.Kind.length)) → Calls Tryz.prog 15 #[.slice A f.Kind.length ca, .slice B r.length cb] w' (NewL w' (offR f r))) := Lib.hid fun w' A ca b hA => by
    have := dif_any w' A B ca cb (List.range f.Kind.length) r ⟨List.pairwise_lt_range, fun x hx => by have := List.mem_range.1 hx; omega⟩ hr hA (hra.lift b)
    rw [List.length_range] at this
    exact this
  have HDI : Hid (∀ w' A ca, Below w.heap.size w w' → Row w' w'.heap.size A (qvs (offR f r)) → Calls Tryz.prog 53 #[f.val p, .slice C src.length cc, .slice A (offR f r).length ca] w' (SpreadPost f src (ivn (offR f r)) false w')) := Lib.hid fun w' A ca b hA => by
    have := dist_any ho p C A cc ca src (ivn (offR f r)) w' (hv.lift b) (hin.lift b) (hsr.lift b) (by rw [ivs_ivn]; exact hA) hls (by rw [List.length_map]; have := regOf_len (difB (List.range f.Kind.length) r) 4096; unfold offR; omega)
    rw [List.length_map] at this
    exact this
  have HFI : Hid (∀ dist g cs w3 w', IsDist f.Kind.length (spSrc f src (ivn (offR f r))) (spE f (ivn (offR f r)) false) dist → Below w.heap.size w w3 → InB w3 g r.length (r.map (fun c => if c < f.Kind.length then gt dist c else -1)) (.int .i64 r.length) w' r.length cs → InsPost f r src w (.returned (slV g r.length)) w') := Lib.hid fun dist g cs w3 w' hd b h => by
    refine ⟨_, _, cs, rfl, ⟨dist, hd, ?_⟩, row_of_grow (h.sp.grow 0 rfl), next_below b h.sp.below⟩
    refine List.ext_getElem? fun c => ?_
    by_cases hc : c < r.length
    · rw [gt_of (by rw [h.len]; exact hc), h.val c hc, gt_of (by rw [List.length_map]; exact hc)]
    · rw [List.getElem?_eq_none (by rw [h.len]; omega), List.getElem?_eq_none (by rw [List.length_map]; omega)]
  have HVL : Hid (∀ (dist : List Int) k, k < r.length → gt (r.map (fun c => if c < f.Kind.length then gt dist c else -1)) k = if r.getD k 0 < f.Kind.length then gt dist (r.getD k 0) else -1) := Lib.hid fun dist k hk => by
    unfold gt
    rw [List.getD_eq_getElem?_getD, List.getElem?_map, List.getD_eq_getElem?_getD (l := r), List.getElem?_eq_getElem hk]
    rfl
  have HDL : Hid (∀ d, IsDist f.Kind.length (spSrc f src (ivn (offR f r))) (spE f (ivn (offR f r)) false) d → d.length = f.Kind.length) := Lib.hid fun d h => h.len
  have hrl : r.length ≤ 4096 := hr.len
  have hsl : (src.length : Int) ≤ 1000000 := by omega
  have HRL := Lib.hid hrl
  generalize InsPost f r src w = QQ at *
  unfold SpreadPost at HDI
  unfold NewL at HDF
  clear ho hv hin hr hra hsr hls
  generalize offR f r = OF at *
  generalize IsDist f.Kind.length (spSrc f src (ivn OF)) (spE f (ivn OF) false) = ID at *
  obtain ⟨n, hn⟩ : ∃ n : Nat, n = f.Kind.length := ⟨_, rfl⟩
  obtain ⟨A1, c1, A2, c2⟩ := p
  have HV0 : Hid (f.val ⟨A1, c1, A2, c2⟩ = .agg #[.int .i64 f.W, .int .i64 f.H, .int .i64 f.D, .slice A1 n c1, .slice A2 f.Out.length c2]) := Lib.hid (by rw [hn])
  rw [HV0.out] at HDI ⊢
  rw [← hn] at hn4 HDF HDI HFI HVL HDL
  clear HV0 hn
  generalize f.W = W at *
  generalize f.H = H at *
  generalize f.D = D at *
  generalize f.Out.length = n2 at *
  have HN := Lib.hid hn4
  have H0 : Hid (Sp w (w.alloc (.cells #[.int .i64 W, .int .i64 H, .int .i64 D, .slice A1 n c1, .slice A2 n2 c2] 24)) [BlkT w.heap.size 24 (boxV W H D A1 n c1 A2 n2 c2)]) := Lib.hid ((Sp.nil (Below.refl w.heap.size w)).local 24 (boxV W H D A1 n c1 A2 n2 c2))
  clear hn4
  go_enter Tryz.func29, Tryz.ntmps29
  go_upto_region 2 with (refine wpList_make_row rfl _ _ 22 3 ii _ 8 rfl Tryz.underlying22 hii hii0 hii1 hii2 (by omega) rfl n (by have := HN.out; omega) rfl rfl ?_; intro w2 g2 b2)
  have H1 : Hid (Sp w w2 [RowT 1 (slV (w.heap.size + 1) n) n (ivs (List.replicate n 0)), BlkT w.heap.size 24 (boxV W H D A1 n c1 A2 n2 c2)]) := Lib.hid (by
    have h := H0.out.new_row b2 g2
    rw [show (w.alloc (.cells #[.int .i64 W, .int .i64 H, .int .i64 D, .slice A1 n c1, .slice A2 n2 c2] 24)).heap.size = w.heap.size + 1 from by simp] at h
    rw [show ivs (List.replicate n 0) = List.replicate n (Value.int .i64 0) from List.map_replicate ..]
    refine h.pick (fun i => 1 - i) (fun i j hi hj h => by simp at hi hj h; omega) (fun i t h => ?_)
    match i, h with
    | 0, h => exact h
    | 1, h => exact h
    | i + 2, h => simp at h)
  clear g2 b2 H0
  try simp only [World.size_alloc]
  generalize hgg : w.heap.size + 1 = g1 at H1 ⊢
  generalize hgf : w.heap.size = gf at H1 ⊢
  go_wp2_with fail
  go_loopw [8, 19] (fun _ iv wr => ∃ i cs, InA w [BlkT gf 24 (boxV W H D A1 n c1 A2 n2 c2)] g1 n iv wr i cs) (fun _ iv _ => n - (intOf iv).toNat)
  case atStart => exact ⟨0, _, rfl, Nat.zero_le _, H1.out, List.length_replicate, fun c hc => by omega⟩
  case round =>
    clear H1
    obtain ⟨i, cs, hI⟩ := hrel
    obtain rfl := hI.iv
    have HI := Lib.hid hI
    have hi := hI.le
    clear hI
    by_cases hlt : i < n
    · obtain ⟨x0, x1⟩ := Grow.cell (HI.out.sp.grow 0 rfl) (ivs_at (l := cs) (k := i) (by rw [HI.out.len]; exact hlt))
      have hi9 : (i : Int) < 4096 := by have := HN.out; omega
      have H3 : Hid (InA w [BlkT gf 24 (boxV W H D A1 n c1 A2 n2 c2)] g1 n (.int .i64 ((i + 1 : Nat) : Int)) (wr.setCell ⟨g1, i, none⟩ (.int .i64 i)) (i + 1) (cs.set i i)) := Lib.hid ⟨rfl, hlt, by have := HI.out.sp.store 0 rfl i hlt (.int .i64 i); rw [ivs_set] at this; exact this, by rw [List.length_set]; exact HI.out.len, fun c hc => by
        rw [gt_set (by rw [HI.out.len]; exact hlt)]
        by_cases e : c = i
        · rw [if_pos e, e]
        · rw [if_neg e]
          exact HI.out.val c (by omega)⟩
      generalize gt cs i = old at *
      generalize cs.set i (i : Int) = cs2 at *
      go_wp2_with fail
      go_roundw
      case rel => exact ⟨i + 1, cs2, by simpa using H3.out⟩
      case measure => simp [intOf]; omega
    · obtain rfl : i = n := by omega
      have hsp := HI.out.sp
      rw [HI.out.done, ivs_ivn] at hsp
      have HSP := Lib.hid hsp
      have HRW := Lib.hid (row_of_grow (hsp.grow 0 rfl))
      obtain ⟨m0, m1, m2, m3, m4⟩ := boxS (hsp.blk 1 rfl)
      have HKB : Hid (∀ w', Below wr.heap.size wr w' → BoxS gf W H D A1 i c1 A2 n2 c2 w') := Lib.hid fun w' b => boxS ((HSP.out.keep b).blk 1 rfl)
      have HBD : Hid (Below wr.heap.size wr wr.drew) := Lib.hid (Below.refl _ wr).drew
      have HWB : Hid (Below w.heap.size w wr.drew) := Lib.hid (next_below hsp.below HBD.out)
      have HD1 := Lib.hid (HDF.out wr.drew (some ⟨g1, 0, none⟩) i HWB.out (HRW.out.lift HBD.out))
      clear hsp HDF HI
      go_upto_region 7 with (fail)
      go_region_held3 (fun w' => BoxS gf W H D A1 i c1 A2 n2 c2 w') (first | exact HKB.out _ HBD.out | exact HKB.out _ b5 | exact HKB.out _ b6 | go_keep)
        (first
          | (go_at_call 15; refine HD1.out.mono ?_; rintro e w5 ⟨v5, rfl, h5⟩; obtain ⟨A5, c5, rfl⟩ := (h5.grow 0 rfl).slice; have b5 := HBD.out.trans (h5.below.mono HBD.out.size); have hr5 := row_of_any (h5.grow 0 rfl); have hw5 := next_below HWB.out h5.below)
          | (go_at_call 53; refine (HDI.out _ A5 c5 hw5 hr5).mono ?_; rintro e w6 ⟨A6, c6, dist, rfl, hdist, hrd, b6'⟩; have b6 := b5.trans (b6'.mono b5.size); have hw6 := next_below hw5 b6'))
      have HRD := Lib.hid hrd
      have HID := Lib.hid hdist
      have HW6 := Lib.hid hw6
      have HLD := Lib.hid (HDL.out dist hdist)
      have HVD := Lib.hid (HVL.out dist)
      have HSN := Lib.hid (Sp.nil (Below.refl w6.heap.size w6))
      clear h5 b5 hr5 hw5 b6' b6 hrd hdist hw6 HKB HBD HWB HD1 HRW HSP m0 m1 m2 m3 m4 HDI HVL HDL
      go_upto_region 9 with (refine wpList_make_row rfl _ _ 22 3 ii _ 8 rfl Tryz.underlying22 hii hii0 hii1 hii2 (by omega) rfl r.length (by have := HRL.out; omega) rfl rfl ?_; intro w7 g7 b7)
      have H7 : Hid (Sp w6 w7 [RowT 1 (slV w6.heap.size r.length) r.length (ivs (List.replicate r.length 0))]) := Lib.hid (by
        have := HSN.out.new_row b7 g7
        rw [show ivs (List.replicate r.length 0) = List.replicate r.length (Value.int .i64 0) from List.map_replicate ..]
        exact this)
      generalize hg2 : w6.heap.size = g2 at H7 ⊢
      clear g7 b7 HSN
      generalize hVS : r.map (fun c => if c < i then gt dist c else -1) = VS' at *
      go_wp2_with fail
      go_loopw [11, 12, 38] (fun _ _ iv wr => ∃ j cs, InB w6 g2 r.length VS' iv wr j cs) (fun _ _ iv _ => r.length - (intOf iv).toNat)
      case atStart => exact ⟨0, _, rfl, Nat.zero_le _, H7.out, List.length_replicate, fun c hc => by omega⟩
      case round =>
        clear H7
        obtain ⟨j, cs, hI⟩ := hrel
        obtain rfl := hI.iv
        have HI := Lib.hid hI
        have hj := hI.le
        clear hI
        by_cases hlt2 : j < r.length
        · obtain ⟨b, o, rfl, hc⟩ := HAV.out j hlt2
          have z := hc _ (next_below HW6.out HI.out.sp.below)
          obtain ⟨x0, x1⟩ := Grow.cell (HI.out.sp.grow 0 rfl) (ivs_at (l := cs) (k := j) (by rw [HI.out.len]; exact hlt2))
          have hj9 : (j : Int) < 4096 := by have := HRL.out; omega
          have H8 : Hid (Sp w6 (wr.setCell ⟨g2, j, none⟩ (.int .i64 (-1))) [RowT 1 (slV g2 r.length) r.length (ivs (cs.set j (-1)))]) := Lib.hid (by have := HI.out.sp.store 0 rfl j hlt2 (.int .i64 (-1)); rw [ivs_set] at this; exact this)
          have HVJ := Lib.hid (HVD.out j hlt2)
          clear hc
          generalize r.getD j 0 = k at *
          by_cases hk : k < i
          · have hk' : (k : Int) < (i : Int) := by omega
            obtain ⟨bd, od, rfl, hcd⟩ := row_val HRD.out (k := k) (by rw [HLD.out]; exact hk)
            have zd := hcd _ (H8.out.below)
            have eg : dist.getD k 0 = gt dist k := by
              unfold gt
              rw [List.getD_eq_getElem?_getD, List.getD_eq_getElem?_getD, List.getElem?_eq_getElem (by rw [HLD.out]; exact hk)]
              rfl
            rw [eg] at zd
            have H9 : Hid (InB w6 g2 r.length VS' (.int .i64 ((j + 1 : Nat) : Int)) ((wr.setCell ⟨g2, j, none⟩ (.int .i64 (-1))).setCell ⟨g2, j, none⟩ (.int .i64 (gt dist k))) (j + 1) ((cs.set j (-1)).set j (gt dist k))) := Lib.hid ⟨rfl, hlt2, by have := H8.out.store 0 rfl j hlt2 (.int .i64 (gt dist k)); rw [ivs_set] at this; exact this, by rw [List.length_set, List.length_set]; exact HI.out.len, fun c hc => by
              rw [gt_set (by rw [List.length_set, HI.out.len]; exact hlt2), gt_set (by rw [HI.out.len]; exact hlt2)]
              by_cases e : c = j
              · rw [if_pos e, e, HVJ.out, if_pos hk]
              · rw [if_neg e, if_neg e]
                exact HI.out.val c (by omega)⟩
            obtain ⟨y0, y1⟩ := Grow.cell (H8.out.grow 0 rfl) (ivs_at (l := cs.set j (-1)) (k := j) (by rw [List.length_set, HI.out.len]; exact hlt2))
            clear hcd eg
            go_upto_region 13 with (fail)
            generalize wr.setCell ⟨g2, j, none⟩ (.int .i64 (-1)) = wr1 at *
            clear x0 x1 z
            generalize gt (cs.set j (-1)) j = old2 at *
            generalize (cs.set j (-1)).set j (gt dist k) = cs2 at *
            generalize gt dist k = dv at *
            go_wp2_with fail
            go_roundw
            case rel => exact ⟨j + 1, cs2, by simpa using H9.out⟩
            case measure => simp [intOf]; omega
          · have hk' : ¬ (k : Int) < (i : Int) := by omega
            have H9 : Hid (InB w6 g2 r.length VS' (.int .i64 ((j + 1 : Nat) : Int)) (wr.setCell ⟨g2, j, none⟩ (.int .i64 (-1))) (j + 1) (cs.set j (-1))) := Lib.hid ⟨rfl, hlt2, H8.out, by rw [List.length_set]; exact HI.out.len, fun c hc => by
              rw [gt_set (by rw [HI.out.len]; exact hlt2)]
              by_cases e : c = j
              · rw [if_pos e, e, HVJ.out, if_neg hk]
              · rw [if_neg e]
                exact HI.out.val c (by omega)⟩
            generalize cs.set j (-1) = cs2 at *
            go_wp2_with fail
            go_roundw
            case rel => exact ⟨j + 1, cs2, by simpa using H9.out⟩
            case measure => simp [intOf]; omega
        · obtain rfl : j = r.length := by omega
          have HX := Lib.hid (HFI.out dist g2 cs w6 wr HID.out HW6.out (by rw [hVS]; exact HI.out))
          clear HFI HAV HVD
          go_wp2_with fail
          have hx := HX.out
          exact hx
end Rgn
end Go.Proofs.YtgophgnfiboefaaGreatDoor

/- The reference's Inside. -/
import Derived.Test.YtgophgnfiboefaaGreatDoorRqJ
namespace Go.Proofs.YtgophgnfiboefaaGreatDoor
open Go.RowKit Wire
open Txt (Row)
open Go.Proofs.YtgophgnfiboefaaGreatDoor.Own Flo
open Dsk (Only nth)
set_option linter.unusedVariables false
set_option linter.unusedSimpArgs false
namespace Rgn
/-- A number of any sign behind a row. -/
theorem push_i64 {W w : World} {T : List Thing} {v : Value} {q : List Int} (h : Sp W w T) (i : Nat) (hi : T[i]? = some (RowT 1 v q.length (ivs q))) (c : Int) (hl : q.length ≤ 100000) (tb : TypeId) :
    ∃ v' w', (Builtin.append_ #[22, 22] 22 #[v, .slice (some ⟨w.heap.size, 0, none⟩) 1 1]).run Tryz.prog (w.alloc (.cells #[.int .i64 c] tb)) = .ok v' w' ∧ Sp W w' (T.set i (RowT 1 v' (q ++ [c]).length (ivs (q ++ [c])))) := by
  obtain ⟨i0, hi0, hz0, hz1, hz2⟩ := info_parts Dsk.info_int
  have h1 := h.keep ((Below.refl _ w).alloc (Nat.le_refl _) (.cells #[.int .i64 c] tb))
  have hx : Blk (w.alloc (.cells #[.int .i64 c] tb)) w.heap.size tb #[.int .i64 c] := Blk.fresh w tb _
  generalize w.alloc (.cells #[.int .i64 c] tb) = w1 at *
  have hsrc : Src Tryz.prog 1 22 (.slice (some ⟨w.heap.size, 0, none⟩) 1 1) 1 (ivs [c]) w1 := Src.ofSlice w1 Tryz.underlying22 ⟨w.heap.size, 0, none⟩ 1 1 (ivs [c]) rfl (fun j u hu => by
    rw [row_add', Nat.zero_add, hx.at]
    simpa using hu) (fun u hu => by simp at hu; rw [hu]; rfl)
  obtain ⟨v', w', hr, hg', hgr, hv⟩ := run_append_src (P := Tryz.prog) w1 0 22 22 22 3 i0 _ 1 8 Tryz.underlying22 hi0 hz0 hz1 hz2 rfl (by omega) v q.length (ivs q) (h1.grow i hi) _ 1 (ivs [c]) hsrc (by unfold maxLen; omega) (by omega) (Nat.zero_le _)
  rw [show ivs q ++ ivs [c] = ivs (q ++ [c]) from (List.map_append ..).symm] at hg'
  refine ⟨v', w', hr, h1.turn i hi fun F hF hlt => ⟨fun x => v'.ownBlock = some x, ⟨by rw [List.length_append]; exact hg', fun x => Iff.rfl⟩, fun b hb => ?_, Dsk.Only.of_grown' hgr fun m hm => .inl ((hF.2 m).2 hm)⟩⟩
  have := (hg'.block b hb).2
  rcases hv with e | e
  · exact .inl ((hF.2 b).2 (by rw [← e]; exact hb))
  · rw [e] at hb
    injection hb with hb
    exact .inr (by omega)
theorem marks_at (w : World) (B : Option Addr) (cb : Nat) (r : List Nat) (hr : Reg r) (h : Row w w.heap.size B (qvs r)) : Calls Tryz.prog 32 #[.slice B r.length cb] w (MkPost (ivn r) w) := by
  have := rmarks_any w B cb (ivn r) (by rw [List.length_map]; have := hr.len; omega) (by rw [ivs_ivn]; exact h)
  rw [List.length_map] at this
  exact this
def insV (n : Nat) (dist : List Int) (r : List Nat) : List Int := r.map (fun c => if c < n then gt dist c else -1)
theorem insV_succ (n : Nat) (dist : List Int) {r : List Nat} {i : Nat} (h : i < r.length) : insV n dist (r.take (i + 1)) = insV n dist (r.take i) ++ [if r.getD i 0 < n then gt dist (r.getD i 0) else -1] := by
  unfold insV
  rw [List.take_add_one, List.map_append, List.getD_eq_getElem?_getD, List.getElem?_eq_getElem h]
  rfl
set_option maxRecDepth 100000 in
set_option maxHeartbeats 8000000 in
theorem rinside_any {f : Fl} (ho : f.ok) (p : Pl) (B C : Option Addr) (cb cc : Nat) (r : List Nat) (src : List Int) (w : World) (hin : FlIn w f p) (hr : Reg r) (hra : Row w w.heap.size B (qvs r)) (hsr : Row w w.heap.size C (ivs src)) (hls : src.length ≤ 1000000) :
    Calls Tryz.prog 30 #[f.val p, .slice B r.length cb, .slice C src.length cc] w (InsPost f r src w) := by
  have hn4 : f.Kind.length ≤ 4096 := by have := ho.kinds; have := ho.size; omega
  have HAV : Hid (∀ k, k < r.length → ∃ b o, B = some ⟨b, o, none⟩ ∧ ∀ w', Below w.heap.size w w' → w'.cell? ⟨b, o + k, none⟩ = some (.int .i64 (r.getD k 0 : Nat))) := Lib.hid fun k hk => row_valN hra hk
  have HMK : Hid (∀ w', Below w.heap.size w w' → Calls Tryz.prog 32 #[.slice B r.length cb] w' (MkPost (ivn r) w')) := Lib.hid fun w' b => marks_at w' B cb r hr (hra.lift b)
  have HDI : Hid (∀ w' g, Below w.heap.size w w' → Row w' w'.heap.size (some ⟨g, 0, none⟩) (bvs (mkL (ivn r))) → Calls Tryz.prog 54 #[f.val p, .slice (some ⟨g, 0, none⟩) 4096 4096, .slice C src.length cc, .bool false] w' (SpreadPost f src (ivn (offR f r)) false w')) := Lib.hid fun w' g b h => rspread_any ho p (some ⟨g, 0, none⟩) C 4096 cc r src false w' (hin.lift b) h (hsr.lift b) hls
  have HIS := Lib.hid (fun c w => qIs_any ho p c w)
  have HIS2 : Hid (∀ c : Nat, f.is c = decide (c < f.Kind.length)) := Lib.hid fun c => by
    unfold Fl.is
    rw [decide_eq_decide]
    have := ho.kinds
    omega
  have HFI : Hid (∀ dist w3 w' A c out, IsDist f.Kind.length (spSrc f src (ivn (offR f r))) (spE f (ivn (offR f r)) false) dist → Below w.heap.size w w3 → out = insV f.Kind.length dist (r.take r.length) → Sp w3 w' [RowT 1 (.slice A out.length c) out.length (ivs out)] → InsPost f r src w (.returned (.slice A out.length c)) w') := Lib.hid fun dist w3 w' A c out hd b ho hs => by
    rw [List.take_length] at ho
    have hl : out.length = r.length := by rw [ho]; exact List.length_map ..
    exact ⟨A, c, out, by rw [hl], ⟨dist, hd, ho⟩, row_of_any (hs.grow 0 rfl), next_below b hs.below⟩
  have HVS : Hid (∀ (dist : List Int) i, i < r.length → insV f.Kind.length dist (r.take (i + 1)) = insV f.Kind.length dist (r.take i) ++ [if r.getD i 0 < f.Kind.length then gt dist (r.getD i 0) else -1]) := Lib.hid fun dist i hi => insV_succ _ dist hi
  have HVL : Hid (∀ (dist : List Int) i, (insV f.Kind.length dist (r.take i)).length ≤ r.length) := Lib.hid fun dist i => by
    unfold insV
    rw [List.length_map, List.length_take]
    omega
  have HV0 : Hid (∀ (dist : List Int), [] = insV f.Kind.length dist (r.take 0)) := Lib.hid fun dist => by simp [insV]
  have HDL : Hid (∀ d, IsDist f.Kind.length (spSrc f src (ivn (offR f r))) (spE f (ivn (offR f r)) false) d → d.length = f.Kind.length) := Lib.hid fun d h => h.len
  have hrl : r.length ≤ 4096 := hr.len
  have hrl' : (r.length : Int) ≤ 4096 := by omega
  have HRL := Lib.hid hrl
  generalize InsPost f r src w = QQ at *
  unfold SpreadPost at HDI
  unfold MkPost at HMK
  clear ho hin hr hra hsr hls
  generalize IsDist f.Kind.length (spSrc f src (ivn (offR f r))) (spE f (ivn (offR f r)) false) = ID at *
  generalize mkL (ivn r) = MK at *
  obtain ⟨n, hn⟩ : ∃ n : Nat, n = f.Kind.length := ⟨_, rfl⟩
  obtain ⟨A1, c1, A2, c2⟩ := p
  have HV0' : Hid (f.val ⟨A1, c1, A2, c2⟩ = .agg #[.int .i64 f.W, .int .i64 f.H, .int .i64 f.D, .slice A1 n c1, .slice A2 f.Out.length c2]) := Lib.hid (by rw [hn])
  rw [HV0'.out] at HDI HIS ⊢
  rw [← hn] at hn4 HDI HFI HVS HVL HV0 HDL HIS2
  clear HV0' hn
  generalize f.W = W at *
  generalize f.H = H at *
  generalize f.D = D at *
  generalize f.Out.length = n2 at *
  generalize f.is = IS at *
  have hn4' : (n : Int) ≤ 4096 := by omega
  have HN := Lib.hid hn4
  clear hn4
  have HKB : Hid (∀ w', Below (w.alloc (.cells (boxV W H D A1 n c1 A2 n2 c2) 24)).heap.size (w.alloc (.cells (boxV W H D A1 n c1 A2 n2 c2) 24)) w' → BoxS w.heap.size W H D A1 n c1 A2 n2 c2 w' ∧ Below w.heap.size w w') := Lib.hid fun w' b => ⟨boxS ((Blk.fresh w _ _).under b (by simp)), next_below ((Below.refl _ w).alloc (Nat.le_refl _) _) b⟩
  go_enter Tryz.func30, Tryz.ntmps30
  go_upto_region 1 with (fail)
  generalize w.alloc (.cells #[.int .i64 W, .int .i64 H, .int .i64 D, .slice A1 n c1, .slice A2 n2 c2] 24) = wb at *
  have HBD : Hid (Below wb.heap.size wb wb.drew) := Lib.hid (Below.refl _ wb).drew
  obtain ⟨m0, m1, m2, m3, m4⟩ := (HKB.out _ (Below.refl _ wb)).1
  go_region_held3 (fun w' => BoxS w.heap.size W H D A1 n c1 A2 n2 c2 w') (first | exact (HKB.out _ HBD.out).1 | exact (HKB.out _ b5).1 | exact (HKB.out _ b6).1 | go_keep)
    (first
      | (go_at_call 32; refine (HMK.out _ (HKB.out _ HBD.out).2).mono ?_; rintro e w5 ⟨g5, rfl, h5⟩; have b5 := HBD.out.trans (h5.below.mono HBD.out.size); have hr5 := row_of_grow (h5.grow 0 rfl); have hw5 := (HKB.out _ b5).2)
      | (go_at_call 54; refine (HDI.out _ g5 hw5 hr5).mono ?_; rintro e w6 ⟨A6, c6, dist, rfl, hdist, hrd, b6'⟩; have b6 := b5.trans (b6'.mono b5.size); have hw6 := (HKB.out _ b6).2))
  have HRD := Lib.hid hrd
  have HID := Lib.hid hdist
  have HW6 := Lib.hid hw6
  have HLD := Lib.hid (HDL.out dist hdist)
  have HKB6 : Hid (∀ w', Below w6.heap.size w6 w' → BoxS w.heap.size W H D A1 n c1 A2 n2 c2 w') := Lib.hid fun w' b => (HKB.out _ (next_below b6 b)).1
  have HSN := Lib.hid ((Sp.nil (Below.refl w6.heap.size w6)).nil_row 1)
  have HVS1 := Lib.hid (HVS.out dist)
  have HVL1 := Lib.hid (HVL.out dist)
  have HV01 := Lib.hid (HV0.out dist)
  have HFI1 := Lib.hid (fun w' A c out => HFI.out dist w6 w' A c out hdist hw6)
  clear h5 b5 hr5 hw5 b6' b6 hrd hdist hw6 HKB HBD HMK HDI m0 m1 m2 m3 m4 HVS HVL HV0 HFI HDL
  generalize insV n dist = VV at *
  go_wp2_with fail
  go_loopw [8, 9] (fun ov iv wr => ∃ (i : Nat) (out : List Int), iv = .int .i64 ((i : Nat) : Int) ∧ i ≤ r.length ∧ Hid (out = VV (r.take i)) ∧ Hid (Sp w6 wr [RowT 1 ov out.length (ivs out)])) (fun _ iv _ => r.length - (intOf iv).toNat)
  case atStart => exact ⟨0, [], rfl, Nat.zero_le _, HV01, HSN⟩
  case round =>
    clear HSN HV01
    obtain ⟨i, out, rfl, hi, HOU, HSP⟩ := hrel
    obtain ⟨Aq, cq, rfl⟩ := (HSP.out.grow 0 rfl).slice
    by_cases hlt : i < r.length
    · obtain ⟨b, o, rfl, hc⟩ := HAV.out i hlt
      have HC : Hid (∀ w', Below wr.heap.size wr w' → w'.cell? ⟨b, o + i, none⟩ = some (.int .i64 ((r.getD i 0 : Nat) : Int))) := Lib.hid fun w' bw => hc _ (next_below HW6.out (next_below HSP.out.below bw))
      have HKR : Hid (∀ w', Below wr.heap.size wr w' → BoxS w.heap.size W H D A1 n c1 A2 n2 c2 w') := Lib.hid fun w' bw => HKB6.out w' (next_below HSP.out.below bw)
      have HVJ := Lib.hid (HVS1.out i hlt)
      have HOL : Hid (out.length ≤ 100000) := Lib.hid (by rw [HOU.out]; have := HVL1.out i; have := HRL.out; omega)
      have hi9 : (i : Int) < (r.length : Int) := by omega
      clear hc
      generalize r.getD i 0 = k at *
      have HISK := Lib.hid (fun w => HIS.out (k : Int) w)
      rw [HIS2.out k] at HISK
      have HB0 : Hid (Below wr.heap.size wr wr.drew) := Lib.hid (Below.refl _ wr).drew
      go_upto_region 6 with (fail)
      go_region_held3 (fun w' => w'.cell? ⟨b, o + i, none⟩ = some (.int .i64 (k : Int)) ∧ BoxS w.heap.size W H D A1 n c1 A2 n2 c2 w') (first | exact ⟨HC.out _ HB0.out, HKR.out _ HB0.out⟩ | exact ⟨HC.out _ b7, HKR.out _ b7⟩ | exact HC.out _ HB0.out | exact HC.out _ b7 | exact HKR.out _ HB0.out | exact HKR.out _ b7 | go_keep)
        (first | (go_at_call 55; refine (HISK.out _).mono ?_; rintro e w7 ⟨rfl, b7'⟩; have b7 := HB0.out.trans b7'))
      have HSP7 := Lib.hid (HSP.out.keep b7)
      have z7 := HC.out _ b7
      clear b7 b7' HSP HC HKR HISK HB0
      by_cases hk : k < n
      · have hkd : decide (k < n) = true := decide_eq_true hk
        have hk' : (k : Int) < (n : Int) := by omega
        obtain ⟨bd, od, rfl, hcd⟩ := row_val HRD.out (k := k) (by rw [HLD.out]; exact hk)
        have zd := hcd _ HSP7.out.below
        have eg : dist.getD k 0 = gt dist k := by
          unfold gt
          rw [List.getD_eq_getElem?_getD, List.getD_eq_getElem?_getD, List.getElem?_eq_getElem (by rw [HLD.out]; exact hk)]
          rfl
        rw [eg] at zd
        have HO2 : Hid (out ++ [gt dist k] = VV (r.take (i + 1))) := Lib.hid (by rw [HVJ.out, if_pos hk, HOU.out])
        clear hcd eg HVJ HOU
        generalize gt dist k = dv at *
        have HPU := Lib.hid (push_i64 (q := out) HSP7.out 0 rfl dv HOL.out 3)
        go_wp2_with (at_builtin; obtain ⟨v8, w8, r8, h8⟩ := HPU.out; have H8 : Hid (Sp w6 w8 [RowT 1 v8 (out ++ [dv]).length (ivs (out ++ [dv]))]) := Lib.hid h8; refine wpList_append_run rfl _ _ _ _ rfl (by simp [go_sem]) (by simp [go_sem]) r8 ?_; clear r8 h8)
        go_roundw
        case rel => exact ⟨i + 1, out ++ [dv], by simp, hlt, HO2, H8⟩
        case measure => simp [intOf]; omega
      · have hkd : decide (k < n) = false := decide_eq_false hk
        have HO2 : Hid (out ++ [-1] = VV (r.take (i + 1))) := Lib.hid (by rw [HVJ.out, if_neg hk, HOU.out])
        clear HVJ HOU
        have HPU := Lib.hid (push_i64 (q := out) HSP7.out 0 rfl (-1) HOL.out 3)
        go_wp2_with (at_builtin; obtain ⟨v8, w8, r8, h8⟩ := HPU.out; have H8 : Hid (Sp w6 w8 [RowT 1 v8 (out ++ [-1]).length (ivs (out ++ [-1]))]) := Lib.hid h8; refine wpList_append_run rfl _ _ _ _ rfl (by simp [go_sem]) (by simp [go_sem]) r8 ?_; clear r8 h8)
        go_roundw
        case rel => exact ⟨i + 1, out ++ [-1], by simp, hlt, HO2, H8⟩
        case measure => simp [intOf]; omega
    · obtain rfl : i = r.length := by omega
      have HX := Lib.hid (HFI1.out wr Aq cq out HOU.out HSP.out)
      clear HAV HVS1 HVL1 HFI1
      go_wp2_with fail
      have hx := HX.out
      exact hx
end Rgn
end Go.Proofs.YtgophgnfiboefaaGreatDoor

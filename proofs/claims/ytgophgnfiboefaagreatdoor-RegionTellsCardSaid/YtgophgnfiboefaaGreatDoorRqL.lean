/- The reference's part, Linked. -/
import Derived.Test.YtgophgnfiboefaaGreatDoorRqK
import Derived.Test.YtgophgnfiboefaaGreatDoorMhS
namespace Go.Proofs.YtgophgnfiboefaaGreatDoor
open Go.RowKit Wire
open Txt (Row)
open Go.Proofs.YtgophgnfiboefaaGreatDoor.Own Flo
open Dsk (Only nth)
set_option linter.unusedVariables false
set_option linter.unusedSimpArgs false
namespace Rgn
set_option maxRecDepth 100000 in
set_option maxHeartbeats 8000000 in
theorem rpart_any {f : Fl} (ho : f.ok) (p : Pl) (g cm : Nat) (a : List Nat) (x : Nat) (w : World) (hin : FlIn w f p) (hm : Row w w.heap.size (some ⟨g, 0, none⟩) (bvs (mkL (ivn a)))) :
    Calls Tryz.prog 50 #[f.val p, .slice (some ⟨g, 0, none⟩) 4096 cm, .int .i64 x] w (NewL w (clsL f a x)) := by
  have hn4 : f.Kind.length ≤ 4096 := by have := ho.kinds; have := ho.size; omega
  have HDI : Hid (∀ w' h bk, Below w.heap.size w w' → Blk w' h 3 #[.int .i64 x] → Calls Tryz.prog 54 #[f.val p, .slice (some ⟨g, 0, none⟩) 4096 cm, .slice (some ⟨h, 0, none⟩) 1 1, .bool bk] w' (SpreadPost f [(x : Int)] (ivn (offR f a)) bk w')) := Lib.hid fun w' h bk b hb => rspread_any ho p (some ⟨g, 0, none⟩) (some ⟨h, 0, none⟩) cm 1 a [(x : Int)] bk w' (hin.lift b) (hm.lift b) (fun k u hu => by
    have hk : k = 0 := by
      have := (List.getElem?_eq_some_iff.1 hu).1
      simp at this
      omega
    subst hk
    refine ⟨h, 0, rfl, hb.inside, ?_⟩
    have := hb.at 0
    simp at hu
    rw [← hu]
    simpa using this) (by simp)
  have HCL : Hid (∀ D1 D2, IsDist f.Kind.length (spSrc f [(x : Int)] (ivn (offR f a))) (spE f (ivn (offR f a)) false) D1 → IsDist f.Kind.length (spSrc f [(x : Int)] (ivn (offR f a))) (spE f (ivn (offR f a)) true) D2 → D1.length = f.Kind.length ∧ D2.length = f.Kind.length ∧ ∀ i, i < f.Kind.length → regOf (clsB f a x) (i + 1) = regOf (clsB f a x) i ++ if (decide (0 ≤ gt D1 i) && decide (0 ≤ gt D2 i)) = true then [i] else []) := Lib.hid fun D1 D2 h1 h2 => ⟨h1.len, h2.len, fun i hi => by
    rw [regOf_succ, cls_dist ho h1 h2 hi]⟩
  have HFI : Hid (∀ w3 w' v out, Below w.heap.size w w3 → out = regOf (clsB f a x) f.Kind.length → Sp w3 w' [RowT 1 v out.length (qvs out)] → NewL w (clsL f a x) (.returned v) w') := Lib.hid fun w3 w' v out b ho hs => by
    subst ho
    exact ⟨v, rfl, ⟨next_below b hs.below, by
      obtain ⟨_, F, h1, h2, h3⟩ := hs
      exact ⟨F, h1, fun i y hy => ⟨by have := (h2 i y hy).1; have := b.size; omega, (h2 i y hy).2⟩, h3⟩⟩⟩
  have HLN : Hid (∀ i, (regOf (clsB f a x) i).length ≤ i) := Lib.hid fun i => regOf_len _ _
  have HDF := Lib.hid (fun w' h b k => HDI.out w' h false b k)
  have HDT := Lib.hid (fun w' h b k => HDI.out w' h true b k)
  generalize NewL w (clsL f a x) = QQ at *
  unfold SpreadPost at HDF HDT
  clear ho hin hm HDI
  generalize IsDist f.Kind.length (spSrc f [(x : Int)] (ivn (offR f a))) (spE f (ivn (offR f a)) false) = ID1 at *
  generalize IsDist f.Kind.length (spSrc f [(x : Int)] (ivn (offR f a))) (spE f (ivn (offR f a)) true) = ID2 at *
  generalize regOf (clsB f a x) = RG at *
  obtain ⟨n, hn⟩ : ∃ n : Nat, n = f.Kind.length := ⟨_, rfl⟩
  obtain ⟨A1, c1, A2, c2⟩ := p
  have HV0' : Hid (f.val ⟨A1, c1, A2, c2⟩ = .agg #[.int .i64 f.W, .int .i64 f.H, .int .i64 f.D, .slice A1 n c1, .slice A2 f.Out.length c2]) := Lib.hid (by rw [hn])
  rw [HV0'.out] at HDF HDT ⊢
  rw [← hn] at hn4 HDF HDT HCL HFI
  clear HV0' hn
  generalize f.W = W at *
  generalize f.H = H at *
  generalize f.D = D at *
  generalize f.Out.length = n2 at *
  have hn4' : (n : Int) ≤ 4096 := by omega
  have HN := Lib.hid hn4
  clear hn4
  have HKB : Hid (∀ w', Below (w.alloc (.cells (boxV W H D A1 n c1 A2 n2 c2) 24)).heap.size (w.alloc (.cells (boxV W H D A1 n c1 A2 n2 c2) 24)) w' → BoxS w.heap.size W H D A1 n c1 A2 n2 c2 w' ∧ Below w.heap.size w w') := Lib.hid fun w' b => ⟨boxS ((Blk.fresh w _ _).under b (by simp)), next_below ((Below.refl _ w).alloc (Nat.le_refl _) _) b⟩
  go_enter Tryz.func50, Tryz.ntmps50
  go_upto_region 1 with (fail)
  generalize w.alloc (.cells #[.int .i64 W, .int .i64 H, .int .i64 D, .slice A1 n c1, .slice A2 n2 c2] 24) = wb at *
  obtain ⟨m0, m1, m2, m3, m4⟩ := (HKB.out _ (Below.refl _ wb)).1
  have HA1 : Hid (Below w.heap.size w (wb.alloc (.cells #[.int .i64 x] 3))) := Lib.hid (HKB.out _ ((Below.refl _ wb).alloc (Nat.le_refl _) _)).2
  have HX1 : Hid (Blk (wb.alloc (.cells #[.int .i64 x] 3)) wb.heap.size 3 #[.int .i64 x]) := Lib.hid (Blk.fresh wb _ _)
  go_upto_region 2 with (go_at_call 54; refine (HDF.out _ _ HA1.out HX1.out).mono ?_; rintro e w5 ⟨A5, c5, D1, rfl, hd1, hr1, b5⟩)
  have B5 : Hid (Below wb.heap.size wb w5) := Lib.hid (next_below ((Below.refl _ wb).alloc (Nat.le_refl _) _) b5)
  have HA2 : Hid (Below w.heap.size w (w5.alloc (.cells #[.int .i64 x] 3))) := Lib.hid (HKB.out _ (next_below B5.out ((Below.refl _ w5).alloc (Nat.le_refl _) _))).2
  have HX2 : Hid (Blk (w5.alloc (.cells #[.int .i64 x] 3)) w5.heap.size 3 #[.int .i64 x]) := Lib.hid (Blk.fresh w5 _ _)
  have HR1 := Lib.hid hr1
  have HD1 := Lib.hid hd1
  clear m0 m1 m2 m3 m4 hr1 hd1 b5 HDF HA1 HX1
  obtain ⟨m0, m1, m2, m3, m4⟩ := (HKB.out _ B5.out).1
  go_upto_region 3 with (go_at_call 54; refine (HDT.out _ _ HA2.out HX2.out).mono ?_; rintro e w6 ⟨A6, c6, D2, rfl, hd2, hr2, b6⟩)
  have B6 : Hid (Below w5.heap.size w5 w6) := Lib.hid (next_below ((Below.refl _ w5).alloc (Nat.le_refl _) _) b6)
  have HR1' := Lib.hid (HR1.out.lift B6.out)
  have HR2 := Lib.hid hr2
  obtain ⟨hl1, hl2, hcl⟩ := HCL.out D1 D2 HD1.out hd2
  have HL1 := Lib.hid hl1
  have HL2 := Lib.hid hl2
  have HRG := Lib.hid hcl
  have HW6 := Lib.hid (HKB.out _ (next_below B5.out B6.out)).2
  have HSN := Lib.hid ((Sp.nil (Below.refl w6.heap.size w6)).nil_row 1)
  have HFI6 := Lib.hid (fun w' v out => HFI.out w6 w' v out HW6.out)
  have HR0 : Hid (([] : List Nat) = RG 0) := Lib.hid (List.eq_nil_of_length_eq_zero (by have := HLN.out 0; omega)).symm
  clear m0 m1 m2 m3 m4 hr2 hd2 b6 HDT HA2 HX2 hl1 hl2 hcl HD1 HR1 B5 B6 HKB HCL HFI HW6
  go_wp2_with fail
  go_loopw [9, 10] (fun ov iv wr => ∃ (i : Nat) (out : List Nat), iv = .int .i64 ((i : Nat) : Int) ∧ i ≤ n ∧ Hid (out = RG i) ∧ Hid (Sp w6 wr [RowT 1 ov out.length (qvs out)])) (fun _ iv _ => n - (intOf iv).toNat)
  case atStart => exact ⟨0, [], rfl, Nat.zero_le _, HR0, HSN⟩
  case round =>
    clear HSN HR0
    obtain ⟨i, out, rfl, hi, HOU, HSP⟩ := hrel
    obtain ⟨Aq, cq, rfl⟩ := (HSP.out.grow 0 rfl).slice
    by_cases hlt : i < n
    · obtain ⟨b1, o1, rfl, hc1⟩ := row_val HR1'.out (k := i) (by rw [HL1.out]; exact hlt)
      obtain ⟨b2, o2, rfl, hc2⟩ := row_val HR2.out (k := i) (by rw [HL2.out]; exact hlt)
      have z1 := hc1 _ HSP.out.below
      have z2 := hc2 _ HSP.out.below
      have e1 : D1.getD i 0 = gt D1 i := by
        unfold gt
        rw [List.getD_eq_getElem?_getD, List.getD_eq_getElem?_getD, List.getElem?_eq_getElem (by rw [HL1.out]; exact hlt)]
        rfl
      have e2 : D2.getD i 0 = gt D2 i := by
        unfold gt
        rw [List.getD_eq_getElem?_getD, List.getD_eq_getElem?_getD, List.getElem?_eq_getElem (by rw [HL2.out]; exact hlt)]
        rfl
      rw [e1] at z1
      rw [e2] at z2
      have HRI := Lib.hid (HRG.out i hlt)
      have HOL : Hid (out.length ≤ 100000) := Lib.hid (by rw [HOU.out]; have := HLN.out i; have := HN.out; omega)
      have hi4 : (i : Int) < (n : Int) := by omega
      clear hc1 hc2 e1 e2
      generalize gt D1 i = u1 at *
      generalize gt D2 i = u2 at *
      by_cases k1 : 0 ≤ u1
      · by_cases k2 : 0 ≤ u2
        · have HO2 : Hid (out ++ [i] = RG (i + 1)) := Lib.hid (by rw [HRI.out, HOU.out, decide_eq_true k1, decide_eq_true k2]; rfl)
          have HPU := Lib.hid (push_int (q := out) HSP.out 0 rfl i HOL.out 3)
          clear HRI HOU
          go_upto_region 8 with (fail)
          go_wp2_with (at_builtin; obtain ⟨v8, w8, r8, h8⟩ := HPU.out; have H8 : Hid (Sp w6 w8 [RowT 1 v8 (out ++ [i]).length (qvs (out ++ [i]))]) := Lib.hid h8; refine wpList_append_run rfl _ _ _ _ rfl (by simp [go_sem]) (by simp [go_sem]) r8 ?_; clear r8 h8)
          go_roundw
          case rel => exact ⟨i + 1, out ++ [i], by simp, hlt, HO2, H8⟩
          case measure => simp [intOf]; omega
        · have HO2 : Hid (out = RG (i + 1)) := Lib.hid (by rw [HRI.out, HOU.out, decide_eq_false k2, Bool.and_false]; simp)
          clear HRI HOU
          go_wp2_with fail
          go_roundw
          case rel => exact ⟨i + 1, out, by simp, hlt, HO2, HSP⟩
          case measure => simp [intOf]; omega
      · have HO2 : Hid (out = RG (i + 1)) := Lib.hid (by rw [HRI.out, HOU.out, decide_eq_false k1, Bool.false_and]; simp)
        clear HRI HOU
        go_wp2_with fail
        go_roundw
        case rel => exact ⟨i + 1, out, by simp, hlt, HO2, HSP⟩
        case measure => simp [intOf]; omega
    · obtain rfl : i = n := by omega
      have HX := Lib.hid (HFI6.out wr _ out HOU.out HSP.out)
      clear HRG HFI6
      go_wp2_with fail
      have hx := HX.out
      exact hx
set_option maxRecDepth 100000 in
set_option maxHeartbeats 4000000 in
theorem rlinked_any {f : Fl} (ho : f.ok) (p : Pl) (B : Option Addr) (cb : Nat) (r : List Nat) (w : World) (hin : FlIn w f p) (hr : Reg r) (hra : Row w w.heap.size B (qvs r)) :
    Calls Tryz.prog 26 #[f.val p, .slice B r.length cb] w fun e w' => e = .returned (.bool (lnkB f r)) ∧ Below w.heap.size w w' := by
  have hrl := hr.len
  have HAV : Hid (∀ k, k < r.length → ∃ b o, B = some ⟨b, o, none⟩ ∧ ∀ w', Below w.heap.size w w' → w'.cell? ⟨b, o + k, none⟩ = some (.int .i64 (r.getD k 0 : Nat))) := Lib.hid fun k hk => row_valN hra hk
  have HMK : Hid (∀ w', Below w.heap.size w w' → Calls Tryz.prog 32 #[.slice B r.length cb] w' (MkPost (ivn r) w')) := Lib.hid fun w' b => marks_at w' B cb r hr (hra.lift b)
  have HPT : Hid (∀ w' g x, Below w.heap.size w w' → Row w' w'.heap.size (some ⟨g, 0, none⟩) (bvs (mkL (ivn r))) → Calls Tryz.prog 50 #[f.val p, .slice (some ⟨g, 0, none⟩) 4096 4096, .int .i64 ((x : Nat) : Int)] w' (GotL w' (clsL f r x))) := Lib.hid fun w' g x b h => got_of (rpart_any ho p g 4096 r x w' (hin.lift b) h)
  have HSA : Hid (∀ (q : List Nat) A c w', q.length ≤ 1000000 → Row w' w'.heap.size A (qvs q) → Below w.heap.size w w' → Calls Tryz.prog 22 #[.slice A q.length c, .slice B r.length cb] w' fun e w'' => e = .returned (.bool (decide (q = r))) ∧ Below w'.heap.size w' w'') := Lib.hid fun q A c w' hq h1 b => rsame8_any w' A B c cb q r hq (by omega) h1 (hra.lift b)
  have HCL : Hid (∀ x, (clsL f r x).length ≤ 1000000) := Lib.hid fun x => by have := clsL_len f r x; have := ho.kinds; have := ho.size; omega
  have HL0 : Hid (r.length = 0 → lnkB f r = true) := Lib.hid fun h => decide_eq_true (.inl (List.eq_nil_of_length_eq_zero h))
  have HL1 : Hid (¬ r.length = 0 → decide (clsL f r (r.getD 0 0) = r) = lnkB f r) := Lib.hid fun h => clsL_linked ho hr (fun e => h (by rw [e]; rfl))
  generalize hres : lnkB f r = res at *
  unfold MkPost at HMK
  unfold GotL at HPT
  clear ho hin hr hra hres
  generalize mkL (ivn r) = MK at *
  generalize clsL f r = CL at *
  obtain ⟨A1, c1, A2, c2⟩ := p
  obtain ⟨W, H, D, K, O⟩ := f
  dsimp only [Fl.val] at *
  generalize K.length = n at *
  generalize O.length = n2 at *
  have hrl' : (r.length : Int) ≤ 4096 := by omega
  have HKB : Hid (∀ w', Below (w.alloc (.cells (boxV W H D A1 n c1 A2 n2 c2) 24)).heap.size (w.alloc (.cells (boxV W H D A1 n c1 A2 n2 c2) 24)) w' → BoxS w.heap.size W H D A1 n c1 A2 n2 c2 w' ∧ Below w.heap.size w w') := Lib.hid fun w' b => ⟨boxS ((Blk.fresh w _ _).under b (by simp)), next_below ((Below.refl _ w).alloc (Nat.le_refl _) _) b⟩
  by_cases h0 : r.length = 0
  · have HX := Lib.hid (HL0.out h0)
    have HB1 := Lib.hid (HKB.out _ (Below.refl _ _)).2
    rw [h0]
    clear HL0 HL1 HAV HMK HPT HSA HCL HKB hrl
    go_enter Tryz.func26, Tryz.ntmps26
    go_wp2_with fail
    go_ret
    exact ⟨by rw [HX.out]; rfl, HB1.out⟩
  · have h0' : ¬ (r.length : Int) = 0 := by omega
    have h0'' : ((r.length : Int) == 0) = false := by rw [beq_eq_false_iff_ne]; omega
    have h0''' : (0 : Int) < (r.length : Int) := by omega
    have h0n : 0 < r.length := by omega
    obtain ⟨b, o, rfl, hc⟩ := HAV.out 0 (by omega)
    have HX := Lib.hid (HL1.out h0)
    rw [Nat.add_zero] at hc
    have HC := Lib.hid hc
    clear HL0 HL1 HAV hc hrl
    generalize r.getD 0 0 = x at *
    have HCX := Lib.hid (HCL.out x)
    have HPX := Lib.hid (fun w' g => HPT.out w' g x)
    have HSX := Lib.hid (fun A c w' => HSA.out (CL x) A c w' HCX.out)
    rw [HX.out] at HSX
    clear HX HCL HPT HSA HCX
    generalize CL x = cx at *
    generalize r.length = rl at *
    go_enter Tryz.func26, Tryz.ntmps26
    go_upto_region 3 with (fail)
    generalize w.alloc (.cells #[.int .i64 W, .int .i64 H, .int .i64 D, .slice A1 n c1, .slice A2 n2 c2] 24) = wb at *
    have HBD : Hid (Below wb.heap.size wb wb.drew) := Lib.hid (Below.refl _ wb).drew
    have HCC : Hid (∀ w', Below wb.heap.size wb w' → w'.cell? ⟨b, o, none⟩ = some (.int .i64 ((x : Nat) : Int)) ∧ BoxS w.heap.size W H D A1 n c1 A2 n2 c2 w') := Lib.hid fun w' bw => ⟨HC.out w' (HKB.out w' bw).2, (HKB.out w' bw).1⟩
    obtain ⟨z, m0, m1, m2, m3, m4⟩ := HCC.out _ (Below.refl _ wb)
    go_region_held3 (fun w' => w'.cell? ⟨b, o, none⟩ = some (.int .i64 ((x : Nat) : Int)) ∧ BoxS w.heap.size W H D A1 n c1 A2 n2 c2 w') (first | exact HCC.out _ HBD.out | exact HCC.out _ b5 | exact HCC.out _ b6 | exact HCC.out _ b7 | go_keep)
      (first
        | (go_at_call 32; refine (HMK.out _ (HKB.out _ HBD.out).2).mono ?_; rintro e w5 ⟨g5, rfl, h5⟩; have b5 := HBD.out.trans (h5.below.mono HBD.out.size); have hr5 := row_of_grow (h5.grow 0 rfl); have hw5 := (HKB.out _ b5).2)
        | (go_at_call 50; refine (HPX.out _ g5 hw5 hr5).mono ?_; rintro e w6 ⟨A6, c6, rfl, hr6, b6'⟩; have b6 := b5.trans (b6'.mono b5.size); have hw6 := (HKB.out _ b6).2)
        | (go_at_call 22; refine (HSX.out A6 c6 _ hr6 hw6).mono ?_; rintro e w7 ⟨rfl, b7'⟩; have b7 := b6.trans (b7'.mono b6.size)))
    all_goals
      have HW7 := Lib.hid (HKB.out _ b7).2
      clear b7 b7' b6 b6' hr6 hw6
      first | exact ⟨rfl, HW7.out⟩ | (go_ret; exact ⟨rfl, HW7.out⟩) | (go_wp2_with fail; first | exact ⟨rfl, HW7.out⟩ | (go_ret; exact ⟨rfl, HW7.out⟩))
end Rgn
end Go.Proofs.YtgophgnfiboefaaGreatDoor

/- RegionTells. -/
import Derived.Test.YtgophgnfiboefaaGreatDoorRqN
namespace Go.Proofs.YtgophgnfiboefaaGreatDoor
open Go.RowKit Wire
open Txt (Row)
open Go.Proofs.YtgophgnfiboefaaGreatDoor.Own Flo
open Dsk (Only nth)
set_option linter.unusedVariables false
set_option linter.unusedSimpArgs false
namespace Rgn
set_option maxRecDepth 100000 in
set_option maxHeartbeats 16000000 in
theorem tells_holds8 (f : Fl) (p : Pl) (A1 : Option Addr) (c1 : Nat) (l1 : List Int) (A2 : Option Addr) (c2 : Nat) (l2 : List Int) (A3 : Option Addr) (c3 : Nat) (l3 : List Int) (z : Int) (W : World) (hv : VS W ∧ VO W) (hin : FlIn W f p) (hlk : f.Kind.length ≤ maxLen) (hlo : f.Out.length ≤ maxLen) (hr1 : Row W W.heap.size A1 (ivs l1)) (hm1 : l1.length ≤ maxLen) (hr2 : Row W W.heap.size A2 (ivs l2)) (hm2 : l2.length ≤ maxLen) (hr3 : Row W W.heap.size A3 (ivs l3)) (hm3 : l3.length ≤ maxLen) :
    Calls Tryz.prog 3 #[f.val p, .slice A1 l1.length c1, .slice A2 l2.length c2, .slice A3 l3.length c3, .int .i64 z] W fun e w' => e = .returned (.bool true) ∧ Below W.heap.size W w' := by
  have HSM : Hid (∀ w', Below W.heap.size W w' → Calls Tryz.prog 4 #[] w' fun e w2 => e = .returned (.bool true) ∧ Below w'.heap.size w' w2) := Lib.hid fun w' b => regSmall_any w' (hv.1.lift b) (hv.2.lift b)
  have HFI : Hid (∀ w', Below W.heap.size W w' → Calls Tryz.prog 10 #[f.val p, .slice A1 l1.length c1, .int .i64 60] w' fun e w2 => e = .returned (.bool (fitB f 60 l1)) ∧ Below w'.heap.size w' w2) := Lib.hid fun w' b => regFits_any f p 60 A1 c1 l1 w' (hin.lift b) (small_le2 hlk) (small_le2 hlo) (small_le2 hm1) (hr1.lift b)
  have HR3 : Hid (∀ w', Below W.heap.size W w' → Calls Tryz.prog 5 #[.slice A3 l3.length c3] w' fun e w2 => e = .returned (.bool (isReg l3)) ∧ Below w'.heap.size w' w2) := Lib.hid fun w' b => (right_reg w' A3 c3 l3 (small_le2 hm3) (hr3.lift b)).mono fun e w2 h => ⟨h.1, by rw [← h.2]; exact Below.refl _ _⟩
  have HQ3 : Hid (∀ w', Below W.heap.size W w' → Calls Tryz.prog 6 #[.slice A3 l3.length c3] w' fun e w2 => e = .returned (.bool (isReg l3)) ∧ Below w'.heap.size w' w2) := Lib.hid fun w' b => rright_any w' A3 c3 l3 (small_le2 hm3) (hr3.lift b)
  have HO3 : Hid (∀ w', Below W.heap.size W w' → Calls Tryz.prog 8 #[.slice A3 l3.length c3] w' (GotL w' (regOf (fun c : Nat => decide ((c : Int) ∈ l3)) 4096))) := Lib.hid fun w' b => got_of (of_any w' A3 c3 l3 (small_le2 hm3) (hr3.lift b))
  have HP3 : Hid (∀ w', Below W.heap.size W w' → Calls Tryz.prog 9 #[.slice A3 l3.length c3] w' (GotL w' (regOf (fun c : Nat => decide ((c : Int) ∈ l3)) 4096))) := Lib.hid fun w' b => got_of (rof_any w' A3 c3 l3 (small_le2 hm3) (hr3.lift b))
  have HOL : Hid ((regOf (fun c : Nat => decide ((c : Int) ∈ l3)) 4096).length ≤ 1000000) := Lib.hid (Nat.le_trans (regOf_len _ 4096) (by omega))
  have HR2 : Hid (∀ w', Below W.heap.size W w' → Calls Tryz.prog 5 #[.slice A2 l2.length c2] w' fun e w2 => e = .returned (.bool (isReg l2)) ∧ Below w'.heap.size w' w2) := Lib.hid fun w' b => (right_reg w' A2 c2 l2 (small_le2 hm2) (hr2.lift b)).mono fun e w2 h => ⟨h.1, by rw [← h.2]; exact Below.refl _ _⟩
  have HTL : Hid (fitB f 60 l1 = true → isReg l2 = true → l3.length ≤ 200 → ∃ U I D E hb sb wb lk N P INS, TlC (f.val p) A1 A2 A3 l1.length c1 l2.length c2 l3.length c3 z W U I D E hb sb wb lk N P INS) := Lib.hid fun h1 h2 h3 => by
    obtain ⟨ho, _, _, h4⟩ := fitB_iff.1 h1
    obtain ⟨a, rfl, ha⟩ := reg_of h4
    obtain ⟨b, rfl, hb⟩ := reg_of h2
    rw [ivs_ivn] at hr1 hr2
    have := tlc ho p A1 A2 A3 c1 c2 c3 a b l3 z W hv.1 hv.2 hin ha hb (by omega) hr1 hr2 hr3
    rw [List.length_map, List.length_map]
    exact this
  have hk1 : (l1.length : Int) ≤ 9223372036854775807 := by have := small_le2 hm1; omega
  have hk2 : (l2.length : Int) ≤ 9223372036854775807 := by have := small_le2 hm2; omega
  have hk3 : (l3.length : Int) ≤ 9223372036854775807 := by have := small_le2 hm3; omega
  clear hv hin hlk hlo hr1 hm1 hr2 hm2 hr3 hm3
  generalize fitB f 60 l1 = fb at *
  generalize isReg l2 = rb at *
  generalize isReg l3 = rc at *
  generalize regOf (fun c : Nat => decide ((c : Int) ∈ l3)) 4096 = OL at *
  generalize l1.length = la at *
  generalize l2.length = lb at *
  generalize l3.length = ll at *
  unfold GotL at HO3 HP3
  obtain ⟨K1, q1, K2, q2⟩ := p
  obtain ⟨fW, fH, fD, K, O⟩ := f
  dsimp only [Fl.val] at *
  generalize K.length = n at *
  generalize O.length = n2 at *
  have HBX : Hid (∀ w', Below (W.alloc (.cells (boxV fW fH fD K1 n q1 K2 n2 q2) 24)).heap.size (W.alloc (.cells (boxV fW fH fD K1 n q1 K2 n2 q2) 24)) w' → BoxS W.heap.size fW fH fD K1 n q1 K2 n2 q2 w') := Lib.hid fun w' b => boxS ((Blk.fresh W _ _).under b (by simp))
  have HBW : Hid (∀ w', Below (W.alloc (.cells (boxV fW fH fD K1 n q1 K2 n2 q2) 24)).heap.size (W.alloc (.cells (boxV fW fH fD K1 n q1 K2 n2 q2) 24)) w' → Below W.heap.size W w') := Lib.hid fun w' b => next_below ((Below.refl _ W).alloc (Nat.le_refl _) _) b
  go_enter Tryz.func3, Tryz.ntmps3
  go_upto_region 1 with (fail)
  generalize W.alloc (.cells #[.int .i64 fW, .int .i64 fH, .int .i64 fD, .slice K1 n q1, .slice K2 n2 q2] 24) = wb at *
  have B0 : Hid (Below wb.heap.size wb wb) := Lib.hid (Below.refl _ wb)
  go_upto_region 2 with (go_at_call 4; (refine (HSM.out _ (HBW.out _ B0.out)).mono ?_); rintro e w1 ⟨rfl, b1⟩; have B1 := Lib.hid (next_below B0.out b1); clear b1)
  by_cases h3 : ll ≤ 200
  case neg =>
    have h3' : (200 : Int) < (ll : Int) := by omega
    go_wp2_with fail
    go_ret
    exact ⟨rfl, HBW.out _ B1.out⟩
  have h3' : ¬ (200 : Int) < (ll : Int) := by omega
  by_cases h1 : la ≤ 200
  case neg =>
    have h1' : (200 : Int) < (la : Int) := by omega
    go_wp2_with fail
    go_ret
    exact ⟨rfl, HBW.out _ B1.out⟩
  have h1' : ¬ (200 : Int) < (la : Int) := by omega
  by_cases h2 : lb ≤ 200
  case neg =>
    have h2' : (200 : Int) < (lb : Int) := by omega
    go_wp2_with fail
    go_ret
    exact ⟨rfl, HBW.out _ B1.out⟩
  have h2' : ¬ (200 : Int) < (lb : Int) := by omega
  go_upto_region 4 with (fail)
  have hrc : (rc != rc) = false := by simp
  go_upto_region 6 with (first
      | (go_at_call 7; (with_reducible refine HSo.out.mono ?_); rintro e w6 ⟨rfl, b6⟩; have B6 := Lib.hid (next_below B5.out b6); clear b6)
      | (go_at_call 5; (refine (HR3.out _ (HBW.out _ B1.out)).mono ?_); rintro e w2 ⟨rfl, b2⟩; have B2 := Lib.hid (next_below B1.out b2); clear b2)
      | (go_at_call 6; (refine (HQ3.out _ (HBW.out _ B2.out)).mono ?_); rintro e w3 ⟨rfl, b3⟩; have B3 := Lib.hid (next_below B2.out b3); clear b3)
      | (go_at_call 8; refine (HO3.out _ (HBW.out _ B3.out)).mono ?_; rintro e w4 ⟨A14, c14, rfl, r4, b4⟩; have B4 := Lib.hid (next_below B3.out b4); have R4 := Lib.hid r4; clear r4 b4)
      | (go_at_call 9; refine (HP3.out _ (HBW.out _ B4.out)).mono ?_; rintro e w5 ⟨A15, c15, rfl, r5, b5⟩; have B5 := Lib.hid (next_below B4.out b5); have HSo := Lib.hid (same_nats w5 A14 A15 c14 c15 OL HOL.out (R4.out.lift b5) r5); clear r5 b5))
  clear h1' h2' h3' hrc HSM HR3 HQ3 HO3 HP3 HOL
  obtain ⟨m0, m1, m2, m3, m4⟩ := HBX.out _ B6.out
  cases fb
  case false =>
    go_wp2_with (go_at_call 10; (refine (HFI.out _ (HBW.out _ B6.out)).mono ?_); rintro e w7 ⟨rfl, b7⟩; have B7 := Lib.hid (next_below B6.out b7); clear b7)
    go_ret
    exact ⟨rfl, HBW.out _ B7.out⟩
  cases rb
  case false =>
    go_wp2_with (first
        | (go_at_call 10; (refine (HFI.out _ (HBW.out _ B6.out)).mono ?_); rintro e w7 ⟨rfl, b7⟩; have B7 := Lib.hid (next_below B6.out b7); clear b7)
        | (go_at_call 5; (refine (HR2.out _ (HBW.out _ B7.out)).mono ?_); rintro e w8 ⟨rfl, b8⟩; have B8 := Lib.hid (next_below B7.out b8); clear b8))
    go_ret
    exact ⟨rfl, HBW.out _ B8.out⟩
  obtain ⟨U, I, D, E, hb, sb, wbb, lk, N, P, INS, ht⟩ := HTL.out rfl rfl h3
  have HT := Lib.hid ht
  clear ht HTL
  go_upto_region 8 with (first
      | (go_at_call 10; (refine (HFI.out _ (HBW.out _ B6.out)).mono ?_); rintro e w7 ⟨rfl, b7⟩; have B7 := Lib.hid (next_below B6.out b7); clear b7)
      | (go_at_call 5; (refine (HR2.out _ (HBW.out _ B7.out)).mono ?_); rintro e w8 ⟨rfl, b8⟩; have B8 := Lib.hid (next_below B7.out b8); clear b8))
  clear m0 m1 m2 m3 m4 HFI HR2
  go_upto_region 9 with (first
      | (go_at_call 7; (with_reducible refine HSd.out.mono ?_); rintro e w17 ⟨rfl, b17⟩; have B17 := Lib.hid (next_below B16.out b17); clear b17)
      | (go_at_call 7; (with_reducible refine HSi.out.mono ?_); rintro e w14 ⟨rfl, b14⟩; have B14 := Lib.hid (next_below B13.out b14); clear b14)
      | (go_at_call 7; (with_reducible refine HSu.out.mono ?_); rintro e w11 ⟨rfl, b11⟩; have B11 := Lib.hid (next_below B10.out b11); clear b11)
      | (go_at_call 11; refine (HT.out.u1 _ (HBW.out _ B8.out)).mono ?_; rintro e w9 ⟨A19, c19, rfl, r9, b9⟩; have B9 := Lib.hid (next_below B8.out b9); have R9 := Lib.hid r9; clear r9 b9)
      | (go_at_call 12; refine (HT.out.u2 _ (HBW.out _ B9.out)).mono ?_; rintro e w10 ⟨A20, c20, rfl, r10, b10⟩; have B10 := Lib.hid (next_below B9.out b10); have HSu := Lib.hid (same_nats w10 A19 A20 c19 c20 U HT.out.ul (R9.out.lift b10) r10); clear r10 b10)
      | (go_at_call 13; refine (HT.out.i1 _ (HBW.out _ B11.out)).mono ?_; rintro e w12 ⟨A22, c22, rfl, r12, b12⟩; have B12 := Lib.hid (next_below B11.out b12); have R12 := Lib.hid r12; clear r12 b12)
      | (go_at_call 14; refine (HT.out.i2 _ (HBW.out _ B12.out)).mono ?_; rintro e w13 ⟨A23, c23, rfl, r13, b13⟩; have B13 := Lib.hid (next_below B12.out b13); have HSi := Lib.hid (same_nats w13 A22 A23 c22 c23 I HT.out.il (R12.out.lift b13) r13); clear r13 b13)
      | (go_at_call 15; refine (HT.out.d1 _ (HBW.out _ B14.out)).mono ?_; rintro e w15 ⟨A25, c25, rfl, r15, b15⟩; have B15 := Lib.hid (next_below B14.out b15); have R15 := Lib.hid r15; clear r15 b15)
      | (go_at_call 16; refine (HT.out.d2 _ (HBW.out _ B15.out)).mono ?_; rintro e w16 ⟨A26, c26, rfl, r16, b16⟩; have B16 := Lib.hid (next_below B15.out b16); have HSd := Lib.hid (same_nats w16 A25 A26 c25 c26 D HT.out.dl (R15.out.lift b16) r16); clear r16 b16))
  clear HSu HSi HSd R9 R12 R15
  have hhb : (hb == hb) = true := by simp
  have hsb : (sb == sb) = true := by simp
  have hwb : (wbb == wbb) = true := by simp
  go_upto_region 10 with (first
      | (go_at_call 17; (refine (HT.out.h1 _ (HBW.out _ B17.out)).mono ?_); rintro e w18 ⟨rfl, b18⟩; have B18 := Lib.hid (next_below B17.out b18); clear b18)
      | (go_at_call 18; (refine (HT.out.h2 _ (HBW.out _ B18.out)).mono ?_); rintro e w19 ⟨rfl, b19⟩; have B19 := Lib.hid (next_below B18.out b19); clear b19)
      | (go_at_call 19; (refine (HT.out.s1 _ (HBW.out _ B19.out)).mono ?_); rintro e w20 ⟨rfl, b20⟩; have B20 := Lib.hid (next_below B19.out b20); clear b20)
      | (go_at_call 20; (refine (HT.out.s2 _ (HBW.out _ B20.out)).mono ?_); rintro e w21 ⟨rfl, b21⟩; have B21 := Lib.hid (next_below B20.out b21); clear b21)
      | (go_at_call 21; (refine (HT.out.w1 _ (HBW.out _ B21.out)).mono ?_); rintro e w22 ⟨rfl, b22⟩; have B22 := Lib.hid (next_below B21.out b22); clear b22)
      | (go_at_call 22; (refine (HT.out.w2 _ (HBW.out _ B22.out)).mono ?_); rintro e w23 ⟨rfl, b23⟩; have B23 := Lib.hid (next_below B22.out b23); clear b23))
  clear hhb hsb hwb
  obtain ⟨m0, m1, m2, m3, m4⟩ := HBX.out _ B23.out
  go_upto_region 11 with (go_at_call 23; refine (HT.out.p1 _ (HBW.out _ B23.out)).mono ?_; rintro e w24 ⟨A34, c34, PV24, PQ24, rfl, hpl, hc, hrw, b24⟩; have B24 := Lib.hid (next_below B23.out b24); have HPL := Lib.hid hpl; have HC24 := Lib.hid hc; have HRW24 := Lib.hid hrw; clear hpl hc hrw b24)
  clear m0 m1 m2 m3 m4
  obtain ⟨m0, m1, m2, m3, m4⟩ := HBX.out _ B24.out
  go_upto_region 12 with (go_at_call 24; refine (HT.out.p2 _ (HBW.out _ B24.out)).mono ?_; rintro e w25 ⟨A35, c35, PV25, PQ25, rfl, hpl, hc, hrw, b25⟩; have B25 := Lib.hid (next_below B24.out b25); have B2425 := Lib.hid b25; have HC25 := Lib.hid hc; have HRW25 := Lib.hid hrw; clear hpl hc hrw b25)
  clear m0 m1 m2 m3 m4
  have HNL := Lib.hid HT.out.nl
  have hnn : ((N : Int) != (N : Int)) = false := by simp
  have hN : (N : Int) ≤ 1000000 := by have := HNL.out; omega
  obtain ⟨bp, op, hcp⟩ := HC24.out
  obtain ⟨bq, oq, hcq⟩ := HC25.out
  have HCP : Hid (∀ i, i < N → A34 = some ⟨bp, op, none⟩ ∧ ∀ w2, Below w25.heap.size w25 w2 → w2.cell? ⟨bp, op + i, none⟩ = some (.slice (PV24 i) (P i).length (PQ24 i))) := Lib.hid fun i hi => ⟨(hcp i hi).1, fun w2 b => (hcp i hi).2 w2 (next_below B2425.out b)⟩
  have HCQ : Hid (∀ i, i < N → A35 = some ⟨bq, oq, none⟩ ∧ ∀ w2, Below w25.heap.size w25 w2 → w2.cell? ⟨bq, oq + i, none⟩ = some (.slice (PV25 i) (P i).length (PQ25 i))) := Lib.hid hcq
  have HSP : Hid (∀ i, i < N → ∀ w2, Below w25.heap.size w25 w2 → Calls Tryz.prog 7 #[.slice (PV24 i) (P i).length (PQ24 i), .slice (PV25 i) (P i).length (PQ25 i)] w2 fun e w' => e = .returned (.bool true) ∧ Below w2.heap.size w2 w') := Lib.hid fun i hi w2 b => same_nats w2 (PV24 i) (PV25 i) (PQ24 i) (PQ25 i) (P i) (HPL.out i hi) (HRW24.out i hi w2 (next_below B2425.out b)) (HRW25.out i hi w2 b)
  clear hcp hcq HC24 HC25 HPL HRW24 HRW25 B2425 HNL
  go_wp2_with fail
  clear hnn
  go_loopw [16] (fun iv wr => ∃ i : Nat, iv = .int .i64 ((i : Nat) : Int) ∧ i ≤ N ∧ Hid (Below w25.heap.size w25 wr)) (fun iv _ => N - (intOf iv).toNat)
  case atStart => exact ⟨0, rfl, Nat.zero_le _, Lib.hid (Below.refl _ _)⟩
  case round =>
    obtain ⟨i, rfl, hi, HB⟩ := hrel
    by_cases hlt : i < N
    · obtain ⟨rfl, hc1⟩ := HCP.out i hlt
      obtain ⟨rfl, hc2⟩ := HCQ.out i hlt
      have HKC : Hid (∀ w', Below wr.heap.size wr w' → w'.cell? ⟨bp, op + i, none⟩ = some (.slice (PV24 i) (P i).length (PQ24 i)) ∧ w'.cell? ⟨bq, oq + i, none⟩ = some (.slice (PV25 i) (P i).length (PQ25 i))) := Lib.hid fun w' b => ⟨hc1 w' (next_below HB.out b), hc2 w' (next_below HB.out b)⟩
      have HSI : Hid (∀ w2, Below wr.heap.size wr w2 → Calls Tryz.prog 7 #[.slice (PV24 i) (P i).length (PQ24 i), .slice (PV25 i) (P i).length (PQ25 i)] w2 fun e w' => e = .returned (.bool true) ∧ Below wr.heap.size wr w') := Lib.hid fun w2 b => (HSP.out i hlt w2 (next_below HB.out b)).mono fun e w' h => ⟨h.1, next_below b h.2⟩
      have HBD : Hid (Below wr.heap.size wr wr.drew) := Lib.hid (Below.refl _ wr).drew
      have hi9 : (i : Int) < (N : Int) := by omega
      obtain ⟨z1, z2⟩ := HKC.out _ (Below.refl _ wr)
      clear hc1 hc2 HCP HCQ HSP HT
      generalize PV24 i = pv1 at *
      generalize PV25 i = pv2 at *
      generalize PQ24 i = pq1 at *
      generalize PQ25 i = pq2 at *
      generalize (P i).length = pl at *
      go_upto_region 17 with (fail)
      go_region_held3 (fun w' => w'.cell? ⟨bp, op + i, none⟩ = some (.slice pv1 pl pq1) ∧ w'.cell? ⟨bq, oq + i, none⟩ = some (.slice pv2 pl pq2)) (first | exact HKC.out _ HBD.out | exact HKC.out _ b26 | exact (HKC.out _ HBD.out).1 | exact (HKC.out _ HBD.out).2 | exact (HKC.out _ b26).1 | exact (HKC.out _ b26).2 | go_keep)
        (first | (go_at_call 7; (with_reducible refine (HSI.out _ HBD.out).mono ?_); rintro e w26 ⟨rfl, b26⟩))
      have HB2 : Hid (Below w25.heap.size w25 w26) := Lib.hid (next_below HB.out b26)
      clear z1 z2 b26 HKC HSI HBD
      go_wp2_with fail
      go_roundw
      case rel => exact ⟨i + 1, by simp, hlt, HB2⟩
      case measure => simp [intOf]; omega
    · obtain rfl : i = N := by omega
      have B30 : Hid (Below wb.heap.size wb wr) := Lib.hid (next_below B25.out HB.out)
      have B31 : Hid (Below wb.heap.size wb wr.drew) := Lib.hid (B30.out.trans (Below.refl _ wr).drew)
      obtain ⟨m0, m1, m2, m3, m4⟩ := HBX.out _ B30.out
      have hlk : (lk == lk) = true := by simp
      clear HCP HCQ HSP
      go_upto_region 19 with (fail)
      go_region_held3 (fun w' => BoxS W.heap.size fW fH fD K1 n q1 K2 n2 q2 w') (first | exact HBX.out _ B31.out | exact HBX.out _ B32.out | exact HBX.out _ B33.out | exact HBX.out _ B34.out | exact HBX.out _ B35.out | exact HBX.out _ B36.out | exact HBX.out _ B37.out | exact HBX.out _ B38.out | exact HBX.out _ B39.out | go_keep)
        (first
            | (go_at_call 7; (with_reducible refine HSn.out.mono ?_); rintro e w39 ⟨rfl, b39⟩; have B39 := Lib.hid (next_below B38.out b39); clear b39)
            | (go_at_call 7; (with_reducible refine HSe.out.mono ?_); rintro e w36 ⟨rfl, b36⟩; have B36 := Lib.hid (next_below B35.out b36); clear b36)
            | (go_at_call 25; (refine (HT.out.l1 _ (HBW.out _ B31.out)).mono ?_); rintro e w32 ⟨rfl, b32⟩; have B32 := Lib.hid (next_below B31.out b32); clear b32)
            | (go_at_call 26; (refine (HT.out.l2 _ (HBW.out _ B32.out)).mono ?_); rintro e w33 ⟨rfl, b33⟩; have B33 := Lib.hid (next_below B32.out b33); clear b33)
            | (go_at_call 27; refine (HT.out.e1 _ (HBW.out _ B33.out)).mono ?_; rintro e w34 ⟨A44, c44, rfl, r34, b34⟩; have B34 := Lib.hid (next_below B33.out b34); have R34 := Lib.hid r34; clear r34 b34)
            | (go_at_call 28; refine (HT.out.e2 _ (HBW.out _ B34.out)).mono ?_; rintro e w35 ⟨A45, c45, rfl, r35, b35⟩; have B35 := Lib.hid (next_below B34.out b35); have HSe := Lib.hid (same_nats w35 A44 A45 c44 c45 E HT.out.el (R34.out.lift b35) r35); clear r35 b35)
            | (go_at_call 29; refine (HT.out.n1 _ (HBW.out _ B36.out)).mono ?_; rintro e w37 ⟨A47, c47, rfl, r37, b37, hil⟩; have B37 := Lib.hid (next_below B36.out b37); have R37 := Lib.hid r37; clear r37 b37)
            | (go_at_call 30; refine (HT.out.n2 _ (HBW.out _ B37.out)).mono ?_; rintro e w38 ⟨A48, c48, rfl, r38, b38, hil2⟩; have B38 := Lib.hid (next_below B37.out b38); have HSn := Lib.hid (same_ints w38 A47 A48 c47 c48 INS hil (R37.out.lift b38) r38); clear r38 b38))
      all_goals
        first | exact ⟨rfl, HBW.out _ B39.out⟩ | (go_ret; exact ⟨rfl, HBW.out _ B39.out⟩) | (go_wp2_with fail; first | exact ⟨rfl, HBW.out _ B39.out⟩ | (go_ret; exact ⟨rfl, HBW.out _ B39.out⟩))
end Rgn
end Go.Proofs.YtgophgnfiboefaaGreatDoor

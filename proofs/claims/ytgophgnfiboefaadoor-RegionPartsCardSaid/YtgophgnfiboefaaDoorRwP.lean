/- RegionParts. -/
import Derived.Test.YtgophgnfiboefaaDoorRsC
namespace Go.Proofs.YtgophgnfiboefaaDoor
open Go.RowKit Wire
open Txt (Row)
open Go.Proofs.YtgophgnfiboefaaDoor.Own Flo
open Dsk (Only nth)
set_option linter.unusedVariables false
set_option linter.unusedSimpArgs false
namespace Rgn
set_option maxRecDepth 100000 in
set_option maxHeartbeats 16000000 in
theorem parts_holds8 (f : Fl) (p : Pl) (A1 : Option Addr) (c1 : Nat) (l1 : List Int) (W : World) (hv : VS W ∧ VO W) (hin : FlIn W f p) (hlk : f.Kind.length ≤ maxLen) (hlo : f.Out.length ≤ maxLen) (hr1 : Row W W.heap.size A1 (ivs l1)) (hm1 : l1.length ≤ maxLen) :
    Calls Tryd.prog 4 #[f.val p, .slice A1 l1.length c1] W fun e w' => e = .returned (.bool true) ∧ Below W.heap.size W w' := by
  have HSM : Hid (∀ w', Below W.heap.size W w' → Calls Tryd.prog 7 #[] w' fun e w2 => e = .returned (.bool true) ∧ Below w'.heap.size w' w2) := Lib.hid fun w' b => regSmall_any w' (hv.1.lift b) (hv.2.lift b)
  have HFI : Hid (∀ w', Below W.heap.size W w' → Calls Tryd.prog 16 #[f.val p, .slice A1 l1.length c1, .int .i64 60] w' fun e w2 => e = .returned (.bool (fitB f 60 l1)) ∧ Below w'.heap.size w' w2) := Lib.hid fun w' b => regFits_any f p 60 A1 c1 l1 w' (hin.lift b) (small_le2 hlk) (small_le2 hlo) (small_le2 hm1) (hr1.lift b)
  have HBo : Hid (∀ o, Below W.heap.size W (W.alloc o)) := Lib.hid fun o => (Below.refl _ W).alloc (Nat.le_refl _) o
  obtain ⟨K1, q1, K2, q2⟩ := p
  have HB0 : Hid (∀ w', Below (W.alloc (.cells (boxV f.W f.H f.D K1 f.Kind.length q1 K2 f.Out.length q2) 31)).heap.size (W.alloc (.cells (boxV f.W f.H f.D K1 f.Kind.length q1 K2 f.Out.length q2) 31)) w' → BoxS W.heap.size f.W f.H f.D K1 f.Kind.length q1 K2 f.Out.length q2 w' ∧ Below W.heap.size W w') := Lib.hid fun w' b => ⟨boxS ((Blk.fresh W _ _).under b (by simp)), next_below ((Below.refl _ W).alloc (Nat.le_refl _) _) b⟩
  cases hfb : fitB f 60 l1
  · rw [hfb] at HFI
    clear hv hin hfb hlk hlo hr1 hm1
    generalize hn : f.Kind.length = n at *
    generalize hn2 : f.Out.length = n2 at *
    have HVAL : Hid (f.val ⟨K1, q1, K2, q2⟩ = .agg #[.int .i64 f.W, .int .i64 f.H, .int .i64 f.D, .slice K1 n q1, .slice K2 n2 q2]) := Lib.hid (by rw [← hn, ← hn2])
    rw [HVAL.out] at HFI ⊢
    clear hn hn2 HVAL
    generalize f.W = fW at *
    generalize f.H = fH at *
    generalize f.D = fD at *
    generalize l1.length = len1 at *
    go_enter Tryd.func4, Tryd.ntmps4
    go_wp2_with (first
      | (go_at_call 7; refine (HSM.out _ (HBo.out _)).mono ?_; rintro e w1 ⟨rfl, b1⟩; obtain ⟨⟨m0, m1, m2, m3, m4⟩, hbw⟩ := HB0.out _ b1; have H1 := Lib.hid hbw; clear b1 hbw)
      | (go_at_call 16; refine (HFI.out _ H1.out).mono ?_; rintro e w2 ⟨rfl, b2⟩; have H2 := Lib.hid (next_below H1.out b2); clear b2))
    go_ret
    exact ⟨rfl, H2.out⟩
  obtain ⟨ho, hk60, hl200, hra⟩ := fitB_iff.1 hfb
  rw [hfb] at HFI
  obtain ⟨a, rfl, ha⟩ := reg_of hra
  rw [ivs_ivn] at hr1
  have la : (ivn a).length = a.length := List.length_map ..
  rw [la] at HFI hl200 ⊢
  have HPA : Hid (∀ w', Below W.heap.size W w' → Calls Tryd.prog 17 #[f.val ⟨K1, q1, K2, q2⟩, .slice A1 a.length c1] w' (PackP f a w')) := Lib.hid fun w' bw => pack_of ho ha (partsOf_any ho ⟨K1, q1, K2, q2⟩ A1 c1 a w' (hv.1.lift bw) (hv.2.lift bw) (hin.lift bw) (hr1.lift bw) (by have := ha.len; omega))
  have HLK : Hid (∀ w' A c (q : List Nat) lb, lnkB f q = lb → Reg q → Below W.heap.size W w' → Row w' w'.heap.size A (qvs q) → Calls Tryd.prog 18 #[f.val ⟨K1, q1, K2, q2⟩, .slice A q.length c] w' fun e w2 => e = .returned (.bool lb) ∧ Below w'.heap.size w' w2) := Lib.hid fun w' A c q lb e hq bw hrow => e ▸ linked_any ho ⟨K1, q1, K2, q2⟩ A c q w' (hv.1.lift bw) (hv.2.lift bw) (hin.lift bw) hrow (by have := hq.len; omega)
  have HLA : Hid (∀ w', Below W.heap.size W w' → Calls Tryd.prog 18 #[f.val ⟨K1, q1, K2, q2⟩, .slice A1 a.length c1] w' fun e w2 => e = .returned (.bool (lnkB f a)) ∧ Below w'.heap.size w' w2) := Lib.hid fun w' bw => linked_any ho ⟨K1, q1, K2, q2⟩ A1 c1 a w' (hv.1.lift bw) (hv.2.lift bw) (hin.lift bw) (hr1.lift bw) (by have := ha.len; omega)
  have HSA : Hid (∀ w' A c (q : List Nat) lb, decide (q = a) = lb → Reg q → Below W.heap.size W w' → Row w' w'.heap.size A (qvs q) → Calls Tryd.prog 14 #[.slice A q.length c, .slice A1 a.length c1] w' fun e w2 => e = .returned (.bool lb) ∧ Below w'.heap.size w' w2) := Lib.hid fun w' A c q lb e hq bw hrow => e ▸ same_any2 w' A A1 c c1 q a hq ha hrow (hr1.lift bw)
  have HKI : Hid (∀ k, k < f.Kind.length → ∃ b o, K1 = some ⟨b, o, none⟩ ∧ ∀ w', Below W.heap.size W w' → w'.cell? ⟨b, o + k, none⟩ = some (.int .i64 (f.kindAt k))) := Lib.hid fun k hk => by
    have := row_val hin.kind hk
    have e : f.kindAt k = f.Kind.getD k 0 := by unfold Fl.kindAt; simp
    rw [e]
    exact this
  have HAV : Hid (∀ k, k < a.length → ∃ b o, A1 = some ⟨b, o, none⟩ ∧ ∀ w', Below W.heap.size W w' → w'.cell? ⟨b, o + k, none⟩ = some (.int .i64 (a.getD k 0 : Nat))) := Lib.hid fun k hk => row_valN hr1 hk
  have HWB : Hid (∀ k, wantB f k = (decide (k < f.Kind.length) && f.kindAt k != 0)) := Lib.hid fun k => rfl
  have HWS : Hid (∀ i, i < a.length → wantL f (a.take (i + 1)) = wantL f (a.take i) ++ if wantB f (a.getD i 0) then [a.getD i 0] else []) := Lib.hid fun i hi => want_succ hi
  have HWN : Hid (∀ i, (wantL f (a.take i)).length ≤ 200) := Lib.hid fun i => by
    have h1 : (wantL f (a.take i)).length ≤ (a.take i).length := List.length_filter_le ..
    have h2 : (a.take i).length ≤ a.length := by rw [List.length_take]; omega
    omega
  have HWE : Hid (wantL f (a.take a.length) = wantL f a) := Lib.hid (by rw [List.take_length])
  have HWG : Hid (Reg (wantL f a)) := Lib.hid ⟨ha.asc.filter _, fun x hx => ha.lt x (List.mem_filter.1 hx).1⟩
  have HBW : Hid (∀ w', Below W.heap.size W w' → Row w' w'.heap.size A1 (qvs a)) := Lib.hid fun w' bw => hr1.lift bw
  have hl200' : (a.length : Int) ≤ 200 := by omega
  clear hv hin hfb hlk hlo hr1 hm1 hra ho ha la
  obtain ⟨n, hn⟩ : ∃ n : Nat, n = f.Kind.length := ⟨_, rfl⟩
  have HVAL : Hid (f.val ⟨K1, q1, K2, q2⟩ = .agg #[.int .i64 f.W, .int .i64 f.H, .int .i64 f.D, .slice K1 n q1, .slice K2 f.Out.length q2]) := Lib.hid (by rw [hn])
  rw [HVAL.out] at HFI HPA HLK HLA ⊢
  rw [← hn] at hk60 HB0 HKI HWB
  clear hn HVAL
  generalize f.Out.length = n2 at *
  generalize f.W = fW at *
  generalize f.H = fH at *
  generalize f.D = fD at *
  generalize f.kindAt = KK at *
  have hn60 : (n : Int) ≤ 60 := by omega
  go_enter Tryd.func4, Tryd.ntmps4
  go_upto_region 5 with (first
    | (go_at_call 7; refine (HSM.out _ (HBo.out _)).mono ?_; rintro e w1 ⟨rfl, b1⟩; have BB1 := Lib.hid b1; obtain ⟨⟨m0, m1, m2, m3, m4⟩, hbw⟩ := HB0.out _ b1; have H1 := Lib.hid hbw; clear b1 hbw)
    | (go_at_call 16; refine (HFI.out _ H1.out).mono ?_; rintro e w2 ⟨rfl, b2⟩; have BB2 := Lib.hid (next_below BB1.out b2); clear b2 m0 m1 m2 m3 m4; obtain ⟨⟨m0, m1, m2, m3, m4⟩, hbw⟩ := HB0.out _ BB2.out; have H2 := Lib.hid hbw; clear hbw)
    | (go_at_call 17; refine (HPA.out _ H2.out).mono ?_; rintro e w4 ⟨Al, cl, N, P, PV, PQ, rfl, hgood, hcell, hrow, b4⟩; have BB4 := Lib.hid (next_below BB2.out b4); have HG := Lib.hid hgood; have HC := Lib.hid hcell; have HR := Lib.hid hrow; clear b4 hgood hcell hrow))
  have hN : (N : Int) ≤ 4096 := by have := HG.out.cnt; omega
  have HW4 : Hid (∀ w', Below w4.heap.size w4 w' → BoxS W.heap.size fW fH fD K1 n q1 K2 n2 q2 w' ∧ Below W.heap.size W w') := Lib.hid fun w' bw => HB0.out _ (next_below BB4.out bw)
  clear HSM HFI HBo HPA HB0 BB1 BB2 BB4 H1 H2 m0 m1 m2 m3 m4
  obtain ⟨b, o, hcc⟩ := HC.out
  have HCC := Lib.hid hcc
  clear hcc HC
  go_wp2_with fail
  go_loopw [7, 8, 9] (fun av iv _ wr => ∃ (i : Nat) (A : Option Addr) (c : Nat), av = .slice A (UU P i).length c ∧ iv = .int .i64 ((i : Nat) : Int) ∧ i ≤ N ∧ Hid (Row wr wr.heap.size A (qvs (UU P i))) ∧ Hid (Below w4.heap.size w4 wr)) (fun _ iv _ _ => N - (intOf iv).toNat)
  case atStart => exact ⟨0, none, 0, rfl, rfl, Nat.zero_le _, Lib.hid (fun k u hu => by simp [UU, qvs] at hu), Lib.hid (Below.refl _ _)⟩
  case round =>
    obtain ⟨i, A, c, rfl, rfl, hi, HU, HB⟩ := hrel
    generalize wr = w5 at *
    by_cases hlt : i < N
    · obtain ⟨rfl, hc⟩ := HCC.out i hlt
      have HKC : Hid (∀ w', Below w5.heap.size w5 w' → w'.cell? ⟨b, o + i, none⟩ = some (.slice (PV i) (P i).length (PQ i)) ∧ BoxS W.heap.size fW fH fD K1 n q1 K2 n2 q2 w') := Lib.hid fun w' bw => ⟨hc w' (next_below HB.out bw), (HW4.out w' (next_below HB.out bw)).1⟩
      have hL0 : 0 < (P i).length := HG.out.ne i hlt
      have hL1 : (0 : Int) < ((P i).length : Int) := by omega
      have hL2 : (((P i).length : Int) == 0) = false := by rw [beq_eq_false_iff_ne]; omega
      have hL3 : ¬ ((P i).length : Int) = 0 := by omega
      have hi9 : (i : Int) < 4096 := by omega
      have HRi : Hid (∀ w2, Below w5.heap.size w5 w2 → Calls Tryd.prog 13 #[.slice (PV i) (P i).length (PQ i)] w2 fun e w3 => e = .returned (.bool true) ∧ w2 = w3) := Lib.hid fun w2 bw => right_any2 w2 (PV i) (PQ i) (P i) (HG.out.reg i hlt) (HR.out i hlt w2 (next_below HB.out bw))
      have HLi : Hid (∀ w2, Below w5.heap.size w5 w2 → Calls Tryd.prog 18 #[.agg #[.int .i64 fW, .int .i64 fH, .int .i64 fD, .slice K1 n q1, .slice K2 n2 q2], .slice (PV i) (P i).length (PQ i)] w2 fun e w3 => e = .returned (.bool true) ∧ Below w5.heap.size w5 w3) := Lib.hid fun w2 bw => (HLK.out w2 (PV i) (PQ i) (P i) true (HG.out.lnk i hlt) (HG.out.reg i hlt) (HW4.out w2 (next_below HB.out bw)).2 (HR.out i hlt w2 (next_below HB.out bw))).mono fun e w3 ⟨h1, h2⟩ => ⟨h1, next_below bw h2⟩
      have HIi : Hid (∀ w2, Below w5.heap.size w5 w2 → Calls Tryd.prog 10 #[.slice A (UU P i).length c, .slice (PV i) (P i).length (PQ i)] w2 fun e w3 => ∃ A' c', e = .returned (.slice A' 0 c') ∧ Below w5.heap.size w5 w3) := Lib.hid fun w2 bw => (got_eq (got_of (int_any w2 A (PV i) c (PQ i) _ _ (UU_reg P i) (HG.out.reg i hlt) (HU.out.lift bw) (HR.out i hlt w2 (next_below HB.out bw)))) (HG.out.dis i hlt)).mono fun e w3 ⟨A', c', h1, h2, h3⟩ => ⟨A', c', h1, next_below bw h3⟩
      have HUi : Hid (∀ w2, Below w5.heap.size w5 w2 → Calls Tryd.prog 9 #[.slice A (UU P i).length c, .slice (PV i) (P i).length (PQ i)] w2 (GotL w2 (UU P (i + 1)))) := Lib.hid fun w2 bw => got_of (uni_any w2 A (PV i) c (PQ i) _ _ (UU_reg P i) (HG.out.reg i hlt) (HU.out.lift bw) (HR.out i hlt w2 (next_below HB.out bw)))
      have HRV : Hid (∀ k, k < N → ∃ b' o', PV k = some ⟨b', o', none⟩ ∧ ∀ w2, Below w4.heap.size w4 w2 → w2.cell? ⟨b', o' + 0, none⟩ = some (.int .i64 (((P k).getD 0 0 : Nat) : Int))) := Lib.hid fun k hk => by
        obtain ⟨b', o', e, hc'⟩ := row_valN (HR.out k hk w4 (Below.refl _ _)) (HG.out.ne k hk)
        exact ⟨b', o', e, hc'⟩
      have HHD : Hid (∀ k, k + 1 = i → (P k).getD 0 0 < (P i).getD 0 0) := Lib.hid fun k hk => by subst hk; exact HG.out.hd k hlt
      have HSEP : Hid (∀ k, k < i → lnkB f (uniR (P i) (P k)) = false) := Lib.hid fun k hk => HG.out.sep i k hk hlt
      obtain ⟨m0, m1, m2, m3, m4⟩ := (HW4.out _ HB.out).1
      have BD : Hid (Below w5.heap.size w5 w5.drew) := Lib.hid (Below.refl _ _).drew
      clear hc HKI HAV HWB HWS HWN HWE HWG HBW HLA HSA
      go_upto_region 9 with (fail)
      go_region_held3 (fun w' => w'.cell? ⟨b, o + i, none⟩ = some (.slice (PV i) (P i).length (PQ i)) ∧ BoxS W.heap.size fW fH fD K1 n q1 K2 n2 q2 w') (first | exact HKC.out _ BD.out | exact HKC.out _ b7 | exact HKC.out _ b8 | go_keep)
        (first
          | (go_at_call 13; refine (HRi.out _ BD.out).mono ?_; rintro e w6 ⟨rfl, rfl⟩)
          | (go_at_call 18; (with_reducible refine (HLi.out _ BD.out).mono ?_); rintro e w7 ⟨rfl, b7⟩)
          | (go_at_call 10; (with_reducible refine (HIi.out _ b7).mono ?_); rintro e w8 ⟨A', c', rfl, b8⟩))
      have B8 := Lib.hid b8
      clear b7 b8
      have HKC8 := Lib.hid (HKC.out _ B8.out)
      clear m0 m1 m2 m3 m4 hL0 hL1 hL2 hL3 HRi HLi HIi
      go_upto_region 11 with (fail)
      go_cut [79] (fun v79 wx => v79 = .bool false ∧ ∃ k, wx = w8.drewN k)
      case first =>
        obtain ⟨z1, m⟩ := HKC8.out
        clear m
        obtain ⟨b', o', e', hc'⟩ := HRV.out i hlt
        have z2 := hc' _ (next_below HB.out B8.out)
        rw [e'] at z1
        by_cases hi0 : i = 0
        · have hi1 : ¬ 0 < i := by omega
          clear hc' e' hi0
          go_quiet (fail)
          go_wp2_with fail
          go_meet
          case rel => exact ⟨rfl, _, rfl⟩
        · obtain ⟨k, hk⟩ : ∃ k, k + 1 = i := ⟨i - 1, by omega⟩
          have hi1 : 0 < i := by omega
          have mx : max ((i : Int) - 1) 0 = (k : Int) := by omega
          have hkN : (k : Int) < (N : Int) := by omega
          obtain ⟨_, hck⟩ := HCC.out k (by omega)
          have z3 := hck _ (next_below HB.out B8.out)
          obtain ⟨b2, o2, e2, hc2⟩ := HRV.out k (by omega)
          have z4 := hc2 _ (next_below HB.out B8.out)
          rw [e2] at z3
          have hlk0 : (0 : Int) < ((P k).length : Int) := by have := HG.out.ne k (by omega); omega
          have hli0 : (0 : Int) < ((P i).length : Int) := by have := HG.out.ne i hlt; omega
          have hgt := HHD.out k hk
          generalize (P i).getD 0 0 = xi at *
          generalize (P k).getD 0 0 = xk at *
          have hge : ¬ xi ≤ xk := by omega
          have hgf : xk < xi := by omega
          clear hc' hc2 e2 hck hgt hi0 hk
          rw [Nat.add_zero] at z2 z4
          go_quiet (fail)
          go_wp2_with fail
          go_meet
          case rel => first | exact ⟨rfl, _, rfl⟩ | exact ⟨congrArg Value.bool (decide_eq_false hge), _, rfl⟩ | exact ⟨congrArg Value.bool (by simp [hge]), _, rfl⟩ | exact ⟨congrArg Value.bool (by simp [hgf]), _, rfl⟩
      case rest =>
        obtain ⟨rfl, k9, rfl⟩ := hcut
        have B9 : Hid (Below w5.heap.size w5 (w8.drewN k9)) := Lib.hid (B8.out.trans (below_any w8 k9))
        generalize w8.drewN k9 = w9 at *
        clear HKC8
        obtain ⟨z1, m⟩ := HKC.out _ B9.out
        clear m HHD HRV
        go_wp2_with (go_at_call 9; refine (HUi.out _ B9.out).mono ?_; rintro e w10 ⟨A2, c2, rfl, hr10, b10⟩; have B10 := Lib.hid (next_below B9.out b10); have HR10 := Lib.hid hr10; clear b10 hr10)
        clear z1 HUi B8 B9
        go_loopw [9] (fun kv wx => ∃ k : Nat, kv = .int .i64 ((k : Nat) : Int) ∧ k ≤ i ∧ Hid (Below w10.heap.size w10 wx)) (fun kv _ => i - (intOf kv).toNat)
        case atStart => exact ⟨0, rfl, Nat.zero_le _, Lib.hid (Below.refl _ _)⟩
        case round =>
          obtain ⟨k, rfl, hk, HBK⟩ := hrel
          generalize wr = w11 at *
          have HBX : Hid (Below w5.heap.size w5 w11) := Lib.hid (next_below B10.out HBK.out)
          by_cases hki : k < i
          · have hk9 : (k : Int) < (i : Int) := by omega
            have hkN : (k : Int) < (N : Int) := by omega
            have hiN : (i : Int) < (N : Int) := by omega
            obtain ⟨_, hck⟩ := HCC.out k (by omega)
            have HKK : Hid (∀ w', Below w11.heap.size w11 w' → w'.cell? ⟨b, o + i, none⟩ = some (.slice (PV i) (P i).length (PQ i)) ∧ w'.cell? ⟨b, o + k, none⟩ = some (.slice (PV k) (P k).length (PQ k)) ∧ BoxS W.heap.size fW fH fD K1 n q1 K2 n2 q2 w') := Lib.hid fun w' bw => ⟨(HKC.out w' (next_below HBX.out bw)).1, hck w' (next_below HB.out (next_below HBX.out bw)), (HKC.out w' (next_below HBX.out bw)).2⟩
            have HUk : Hid (∀ w2, Below w11.heap.size w11 w2 → Calls Tryd.prog 9 #[.slice (PV i) (P i).length (PQ i), .slice (PV k) (P k).length (PQ k)] w2 fun e w3 => ∃ A' c', e = .returned (.slice A' (uniR (P i) (P k)).length c') ∧ Row w3 w3.heap.size A' (qvs (uniR (P i) (P k))) ∧ Below w11.heap.size w11 w3) := Lib.hid fun w2 bw => (got_of (uni_any w2 (PV i) (PV k) (PQ i) (PQ k) _ _ (HG.out.reg i hlt) (HG.out.reg k (by omega)) (HR.out i hlt w2 (next_below HB.out (next_below HBX.out bw))) (HR.out k (by omega) w2 (next_below HB.out (next_below HBX.out bw))))).mono fun e w3 ⟨A', c', h1, h2, h3⟩ => ⟨A', c', h1, h2, next_below bw h3⟩
            have HLk : Hid (∀ w2 A' c', Below w11.heap.size w11 w2 → Row w2 w2.heap.size A' (qvs (uniR (P i) (P k))) → Calls Tryd.prog 18 #[.agg #[.int .i64 fW, .int .i64 fH, .int .i64 fD, .slice K1 n q1, .slice K2 n2 q2], .slice A' (uniR (P i) (P k)).length c'] w2 fun e w3 => e = .returned (.bool false) ∧ Below w11.heap.size w11 w3) := Lib.hid fun w2 A' c' bw hrow => (HLK.out w2 A' c' (uniR (P i) (P k)) false (HSEP.out k hki) (Reg.of _) (HW4.out w2 (next_below HB.out (next_below HBX.out bw))).2 hrow).mono fun e w3 ⟨h1, h2⟩ => ⟨h1, next_below bw h2⟩
            have BD : Hid (Below w11.heap.size w11 w11.drew) := Lib.hid (Below.refl _ _).drew
            obtain ⟨z1, z2, m0, m1, m2, m3, m4⟩ := HKK.out _ (Below.refl _ _)
            clear hck HLK HCC HG HR HSEP
            generalize uniR (P i) (P k) = V at *
            go_upto_region 17 with (fail)
            go_region_held3 (fun w' => w'.cell? ⟨b, o + i, none⟩ = some (.slice (PV i) (P i).length (PQ i)) ∧ w'.cell? ⟨b, o + k, none⟩ = some (.slice (PV k) (P k).length (PQ k)) ∧ BoxS W.heap.size fW fH fD K1 n q1 K2 n2 q2 w') (first | exact HKK.out _ BD.out | exact HKK.out _ b12 | exact HKK.out _ b13 | go_keep)
              (first
                | (go_at_call 9; (with_reducible refine (HUk.out _ BD.out).mono ?_); rintro e w12 ⟨A', c', rfl, hrow, b12⟩)
                | (go_at_call 18; (with_reducible refine (HLk.out _ A' c' b12 hrow).mono ?_); rintro e w13 ⟨rfl, b13⟩))
            have B13 : Hid (Below w10.heap.size w10 w13) := Lib.hid (next_below HBK.out b13)
            clear z1 z2 m0 m1 m2 m3 m4 b12 b13
            go_wp2_with fail
            go_roundw
            case rel => exact ⟨k + 1, by simp, hki, B13⟩
            case measure => simp [intOf]; omega
          · obtain rfl : k = i := by omega
            have HRX := Lib.hid (HR10.out.lift HBK.out)
            have HBY : Hid (Below w4.heap.size w4 w11) := Lib.hid (next_below HB.out HBX.out)
            clear HLK HCC HG HR HSEP HR10 HBX HBK
            go_wp2_with fail
            go_roundw
            case rel => exact ⟨k + 1, A2, c2, rfl, by simp, hlt, HRX, HBY⟩
            case measure => simp [intOf]; omega
    · obtain rfl : i = N := by omega
      go_wp2_with fail
      go_loopw [10, 11] (fun wv jv wx => ∃ j : Nat, jv = .int .i64 ((j : Nat) : Int) ∧ j ≤ a.length ∧ Hid (Sp w5 wx [RowT 1 wv (wantL f (a.take j)).length (qvs (wantL f (a.take j)))])) (fun _ jv _ => a.length - (intOf jv).toNat)
      case atStart => exact ⟨0, rfl, Nat.zero_le _, Lib.hid ((Sp.nil (Below.refl w5.heap.size w5)).nil_row 1)⟩
      case round =>
        obtain ⟨j, rfl, hj, HSP⟩ := hrel
        generalize wr = w6 at *
        have HBX : Hid (Below w4.heap.size w4 w6) := Lib.hid (next_below HB.out HSP.out.below)
        by_cases hlt2 : j < a.length
        · obtain ⟨b2, o2, rfl, hc⟩ := HAV.out j hlt2
          have HWSj := Lib.hid (HWS.out j hlt2)
          have HWBj := Lib.hid (HWB.out (a.getD j 0))
          have hln := HWN.out j
          have hj9 : (j : Int) < (a.length : Int) := by omega
          have hj8 : (j : Int) < 200 := by omega
          have HKC : Hid (∀ w', Below w4.heap.size w4 w' → w'.cell? ⟨b2, o2 + j, none⟩ = some (.int .i64 (a.getD j 0 : Nat)) ∧ BoxS W.heap.size fW fH fD K1 n q1 K2 n2 q2 w') := Lib.hid fun w' bw => ⟨hc w' (HW4.out w' bw).2, (HW4.out w' bw).1⟩
          clear hc HCC HG HR HLK HSA HWS HWB HWN HLA HWG HU HBW HWE HAV
          obtain ⟨L, hL⟩ : ∃ L, L = wantL f (a.take j) := ⟨_, rfl⟩
          rw [← hL] at HSP HWSj hln
          generalize wantB f (a.getD j 0) = wb at *
          generalize a.getD j 0 = x at *
          clear hL
          have hrl : L.length ≤ 100000 := by omega
          obtain ⟨Aq, cq, rfl⟩ := (HSP.out.grow 0 rfl).slice
          obtain ⟨z, m0, m1, m2, m3, m4⟩ := HKC.out _ HBX.out
          by_cases hx : x < n
          · obtain ⟨b3, o3, rfl, hc3⟩ := HKI.out x hx
            have HK3 : Hid (∀ w', Below w4.heap.size w4 w' → w'.cell? ⟨b3, o3 + x, none⟩ = some (.int .i64 (KK x))) := Lib.hid fun w' bw => hc3 w' (HW4.out w' bw).2
            clear hc3 HKI
            go_upto_region 23 with (fail)
            go_quiet (fail)
            have HSP7 := Lib.hid (HSP.out.keep (below_any w6 nq))
            generalize w6.drewN nq = w7 at *
            clear z m0 m1 m2 m3 m4 HSP HBX
            have HBX7 : Hid (Below w4.heap.size w4 w7) := Lib.hid (next_below HB.out HSP7.out.below)
            obtain ⟨z, m0, m1, m2, m3, m4⟩ := HKC.out _ HBX7.out
            have z3 := HK3.out _ HBX7.out
            by_cases hk0 : KK x = 0
            · have HE : Hid (wantL f (a.take (j + 1)) = L) := Lib.hid (by rw [HWSj.out, HWBj.out, hk0]; simp)
              clear HWSj HWBj
              generalize KK x = kx at *
              go_upto_region 24 with (fail)
              go_quiet (fail)
              have HSP8 := Lib.hid (HSP7.out.keep (below_any w7 nq))
              generalize w7.drewN nq = w8 at *
              clear z z3 m0 m1 m2 m3 m4 HSP7 HBX7
              go_wp2_with fail
              go_roundw
              case rel => exact ⟨j + 1, by simp, hlt2, by rw [HE.out]; exact HSP8⟩
              case measure => simp [intOf]; omega
            · have HE : Hid (wantL f (a.take (j + 1)) = L ++ [x]) := Lib.hid (by rw [HWSj.out, HWBj.out, decide_eq_true hx, Bool.true_and, bne_iff_ne.2 hk0]; simp)
              have hkb : (KK x != 0) = true := bne_iff_ne.2 hk0
              clear HWSj HWBj
              generalize KK x = kx at *
              go_upto_region 24 with (fail)
              go_quiet (fail)
              have HSP8 := Lib.hid (HSP7.out.keep (below_any w7 nq))
              generalize w7.drewN nq = w8 at *
              clear z z3 m0 m1 m2 m3 m4 HSP7 HBX7
              have z := (HKC.out _ (next_below HB.out HSP8.out.below)).1
              have HPU := Lib.hid (push_int (q := L) HSP8.out 0 rfl x hrl 3)
              go_wp2_with (at_builtin; obtain ⟨v9, w9, r9, h9⟩ := HPU.out; have H9 : Hid (Sp w5 w9 [RowT 1 v9 (L ++ [x]).length (qvs (L ++ [x]))]) := Lib.hid h9; refine wpList_append_run rfl _ _ _ _ rfl (by simp [go_sem]) (by simp [go_sem]) r9 ?_; clear r9 h9)
              go_roundw
              case rel => exact ⟨j + 1, by simp, hlt2, by rw [HE.out]; exact H9⟩
              case measure => simp [intOf]; omega
          · have HE : Hid (wantL f (a.take (j + 1)) = L) := Lib.hid (by rw [HWSj.out, HWBj.out, decide_eq_false hx, Bool.false_and]; simp)
            have hx2 : ¬ (x : Int) < (n : Int) := by omega
            clear HWSj HWBj HKI
            go_upto_region 23 with (fail)
            go_quiet (fail)
            have HSP7 := Lib.hid (HSP.out.keep (below_any w6 nq))
            generalize w6.drewN nq = w7 at *
            clear z m0 m1 m2 m3 m4 HSP HBX
            go_wp2_with fail
            go_roundw
            case rel => exact ⟨j + 1, by simp, hlt2, by rw [HE.out]; exact HSP7⟩
            case measure => simp [intOf]; omega
        · obtain rfl : j = a.length := by omega
          rw [HWE.out] at HSP
          obtain ⟨Aq, cq, rfl⟩ := (HSP.out.grow 0 rfl).slice
          have HRO := Lib.hid (row_of_any (HSP.out.grow 0 rfl))
          have HSW : Hid (∀ w2, Below w6.heap.size w6 w2 → Calls Tryd.prog 14 #[.slice A (UU P i).length c, .slice Aq (wantL f a).length cq] w2 fun e w3 => e = .returned (.bool true) ∧ Below w6.heap.size w6 w3) := Lib.hid fun w2 bw => by
            have := same_any2 w2 A Aq c cq (UU P i) (wantL f a) (UU_reg P i) HWG.out (HU.out.lift (next_below HSP.out.below bw)) (HRO.out.lift bw)
            rw [decide_eq_true HG.out.last] at this
            exact this.mono fun e w3 ⟨h1, h2⟩ => ⟨h1, next_below bw h2⟩
          have HW6 : Hid (∀ w', Below w6.heap.size w6 w' → BoxS W.heap.size fW fH fD K1 n q1 K2 n2 q2 w' ∧ Below W.heap.size W w') := Lib.hid fun w' bw => HW4.out w' (next_below HBX.out bw)
          have HLA6 : Hid (∀ w2, Below w6.heap.size w6 w2 → Calls Tryd.prog 18 #[.agg #[.int .i64 fW, .int .i64 fH, .int .i64 fD, .slice K1 n q1, .slice K2 n2 q2], .slice A1 a.length c1] w2 fun e w3 => e = .returned (.bool (decide (a.length = 0) || (decide (i = 1) && decide (P 0 = a)))) ∧ Below w6.heap.size w6 w3) := Lib.hid fun w2 bw => by
            rw [← HG.out.only]
            exact (HLA.out w2 (HW6.out w2 bw).2).mono fun e w3 ⟨h1, h2⟩ => ⟨h1, next_below bw h2⟩
          have HS0 : Hid (∀ pb, decide (P 0 = a) = pb → 0 < i → ∀ w2, Below w6.heap.size w6 w2 → Calls Tryd.prog 14 #[.slice (PV 0) (P 0).length (PQ 0), .slice A1 a.length c1] w2 fun e w3 => e = .returned (.bool pb) ∧ Below w6.heap.size w6 w3) := Lib.hid fun pb he h0 w2 bw => (HSA.out w2 (PV 0) (PQ 0) (P 0) pb he (HG.out.reg 0 h0) (HW6.out w2 bw).2 (HR.out 0 h0 w2 (next_below HBX.out bw))).mono fun e w3 ⟨h1, h2⟩ => ⟨h1, next_below bw h2⟩
          have B6 : Below w6.heap.size w6 w6 := Below.refl _ _
          have HCC6 : Hid (0 < i → Al = some ⟨b, o, none⟩ ∧ ∀ w2, Below w6.heap.size w6 w2 → w2.cell? ⟨b, o + 0, none⟩ = some (.slice (PV 0) (P 0).length (PQ 0))) := Lib.hid fun h0 => ⟨(HCC.out 0 h0).1, fun w2 bw => (HCC.out 0 h0).2 w2 (next_below HBX.out bw)⟩
          clear HCC HG HR HLK HSA HWS HWB HWN HLA HWG HU HBW HWE HAV HSP HRO HKI HW4 HB HBX
          generalize (wantL f a).length = wl at *
          generalize (UU P i).length = ul at *
          by_cases e0 : a.length = 0
          · have e0' : (a.length : Int) = 0 := by omega
            have e0'' : ((a.length : Int) == 0) = true := by rw [beq_iff_eq]; omega
            rw [decide_eq_true e0, Bool.true_or] at HLA6
            clear e0
            by_cases e1 : i = 1
            · subst e1
              go_wp2_with (first
                | (go_at_call 14; (with_reducible refine (HSW.out _ B6).mono ?_); rintro e w7 ⟨rfl, B7⟩; have M7 := (HW6.out _ B7).1; obtain ⟨m0, m1, m2, m3, m4⟩ := M7)
                | (go_at_call 18; (with_reducible refine (HLA6.out _ B7).mono ?_); rintro e w8 ⟨rfl, B8⟩))
              go_ret
              exact ⟨rfl, (HW6.out _ B8).2⟩
            · have e1' : ¬ (i : Int) = 1 := by omega
              have e1'' : ((i : Int) == 1) = false := by rw [beq_eq_false_iff_ne]; omega
              go_wp2_with (first
                | (go_at_call 14; (with_reducible refine (HSW.out _ B6).mono ?_); rintro e w7 ⟨rfl, B7⟩; have M7 := (HW6.out _ B7).1; obtain ⟨m0, m1, m2, m3, m4⟩ := M7)
                | (go_at_call 18; (with_reducible refine (HLA6.out _ B7).mono ?_); rintro e w8 ⟨rfl, B8⟩))
              go_ret
              exact ⟨rfl, (HW6.out _ B8).2⟩
          · have e0' : ¬ (a.length : Int) = 0 := by omega
            have e0'' : ((a.length : Int) == 0) = false := by rw [beq_eq_false_iff_ne]; omega
            rw [decide_eq_false e0, Bool.false_or] at HLA6
            by_cases e1 : i = 1
            · subst e1
              rw [decide_eq_true rfl, Bool.true_and] at HLA6
              obtain ⟨rfl, hc0⟩ := HCC6.out (by omega)
              have z0 := hc0 _ B6
              rw [Nat.add_zero] at z0
              cases hpb : decide (P 0 = a)
              · rw [hpb] at HLA6
                go_wp2_with (first
                  | (go_at_call 14; (with_reducible refine (HS0.out _ hpb (by omega) _ B6).mono ?_); rintro e w9 ⟨rfl, B9⟩)
                  | (go_at_call 14; (with_reducible refine (HSW.out _ B9).mono ?_); rintro e w7 ⟨rfl, B7⟩; have M7 := (HW6.out _ B7).1; obtain ⟨m0, m1, m2, m3, m4⟩ := M7)
                  | (go_at_call 18; (with_reducible refine (HLA6.out _ B7).mono ?_); rintro e w8 ⟨rfl, B8⟩))
                go_ret
                exact ⟨rfl, (HW6.out _ B8).2⟩
              · rw [hpb] at HLA6
                go_wp2_with (first
                  | (go_at_call 14; (with_reducible refine (HS0.out _ hpb (by omega) _ B6).mono ?_); rintro e w9 ⟨rfl, B9⟩)
                  | (go_at_call 14; (with_reducible refine (HSW.out _ B9).mono ?_); rintro e w7 ⟨rfl, B7⟩; have M7 := (HW6.out _ B7).1; obtain ⟨m0, m1, m2, m3, m4⟩ := M7)
                  | (go_at_call 18; (with_reducible refine (HLA6.out _ B7).mono ?_); rintro e w8 ⟨rfl, B8⟩))
                go_ret
                exact ⟨rfl, (HW6.out _ B8).2⟩
            · have e1' : ¬ (i : Int) = 1 := by omega
              have e1'' : ((i : Int) == 1) = false := by rw [beq_eq_false_iff_ne]; omega
              rw [decide_eq_false e1, Bool.false_and] at HLA6
              go_wp2_with (first
                | (go_at_call 14; (with_reducible refine (HSW.out _ B6).mono ?_); rintro e w7 ⟨rfl, B7⟩; have M7 := (HW6.out _ B7).1; obtain ⟨m0, m1, m2, m3, m4⟩ := M7)
                | (go_at_call 18; (with_reducible refine (HLA6.out _ B7).mono ?_); rintro e w8 ⟨rfl, B8⟩))
              go_ret
              exact ⟨rfl, (HW6.out _ B8).2⟩

end Rgn
end Go.Proofs.YtgophgnfiboefaaDoor

/- RegionInside. -/
import Derived.Test.YtgophgnfiboefaaDoorRsD
namespace Go.Proofs.YtgophgnfiboefaaDoor
open Go.RowKit Wire
open Txt (Row)
open Go.Proofs.YtgophgnfiboefaaDoor.Own Flo
open Dsk (Only nth)
set_option linter.unusedVariables false
set_option linter.unusedSimpArgs false
namespace Rgn
theorem cells_uni {w : World} {A : Option Addr} {n : Nat} {O : Nat → Int} (h : ∀ k, k < n → ∃ b o, A = some ⟨b, o, none⟩ ∧ ∀ w', Below w.heap.size w w' → w'.cell? ⟨b, o + k, none⟩ = some (.int .i64 (O k))) : ∃ b o, ∀ k, k < n → A = some ⟨b, o, none⟩ ∧ ∀ w', Below w.heap.size w w' → w'.cell? ⟨b, o + k, none⟩ = some (.int .i64 (O k)) := by
  by_cases h0 : 0 < n
  · obtain ⟨b, o, e, _⟩ := h 0 h0
    refine ⟨b, o, fun k hk => ⟨e, ?_⟩⟩
    obtain ⟨b', o', e', hc⟩ := h k hk
    rw [e] at e'
    injection e' with e'
    injection e' with e1 e2
    subst e1
    subst e2
    exact hc
  · exact ⟨0, 0, fun k hk => absurd hk (by omega)⟩
def PackI (f : Fl) (a : List Nat) (src : List Int) (w : World) (e : Ending) (w' : World) : Prop :=
  ∃ (A : Option Addr) (c : Nat) (O : Nat → Int), e = .returned (.slice A a.length c) ∧ InsF f a src O ∧ (∃ b o, ∀ k, k < a.length → A = some ⟨b, o, none⟩ ∧ ∀ w2, Below w'.heap.size w' w2 → w2.cell? ⟨b, o + k, none⟩ = some (.int .i64 (O k))) ∧ Below w.heap.size w w'
theorem ins_pack {f : Fl} (ho : f.ok) {a : List Nat} {src : List Int} {w : World} {fn : FuncId} {args : Array Value} (h : Calls Tryd.prog fn args w (InsPost f a src w)) : Calls Tryd.prog fn args w (PackI f a src w) := by
  refine h.mono ?_
  rintro e w' ⟨A, c, out, rfl, h1, h2, h3⟩
  obtain ⟨hl, hf⟩ := ins_facts ho h1
  exact ⟨A, c, _, rfl, hf, cells_uni fun k hk => row_val h2 (by rw [hl]; exact hk), h3⟩
set_option maxRecDepth 100000 in
set_option maxHeartbeats 16000000 in
theorem inside_holds8 (f : Fl) (p : Pl) (A1 : Option Addr) (c1 : Nat) (l1 : List Int) (A2 : Option Addr) (c2 : Nat) (l2 : List Int) (W : World) (hv : VS W ∧ VO W) (hin : FlIn W f p) (hlk : f.Kind.length ≤ maxLen) (hlo : f.Out.length ≤ maxLen) (hr1 : Row W W.heap.size A1 (ivs l1)) (hm1 : l1.length ≤ maxLen) (hr2 : Row W W.heap.size A2 (ivs l2)) (hm2 : l2.length ≤ maxLen) :
    Calls Tryd.prog 5 #[f.val p, .slice A1 l1.length c1, .slice A2 l2.length c2] W fun e w' => e = .returned (.bool true) ∧ Below W.heap.size W w' := by
  have HSM : Hid (∀ w', Below W.heap.size W w' → Calls Tryd.prog 7 #[] w' fun e w2 => e = .returned (.bool true) ∧ Below w'.heap.size w' w2) := Lib.hid fun w' b => regSmall_any w' (hv.1.lift b) (hv.2.lift b)
  have HFI : Hid (∀ w', Below W.heap.size W w' → Calls Tryd.prog 16 #[f.val p, .slice A1 l1.length c1, .int .i64 60] w' fun e w2 => e = .returned (.bool (fitB f 60 l1)) ∧ Below w'.heap.size w' w2) := Lib.hid fun w' b => regFits_any f p 60 A1 c1 l1 w' (hin.lift b) (small_le2 hlk) (small_le2 hlo) (small_le2 hm1) (hr1.lift b)
  have HBo : Hid (∀ o, Below W.heap.size W (W.alloc o)) := Lib.hid fun o => (Below.refl _ W).alloc (Nat.le_refl _) o
  obtain ⟨K1, q1, K2, q2⟩ := p
  have HB0 : Hid (∀ w', Below (W.alloc (.cells (boxV f.W f.H f.D K1 f.Kind.length q1 K2 f.Out.length q2) 31)).heap.size (W.alloc (.cells (boxV f.W f.H f.D K1 f.Kind.length q1 K2 f.Out.length q2) 31)) w' → BoxS W.heap.size f.W f.H f.D K1 f.Kind.length q1 K2 f.Out.length q2 w' ∧ Below W.heap.size W w') := Lib.hid fun w' b => ⟨boxS ((Blk.fresh W _ _).under b (by simp)), next_below ((Below.refl _ W).alloc (Nat.le_refl _) _) b⟩
  have hk2 : (l2.length : Int) ≤ 9223372036854775807 := by have := small_le2 hm2; omega
  cases hfb : fitB f 60 l1
  · rw [hfb] at HFI
    clear hv hin hfb hlk hlo hr1 hm1 hr2 hm2
    generalize hn : f.Kind.length = n at *
    generalize hn2 : f.Out.length = n2 at *
    have HVAL : Hid (f.val ⟨K1, q1, K2, q2⟩ = .agg #[.int .i64 f.W, .int .i64 f.H, .int .i64 f.D, .slice K1 n q1, .slice K2 n2 q2]) := Lib.hid (by rw [← hn, ← hn2])
    rw [HVAL.out] at HFI ⊢
    clear hn hn2 HVAL
    generalize f.W = fW at *
    generalize f.H = fH at *
    generalize f.D = fD at *
    generalize l1.length = len1 at *
    generalize l2.length = len2 at *
    go_enter Tryd.func5, Tryd.ntmps5
    go_wp2_with (first
      | (go_at_call 7; refine (HSM.out _ (HBo.out _)).mono ?_; rintro e w1 ⟨rfl, b1⟩; obtain ⟨⟨m0, m1, m2, m3, m4⟩, hbw⟩ := HB0.out _ b1; have H1 := Lib.hid hbw; clear b1 hbw)
      | (go_at_call 16; refine (HFI.out _ H1.out).mono ?_; rintro e w2 ⟨rfl, b2⟩; have H2 := Lib.hid (next_below H1.out b2); clear b2))
    go_ret
    exact ⟨rfl, H2.out⟩
  obtain ⟨ho, hk60, hl200, hra⟩ := fitB_iff.1 hfb
  rw [hfb] at HFI
  by_cases h60 : l2.length ≤ 60
  case neg =>
    have h60' : ¬ (l2.length : Int) ≤ 60 := by omega
    have h60'' : (60 : Int) < (l2.length : Int) := by omega
    clear hv hin hfb hlk hlo hr1 hm1 hr2 hm2 ho hra h60
    generalize hn : f.Kind.length = n at *
    generalize hn2 : f.Out.length = n2 at *
    have HVAL : Hid (f.val ⟨K1, q1, K2, q2⟩ = .agg #[.int .i64 f.W, .int .i64 f.H, .int .i64 f.D, .slice K1 n q1, .slice K2 n2 q2]) := Lib.hid (by rw [← hn, ← hn2])
    rw [HVAL.out] at HFI ⊢
    clear hn hn2 HVAL
    generalize f.W = fW at *
    generalize f.H = fH at *
    generalize f.D = fD at *
    generalize l1.length = len1 at *
    generalize l2.length = len2 at *
    go_enter Tryd.func5, Tryd.ntmps5
    go_wp2_with (first
      | (go_at_call 7; refine (HSM.out _ (HBo.out _)).mono ?_; rintro e w1 ⟨rfl, b1⟩; obtain ⟨⟨m0, m1, m2, m3, m4⟩, hbw⟩ := HB0.out _ b1; have H1 := Lib.hid hbw; clear b1 hbw)
      | (go_at_call 16; refine (HFI.out _ H1.out).mono ?_; rintro e w2 ⟨rfl, b2⟩; have H2 := Lib.hid (next_below H1.out b2); clear b2))
    go_ret
    exact ⟨rfl, H2.out⟩
  obtain ⟨a, rfl, ha⟩ := reg_of hra
  rw [ivs_ivn] at hr1
  have la : (ivn a).length = a.length := List.length_map ..
  rw [la] at HFI hl200 ⊢
  have HIN : Hid (∀ w', Below W.heap.size W w' → Calls Tryd.prog 19 #[f.val ⟨K1, q1, K2, q2⟩, .slice A1 a.length c1, .slice A2 l2.length c2] w' (PackI f a l2 w')) := Lib.hid fun w' bw => ins_pack ho (inside_any ho ⟨K1, q1, K2, q2⟩ A1 A2 c1 c2 a l2 w' (hv.1.lift bw) (hin.lift bw) ha (hr1.lift bw) (hr2.lift bw) (by omega))
  have HHA : Hid (∀ w' x, Below W.heap.size W w' → Calls Tryd.prog 20 #[.slice A2 l2.length c2, .int .i64 x] w' fun e w2 => e = .returned (.bool (decide (x ∈ l2))) ∧ w' = w2) := Lib.hid fun w' x bw => rhas_any w' A2 c2 l2 x (by omega) (hr2.lift bw)
  have HNX : Hid (∀ w' (c d : Int), Below W.heap.size W w' → Calls Tryd.prog 21 #[f.val ⟨K1, q1, K2, q2⟩, .int .i64 c, .int .i64 d] w' fun e w2 => e = .returned (resN (f.next c d)) ∧ Below w'.heap.size w' w2) := Lib.hid fun w' c d bw => next_any ho ⟨K1, q1, K2, q2⟩ c d w' (hv.1.lift bw) (hin.lift bw)
  have HKI : Hid (∀ k, k < f.Kind.length → ∃ b o, K1 = some ⟨b, o, none⟩ ∧ ∀ w', Below W.heap.size W w' → w'.cell? ⟨b, o + k, none⟩ = some (.int .i64 (f.kindAt k))) := Lib.hid fun k hk => by
    have := row_val hin.kind hk
    have e : f.kindAt k = f.Kind.getD k 0 := by unfold Fl.kindAt; simp
    rw [e]
    exact this
  have HAU := Lib.hid (cells_uni (n := a.length) (O := fun k => ((a.getD k 0 : Nat) : Int)) fun k hk => row_valN hr1 hk)
  have hl200' : (a.length : Int) ≤ 200 := by omega
  have h60' : (l2.length : Int) ≤ 60 := by omega
  have h60'' : ¬ (60 : Int) < (l2.length : Int) := by omega
  clear hv hin hfb hlk hlo hr1 hm1 hr2 hm2 hra ho ha la h60
  obtain ⟨n, hn⟩ : ∃ n : Nat, n = f.Kind.length := ⟨_, rfl⟩
  have HVAL : Hid (f.val ⟨K1, q1, K2, q2⟩ = .agg #[.int .i64 f.W, .int .i64 f.H, .int .i64 f.D, .slice K1 n q1, .slice K2 f.Out.length q2]) := Lib.hid (by rw [hn])
  rw [HVAL.out] at HFI HIN HNX ⊢
  rw [← hn] at hk60 HB0 HKI
  have HNE := Lib.hid hn
  clear hn HVAL
  generalize f.Out.length = n2 at *
  generalize f.W = fW at *
  generalize f.H = fH at *
  generalize f.D = fD at *
  have hn60 : (n : Int) ≤ 60 := by omega
  go_enter Tryd.func5, Tryd.ntmps5
  go_upto_region 5 with (first
    | (go_at_call 7; refine (HSM.out _ (HBo.out _)).mono ?_; rintro e w1 ⟨rfl, b1⟩; have BB1 := Lib.hid b1; obtain ⟨⟨m0, m1, m2, m3, m4⟩, hbw⟩ := HB0.out _ b1; have H1 := Lib.hid hbw; clear b1 hbw)
    | (go_at_call 16; refine (HFI.out _ H1.out).mono ?_; rintro e w2 ⟨rfl, b2⟩; have BB2 := Lib.hid (next_below BB1.out b2); clear b2 m0 m1 m2 m3 m4; obtain ⟨⟨m0, m1, m2, m3, m4⟩, hbw⟩ := HB0.out _ BB2.out; have H2 := Lib.hid hbw; clear hbw)
    | (go_at_call 19; refine (HIN.out _ H2.out).mono ?_; rintro e w4 ⟨Al, cl, O, rfl, hfac, hcell, b4⟩; have BB4 := Lib.hid (next_below BB2.out b4); have HF := Lib.hid hfac; have HC := Lib.hid hcell; clear b4 hfac hcell))
  have HW4 : Hid (∀ w', Below w4.heap.size w4 w' → BoxS W.heap.size fW fH fD K1 n q1 K2 n2 q2 w' ∧ Below W.heap.size W w') := Lib.hid fun w' bw => HB0.out _ (next_below BB4.out bw)
  clear HSM HFI HBo HIN HB0 BB1 BB2 BB4 H1 H2 m0 m1 m2 m3 m4
  obtain ⟨b, o, hcc⟩ := HC.out
  have HCC := Lib.hid hcc
  clear hcc HC
  obtain ⟨ba, oa, hcc⟩ := HAU.out
  have HCA := Lib.hid hcc
  clear hcc HAU
  have hnn : ((a.length : Int) != (a.length : Int)) = false := by simp
  go_wp2_with fail
  clear hnn
  go_loopw [9, 10, 11, 12, 13, 14, 15] (fun iv _ _ _ _ _ _ wr => ∃ i : Nat, iv = .int .i64 ((i : Nat) : Int) ∧ i ≤ a.length ∧ Hid (Below w4.heap.size w4 wr)) (fun iv _ _ _ _ _ _ _ => a.length - (intOf iv).toNat)
  case atStart => exact ⟨0, rfl, Nat.zero_le _, Lib.hid (Below.refl _ _)⟩
  case round =>
    obtain ⟨i, rfl, hi, HB⟩ := hrel
    generalize wr = w5 at *
    by_cases hlt : i < a.length
    · obtain ⟨rfl, hc1⟩ := HCA.out i hlt
      obtain ⟨rfl, hc2⟩ := HCC.out i hlt
      have hz := HF.out.zero i hlt
      have hlo := HF.out.low i hlt
      rw [← HNE.out] at hz hlo
      have HDN : Hid (∀ lv, LeaI f.next a O (a.getD i 0) a.length 0 lv → (0 < O i → lv = O i - 1) ∧ (O i < 0 → lv < 0)) := Lib.hid fun lv h => h.done HF.out hlt
      have hi9 : (i : Int) < (a.length : Int) := by omega
      have hi8 : (i : Int) < 200 := by omega
      have HKC : Hid (∀ w', Below w5.heap.size w5 w' → w'.cell? ⟨ba, oa + i, none⟩ = some (.int .i64 ((a.getD i 0 : Nat) : Int)) ∧ w'.cell? ⟨b, o + i, none⟩ = some (.int .i64 (O i)) ∧ BoxS W.heap.size fW fH fD K1 n q1 K2 n2 q2 w') := Lib.hid fun w' bw => ⟨hc1 w' (HW4.out w' (next_below HB.out bw)).2, hc2 w' (next_below HB.out bw), (HW4.out w' (next_below HB.out bw)).1⟩
      have HHi := Lib.hid (fun w' bw => HHA.out w' ((a.getD i 0 : Nat) : Int) (HW4.out w' (next_below HB.out bw)).2)
      have HCC5 : Hid (∀ k, k < a.length → ∀ w', Below w5.heap.size w5 w' → w'.cell? ⟨ba, oa + k, none⟩ = some (.int .i64 ((a.getD k 0 : Nat) : Int)) ∧ w'.cell? ⟨b, o + k, none⟩ = some (.int .i64 (O k))) := Lib.hid fun k hk w' bw => ⟨(HCA.out k hk).2 w' (HW4.out w' (next_below HB.out bw)).2, (HCC.out k hk).2 w' (next_below HB.out bw)⟩
      have HKI5 : Hid (∀ k, k < n → ∃ b o, K1 = some ⟨b, o, none⟩ ∧ ∀ w', Below w5.heap.size w5 w' → w'.cell? ⟨b, o + k, none⟩ = some (.int .i64 (f.kindAt k))) := Lib.hid fun k hk => by
        obtain ⟨b, o, e, h⟩ := HKI.out k hk
        exact ⟨b, o, e, fun w' bw => h w' (HW4.out w' (next_below HB.out bw)).2⟩
      have HNX5 : Hid (∀ w' (c d : Int), Below w5.heap.size w5 w' → Calls Tryd.prog 21 #[.agg #[.int .i64 fW, .int .i64 fH, .int .i64 fD, .slice K1 n q1, .slice K2 n2 q2], .int .i64 c, .int .i64 d] w' fun e w2 => e = .returned (resN (f.next c d)) ∧ Below w5.heap.size w5 w2) := Lib.hid fun w' c d bw => (HNX.out w' c d (HW4.out w' (next_below HB.out bw)).2).mono fun e w2 ⟨h1, h2⟩ => ⟨h1, next_below bw h2⟩
      have HO : Hid (∃ oi, oi = O i) := Lib.hid ⟨_, rfl⟩
      clear hc1 hc2 HCA HCC HF HHA HKI HNX HW4 HNE
      obtain ⟨oi, hoi⟩ := HO.out
      have HOI := Lib.hid hoi
      obtain ⟨x, hx⟩ : ∃ x, x = a.getD i 0 := ⟨_, rfl⟩
      have HXI := Lib.hid hx
      rw [← hoi] at hz hlo HDN HKC
      rw [← hx] at hz HDN HKC HHi
      clear hoi hx HO
      obtain ⟨hb, hhb⟩ : ∃ hb, hb = decide ((x : Int) ∈ l2) := ⟨_, rfl⟩
      rw [← hhb] at hz HHi
      clear hhb
      obtain ⟨kx, hkx⟩ : ∃ kx, kx = f.kindAt x := ⟨_, rfl⟩
      have HKX : Hid (x < n → ∃ b o, K1 = some ⟨b, o, none⟩ ∧ ∀ w', Below w5.heap.size w5 w' → w'.cell? ⟨b, o + x, none⟩ = some (.int .i64 kx)) := Lib.hid (by rw [hkx]; exact HKI5.out x)
      rw [← hkx] at hz
      clear hkx HKI5
      have HZ := Lib.hid hz
      clear hz
      generalize f.next = NXT at *
      obtain ⟨zx, m1, m0, m2, m3, m4, m5⟩ := HKC.out _ (Below.refl _ _)
      have BD : Hid (Below w5.heap.size w5 w5.drew) := Lib.hid (Below.refl _ _).drew
      go_upto_region 10 with (fail)
      go_cut [10] (fun v10 wx => v10 = .bool (hb && decide (x < n)) ∧ Hid (Below w5.heap.size w5 wx))
      case first =>
        have BQ : Hid (∀ k, Below w5.heap.size w5 (w5.drewN k)) := Lib.hid fun k => (Below.refl _ w5).trans (below_any w5 k)
        have HHQ : Hid (∀ k, Calls Tryd.prog 20 #[.slice A2 l2.length c2, .int .i64 (x : Int)] (w5.drewN k) fun e w2 => e = .returned (.bool hb) ∧ w2 = w5.drewN k) := Lib.hid fun k => (HHi.out _ (BQ.out k)).mono fun e w2 ⟨h1, h2⟩ => ⟨h1, h2.symm⟩
        cases hb
        · go_quiet ((go_at_call 20; exact Calls.quiet_of_same (HHQ.out _)))
          go_wp2_with fail
          go_meet
          case rel => exact ⟨rfl, Lib.hid (BQ.out _)⟩
        · by_cases hxn : x < n
          · have hxn' : (x : Int) < (n : Int) := by omega
            go_quiet ((go_at_call 20; exact Calls.quiet_of_same (HHQ.out _)))
            go_wp2_with fail
            go_meet
            case rel => first | exact ⟨by rw [decide_eq_true hxn]; rfl, Lib.hid (BQ.out _)⟩ | exact ⟨congrArg Value.bool (by simp [hxn]), Lib.hid (BQ.out _)⟩
          · have hxn' : ¬ (x : Int) < (n : Int) := by omega
            go_quiet ((go_at_call 20; exact Calls.quiet_of_same (HHQ.out _)))
            go_wp2_with fail
            go_meet
            case rel => first | exact ⟨by rw [decide_eq_false hxn]; rfl, Lib.hid (BQ.out _)⟩ | exact ⟨congrArg Value.bool (by simp [hxn]), Lib.hid (BQ.out _)⟩
      case rest =>
        obtain ⟨rfl, BC⟩ := hcut
        clear zx m0 m1 m2 m3 m4 m5 BD HHi
        generalize wc = wc1 at *
        generalize hs1 : (hb && decide (x < n)) = s1 at *
        have HS1 := Lib.hid hs1
        clear hs1
        obtain ⟨zx, m1, m0, m2, m3, m4, m5⟩ := HKC.out _ BC.out
        go_upto_if 58 with (fail)
        go_cut [10] (fun v10 wx => v10 = .bool (decide (oi = 0)) ∧ Hid (Below w5.heap.size w5 wx))
        case first =>
          cases s1
          · go_wp2_with fail
            go_meet
            case rel => exact ⟨congrArg Value.bool (by rw [HZ.out]; rfl), BC⟩
          · have hxn : x < n := by
              have := HS1.out
              rw [Bool.and_eq_true] at this
              exact of_decide_eq_true this.2
            have hxn' : (x : Int) < (n : Int) := by omega
            obtain ⟨b3, o3, rfl, hc3⟩ := HKX.out hxn
            have z3 := hc3 _ BC.out
            clear hc3
            go_upto_region 12 with (fail)
            go_quiet (fail)
            have BE : Hid (Below w5.heap.size w5 (wc1.drewN nq)) := Lib.hid (BC.out.trans (below_any wc1 nq))
            go_wp2_with fail
            go_meet
            case rel => first | exact ⟨congrArg Value.bool (by rw [HZ.out]; rfl), BE⟩ | exact ⟨congrArg Value.bool (by rw [HZ.out]; simp), BE⟩
        case rest =>
          obtain ⟨rfl, BC2⟩ := hcut
          generalize wc = wc2 at *
          clear zx m0 m1 m2 m3 m4 m5 BC HS1 HZ HKX
          obtain ⟨zx, m1, m0, m2, m3, m4, m5⟩ := HKC.out _ BC2.out
          generalize hst : decide (oi = 0) = st at *
          have HST := Lib.hid hst
          clear hst
          go_upto_region 13 with (fail)
          go_cut [81] (fun v81 wx => v81 = .bool false ∧ wx = wc2)
          case first =>
            cases st
            · have h0 : ¬ oi = 0 := of_decide_eq_false HST.out
              have h0' : (oi == 0) = false := by rw [beq_eq_false_iff_ne]; exact h0
              have h1 : ¬ oi < -1 := by omega
              clear h0
              go_wp2_with fail
              go_meet
              case rel => first | exact ⟨rfl, rfl⟩ | exact ⟨congrArg Value.bool (decide_eq_false h1), rfl⟩ | exact ⟨congrArg Value.bool (by simp [h0', h1]), rfl⟩
            · obtain rfl : oi = 0 := of_decide_eq_true HST.out
              go_wp2_with fail
              go_meet
              case rel => exact ⟨rfl, rfl⟩
          case rest =>
            obtain ⟨rfl, hwx⟩ := hcut
            subst hwx
            clear zx m0 m1 m2 m3 m4 m5 HST
            go_wp2_with fail
            go_loopw [11, 12, 13, 14, 15] (fun lv kv _ _ _ wx => ∃ (k : Nat) (l : Int), lv = .int .i64 l ∧ kv = .int .i64 ((k : Nat) : Int) ∧ k ≤ a.length ∧ Hid (LeaI NXT a O x k 0 l) ∧ Hid (Below w5.heap.size w5 wx)) (fun _ kv _ _ _ _ => a.length - (intOf kv).toNat)
            case atStart => exact ⟨0, -1, rfl, rfl, Nat.zero_le _, Lib.hid LeaI.start, BC2⟩
            case round =>
              clear BC2
              obtain ⟨k, l, rfl, rfl, hk, HLE, HBK⟩ := hrel
              generalize wr = w6 at *
              by_cases hkl : k < a.length
              · have hk9 : (k : Int) < (a.length : Int) := by omega
                have HKK : Hid (∀ w', Below w5.heap.size w5 w' → w'.cell? ⟨ba, oa + i, none⟩ = some (.int .i64 (x : Int)) ∧ w'.cell? ⟨ba, oa + k, none⟩ = some (.int .i64 ((a.getD k 0 : Nat) : Int)) ∧ w'.cell? ⟨b, o + k, none⟩ = some (.int .i64 (O k)) ∧ BoxS W.heap.size fW fH fD K1 n q1 K2 n2 q2 w') := Lib.hid fun w' bw => ⟨(HKC.out w' bw).1, (HCC5.out k hkl w' bw).1, (HCC5.out k hkl w' bw).2, (HKC.out w' bw).2.2⟩
                obtain ⟨xk, hxk⟩ : ∃ xk, xk = a.getD k 0 := ⟨_, rfl⟩
                obtain ⟨ok, hok⟩ : ∃ ok, ok = O k := ⟨_, rfl⟩
                have HKX := Lib.hid hxk
                have HKO := Lib.hid hok
                rw [← hxk, ← hok] at HKK
                clear hxk hok
                go_wp2_with fail
                go_loopw [11, 13, 14, 15] (fun lv dv _ _ wx => ∃ (d : Nat) (l : Int), lv = .int .i64 l ∧ dv = .int .i64 ((d : Nat) : Int) ∧ d ≤ 6 ∧ Hid (LeaI NXT a O x k d l) ∧ Hid (Below w5.heap.size w5 wx)) (fun _ dv _ _ _ => 6 - (intOf dv).toNat)
                case atStart => exact ⟨0, l, rfl, rfl, by omega, HLE, HBK⟩
                case round =>
                  clear HLE HBK
                  obtain ⟨d, l, rfl, rfl, hd, HLE, HBK⟩ := hrel
                  generalize wr = w7 at *
                  by_cases hd6 : d < 6
                  · have hd9 : (d : Int) < 6 := by omega
                    obtain ⟨zx, zk, zo, m0, m1, m2, m3, m4⟩ := HKK.out _ HBK.out
                    have BD : Hid (Below w5.heap.size w5 w7.drew) := Lib.hid (next_below HBK.out (Below.refl _ _).drew)
                    have HCN := Lib.hid (HNX5.out w7.drew xk d BD.out)
                    cases hnx : NXT xk d with
                    | none =>
                      rw [hnx] at HCN
                      have HL2 : Hid (LeaI NXT a O x k (d + 1) l) := Lib.hid (HLE.out.miss fun e => by
                        rw [← HKX.out, hnx] at e
                        cases e)
                      clear hnx
                      clear HLE
                      go_upto_region 22 with (fail)
                      go_region_held3 (fun w' => w'.cell? ⟨ba, oa + i, none⟩ = some (.int .i64 (x : Int)) ∧ w'.cell? ⟨ba, oa + k, none⟩ = some (.int .i64 (xk : Int)) ∧ w'.cell? ⟨b, o + k, none⟩ = some (.int .i64 ok) ∧ BoxS W.heap.size fW fH fD K1 n q1 K2 n2 q2 w') (first | exact HKK.out _ BD.out | exact HKK.out _ b8 | go_keep)
                        (first
                          | (go_at_call 21; refine HCN.out.mono ?_; rintro e w8 ⟨rfl, b8⟩))
                      have B8 := Lib.hid b8
                      clear b8 zx zk zo m0 m1 m2 m3 m4
                      obtain ⟨zx, zk, zo, m0, m1, m2, m3, m4⟩ := HKK.out _ B8.out
                      go_wp2_with fail
                      go_roundw
                      case rel => exact ⟨d + 1, l, rfl, by simp, by omega, HL2, B8⟩
                      case measure => simp [intOf]; omega
                    | some y =>
                      rw [hnx] at HCN
                      by_cases hy : y = (x : Int)
                      · subst hy
                        have hq : NXT (a.getD k 0) d = some (x : Int) := by rw [← HKX.out]; exact hnx
                        by_cases hok : 0 ≤ ok
                        · have hok2 : 0 ≤ O k := by rw [← HKO.out]; exact hok
                          by_cases hb : l < 0 ∨ ok < l
                          · have HL2 : Hid (LeaI NXT a O x k (d + 1) ok) := Lib.hid (by
                              have := HLE.out.better hkl hq hok2 (by rw [← HKO.out]; exact hb)
                              rw [← HKO.out] at this
                              exact this)
                            clear hnx hq hok2
                            by_cases hl0 : l < 0
                            · clear hb
                              clear HLE
                              go_upto_region 22 with (fail)
                              go_region_held3 (fun w' => w'.cell? ⟨ba, oa + i, none⟩ = some (.int .i64 (x : Int)) ∧ w'.cell? ⟨ba, oa + k, none⟩ = some (.int .i64 (xk : Int)) ∧ w'.cell? ⟨b, o + k, none⟩ = some (.int .i64 ok) ∧ BoxS W.heap.size fW fH fD K1 n q1 K2 n2 q2 w') (first | exact HKK.out _ BD.out | exact HKK.out _ b8 | go_keep)
                                (first
                                  | (go_at_call 21; refine HCN.out.mono ?_; rintro e w8 ⟨rfl, b8⟩))
                              have B8 := Lib.hid b8
                              clear b8 zx zk zo m0 m1 m2 m3 m4
                              obtain ⟨zx, zk, zo, m0, m1, m2, m3, m4⟩ := HKK.out _ B8.out
                              go_wp2_with fail
                              go_roundw
                              case rel => exact ⟨d + 1, ok, rfl, by simp, by omega, HL2, B8⟩
                              case measure => simp [intOf]; omega
                            · have hl1 : ok < l := by omega
                              clear hb
                              clear HLE
                              go_upto_region 22 with (fail)
                              go_region_held3 (fun w' => w'.cell? ⟨ba, oa + i, none⟩ = some (.int .i64 (x : Int)) ∧ w'.cell? ⟨ba, oa + k, none⟩ = some (.int .i64 (xk : Int)) ∧ w'.cell? ⟨b, o + k, none⟩ = some (.int .i64 ok) ∧ BoxS W.heap.size fW fH fD K1 n q1 K2 n2 q2 w') (first | exact HKK.out _ BD.out | exact HKK.out _ b8 | go_keep)
                                (first
                                  | (go_at_call 21; refine HCN.out.mono ?_; rintro e w8 ⟨rfl, b8⟩))
                              have B8 := Lib.hid b8
                              clear b8 zx zk zo m0 m1 m2 m3 m4
                              obtain ⟨zx, zk, zo, m0, m1, m2, m3, m4⟩ := HKK.out _ B8.out
                              go_wp2_with fail
                              go_roundw
                              case rel => exact ⟨d + 1, ok, rfl, by simp, by omega, HL2, B8⟩
                              case measure => simp [intOf]; omega
                          · have hl0 : ¬ l < 0 := fun e => hb (.inl e)
                            have hl1 : ¬ ok < l := fun e => hb (.inr e)
                            have HL2 : Hid (LeaI NXT a O x k (d + 1) l) := Lib.hid (HLE.out.worse (by omega) (by rw [← HKO.out]; omega))
                            clear hnx hq hok2 hb
                            clear HLE
                            go_upto_region 22 with (fail)
                            go_region_held3 (fun w' => w'.cell? ⟨ba, oa + i, none⟩ = some (.int .i64 (x : Int)) ∧ w'.cell? ⟨ba, oa + k, none⟩ = some (.int .i64 (xk : Int)) ∧ w'.cell? ⟨b, o + k, none⟩ = some (.int .i64 ok) ∧ BoxS W.heap.size fW fH fD K1 n q1 K2 n2 q2 w') (first | exact HKK.out _ BD.out | exact HKK.out _ b8 | go_keep)
                              (first
                                | (go_at_call 21; refine HCN.out.mono ?_; rintro e w8 ⟨rfl, b8⟩))
                            have B8 := Lib.hid b8
                            clear b8 zx zk zo m0 m1 m2 m3 m4
                            obtain ⟨zx, zk, zo, m0, m1, m2, m3, m4⟩ := HKK.out _ B8.out
                            go_wp2_with fail
                            go_roundw
                            case rel => exact ⟨d + 1, l, rfl, by simp, by omega, HL2, B8⟩
                            case measure => simp [intOf]; omega
                        · have HL2 : Hid (LeaI NXT a O x k (d + 1) l) := Lib.hid (HLE.out.miss fun e => by rw [← HKO.out]; exact hok)
                          clear hnx hq
                          clear HLE
                          go_upto_region 22 with (fail)
                          go_region_held3 (fun w' => w'.cell? ⟨ba, oa + i, none⟩ = some (.int .i64 (x : Int)) ∧ w'.cell? ⟨ba, oa + k, none⟩ = some (.int .i64 (xk : Int)) ∧ w'.cell? ⟨b, o + k, none⟩ = some (.int .i64 ok) ∧ BoxS W.heap.size fW fH fD K1 n q1 K2 n2 q2 w') (first | exact HKK.out _ BD.out | exact HKK.out _ b8 | go_keep)
                            (first
                              | (go_at_call 21; refine HCN.out.mono ?_; rintro e w8 ⟨rfl, b8⟩))
                          have B8 := Lib.hid b8
                          clear b8 zx zk zo m0 m1 m2 m3 m4
                          obtain ⟨zx, zk, zo, m0, m1, m2, m3, m4⟩ := HKK.out _ B8.out
                          go_wp2_with fail
                          go_roundw
                          case rel => exact ⟨d + 1, l, rfl, by simp, by omega, HL2, B8⟩
                          case measure => simp [intOf]; omega
                      · have hy2 : (y == (x : Int)) = false := by rw [beq_eq_false_iff_ne]; exact hy
                        have HL2 : Hid (LeaI NXT a O x k (d + 1) l) := Lib.hid (HLE.out.miss fun e => by
                          rw [← HKX.out, hnx] at e
                          exact absurd (Option.some.inj e) hy)
                        clear hnx hy
                        clear HLE
                        go_upto_region 22 with (fail)
                        go_region_held3 (fun w' => w'.cell? ⟨ba, oa + i, none⟩ = some (.int .i64 (x : Int)) ∧ w'.cell? ⟨ba, oa + k, none⟩ = some (.int .i64 (xk : Int)) ∧ w'.cell? ⟨b, o + k, none⟩ = some (.int .i64 ok) ∧ BoxS W.heap.size fW fH fD K1 n q1 K2 n2 q2 w') (first | exact HKK.out _ BD.out | exact HKK.out _ b8 | go_keep)
                          (first
                            | (go_at_call 21; refine HCN.out.mono ?_; rintro e w8 ⟨rfl, b8⟩))
                        have B8 := Lib.hid b8
                        clear b8 zx zk zo m0 m1 m2 m3 m4
                        obtain ⟨zx, zk, zo, m0, m1, m2, m3, m4⟩ := HKK.out _ B8.out
                        go_wp2_with fail
                        go_roundw
                        case rel => exact ⟨d + 1, l, rfl, by simp, by omega, HL2, B8⟩
                        case measure => simp [intOf]; omega
                  · obtain rfl : d = 6 := by omega
                    have HL2 := Lib.hid HLE.out.row
                    go_wp2_with fail
                    go_roundw
                    case rel => exact ⟨k + 1, l, rfl, by simp, hkl, HL2, HBK⟩
                    case measure => simp [intOf]; omega
              · obtain rfl : k = a.length := by omega
                obtain ⟨hd1, hd2⟩ := HDN.out l HLE.out
                obtain ⟨zx, zo, m0, m1, m2, m3, m4⟩ := HKC.out _ HBK.out
                have HB2 : Hid (Below w4.heap.size w4 w6) := Lib.hid (next_below HB.out HBK.out)
                clear HLE HDN HNX5 HCC5 HKC HBK m0 m1 m2 m3 m4
                by_cases hp : 0 < oi
                · obtain rfl := hd1 hp
                  have hnq : ((oi - 1) != (oi - 1)) = false := by simp
                  have hng : ¬ oi < 0 := by omega
                  clear hd1 hd2
                  go_wp2_with fail
                  go_roundw
                  case rel => exact ⟨i + 1, by simp, hlt, HB2⟩
                  case measure => simp [intOf]; omega
                · by_cases hn : oi < 0
                  · have hl : ¬ 0 ≤ l := by have := hd2 hn; omega
                    clear hd1 hd2
                    go_wp2_with fail
                    go_roundw
                    case rel => exact ⟨i + 1, by simp, hlt, HB2⟩
                    case measure => simp [intOf]; omega
                  · clear hd1 hd2
                    go_wp2_with fail
                    go_roundw
                    case rel => exact ⟨i + 1, by simp, hlt, HB2⟩
                    case measure => simp [intOf]; omega
    · obtain rfl : i = a.length := by omega
      have HE := Lib.hid (HW4.out _ HB.out).2
      clear HNX HHA HKI HF HCC HCA HW4
      go_wp2_with fail
      go_ret
      exact ⟨rfl, HE.out⟩
end Rgn
end Go.Proofs.YtgophgnfiboefaaDoor

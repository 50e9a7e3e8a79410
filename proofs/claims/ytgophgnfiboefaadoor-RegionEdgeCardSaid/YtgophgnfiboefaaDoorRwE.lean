/- RegionEdge. -/
import Derived.Test.YtgophgnfiboefaaDoorRsB
namespace Go.Proofs.YtgophgnfiboefaaDoor
open Go.RowKit Wire
open Txt (Row)
open Go.Proofs.YtgophgnfiboefaaDoor.Own Flo
open Dsk (Only nth)
set_option linter.unusedVariables false
set_option linter.unusedSimpArgs false
namespace Rgn
/-- Does one get out by one of the first directions? -/
def outU (f : Fl) (r : List Nat) (c d : Nat) : Bool := (List.range d).any fun d => match f.next c (d : Nat) with
  | none => false
  | some y => !hasB r y
theorem outU_six (f : Fl) (r : List Nat) (c : Nat) : outU f r c 6 = outB f r c := rfl
theorem outU_succ (f : Fl) (r : List Nat) (c d : Nat) : outU f r c (d + 1) = (outU f r c d || match f.next c (d : Nat) with
  | none => false
  | some y => !hasB r y) := by
  unfold outU
  rw [List.range_succ, List.any_append]
  simp
theorem small_le {n : Nat} (h : n ≤ maxLen) : n ≤ 9223372036854775807 := by unfold maxLen at h; omega
set_option maxRecDepth 100000 in
set_option maxHeartbeats 16000000 in
theorem edge_law (f : Fl) (p : Pl) (A1 : Option Addr) (c1 : Nat) (l1 : List Int) (A2 : Option Addr) (c2 : Nat) (l2 : List Int) (W : World) (hv : VS W ∧ VO W) (hin : FlIn W f p) (hlk : f.Kind.length ≤ maxLen) (hlo : f.Out.length ≤ maxLen) (hr1 : Row W W.heap.size A1 (ivs l1)) (hm1 : l1.length ≤ maxLen) (hr2 : Row W W.heap.size A2 (ivs l2)) (hm2 : l2.length ≤ maxLen) :
    Calls Tryd.prog 6 #[f.val p, .slice A1 l1.length c1, .slice A2 l2.length c2] W fun e w' => e = .returned (.bool true) ∧ Below W.heap.size W w' := by
  have HSM : Hid (∀ w', Below W.heap.size W w' → Calls Tryd.prog 7 #[] w' fun e w2 => e = .returned (.bool true) ∧ Below w'.heap.size w' w2) := Lib.hid fun w' b => regSmall_any w' (hv.1.lift b) (hv.2.lift b)
  have HFI : Hid (∀ w', Below W.heap.size W w' → Calls Tryd.prog 16 #[f.val p, .slice A1 l1.length c1, .int .i64 60] w' fun e w2 => e = .returned (.bool (fitB f 60 l1)) ∧ Below w'.heap.size w' w2) := Lib.hid fun w' b => regFits_any f p 60 A1 c1 l1 w' (hin.lift b) (small_le hlk) (small_le hlo) (small_le hm1) (hr1.lift b)
  have HRG : Hid (∀ w', Below W.heap.size W w' → Calls Tryd.prog 13 #[.slice A2 l2.length c2] w' fun e w2 => e = .returned (.bool (isReg l2)) ∧ w' = w2) := Lib.hid fun w' b => right_reg w' A2 c2 l2 (small_le hm2) (hr2.lift b)
  have HBo : Hid (∀ o, Below W.heap.size W (W.alloc o)) := Lib.hid fun o => (Below.refl _ W).alloc (Nat.le_refl _) o
  obtain ⟨K1, q1, K2, q2⟩ := p
  have HB0 : Hid (∀ w', Below (W.alloc (.cells (boxV f.W f.H f.D K1 f.Kind.length q1 K2 f.Out.length q2) 31)).heap.size (W.alloc (.cells (boxV f.W f.H f.D K1 f.Kind.length q1 K2 f.Out.length q2) 31)) w' → BoxS W.heap.size f.W f.H f.D K1 f.Kind.length q1 K2 f.Out.length q2 w' ∧ Below W.heap.size W w' ∧ Sp W w' [BlkT W.heap.size 31 (boxV f.W f.H f.D K1 f.Kind.length q1 K2 f.Out.length q2)]) := Lib.hid fun w' b => ⟨boxS ((Blk.fresh W _ _).under b (by simp)), next_below ((Below.refl _ W).alloc (Nat.le_refl _) _) b, ((Sp.nil (Below.refl W.heap.size W)).local 31 (boxV f.W f.H f.D K1 f.Kind.length q1 K2 f.Out.length q2)).keep b⟩
  have hm2' : (l2.length : Int) ≤ 9223372036854775807 := by have := small_le hm2; omega
  cases hfb : fitB f 60 l1
  · rw [hfb] at HFI
    clear hv hin hfb hlk hlo hr1 hr2 hm1 hm2
    generalize hn : f.Kind.length = n at *
    generalize hn2 : f.Out.length = n2 at *
    have HVAL : Hid (f.val ⟨K1, q1, K2, q2⟩ = .agg #[.int .i64 f.W, .int .i64 f.H, .int .i64 f.D, .slice K1 n q1, .slice K2 n2 q2]) := Lib.hid (by rw [← hn, ← hn2])
    rw [HVAL.out] at HFI ⊢
    clear hn hn2 HVAL
    generalize f.W = fW at *
    generalize f.H = fH at *
    generalize f.D = fD at *
    generalize l1.length = len1 at *
    generalize l2.length = len2 at *
    go_enter Tryd.func6, Tryd.ntmps6
    go_wp2_with (first
      | (go_at_call 7; refine (HSM.out _ (HBo.out _)).mono ?_; rintro e w1 ⟨rfl, b1⟩; obtain ⟨⟨m0, m1, m2, m3, m4⟩, hbw, _⟩ := HB0.out _ b1; have H1 := Lib.hid hbw; clear b1 hbw)
      | (go_at_call 16; refine (HFI.out _ H1.out).mono ?_; rintro e w2 ⟨rfl, b2⟩; have H2 := Lib.hid (next_below H1.out b2); clear b2))
    go_ret
    exact ⟨rfl, H2.out⟩
  obtain ⟨ho, hk60, hl200, hra⟩ := fitB_iff.1 hfb
  rw [hfb] at HFI
  by_cases h200 : l2.length ≤ 200
  · cases hrb : isReg l2
    · rw [hrb] at HRG
      have h200' : (l2.length : Int) ≤ 200 := by omega
      clear hv hin hfb hlk hlo hr1 hr2 hm1 hm2 hra hrb ho h200
      generalize hn : f.Kind.length = n at *
      generalize hn2 : f.Out.length = n2 at *
      have HVAL : Hid (f.val ⟨K1, q1, K2, q2⟩ = .agg #[.int .i64 f.W, .int .i64 f.H, .int .i64 f.D, .slice K1 n q1, .slice K2 n2 q2]) := Lib.hid (by rw [← hn, ← hn2])
      rw [HVAL.out] at HFI ⊢
      clear hn hn2 HVAL
      generalize f.W = fW at *
      generalize f.H = fH at *
      generalize f.D = fD at *
      generalize l1.length = len1 at *
      generalize l2.length = len2 at *
      go_enter Tryd.func6, Tryd.ntmps6
      go_wp2_with (first
        | (go_at_call 7; refine (HSM.out _ (HBo.out _)).mono ?_; rintro e w1 ⟨rfl, b1⟩; obtain ⟨⟨m0, m1, m2, m3, m4⟩, hbw, _⟩ := HB0.out _ b1; have H1 := Lib.hid hbw; clear b1 hbw)
        | (go_at_call 16; refine (HFI.out _ H1.out).mono ?_; rintro e w2 ⟨rfl, b2⟩; have H2 := Lib.hid (next_below H1.out b2); clear b2)
        | (go_at_call 13; refine (HRG.out _ H2.out).mono ?_; rintro e w3 ⟨rfl, rfl⟩))
      go_ret
      exact ⟨rfl, H2.out⟩
    · rw [hrb] at HRG
      obtain ⟨a, rfl, ha⟩ := reg_of hra
      obtain ⟨b, rfl, hb⟩ := reg_of hrb
      rw [ivs_ivn] at hr1 hr2
      have la : (ivn a).length = a.length := List.length_map ..
      have lb : (ivn b).length = b.length := List.length_map ..
      rw [la] at HFI hl200 ⊢
      rw [lb] at HRG h200 hm2' ⊢
      have HEDa : Hid (∀ w', Below W.heap.size W w' → Calls Tryd.prog 22 #[f.val ⟨K1, q1, K2, q2⟩, .slice A1 a.length c1] w' (NewL w' (edgeOf f a))) := Lib.hid fun w' bw => edge_any ho ⟨K1, q1, K2, q2⟩ A1 c1 a w' (hv.1.lift bw) (hin.lift bw) ha (hr1.lift bw)
      have HEDb : Hid (∀ w', Below W.heap.size W w' → Calls Tryd.prog 22 #[f.val ⟨K1, q1, K2, q2⟩, .slice A2 b.length c2] w' (GotL w' (edgeOf f b))) := Lib.hid fun w' bw => got_of (edge_any ho ⟨K1, q1, K2, q2⟩ A2 c2 b w' (hv.1.lift bw) (hin.lift bw) hb (hr2.lift bw))
      have HEDu : Hid (∀ w' A c, Below W.heap.size W w' → Row w' w'.heap.size A (qvs (uniR a b)) → Calls Tryd.prog 22 #[f.val ⟨K1, q1, K2, q2⟩, .slice A (uniR a b).length c] w' (GotL w' (edgeOf f (uniR a b)))) := Lib.hid fun w' A c bw hrow => got_of (edge_any ho ⟨K1, q1, K2, q2⟩ A c (uniR a b) w' (hv.1.lift bw) (hin.lift bw) (Reg.of _) hrow)
      have hn4 : f.Kind.length ≤ 4096 := by omega
      have HEDn : Hid (∀ w' A c, Below W.heap.size W w' → Row w' w'.heap.size A (qvs (List.range f.Kind.length)) → Calls Tryd.prog 22 #[f.val ⟨K1, q1, K2, q2⟩, .slice A f.Kind.length c] w' (GotL w' [])) := Lib.hid fun w' A c bw hrow => by
        have := got_of (edge_any ho ⟨K1, q1, K2, q2⟩ A c (List.range f.Kind.length) w' (hv.1.lift bw) (hin.lift bw) ⟨List.pairwise_lt_range, fun x hx => by have := List.mem_range.1 hx; omega⟩ hrow)
        rw [List.length_range, show (List.range f.Kind.length).filter (outB f (List.range f.Kind.length)) = [] from edge_all ho] at this
        exact this
      have HNX : Hid (∀ w' (c d : Int), Below W.heap.size W w' → Calls Tryd.prog 21 #[f.val ⟨K1, q1, K2, q2⟩, .int .i64 c, .int .i64 d] w' fun e w2 => e = .returned (resN (f.next c d)) ∧ Below w'.heap.size w' w2) := Lib.hid fun w' c d bw => next_any ho ⟨K1, q1, K2, q2⟩ c d w' (hv.1.lift bw) (hin.lift bw)
      have HHA : Hid (∀ w' x, Below W.heap.size W w' → Calls Tryd.prog 12 #[.slice A1 a.length c1, .int .i64 x] w' fun e w2 => e = .returned (.bool (hasB a x)) ∧ Below w'.heap.size w' w2) := Lib.hid fun w' x bw => regHas_any w' A1 c1 a x ha.asc (by have := ha.len; omega) (hr1.lift bw)
      have HHE : Hid (∀ w' A c x, Row w' w'.heap.size A (qvs (edgeOf f a)) → Calls Tryd.prog 12 #[.slice A (edgeOf f a).length c, .int .i64 x] w' fun e w2 => e = .returned (.bool (hasB (edgeOf f a) x)) ∧ Below w'.heap.size w' w2) := Lib.hid fun w' A c x hrow => regHas_any w' A c (edgeOf f a) x (edge_reg ha).asc (by have := (edge_reg (f := f) ha).len; omega) hrow
      have HRE : Hid (∀ w' A c, Row w' w'.heap.size A (qvs (edgeOf f a)) → Calls Tryd.prog 13 #[.slice A (edgeOf f a).length c] w' fun e w2 => e = .returned (.bool true) ∧ w' = w2) := Lib.hid fun w' A c hrow => by
        have := right_reg w' A c (ivn (edgeOf f a)) (by rw [List.length_map]; have := (edge_reg (f := f) ha).len; omega) (by rw [ivs_ivn]; exact hrow)
        rw [List.length_map, isReg_reg (edge_reg ha)] at this
        exact this
      have HW1 : Hid (∀ w' A c, Below W.heap.size W w' → Row w' w'.heap.size A (qvs (edgeOf f a)) → Calls Tryd.prog 15 #[.slice A (edgeOf f a).length c, .slice A1 a.length c1] w' fun e w2 => e = .returned (.bool true) ∧ Below w'.heap.size w' w2) := Lib.hid fun w' A c bw hrow => by
        have := within_any w' A A1 c c1 (edgeOf f a) a (edge_reg ha).asc ha.asc (by have := (edge_reg (f := f) ha).len; omega) (by have := ha.len; omega) hrow (hr1.lift bw)
        rw [edge_sub] at this
        exact this
      have HUN : Hid (∀ w', Below W.heap.size W w' → Calls Tryd.prog 9 #[.slice A1 a.length c1, .slice A2 b.length c2] w' (GotL w' (uniR a b))) := Lib.hid fun w' bw => got_of (uni_any w' A1 A2 c1 c2 a b ha hb (hr1.lift bw) (hr2.lift bw))
      have HUE : Hid (∀ w' A c B d, Row w' w'.heap.size A (qvs (edgeOf f a)) → Row w' w'.heap.size B (qvs (edgeOf f b)) → Calls Tryd.prog 9 #[.slice A (edgeOf f a).length c, .slice B (edgeOf f b).length d] w' (GotL w' (uniR (edgeOf f a) (edgeOf f b)))) := Lib.hid fun w' A c B d h1 h2 => got_of (uni_any w' A B c d _ _ (edge_reg ha) (edge_reg hb) h1 h2)
      have HW2 : Hid (∀ w' A c B d, Row w' w'.heap.size A (qvs (edgeOf f (uniR a b))) → Row w' w'.heap.size B (qvs (uniR (edgeOf f a) (edgeOf f b))) → Calls Tryd.prog 15 #[.slice A (edgeOf f (uniR a b)).length c, .slice B (uniR (edgeOf f a) (edgeOf f b)).length d] w' fun e w2 => e = .returned (.bool true) ∧ Below w'.heap.size w' w2) := Lib.hid fun w' A c B d h1 h2 => by
        have hu : Reg (edgeOf f (uniR a b)) := edge_reg (Reg.of _)
        have hv : Reg (uniR (edgeOf f a) (edgeOf f b)) := Reg.of _
        have := within_any w' A B c d _ _ hu.asc hv.asc (by have := hu.len; omega) (by have := hv.len; omega) h1 h2
        rw [edge_uni ha hb] at this
        exact this
      have HAV : Hid (∀ k, k < a.length → ∃ b o, A1 = some ⟨b, o, none⟩ ∧ ∀ w', Below W.heap.size W w' → w'.cell? ⟨b, o + k, none⟩ = some (.int .i64 (a.getD k 0 : Nat))) := Lib.hid fun k hk => row_valN hr1 hk
      have HEH : Hid (∀ k, k < a.length → hasB (edgeOf f a) ((a.getD k 0 : Nat) : Int) = outU f a (a.getD k 0) 6) := Lib.hid fun k hk => by
        rw [outU_six]
        refine edge_has ?_
        rw [List.getD_eq_getElem?_getD, List.getElem?_eq_getElem hk]
        exact List.getElem_mem _
      have HUS := Lib.hid (outU_succ f a)
      have HU00 : Hid (∀ k, outU f a k 0 = false) := Lib.hid fun k => rfl
      have hel : (edgeOf f a).length ≤ 4096 := (edge_reg ha).len
      have HEL := Lib.hid hel
      have hl200' : (a.length : Int) ≤ 200 := by omega
      have h200' : (b.length : Int) ≤ 200 := by omega
      clear hv hin hfb hlk hlo hr1 hr2 hm1 hm2 hra hrb ho h200 hl200 hm2' la lb ha hb hel
      generalize outU f a = OU at *
      generalize hasB a = HA at *
      generalize hasB (edgeOf f a) = HE at *
      generalize edgeOf f (uniR a b) = EU at *
      generalize uniR (edgeOf f a) (edgeOf f b) = UE at *
      generalize uniR a b = UR at *
      generalize edgeOf f a = EA at *
      generalize edgeOf f b = EB at *
      generalize hNXT : f.next = NXT at *
      clear hNXT
      obtain ⟨n, hn⟩ : ∃ n : Nat, n = f.Kind.length := ⟨_, rfl⟩
      have HVAL : Hid (f.val ⟨K1, q1, K2, q2⟩ = .agg #[.int .i64 f.W, .int .i64 f.H, .int .i64 f.D, .slice K1 n q1, .slice K2 f.Out.length q2]) := Lib.hid (by rw [hn])
      rw [HVAL.out] at HFI HEDa HEDb HEDu HEDn HNX ⊢
      rw [← hn] at hk60 hn4 HB0 HEDn
      clear hn HVAL
      generalize f.Out.length = n2 at *
      generalize f.W = fW at *
      generalize f.H = fH at *
      generalize f.D = fD at *
      have hn60 : (n : Int) ≤ 60 := by omega
      go_enter Tryd.func6, Tryd.ntmps6
      go_upto_region 6 with (first
        | (go_at_call 7; refine (HSM.out _ (HBo.out _)).mono ?_; rintro e w1 ⟨rfl, b1⟩; have BB1 := Lib.hid b1; obtain ⟨⟨m0, m1, m2, m3, m4⟩, hbw, _⟩ := HB0.out _ b1; have H1 := Lib.hid hbw; clear b1 hbw)
        | (go_at_call 16; refine (HFI.out _ H1.out).mono ?_; rintro e w2 ⟨rfl, b2⟩; have BB2 := Lib.hid (next_below BB1.out b2); clear b2 m0 m1 m2 m3 m4; obtain ⟨⟨m0, m1, m2, m3, m4⟩, hbw, hsp⟩ := HB0.out _ BB2.out; have H2 := Lib.hid hbw; have HS2 := Lib.hid hsp; clear hbw hsp)
        | (go_at_call 13; refine (HRG.out _ H2.out).mono ?_; rintro e w3 ⟨rfl, rfl⟩)
        | (go_at_call 22; refine (HEDa.out _ H2.out).mono ?_; rintro e w4 ⟨v4, rfl, h4⟩; obtain ⟨Ae, ce, rfl⟩ := (h4.grow 0 rfl).slice; have H4 := Lib.hid h4; clear h4))
      have hsp3 : Sp W w4 [BlkT W.heap.size 31 (boxV fW fH fD K1 n q1 K2 n2 q2), RowV Ae (qvs EA), RowT 1 (.slice none 0 0) (List.range 0).length (qvs (List.range 0))] := (Sp.rowV (join HS2.out H4.out) 1 rfl).nil_row 1
      have H5 := Lib.hid hsp3
      clear hsp3 HS2 H4 HB0 H2 HFI HSM HRG HEDa BB1 BB2 H1 m0 m1 m2 m3 m4
      generalize hgf : W.heap.size = gf at H5 ⊢
      have m3 := (boxS (H5.out.blk 0 rfl)).2.2.2.1
      go_wp2_with fail
      clear m3
      go_loopw [9, 10] (fun rv iv wr => ∃ i, iv = .int .i64 ((i : Nat) : Int) ∧ i ≤ n ∧ Hid (Sp W wr [BlkT gf 31 (boxV fW fH fD K1 n q1 K2 n2 q2), RowV Ae (qvs EA), RowT 1 rv (List.range i).length (qvs (List.range i))])) (fun _ iv _ => n - (intOf iv).toNat)
      case atStart => exact ⟨0, rfl, Nat.zero_le _, H5⟩
      case round =>
        clear H5
        obtain ⟨i, rfl, hi, HSP⟩ := hrel
        have hrl : (List.range i).length ≤ 100000 := by rw [List.length_range]; omega
        obtain ⟨L, hL⟩ : ∃ L, L = List.range i := ⟨_, rfl⟩
        rw [← hL] at HSP hrl
        obtain ⟨Aq, cq, rfl⟩ := (HSP.out.grow 2 rfl).slice
        have m3 := (boxS (HSP.out.blk 0 rfl)).2.2.2.1
        by_cases hlt : i < n
        · have HPU := Lib.hid (push_int (q := L) HSP.out 2 rfl i hrl 3)
          have HL2 : Hid (L ++ [i] = List.range (i + 1)) := Lib.hid (by rw [hL, List.range_succ])
          have hi9 : (i : Int) < 60 := by omega
          clear hL hrl
          go_wp2_with (at_builtin; obtain ⟨v7, w7, r7, h7⟩ := HPU.out; have H7 : Hid (Sp W w7 [BlkT gf 31 (boxV fW fH fD K1 n q1 K2 n2 q2), RowV Ae (qvs EA), RowT 1 v7 (L ++ [i]).length (qvs (L ++ [i]))]) := Lib.hid h7; refine wpList_append_run rfl _ _ _ _ rfl (by simp [go_sem]) (by simp [go_sem]) r7 ?_; clear r7 h7)
          go_roundw
          case rel => exact ⟨i + 1, by simp, hlt, by rw [← HL2.out]; exact H7⟩
          case measure => simp [intOf]; omega
        · obtain rfl : i = n := by omega
          have hLn : L.length = i := by rw [hL, List.length_range]
          have HRO := Lib.hid (row_of_any (HSP.out.grow 2 rfl))
          have HRE0 := Lib.hid (Sp.rowOf HSP.out 1 rfl)
          have HWW : Hid (∀ w', Below wr.heap.size wr w' → BoxS gf fW fH fD K1 i q1 K2 n2 q2 w' ∧ Row w' w'.heap.size Ae (qvs EA) ∧ Row w' w'.heap.size Aq (qvs (List.range i)) ∧ Below W.heap.size W w') := Lib.hid fun w' bw => ⟨boxS ((HSP.out.keep bw).blk 0 rfl), HRE0.out.lift bw, hL ▸ HRO.out.lift bw, next_below HSP.out.below bw⟩
          rw [hLn]
          clear hL hLn hrl HSP HRO HRE0
          go_wp2_with fail
          clear m3
          generalize wr = w5 at *
          go_loopw [11, 12, 13, 14, 15] (fun iv _ _ _ _ wx => ∃ j, iv = .int .i64 ((j : Nat) : Int) ∧ j ≤ a.length ∧ Hid (Below w5.heap.size w5 wx)) (fun iv _ _ _ _ _ => a.length - (intOf iv).toNat)
          case atStart => exact ⟨0, rfl, Nat.zero_le _, Lib.hid (Below.refl _ _)⟩
          case round =>
            obtain ⟨j, rfl, hj, HBX⟩ := hrel
            generalize wr = w6 at *
            by_cases hlt2 : j < a.length
            · obtain ⟨b', o', rfl, hc⟩ := HAV.out j hlt2
              have HKC : Hid (∀ w', Below w5.heap.size w5 w' → w'.cell? ⟨b', o' + j, none⟩ = some (.int .i64 (a.getD j 0 : Nat)) ∧ BoxS gf fW fH fD K1 i q1 K2 n2 q2 w') := Lib.hid fun w' bw => ⟨hc w' (HWW.out w' bw).2.2.2, (HWW.out w' bw).1⟩
              have HEHj := Lib.hid (HEH.out j hlt2)
              have hj9 : (j : Int) < 200 := by omega
              clear hc
              generalize a.getD j 0 = k at *
              have HUSk := Lib.hid (HUS.out k)
              have HU0 := Lib.hid (HU00.out k)
              generalize OU k = OUk at *
              go_wp2_with fail
              go_loopw [12, 13, 14, 15] (fun lv dv _ _ wx => ∃ (d : Nat) (lb : Bool), lv = .bool lb ∧ Hid (lb = OUk d) ∧ dv = .int .i64 ((d : Nat) : Int) ∧ d ≤ 6 ∧ Hid (Below w5.heap.size w5 wx)) (fun _ dv _ _ _ => 6 - (intOf dv).toNat)
              case atStart => exact ⟨0, false, rfl, Lib.hid HU0.out.symm, rfl, by omega, HBX⟩
              case round =>
                clear HBX
                obtain ⟨d, lb, rfl, HLB, rfl, hd, HBX⟩ := hrel
                generalize wr = w7 at *
                obtain ⟨z, m0, m1, m2, m3, m4⟩ := HKC.out _ HBX.out
                by_cases hlt3 : d < 6
                · have hd9 : (d : Int) < 6 := by omega
                  have BD : Hid (Below w5.heap.size w5 w7.drew) := Lib.hid (next_below HBX.out (Below.refl _ _).drew)
                  have HCN := Lib.hid (HNX.out w7.drew k d (HWW.out _ BD.out).2.2.2)
                  have HUd := Lib.hid (HUSk.out d)
                  cases hnx : NXT k d with
                  | none =>
                    rw [hnx] at HCN HUd
                    have HL2 : Hid (lb = OUk (d + 1)) := Lib.hid (by rw [HUd.out, ← HLB.out, Bool.or_false])
                    clear hnx HUd HUSk HUS HEHj HEH
                    go_upto_region 17 with (fail)
                    go_region_held3 (fun w' => w'.cell? ⟨b', o' + j, none⟩ = some (.int .i64 (k : Nat)) ∧ BoxS gf fW fH fD K1 i q1 K2 n2 q2 w') (first | exact HKC.out _ BD.out | exact HKC.out _ b8 | go_keep)
                      (first
                        | (go_at_call 21; refine HCN.out.mono ?_; rintro e w8 ⟨rfl, b8'⟩; have b8 := next_below BD.out b8'))
                    have B8 := Lib.hid b8
                    clear b8 b8' z m0 m1 m2 m3 m4
                    cases lb
                    · go_wp2_with fail
                      go_roundw
                      case rel => exact ⟨d + 1, false, rfl, HL2, by simp, by omega, B8⟩
                      case measure => simp [intOf]; omega
                    · go_wp2_with fail
                      go_roundw
                      case rel => exact ⟨d + 1, true, rfl, HL2, by simp, by omega, B8⟩
                      case measure => simp [intOf]; omega
                  | some y =>
                    rw [hnx] at HCN HUd
                    have HCH := Lib.hid (fun w' bw => HHA.out w' y bw)
                    cases lb
                    · have HL2 : Hid ((!HA y) = OUk (d + 1)) := Lib.hid (by rw [HUd.out, ← HLB.out, Bool.false_or])
                      generalize HA y = hy at *
                      clear hnx HUd HUSk HUS HEHj HEH
                      go_upto_region 17 with (fail)
                      go_region_held3 (fun w' => w'.cell? ⟨b', o' + j, none⟩ = some (.int .i64 (k : Nat)) ∧ BoxS gf fW fH fD K1 i q1 K2 n2 q2 w') (first | exact HKC.out _ BD.out | exact HKC.out _ b8 | go_keep)
                        (first
                          | (go_at_call 21; refine HCN.out.mono ?_; rintro e w8 ⟨rfl, b8'⟩; have b8 := next_below BD.out b8'))
                      have B8 := Lib.hid b8
                      clear b8 b8' z m0 m1 m2 m3 m4
                      cases hy
                      · go_wp2_with (go_at_call 12; refine (HCH.out _ (HWW.out _ B8.out).2.2.2).mono ?_; rintro e w9 ⟨rfl, b9⟩; have B9 := Lib.hid (next_below B8.out b9); clear b9)
                        go_roundw
                        case rel => exact ⟨d + 1, true, rfl, HL2, by simp, by omega, B9⟩
                        case measure => simp [intOf]; omega
                      · go_wp2_with (go_at_call 12; refine (HCH.out _ (HWW.out _ B8.out).2.2.2).mono ?_; rintro e w9 ⟨rfl, b9⟩; have B9 := Lib.hid (next_below B8.out b9); clear b9)
                        go_roundw
                        case rel => exact ⟨d + 1, false, rfl, HL2, by simp, by omega, B9⟩
                        case measure => simp [intOf]; omega
                    · have HL2 : Hid (true = OUk (d + 1)) := Lib.hid (by rw [HUd.out, ← HLB.out, Bool.true_or])
                      clear hnx HUd HUSk HUS HEHj HEH HCH
                      go_upto_region 17 with (fail)
                      go_region_held3 (fun w' => w'.cell? ⟨b', o' + j, none⟩ = some (.int .i64 (k : Nat)) ∧ BoxS gf fW fH fD K1 i q1 K2 n2 q2 w') (first | exact HKC.out _ BD.out | exact HKC.out _ b8 | go_keep)
                        (first
                          | (go_at_call 21; refine HCN.out.mono ?_; rintro e w8 ⟨rfl, b8'⟩; have b8 := next_below BD.out b8'))
                      have B8 := Lib.hid b8
                      clear b8 b8' z m0 m1 m2 m3 m4
                      go_wp2_with fail
                      go_roundw
                      case rel => exact ⟨d + 1, true, rfl, HL2, by simp, by omega, B8⟩
                      case measure => simp [intOf]; omega
                · obtain rfl : d = 6 := by omega
                  have HCE := Lib.hid (HHE.out w7 Ae ce k (HWW.out _ HBX.out).2.1)
                  rw [HEHj.out, ← HLB.out] at HCE
                  clear HEHj HEH HUSk HUS
                  cases lb
                  · go_wp2_with (go_at_call 12; refine HCE.out.mono ?_; rintro e w9 ⟨rfl, b9⟩; have B9 := Lib.hid (next_below HBX.out b9); clear b9)
                    go_roundw
                    case rel => exact ⟨j + 1, by simp, hlt2, B9⟩
                    case measure => simp [intOf]; omega
                  · go_wp2_with (go_at_call 12; refine HCE.out.mono ?_; rintro e w9 ⟨rfl, b9⟩; have B9 := Lib.hid (next_below HBX.out b9); clear b9)
                    go_roundw
                    case rel => exact ⟨j + 1, by simp, hlt2, B9⟩
                    case measure => simp [intOf]; omega
            · obtain rfl : j = a.length := by omega
              have BD : Hid (Below w5.heap.size w5 w6.drew) := Lib.hid (next_below HBX.out (Below.refl _ _).drew)
              obtain ⟨m0, m1, m2, m3, m4⟩ := (HWW.out _ HBX.out).1
              clear HEH HUS HAV HNX HHA HHE
              go_upto_region 21 with (fail)
              go_region_held3 (fun w' => BoxS gf fW fH fD K1 i q1 K2 n2 q2 w') (first | exact (HWW.out _ BD.out).1 | exact (HWW.out _ b9).1 | exact (HWW.out _ b10).1 | exact (HWW.out _ b11).1 | exact (HWW.out _ b12).1 | exact (HWW.out _ b13).1 | exact (HWW.out _ b14).1 | exact (HWW.out _ b15).1 | go_keep)
                (first
                  | (go_at_call 13; refine (HRE.out _ Ae ce (HWW.out _ BD.out).2.1).mono ?_; rintro e w8 ⟨rfl, rfl⟩)
                  | (go_at_call 15; (with_reducible refine (HW1.out _ Ae ce (HWW.out _ BD.out).2.2.2 (HWW.out _ BD.out).2.1).mono ?_); rintro e w9 ⟨rfl, b9'⟩; have b9 := next_below BD.out b9')
                  | (go_at_call 22; (with_reducible refine (HEDn.out _ Aq cq (HWW.out _ b9).2.2.2 (HWW.out _ b9).2.2.1).mono ?_); rintro e w10 ⟨An, cn, rfl, _, b10'⟩; have b10 := next_below b9 b10')
                  | (go_at_call 9; (with_reducible refine (HUN.out _ (HWW.out _ b10).2.2.2).mono ?_); rintro e w11 ⟨Au, cu, rfl, hu, b11'⟩; have b11 := next_below b10 b11')
                  | (go_at_call 22; (with_reducible refine (HEDu.out _ Au cu (HWW.out _ b11).2.2.2 hu).mono ?_); rintro e w12 ⟨Av, cv, rfl, hv', b12'⟩; have b12 := next_below b11 b12')
                  | (go_at_call 22; (with_reducible refine (HEDb.out _ (HWW.out _ b12).2.2.2).mono ?_); rintro e w13 ⟨Ab, cb, rfl, hbb, b13'⟩; have b13 := next_below b12 b13')
                  | (go_at_call 9; (with_reducible refine (HUE.out _ Ae ce Ab cb (HWW.out _ b13).2.1 hbb).mono ?_); rintro e w14 ⟨Aw, cw, rfl, hw', b14'⟩; have b14 := next_below b13 b14')
                  | (go_at_call 15; (with_reducible refine (HW2.out _ Av cv Aw cw ((hv'.lift b13').lift b14') hw').mono ?_); rintro e w15 ⟨rfl, b15'⟩; have b15 := next_below b14 b15'))
              have B15 := Lib.hid (HWW.out _ b15).2.2.2
              go_wp2_with fail
              go_ret
              exact ⟨rfl, B15.out⟩
  · have h200' : ¬ (l2.length : Int) ≤ 200 := by omega
    clear hv hin hfb hlk hlo hr1 hr2 hm1 hm2 hra ho h200
    generalize hn : f.Kind.length = n at *
    generalize hn2 : f.Out.length = n2 at *
    have HVAL : Hid (f.val ⟨K1, q1, K2, q2⟩ = .agg #[.int .i64 f.W, .int .i64 f.H, .int .i64 f.D, .slice K1 n q1, .slice K2 n2 q2]) := Lib.hid (by rw [← hn, ← hn2])
    rw [HVAL.out] at HFI ⊢
    clear hn hn2 HVAL
    generalize f.W = fW at *
    generalize f.H = fH at *
    generalize f.D = fD at *
    generalize l1.length = len1 at *
    generalize l2.length = len2 at *
    go_enter Tryd.func6, Tryd.ntmps6
    go_wp2_with (first
      | (go_at_call 7; refine (HSM.out _ (HBo.out _)).mono ?_; rintro e w1 ⟨rfl, b1⟩; obtain ⟨⟨m0, m1, m2, m3, m4⟩, hbw, _⟩ := HB0.out _ b1; have H1 := Lib.hid hbw; clear b1 hbw)
      | (go_at_call 16; refine (HFI.out _ H1.out).mono ?_; rintro e w2 ⟨rfl, b2⟩; have H2 := Lib.hid (next_below H1.out b2); clear b2))
    go_ret
    exact ⟨rfl, H2.out⟩
end Rgn
end Go.Proofs.YtgophgnfiboefaaDoor

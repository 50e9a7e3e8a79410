/- DraftJoins: the walk. -/
import Derived.Test.YtibeangcjfjeiaaDoorMhE
import Derived.Test.YtibeangcjfjeiaaDoorDpX
namespace Go.Proofs.YtibeangcjfjeiaaDoor
open Go.RowKit Txt Wire Lx
set_option linter.unusedVariables false
set_option maxRecDepth 100000
set_option linter.unusedSimpArgs false
namespace Drf

theorem dpost_some {w w' : World} {R : Pr} {e : Ending} (h : DPost w R e w') : Below w.heap.size w w' ∧ ∃ A n c B m c' er L, e = .returned (.tuple #[.agg #[.slice A n c, .slice B m c'], .int .i64 er, .int .i64 L]) := by
  cases R with
  | bad er L =>
    obtain ⟨b, rfl⟩ := h
    exact ⟨b, none, 0, 0, none, 0, 0, er, L, rfl⟩
  | ok d =>
    obtain ⟨b, A, c, B, c', rfl, _⟩ := dr_form h
    exact ⟨b, A, _, c, B, _, c', 0, 0, rfl⟩
theorem join_src {s t : ByteArray} {x y : Df} (hx : parseP (bl s) = .ok x) (hy : parseP (bl t) = .ok y) (hyd : y.decks = []) (ls : s.size ≤ 2500) (lt : t.size ≤ 2500) :
    ∃ init L, lexAll (bl s) = .ok (init ++ [fin L]) ∧ parseP (bl (s ++ ⟨#[10]⟩ ++ t)) = .ok ⟨x.decks, x.items ++ y.items.map (upI L)⟩ ∧ (s ++ ⟨#[10]⟩ ++ t).size ≤ 1000000 ∧ L ≤ 5000 ∧ init.length ≤ 5000 := by
  obtain ⟨init, L, h1, h2⟩ := parse_join hx hy hyd (by rw [bl_len]; exact ls) (by rw [bl_len]; exact lt)
  have e : bl (s ++ ⟨#[10]⟩ ++ t) = bl s ++ 10 :: bl t := by
    rw [bl_cat, bl_cat, show bl (⟨#[10]⟩ : ByteArray) = [10] from rfl]
    simp
  have hl : lexP (bl s) 1 = .ok (init ++ [fin L]) := by
    unfold lexAll at h1
    rw [if_neg (by rw [bl_len]; omega)] at h1
    exact h1
  have h3 := lex_count _ _ _ hl
  have h4 := ((wr_fine hl) (fin L) (by simp)).2.1
  rw [bl_len] at h3 h4
  simp only [List.length_append, List.length_cons, List.length_nil] at h3
  have h4' : L ≤ 1 + s.size := h4
  refine ⟨init, L, h1, by rw [e]; exact h2, ?_, by omega, by omega⟩
  rw [← bl_len, e]
  simp only [List.length_append, List.length_cons, bl_len]
  omega
set_option maxRecDepth 8000 in
set_option maxHeartbeats 8000000 in
theorem joins_law (s t : ByteArray) (W : World) (hv : VD W) (hf : VF W) :
    Calls Tryd.prog 5 #[.string s, .string t] W fun e w' => e = .returned (.bool true) ∧ Below W.heap.size W w' := by
  have HS := Lib.hid (small_any W hv hf)
  by_cases hs : s.size ≤ 2500
  case neg =>
    have g1 : (2500 : Int) < (s.size : Int) := by omega
    go_enter Tryd.func5, Tryd.ntmps5
    go_wp2_with (go_at_call 7; go_must (refine HS.out.mono ?_; rintro e w0 ⟨rfl, b0⟩; have B0 := Lib.hid b0; clear b0))
    go_ret
    exact ⟨rfl, B0.out⟩
  have g0 : ¬ (2500 : Int) < (s.size : Int) := by omega
  by_cases ht : t.size ≤ 2500
  case neg =>
    have g1 : (2500 : Int) < (t.size : Int) := by omega
    go_enter Tryd.func5, Tryd.ntmps5
    go_wp2_with (go_at_call 7; go_must (refine HS.out.mono ?_; rintro e w0 ⟨rfl, b0⟩; have B0 := Lib.hid b0; clear b0))
    go_ret
    exact ⟨rfl, B0.out⟩
  have g1 : ¬ (2500 : Int) < (t.size : Int) := by omega
  have HP : Hid (∀ w2 x, x.size ≤ 1000000 → Below W.heap.size W w2 → Calls Tryd.prog 9 #[.string x] w2 (DPost w2 (parseP (bl x)))) := Lib.hid fun w2 x hx b => parse_any (bl x) w2 (by rw [bl_len]; exact hx) (hv.lift b) (hf.lift b)
  have HPS : Hid (∀ w2, Below W.heap.size W w2 → Calls Tryd.prog 9 #[.string s] w2 (DPost w2 (parseP (bl s)))) := Lib.hid fun w2 b => HP.out w2 s (by omega) b
  have HPT : Hid (∀ w2, Below W.heap.size W w2 → Calls Tryd.prog 9 #[.string t] w2 (DPost w2 (parseP (bl t)))) := Lib.hid fun w2 b => HP.out w2 t (by omega) b
  clear hv hf
  cases hx : parseP (bl s) with
  | bad er k =>
    have hne : (((er : Nat) : Int) != 0) = true := by
      have := parse_no0 hx
      simp
      omega
    rw [hx] at HPS
    clear hx
    go_enter Tryd.func5, Tryd.ntmps5
    go_wp2_with (first
      | (go_at_call 7; go_must (refine HS.out.mono ?_; rintro e w0 ⟨rfl, b0⟩; have B0 := Lib.hid b0; clear b0))
      | (go_at_call 9; have bp := B1.out; go_must (
         refine (HPT.out _ (bp.alloc bp.size _)).mono ?_; intro e w2 h2; obtain ⟨b2, A, n, c, B, m, c', er2, L2, rfl⟩ := dpost_some h2
         have B2 := Lib.hid (below_on (bp.alloc bp.size _) b2); clear b2 h2 bp))
      | (go_at_call 9; go_must (
         refine (HPS.out _ B0.out).mono ?_; rintro e w1 ⟨b1, rfl⟩
         have B1 := Lib.hid (below_on B0.out b1); clear b1)))
    go_ret
    exact ⟨rfl, B2.out.alloc B2.out.size _⟩
  | ok x =>
    rw [hx] at HPS
    cases hy : parseP (bl t) with
    | bad er k =>
      have hne : (((er : Nat) : Int) != 0) = true := by
        have := parse_no0 hy
        simp
        omega
      rw [hy] at HPT
      clear hx hy
      go_enter Tryd.func5, Tryd.ntmps5
      go_wp2_with (first
        | (go_at_call 7; go_must (refine HS.out.mono ?_; rintro e w0 ⟨rfl, b0⟩; have B0 := Lib.hid b0; clear b0))
        | (go_at_call 9; have bp := B1.out; go_must (
           refine (HPT.out _ (bp.alloc bp.size _)).mono ?_; rintro e w2 ⟨b2, rfl⟩
           have B2 := Lib.hid (below_on (bp.alloc bp.size _) b2); clear b2 bp))
        | (go_at_call 9; go_must (
           refine (HPS.out _ B0.out).mono ?_; intro e w1 h1; obtain ⟨b1, A1, c1, A2, c2, rfl, d1, -⟩ := dr_form h1
           have B1 := Lib.hid (below_on B0.out b1); clear b1 d1 h1)))
      go_ret
      exact ⟨rfl, B2.out.alloc B2.out.size _⟩
    | ok y =>
      rw [hy] at HPT
      by_cases hyd : y.decks = []
      rotate_left
      · have hpos : (0 : Int) < y.decks.length := by
          have := List.length_pos_iff.2 hyd
          omega
        clear hx hy
        go_enter Tryd.func5, Tryd.ntmps5
        go_wp2_with (first
          | (go_at_call 7; go_must (refine HS.out.mono ?_; rintro e w0 ⟨rfl, b0⟩; have B0 := Lib.hid b0; clear b0))
          | (go_at_call 9; have bp := B1.out; go_must (
             refine (HPT.out _ (bp.alloc bp.size _)).mono ?_; intro e w2 h2; obtain ⟨b2, A3, c3, A4, c4, rfl, d2, -⟩ := dr_form h2
             have B2 := Lib.hid (below_on (bp.alloc bp.size _) b2); clear b2 d2 h2 bp))
          | (go_at_call 9; go_must (
             refine (HPS.out _ B0.out).mono ?_; intro e w1 h1; obtain ⟨b1, A1, c1, A2, c2, rfl, d1, -⟩ := dr_form h1
             have B1 := Lib.hid (below_on B0.out b1); clear b1 d1 h1)))
        go_ret
        exact ⟨rfl, B2.out.alloc B2.out.size _⟩
      · obtain ⟨init, L, hlx, hpj, hsz, hL, hin⟩ := join_src hx hy hyd hs ht
        have HGX := Lib.hid (parse_good hx)
        have HGY := Lib.hid (parse_good hy)
        have HLX := Lib.hid (parse_linesP hx)
        have HLY := Lib.hid (parse_linesP hy)
        have HYD := Lib.hid hyd
        have HPJ : Hid (∀ w2, Below W.heap.size W w2 → Calls Tryd.prog 9 #[.string (s ++ ⟨#[10]⟩ ++ t)] w2 (DPost w2 (.ok ⟨x.decks, x.items ++ y.items.map (upI L)⟩))) := Lib.hid fun w2 b => by
          have := HP.out w2 _ hsz b
          rwa [hpj] at this
        have HLEX : Hid (∀ w2, Calls Tryd.prog 17 #[.string s] w2 (Lx.LPost w2 (.ok (init ++ [fin L])))) := Lib.hid fun w2 => by
          have := lex_any (bl s) w2 (by rw [bl_len]; omega)
          rwa [hlx] at this
        clear hx hy hlx hpj hsz HP
        obtain ⟨n1, hn1⟩ : ∃ n1, n1 = x.decks.length := ⟨_, rfl⟩
        obtain ⟨m1, hm1⟩ : ∃ m1, m1 = x.items.length := ⟨_, rfl⟩
        obtain ⟨m2, hm2⟩ : ∃ m2, m2 = y.items.length := ⟨_, rfl⟩
        have hn19 : n1 ≤ 9223372036854775807 := by rw [hn1]; exact HGX.out.lim.decks
        have hm15 : m1 ≤ 5000 := by rw [hm1]; exact HGX.out.items
        have hm25 : m2 ≤ 5000 := by rw [hm2]; exact HGY.out.items
        have HN1 := Lib.hid hn1
        have HM1 := Lib.hid hm1
        have HM2 := Lib.hid hm2
        have HYL := Lib.hid (show y.decks.length = 0 by rw [hyd]; rfl)
        have HIL := Lib.hid (show (x.items ++ y.items.map (upI L)).length = m1 + m2 by rw [List.length_append, List.length_map, hm1, hm2])
        clear hn1 hm1 hm2 hyd
        go_enter Tryd.func5, Tryd.ntmps5
        go_upto_region 5 with (first
          | (go_at_call 7; go_must (refine HS.out.mono ?_; rintro e w0 ⟨rfl, b0⟩; have B0 := Lib.hid b0; clear b0))
          | (go_at_call 9; go_must (
             refine (HPS.out _ B0.out).mono ?_; intro e w1 h1; obtain ⟨b1, A1, c1, A2, c2, he, d1, -⟩ := dr_form h1
             rw [← HN1.out, ← HM1.out] at he d1
             subst he
             have X1 := Lib.hid d1
             have B1 := Lib.hid (below_on B0.out b1); clear b1 d1 h1)))
        have B1a := Lib.hid (B1.out.alloc B1.out.size (.cells #[.slice A1 n1 c1, .slice A2 m1 c2] 25))
        have hbx : Blk (w1.alloc (.cells #[.slice A1 n1 c1, .slice A2 m1 c2] 25)) w1.heap.size 25 #[.slice A1 n1 c1, .slice A2 m1 c2] := Blk.fresh w1 _ _
        have X2 : Hid (HasDf (w1.alloc (.cells #[.slice A1 n1 c1, .slice A2 m1 c2] 25)) _ x) := Lib.hid (X1.out.keep (below_more w1 _))
        generalize w1.alloc (.cells #[.slice A1 n1 c1, .slice A2 m1 c2] 25) = wa at *
        generalize w1.heap.size = b1 at *
        have HBX := Lib.hid hbx
        have hb1 := hbx.inside
        clear hbx X1 B1 B0 HS HPS
        go_upto_region 6 with (go_at_call 9; go_must (
          refine (HPT.out _ B1a.out).mono ?_; intro e w2 h2; obtain ⟨b2, A3, c3, A4, c4, he, d2, -⟩ := dr_form h2
          rw [HYL.out, ← HM2.out] at he d2
          subst he
          have Y1 := Lib.hid d2
          have X3 := Lib.hid (X2.out.keep b2)
          have HBX2 := Lib.hid (HBX.out.under b2 hb1)
          have B2 := Lib.hid (below_on B1a.out b2); clear b2 d2 h2))
        have B2a := Lib.hid (B2.out.alloc B2.out.size (.cells #[.slice A3 0 c3, .slice A4 m2 c4] 25))
        have hby : Blk (w2.alloc (.cells #[.slice A3 0 c3, .slice A4 m2 c4] 25)) w2.heap.size 25 #[.slice A3 0 c3, .slice A4 m2 c4] := Blk.fresh w2 _ _
        have hbx : Blk (w2.alloc (.cells #[.slice A3 0 c3, .slice A4 m2 c4] 25)) b1 25 #[.slice A1 n1 c1, .slice A2 m1 c2] := HBX2.out.kept _
        have X4 : Hid (HasDf (w2.alloc (.cells #[.slice A3 0 c3, .slice A4 m2 c4] 25)) _ x) := Lib.hid (X3.out.keep (below_more w2 _))
        have Y2 : Hid (HasDf (w2.alloc (.cells #[.slice A3 0 c3, .slice A4 m2 c4] 25)) _ y) := Lib.hid (Y1.out.keep (below_more w2 _))
        generalize w2.alloc (.cells #[.slice A3 0 c3, .slice A4 m2 c4] 25) = wb at *
        generalize w2.heap.size = b2 at *
        have q20 : wb.cell? ⟨b2, 0, none⟩ = some (.slice A3 0 c3) := hby.at 0
        clear HBX
        have HBX := Lib.hid hbx
        have HBY := Lib.hid hby
        clear hb1
        have hb1 := hbx.inside
        have hb2 := hby.inside
        clear hbx hby X2 X3 Y1 HBX2 B1a B2 HPT
        go_upto_region 9 with (go_at_call 9; go_must (
          refine (HPJ.out _ B2a.out).mono ?_; intro e w3 h3; obtain ⟨b3, A5, c5, A6, c6, he, d3, -⟩ := dr_form h3
          rw [HIL.out, ← HN1.out] at he d3
          subst he
          have Z1 := Lib.hid d3
          have X5 := Lib.hid (X4.out.keep b3)
          have Y3 := Lib.hid (Y2.out.keep b3)
          have HBX2 := Lib.hid (HBX.out.under b3 hb1)
          have HBY2 := Lib.hid (HBY.out.under b3 hb2)
          have B3 := Lib.hid (below_on B2a.out b3); clear b3 d3 h3))
        have B3a := Lib.hid (B3.out.alloc B3.out.size (.cells #[.slice A5 n1 c5, .slice A6 (m1 + m2) c6] 25))
        have hbz : Blk (w3.alloc (.cells #[.slice A5 n1 c5, .slice A6 (m1 + m2) c6] 25)) w3.heap.size 25 #[.slice A5 n1 c5, .slice A6 (m1 + m2) c6] := Blk.fresh w3 _ _
        have hbx : Blk (w3.alloc (.cells #[.slice A5 n1 c5, .slice A6 (m1 + m2) c6] 25)) b1 25 #[.slice A1 n1 c1, .slice A2 m1 c2] := HBX2.out.kept _
        have hby : Blk (w3.alloc (.cells #[.slice A5 n1 c5, .slice A6 (m1 + m2) c6] 25)) b2 25 #[.slice A3 0 c3, .slice A4 m2 c4] := HBY2.out.kept _
        have X6 : Hid (HasDf (w3.alloc (.cells #[.slice A5 n1 c5, .slice A6 (m1 + m2) c6] 25)) _ x) := Lib.hid (X5.out.keep (below_more w3 _))
        have Y4 : Hid (HasDf (w3.alloc (.cells #[.slice A5 n1 c5, .slice A6 (m1 + m2) c6] 25)) _ y) := Lib.hid (Y3.out.keep (below_more w3 _))
        have Z2 : Hid (HasDf (w3.alloc (.cells #[.slice A5 n1 c5, .slice A6 (m1 + m2) c6] 25)) _ ⟨x.decks, x.items ++ y.items.map (upI L)⟩) := Lib.hid (Z1.out.keep (below_more w3 _))
        generalize w3.alloc (.cells #[.slice A5 n1 c5, .slice A6 (m1 + m2) c6] 25) = wc at *
        generalize w3.heap.size = b3 at *
        clear X4 X5 Y2 Y3 Z1 HBX HBY HBX2 HBY2 B2a B3 q20 hb1 hb2 HPJ
        go_upto_region 13 with (go_at_call 17; go_must (
          refine (HLEX.out _).mono ?_; rintro e w4 ⟨b4, v4, rfl, h4⟩
          obtain ⟨A7, c7, rfl, hc7, hr7⟩ := h4.is
          rw [show (init ++ [fin L]).length = init.length + 1 from by simp] at hc7 ⊢
          obtain ⟨g7, o7, rfl, hg7, -, -, -, k7⟩ := row_tk hr7 (i := init.length) (t := fin L) (by simp)
          have m7 : w4.cell? ⟨g7, o7 + init.length * 4 + 3, none⟩ = some (.int .i64 L) := k7
          clear k7
          have X7 := Lib.hid (X6.out.keep b4)
          have Y5 := Lib.hid (Y4.out.keep b4)
          have Z3 := Lib.hid (Z2.out.keep b4)
          have HBX := Lib.hid (hbx.under b4 hbx.inside)
          have HBY := Lib.hid (hby.under b4 hby.inside)
          have HBZ := Lib.hid (hbz.under b4 hbz.inside)
          have B4 := Lib.hid (below_on B3a.out b4)
          clear b4 h4 hr7))
        obtain ⟨us, hus⟩ := df_items X7.out
        obtain ⟨us2, hus2⟩ := df_items Y5.out
        obtain ⟨i0, hi0, hi1, hi2, hi3⟩ := info_parts info_item
        have HUS := Lib.hid hus
        have HUS2 := Lib.hid hus2
        have HS : Hid (∀ w', Below w4.heap.size w4 w' → w'.cell? ⟨b1, 0, none⟩ = some (.slice A1 n1 c1) ∧ w'.cell? ⟨b1, 1, none⟩ = some (.slice A2 m1 c2) ∧ w'.cell? ⟨b2, 1, none⟩ = some (.slice A4 m2 c4)) := Lib.hid fun w' b => ⟨(HBX.out.under b HBX.out.inside).at 0, (HBX.out.under b HBX.out.inside).at 1, (HBY.out.under b HBY.out.inside).at 1⟩
        clear hus hus2
        have HB0 := Lib.hid ((Below.refl w4.heap.size w4).drew)
        try go_frame
        refine Dsk.wp_region_any_order (fun w' => w'.cell? ⟨b1, 0, none⟩ = some (.slice A1 n1 c1) ∧ w'.cell? ⟨b1, 1, none⟩ = some (.slice A2 m1 c2) ∧ w'.cell? ⟨b2, 1, none⟩ = some (.slice A4 m2 c4)) [0, 1, 3, 4, 6, 7] [11] 6 #[true, true, false, true, true, false, true, true, false, false, false, false] (by kernel_rfl) (by kernel_rfl) (by kernel_rfl) (by kernel_rfl) (by kernel_rfl) (HS.out _ HB0.out) ?_
        repeat refine Dsk.RD.next rfl rfl (by intro w' ⟨x0, x1, x2⟩; go_simp; with_reducible rfl) ?_
        refine Dsk.RD.done ?_
        generalize w4.drew = wk0 at *
        refine Dsk.anyW_all (l := [2, 10]) (by kernel_rfl) (by simp) fun j hj => ?_
        obtain rfl | rfl : j = 2 ∨ j = 10 := by simpa using hj
        · clear hj
          refine Dsk.Take.mk rfl rfl fun K hK => ?_
          go_simp
          have hb := HB0.out.alloc HB0.out.size (.cells #[] 34)
          have hg := grow_zero wk0 w4.heap.size 5 34 HB0.out.size
          refine hK _ _ (.inr (HS.out _ hb)) ?_
          clear hK
          generalize wk0.alloc (.cells #[] 34) = wk1 at *
          have HB1 := Lib.hid hb
          have HG1 := Lib.hid hg
          clear hb hg
          refine Dsk.anyW_all (l := [5, 10]) (by kernel_rfl) (by simp) fun j hj => ?_
          obtain rfl | rfl : j = 5 ∨ j = 10 := by simpa using hj
          · clear hj
            refine Dsk.Take.mk rfl rfl fun K hK => ?_
            refine wp_append_src _ _ _ _ _ rfl w4.heap.size 34 i0 _ 5 72 Tryd.underlying23 hi0 hi1 hi2 hi3 rfl (by omega) _ 0 [] rfl HG1.out _ m1 (itsC x.items us) rfl (items_src (HUS.out.keep HB1.out)) (by unfold maxLen; omega) (by omega) HB1.out.size ?_
            intro v2 wk2 hg hgr hn
            have hb := below_app HB1.out rfl HG1.out hgr
            rw [Nat.zero_add, List.nil_append] at hg
            obtain ⟨A20, c20, rfl⟩ := hg.slice
            refine hK _ _ (.inr (HS.out _ hb)) ?_
            clear hK
            have HB2 := Lib.hid hb
            have HG2 := Lib.hid hg
            clear hb hg hgr hn
            refine Dsk.anyW_all (l := [8, 10]) (by kernel_rfl) (by simp) fun j hj => ?_
            obtain rfl | rfl : j = 8 ∨ j = 10 := by simpa using hj
            · clear hj
              refine Dsk.Take.mk rfl rfl fun K hK => ?_
              refine wp_append_src _ _ _ _ _ rfl w4.heap.size 34 i0 _ 5 72 Tryd.underlying23 hi0 hi1 hi2 hi3 rfl (by omega) _ m1 (itsC x.items us) rfl HG2.out _ m2 (itsC y.items us2) rfl (items_src (HUS2.out.keep HB2.out)) (by unfold maxLen; omega) (by omega) HB2.out.size ?_
              intro v3 wk3 hg hgr hn
              have hb := below_app HB2.out rfl HG2.out hgr
              obtain ⟨A30, c30, rfl⟩ := hg.slice
              refine hK _ _ (.inr (HS.out _ hb)) ?_
              clear hK
              have HB3 := Lib.hid hb
              have HG3 := Lib.hid hg
              clear hb hg hgr hn
              refine Dsk.anyW_all (l := [9, 10]) (by kernel_rfl) (by simp) fun j hj => ?_
              obtain rfl | rfl : j = 9 ∨ j = 10 := by simpa using hj
              · clear hj
                refine Dsk.Take.mk rfl rfl fun K hK => ?_
                go_simp
                refine hK _ _ (.inr (HS.out _ HB3.out)) ?_
                clear hK
                refine Dsk.anyW_all (l := [10]) (by kernel_rfl) (by simp) fun j hj => ?_
                obtain rfl : j = 10 := by simpa using hj
                clear hj
                refine Dsk.Take.mk rfl rfl fun K hK => ?_
                go_simp
                have hb := HB3.out.alloc HB3.out.size (.cells #[.slice none 0 0, .slice none 0 0] 25)
                have hx := BoxAt.new HB3.out.size HG3.out
                have hg := HG3.out.alloc (.cells #[.slice none 0 0, .slice none 0 0] 25)
                refine hK _ _ (.inr (HS.out _ hb)) ?_
                clear hK
                generalize wk3.alloc (.cells #[.slice none 0 0, .slice none 0 0] 25) = wk5 at *
                generalize wk3.heap.size = gy5 at *
                have HB5 := Lib.hid hb
                have HX5 := Lib.hid hx
                clear hb hx
                have HG5 := Lib.hid hg
                clear hg
                refine Dsk.anyW_all (l := [11]) (by kernel_rfl) (by simp) fun j hj => ?_
                obtain rfl : j = 11 := by simpa using hj
                clear hj
                refine Dsk.Take.mk rfl rfl fun K hK => ?_
                have s0 : wk5.cell? ⟨gy5, 0, none⟩ = some (.slice none 0 0) := HX5.out.blk.at 0
                have s1 : wk5.cell? ⟨gy5, 1, none⟩ = some (.slice none 0 0) := HX5.out.blk.at 1
                have f0 := HX5.out.blk.thaw 0
                have f1 := HX5.out.blk.thaw 1
                go_simp
                refine hK _ _ (.inl (by simp)) ?_
                clear hK
                refine Dsk.anyW_done (by kernel_rfl) (NoPanic.normal ?_)
                try go_frame
                have hc : Chg (fun k => k = gy5) wk5 ((wk5.setCell ⟨gy5, 0, none⟩ (.slice A1 n1 c1)).setCell ⟨gy5, 1, none⟩ (.slice A30 (m1 + m2) c30)) := (Chg.set (F := fun k => k = gy5) (a := ⟨gy5, 0, none⟩) rfl _).trans (Chg.set (F := fun k => k = gy5) (a := ⟨gy5, 1, none⟩) rfl _)
                have hgz : Grow ((wk5.setCell ⟨gy5, 0, none⟩ (.slice A1 n1 c1)).setCell ⟨gy5, 1, none⟩ (.slice A30 (m1 + m2) c30)) w4.heap.size 5 (.slice A30 (m1 + m2) c30) (m1 + m2) (itsC x.items us ++ itsC y.items us2) := HG5.out.keep hc.size (fun g hg => hc.block g (HG5.out.block g hg).2 (fun e => HX5.out.ne (by rw [hg]; exact congrArg some e)))
                have hbk : Blk ((wk5.setCell ⟨gy5, 0, none⟩ (.slice A1 n1 c1)).setCell ⟨gy5, 1, none⟩ (.slice A30 (m1 + m2) c30)) gy5 25 #[.slice A1 n1 c1, .slice A30 (m1 + m2) c30] := (HX5.out.blk.put 0 _).put 1 _
                have hbz : Below w4.heap.size w4 ((wk5.setCell ⟨gy5, 0, none⟩ (.slice A1 n1 c1)).setCell ⟨gy5, 1, none⟩ (.slice A30 (m1 + m2) c30)) := HB5.out.trans (hc.below HB5.out.size (fun k hk => by rw [hk]; exact HX5.out.ge))
                have hwant := want_df X7.out HUS.out HUS2.out hbz hgz HM1.out HM2.out
                have hz3 := Z3.out.keep hbz
                have hb3z := HBZ.out.under hbz HBZ.out.inside
                have hb1z := HBX.out.under hbz HBX.out.inside
                generalize ((wk5.setCell ⟨gy5, 0, none⟩ (.slice A1 n1 c1)).setCell ⟨gy5, 1, none⟩ (.slice A30 (m1 + m2) c30)) = wz at *
                have q30 : wz.cell? ⟨b3, 0, none⟩ = some (.slice A5 n1 c5) := hb3z.at 0
                have q31 : wz.cell? ⟨b3, 1, none⟩ = some (.slice A6 (m1 + m2) c6) := hb3z.at 1
                have qg0 : wz.cell? ⟨gy5, 0, none⟩ = some (.slice A1 n1 c1) := hbk.at 0
                have qg1 : wz.cell? ⟨gy5, 1, none⟩ = some (.slice A30 (m1 + m2) c30) := hbk.at 1
                have q11 : wz.cell? ⟨b1, 1, none⟩ = some (.slice A2 m1 c2) := hb1z.at 1
                have HSM := Lib.hid (same_any hz3 hwant (HGX.out.lim_join HGY.out L).2 (HGX.out.lim_join HGY.out L).1)
                rw [show sameP ⟨x.decks, x.items ++ y.items.map (upI L)⟩ ⟨x.decks, x.items ++ y.items⟩ = true from same_over L x y x.decks] at HSM
                have HWT := Lib.hid hwant
                have HZ3 := Lib.hid hz3
                have BZ := Lib.hid (below_on B4.out hbz)
                have hl3 := hb3z.inside
                have hlg := hbk.inside
                have hl1 := hb1z.inside
                clear hc hgz hbk hbz hwant hz3 hb3z hb1z
                go_wp2_with (go_at_call 16; go_must (
                  refine HSM.out.mono ?_; rintro e w6 ⟨rfl, b6⟩
                  have r31 : w6.cell? ⟨b3, 1, none⟩ = some (.slice A6 (m1 + m2) c6) := (b6.cell (p := ⟨b3, 1, none⟩) hl3).trans q31
                  have rg1 : w6.cell? ⟨gy5, 1, none⟩ = some (.slice A30 (m1 + m2) c30) := (b6.cell (p := ⟨gy5, 1, none⟩) hlg).trans qg1
                  have r11 : w6.cell? ⟨b1, 1, none⟩ = some (.slice A2 m1 c2) := (b6.cell (p := ⟨b1, 1, none⟩) hl1).trans q11
                  have B6 := Lib.hid (below_on BZ.out b6)
                  have HW6 := Lib.hid (HWT.out.keep b6)
                  have HZ6 := Lib.hid (HZ3.out.keep b6)
                  clear b6))
                obtain ⟨uw, huw⟩ := df_items HW6.out
                obtain ⟨uz, huz⟩ := df_items HZ6.out
                have HUW := Lib.hid huw
                have HUZ := Lib.hid huz
                have HJL := Lib.hid (show (x.items ++ y.items).length = m1 + m2 by rw [List.length_append, HM1.out, HM2.out])
                have HLN := Lib.hid (show ∀ z ∈ x.items ++ y.items, 0 ≤ z.line ∧ z.line ≤ 2501 from fun z hz => by
                  rcases List.mem_append.1 hz with hz | hz
                  · have := HLX.out z hz
                    rw [bl_len] at this
                    omega
                  · have := HLY.out z hz
                    rw [bl_len] at this
                    omega)
                clear huw huz q30 q31 qg0 qg1 q11 hl3 hlg hl1 HSM HWT HZ3 HW6 HZ6
                go_loopw [20] (fun iv wr => (∃ j : Nat, iv = .int .i64 j ∧ j ≤ m1 + m2) ∧ w6 = wr) (fun iv _ => m1 + m2 - (intOf iv).toNat)
                case atStart => exact ⟨⟨0, rfl, Nat.zero_le _⟩, rfl⟩
                case round =>
                  obtain ⟨⟨j, rfl, hj⟩, rfl⟩ := hrel
                  by_cases hlt : j < m1 + m2
                  · have hj1 : j < (x.items ++ y.items).length := by rw [HJL.out]; exact hlt
                    obtain ⟨g8, o8, rfl, hg8, k8⟩ := z_cell HUZ.out hj1
                    obtain ⟨g9, o9, A9, n9, c9, rfl, hg9, -, k9, -⟩ := HUW.out.cell hj1
                    have hln := HLN.out _ (List.getElem_mem hj1)
                    have k9 : w6.cell? ⟨g9, o9 + j * 5 + 1, none⟩ = some (.int .i64 (x.items ++ y.items)[j].line) := k9
                    generalize (x.items ++ y.items)[j].line = P at *
                    rw [← HM1.out] at k8
                    clear hj1
                    by_cases hjm : j < m1
                    · rw [if_pos hjm] at k8
                      have hjn : ¬ ((m1 : Int) ≤ j) := by omega
                      go_wp2_with fail
                      go_roundw
                      case rel => exact ⟨⟨j + 1, by simp, by omega⟩, trivial⟩
                      case measure => simp [intOf]; omega
                    · rw [if_neg hjm] at k8
                      have hjn : (m1 : Int) ≤ j := by omega
                      go_wp2_with fail
                      go_roundw
                      case rel => exact ⟨⟨j + 1, by simp, by omega⟩, trivial⟩
                      case measure => simp [intOf]; omega
                  · obtain rfl : j = m1 + m2 := by omega
                    go_wp2_with fail
                    go_ret
                    exact ⟨rfl, B6.out⟩
              · clear hj
                refine Dsk.Take.mk rfl rfl fun K hK => ?_
                go_simp
                have hb := HB3.out.alloc HB3.out.size (.cells #[.slice none 0 0, .slice none 0 0] 25)
                have hx := BoxAt.new HB3.out.size HG3.out
                have hg := HG3.out.alloc (.cells #[.slice none 0 0, .slice none 0 0] 25)
                refine hK _ _ (.inr (HS.out _ hb)) ?_
                clear hK
                generalize wk3.alloc (.cells #[.slice none 0 0, .slice none 0 0] 25) = wk7 at *
                generalize wk3.heap.size = gy7 at *
                have HB7 := Lib.hid hb
                have HX7 := Lib.hid hx
                clear hb hx
                have HG7 := Lib.hid hg
                clear hg
                refine Dsk.anyW_all (l := [9]) (by kernel_rfl) (by simp) fun j hj => ?_
                obtain rfl : j = 9 := by simpa using hj
                clear hj
                refine Dsk.Take.mk rfl rfl fun K hK => ?_
                go_simp
                refine hK _ _ (.inr (HS.out _ HB7.out)) ?_
                clear hK
                refine Dsk.anyW_all (l := [11]) (by kernel_rfl) (by simp) fun j hj => ?_
                obtain rfl : j = 11 := by simpa using hj
                clear hj
                refine Dsk.Take.mk rfl rfl fun K hK => ?_
                have s0 : wk7.cell? ⟨gy7, 0, none⟩ = some (.slice none 0 0) := HX7.out.blk.at 0
                have s1 : wk7.cell? ⟨gy7, 1, none⟩ = some (.slice none 0 0) := HX7.out.blk.at 1
                have f0 := HX7.out.blk.thaw 0
                have f1 := HX7.out.blk.thaw 1
                go_simp
                refine hK _ _ (.inl (by simp)) ?_
                clear hK
                refine Dsk.anyW_done (by kernel_rfl) (NoPanic.normal ?_)
                try go_frame
                have hc : Chg (fun k => k = gy7) wk7 ((wk7.setCell ⟨gy7, 0, none⟩ (.slice A1 n1 c1)).setCell ⟨gy7, 1, none⟩ (.slice A30 (m1 + m2) c30)) := (Chg.set (F := fun k => k = gy7) (a := ⟨gy7, 0, none⟩) rfl _).trans (Chg.set (F := fun k => k = gy7) (a := ⟨gy7, 1, none⟩) rfl _)
                have hgz : Grow ((wk7.setCell ⟨gy7, 0, none⟩ (.slice A1 n1 c1)).setCell ⟨gy7, 1, none⟩ (.slice A30 (m1 + m2) c30)) w4.heap.size 5 (.slice A30 (m1 + m2) c30) (m1 + m2) (itsC x.items us ++ itsC y.items us2) := HG7.out.keep hc.size (fun g hg => hc.block g (HG7.out.block g hg).2 (fun e => HX7.out.ne (by rw [hg]; exact congrArg some e)))
                have hbk : Blk ((wk7.setCell ⟨gy7, 0, none⟩ (.slice A1 n1 c1)).setCell ⟨gy7, 1, none⟩ (.slice A30 (m1 + m2) c30)) gy7 25 #[.slice A1 n1 c1, .slice A30 (m1 + m2) c30] := (HX7.out.blk.put 0 _).put 1 _
                have hbz : Below w4.heap.size w4 ((wk7.setCell ⟨gy7, 0, none⟩ (.slice A1 n1 c1)).setCell ⟨gy7, 1, none⟩ (.slice A30 (m1 + m2) c30)) := HB7.out.trans (hc.below HB7.out.size (fun k hk => by rw [hk]; exact HX7.out.ge))
                have hwant := want_df X7.out HUS.out HUS2.out hbz hgz HM1.out HM2.out
                have hz3 := Z3.out.keep hbz
                have hb3z := HBZ.out.under hbz HBZ.out.inside
                have hb1z := HBX.out.under hbz HBX.out.inside
                generalize ((wk7.setCell ⟨gy7, 0, none⟩ (.slice A1 n1 c1)).setCell ⟨gy7, 1, none⟩ (.slice A30 (m1 + m2) c30)) = wz at *
                have q30 : wz.cell? ⟨b3, 0, none⟩ = some (.slice A5 n1 c5) := hb3z.at 0
                have q31 : wz.cell? ⟨b3, 1, none⟩ = some (.slice A6 (m1 + m2) c6) := hb3z.at 1
                have qg0 : wz.cell? ⟨gy7, 0, none⟩ = some (.slice A1 n1 c1) := hbk.at 0
                have qg1 : wz.cell? ⟨gy7, 1, none⟩ = some (.slice A30 (m1 + m2) c30) := hbk.at 1
                have q11 : wz.cell? ⟨b1, 1, none⟩ = some (.slice A2 m1 c2) := hb1z.at 1
                have HSM := Lib.hid (same_any hz3 hwant (HGX.out.lim_join HGY.out L).2 (HGX.out.lim_join HGY.out L).1)
                rw [show sameP ⟨x.decks, x.items ++ y.items.map (upI L)⟩ ⟨x.decks, x.items ++ y.items⟩ = true from same_over L x y x.decks] at HSM
                have HWT := Lib.hid hwant
                have HZ3 := Lib.hid hz3
                have BZ := Lib.hid (below_on B4.out hbz)
                have hl3 := hb3z.inside
                have hlg := hbk.inside
                have hl1 := hb1z.inside
                clear hc hgz hbk hbz hwant hz3 hb3z hb1z
                go_wp2_with (go_at_call 16; go_must (
                  refine HSM.out.mono ?_; rintro e w6 ⟨rfl, b6⟩
                  have r31 : w6.cell? ⟨b3, 1, none⟩ = some (.slice A6 (m1 + m2) c6) := (b6.cell (p := ⟨b3, 1, none⟩) hl3).trans q31
                  have rg1 : w6.cell? ⟨gy7, 1, none⟩ = some (.slice A30 (m1 + m2) c30) := (b6.cell (p := ⟨gy7, 1, none⟩) hlg).trans qg1
                  have r11 : w6.cell? ⟨b1, 1, none⟩ = some (.slice A2 m1 c2) := (b6.cell (p := ⟨b1, 1, none⟩) hl1).trans q11
                  have B6 := Lib.hid (below_on BZ.out b6)
                  have HW6 := Lib.hid (HWT.out.keep b6)
                  have HZ6 := Lib.hid (HZ3.out.keep b6)
                  clear b6))
                obtain ⟨uw, huw⟩ := df_items HW6.out
                obtain ⟨uz, huz⟩ := df_items HZ6.out
                have HUW := Lib.hid huw
                have HUZ := Lib.hid huz
                have HJL := Lib.hid (show (x.items ++ y.items).length = m1 + m2 by rw [List.length_append, HM1.out, HM2.out])
                have HLN := Lib.hid (show ∀ z ∈ x.items ++ y.items, 0 ≤ z.line ∧ z.line ≤ 2501 from fun z hz => by
                  rcases List.mem_append.1 hz with hz | hz
                  · have := HLX.out z hz
                    rw [bl_len] at this
                    omega
                  · have := HLY.out z hz
                    rw [bl_len] at this
                    omega)
                clear huw huz q30 q31 qg0 qg1 q11 hl3 hlg hl1 HSM HWT HZ3 HW6 HZ6
                go_loopw [20] (fun iv wr => (∃ j : Nat, iv = .int .i64 j ∧ j ≤ m1 + m2) ∧ w6 = wr) (fun iv _ => m1 + m2 - (intOf iv).toNat)
                case atStart => exact ⟨⟨0, rfl, Nat.zero_le _⟩, rfl⟩
                case round =>
                  obtain ⟨⟨j, rfl, hj⟩, rfl⟩ := hrel
                  by_cases hlt : j < m1 + m2
                  · have hj1 : j < (x.items ++ y.items).length := by rw [HJL.out]; exact hlt
                    obtain ⟨g8, o8, rfl, hg8, k8⟩ := z_cell HUZ.out hj1
                    obtain ⟨g9, o9, A9, n9, c9, rfl, hg9, -, k9, -⟩ := HUW.out.cell hj1
                    have hln := HLN.out _ (List.getElem_mem hj1)
                    have k9 : w6.cell? ⟨g9, o9 + j * 5 + 1, none⟩ = some (.int .i64 (x.items ++ y.items)[j].line) := k9
                    generalize (x.items ++ y.items)[j].line = P at *
                    rw [← HM1.out] at k8
                    clear hj1
                    by_cases hjm : j < m1
                    · rw [if_pos hjm] at k8
                      have hjn : ¬ ((m1 : Int) ≤ j) := by omega
                      go_wp2_with fail
                      go_roundw
                      case rel => exact ⟨⟨j + 1, by simp, by omega⟩, trivial⟩
                      case measure => simp [intOf]; omega
                    · rw [if_neg hjm] at k8
                      have hjn : (m1 : Int) ≤ j := by omega
                      go_wp2_with fail
                      go_roundw
                      case rel => exact ⟨⟨j + 1, by simp, by omega⟩, trivial⟩
                      case measure => simp [intOf]; omega
                  · obtain rfl : j = m1 + m2 := by omega
                    go_wp2_with fail
                    go_ret
                    exact ⟨rfl, B6.out⟩
            · clear hj
              refine Dsk.Take.mk rfl rfl fun K hK => ?_
              go_simp
              have hb := HB2.out.alloc HB2.out.size (.cells #[.slice none 0 0, .slice none 0 0] 25)
              have hx := BoxAt.new HB2.out.size HG2.out
              have hg := HG2.out.alloc (.cells #[.slice none 0 0, .slice none 0 0] 25)
              refine hK _ _ (.inr (HS.out _ hb)) ?_
              clear hK
              generalize wk2.alloc (.cells #[.slice none 0 0, .slice none 0 0] 25) = wk10 at *
              generalize wk2.heap.size = gy10 at *
              have HB10 := Lib.hid hb
              have HX10 := Lib.hid hx
              clear hb hx
              have HG10 := Lib.hid hg
              clear hg
              refine Dsk.anyW_all (l := [8]) (by kernel_rfl) (by simp) fun j hj => ?_
              obtain rfl : j = 8 := by simpa using hj
              clear hj
              refine Dsk.Take.mk rfl rfl fun K hK => ?_
              refine wp_append_src _ _ _ _ _ rfl w4.heap.size 34 i0 _ 5 72 Tryd.underlying23 hi0 hi1 hi2 hi3 rfl (by omega) _ m1 (itsC x.items us) rfl HG10.out _ m2 (itsC y.items us2) rfl (items_src (HUS2.out.keep HB10.out)) (by unfold maxLen; omega) (by omega) HB10.out.size ?_
              intro v11 wk11 hg hgr hn
              have hb := below_app HB10.out rfl HG10.out hgr
              have HX11 := Lib.hid (HX10.out.app hgr hn)
              obtain ⟨A110, c110, rfl⟩ := hg.slice
              refine hK _ _ (.inr (HS.out _ hb)) ?_
              clear hK
              have HB11 := Lib.hid hb
              have HG11 := Lib.hid hg
              clear hb hg hgr hn
              refine Dsk.anyW_all (l := [9]) (by kernel_rfl) (by simp) fun j hj => ?_
              obtain rfl : j = 9 := by simpa using hj
              clear hj
              refine Dsk.Take.mk rfl rfl fun K hK => ?_
              go_simp
              refine hK _ _ (.inr (HS.out _ HB11.out)) ?_
              clear hK
              refine Dsk.anyW_all (l := [11]) (by kernel_rfl) (by simp) fun j hj => ?_
              obtain rfl : j = 11 := by simpa using hj
              clear hj
              refine Dsk.Take.mk rfl rfl fun K hK => ?_
              have s0 : wk11.cell? ⟨gy10, 0, none⟩ = some (.slice none 0 0) := HX11.out.blk.at 0
              have s1 : wk11.cell? ⟨gy10, 1, none⟩ = some (.slice none 0 0) := HX11.out.blk.at 1
              have f0 := HX11.out.blk.thaw 0
              have f1 := HX11.out.blk.thaw 1
              go_simp
              refine hK _ _ (.inl (by simp)) ?_
              clear hK
              refine Dsk.anyW_done (by kernel_rfl) (NoPanic.normal ?_)
              try go_frame
              have hc : Chg (fun k => k = gy10) wk11 ((wk11.setCell ⟨gy10, 0, none⟩ (.slice A1 n1 c1)).setCell ⟨gy10, 1, none⟩ (.slice A110 (m1 + m2) c110)) := (Chg.set (F := fun k => k = gy10) (a := ⟨gy10, 0, none⟩) rfl _).trans (Chg.set (F := fun k => k = gy10) (a := ⟨gy10, 1, none⟩) rfl _)
              have hgz : Grow ((wk11.setCell ⟨gy10, 0, none⟩ (.slice A1 n1 c1)).setCell ⟨gy10, 1, none⟩ (.slice A110 (m1 + m2) c110)) w4.heap.size 5 (.slice A110 (m1 + m2) c110) (m1 + m2) (itsC x.items us ++ itsC y.items us2) := HG11.out.keep hc.size (fun g hg => hc.block g (HG11.out.block g hg).2 (fun e => HX11.out.ne (by rw [hg]; exact congrArg some e)))
              have hbk : Blk ((wk11.setCell ⟨gy10, 0, none⟩ (.slice A1 n1 c1)).setCell ⟨gy10, 1, none⟩ (.slice A110 (m1 + m2) c110)) gy10 25 #[.slice A1 n1 c1, .slice A110 (m1 + m2) c110] := (HX11.out.blk.put 0 _).put 1 _
              have hbz : Below w4.heap.size w4 ((wk11.setCell ⟨gy10, 0, none⟩ (.slice A1 n1 c1)).setCell ⟨gy10, 1, none⟩ (.slice A110 (m1 + m2) c110)) := HB11.out.trans (hc.below HB11.out.size (fun k hk => by rw [hk]; exact HX11.out.ge))
              have hwant := want_df X7.out HUS.out HUS2.out hbz hgz HM1.out HM2.out
              have hz3 := Z3.out.keep hbz
              have hb3z := HBZ.out.under hbz HBZ.out.inside
              have hb1z := HBX.out.under hbz HBX.out.inside
              generalize ((wk11.setCell ⟨gy10, 0, none⟩ (.slice A1 n1 c1)).setCell ⟨gy10, 1, none⟩ (.slice A110 (m1 + m2) c110)) = wz at *
              have q30 : wz.cell? ⟨b3, 0, none⟩ = some (.slice A5 n1 c5) := hb3z.at 0
              have q31 : wz.cell? ⟨b3, 1, none⟩ = some (.slice A6 (m1 + m2) c6) := hb3z.at 1
              have qg0 : wz.cell? ⟨gy10, 0, none⟩ = some (.slice A1 n1 c1) := hbk.at 0
              have qg1 : wz.cell? ⟨gy10, 1, none⟩ = some (.slice A110 (m1 + m2) c110) := hbk.at 1
              have q11 : wz.cell? ⟨b1, 1, none⟩ = some (.slice A2 m1 c2) := hb1z.at 1
              have HSM := Lib.hid (same_any hz3 hwant (HGX.out.lim_join HGY.out L).2 (HGX.out.lim_join HGY.out L).1)
              rw [show sameP ⟨x.decks, x.items ++ y.items.map (upI L)⟩ ⟨x.decks, x.items ++ y.items⟩ = true from same_over L x y x.decks] at HSM
              have HWT := Lib.hid hwant
              have HZ3 := Lib.hid hz3
              have BZ := Lib.hid (below_on B4.out hbz)
              have hl3 := hb3z.inside
              have hlg := hbk.inside
              have hl1 := hb1z.inside
              clear hc hgz hbk hbz hwant hz3 hb3z hb1z
              go_wp2_with (go_at_call 16; go_must (
                refine HSM.out.mono ?_; rintro e w6 ⟨rfl, b6⟩
                have r31 : w6.cell? ⟨b3, 1, none⟩ = some (.slice A6 (m1 + m2) c6) := (b6.cell (p := ⟨b3, 1, none⟩) hl3).trans q31
                have rg1 : w6.cell? ⟨gy10, 1, none⟩ = some (.slice A110 (m1 + m2) c110) := (b6.cell (p := ⟨gy10, 1, none⟩) hlg).trans qg1
                have r11 : w6.cell? ⟨b1, 1, none⟩ = some (.slice A2 m1 c2) := (b6.cell (p := ⟨b1, 1, none⟩) hl1).trans q11
                have B6 := Lib.hid (below_on BZ.out b6)
                have HW6 := Lib.hid (HWT.out.keep b6)
                have HZ6 := Lib.hid (HZ3.out.keep b6)
                clear b6))
              obtain ⟨uw, huw⟩ := df_items HW6.out
              obtain ⟨uz, huz⟩ := df_items HZ6.out
              have HUW := Lib.hid huw
              have HUZ := Lib.hid huz
              have HJL := Lib.hid (show (x.items ++ y.items).length = m1 + m2 by rw [List.length_append, HM1.out, HM2.out])
              have HLN := Lib.hid (show ∀ z ∈ x.items ++ y.items, 0 ≤ z.line ∧ z.line ≤ 2501 from fun z hz => by
                rcases List.mem_append.1 hz with hz | hz
                · have := HLX.out z hz
                  rw [bl_len] at this
                  omega
                · have := HLY.out z hz
                  rw [bl_len] at this
                  omega)
              clear huw huz q30 q31 qg0 qg1 q11 hl3 hlg hl1 HSM HWT HZ3 HW6 HZ6
              go_loopw [20] (fun iv wr => (∃ j : Nat, iv = .int .i64 j ∧ j ≤ m1 + m2) ∧ w6 = wr) (fun iv _ => m1 + m2 - (intOf iv).toNat)
              case atStart => exact ⟨⟨0, rfl, Nat.zero_le _⟩, rfl⟩
              case round =>
                obtain ⟨⟨j, rfl, hj⟩, rfl⟩ := hrel
                by_cases hlt : j < m1 + m2
                · have hj1 : j < (x.items ++ y.items).length := by rw [HJL.out]; exact hlt
                  obtain ⟨g8, o8, rfl, hg8, k8⟩ := z_cell HUZ.out hj1
                  obtain ⟨g9, o9, A9, n9, c9, rfl, hg9, -, k9, -⟩ := HUW.out.cell hj1
                  have hln := HLN.out _ (List.getElem_mem hj1)
                  have k9 : w6.cell? ⟨g9, o9 + j * 5 + 1, none⟩ = some (.int .i64 (x.items ++ y.items)[j].line) := k9
                  generalize (x.items ++ y.items)[j].line = P at *
                  rw [← HM1.out] at k8
                  clear hj1
                  by_cases hjm : j < m1
                  · rw [if_pos hjm] at k8
                    have hjn : ¬ ((m1 : Int) ≤ j) := by omega
                    go_wp2_with fail
                    go_roundw
                    case rel => exact ⟨⟨j + 1, by simp, by omega⟩, trivial⟩
                    case measure => simp [intOf]; omega
                  · rw [if_neg hjm] at k8
                    have hjn : (m1 : Int) ≤ j := by omega
                    go_wp2_with fail
                    go_roundw
                    case rel => exact ⟨⟨j + 1, by simp, by omega⟩, trivial⟩
                    case measure => simp [intOf]; omega
                · obtain rfl : j = m1 + m2 := by omega
                  go_wp2_with fail
                  go_ret
                  exact ⟨rfl, B6.out⟩
          · clear hj
            refine Dsk.Take.mk rfl rfl fun K hK => ?_
            go_simp
            have hb := HB1.out.alloc HB1.out.size (.cells #[.slice none 0 0, .slice none 0 0] 25)
            have hx := BoxAt.new HB1.out.size HG1.out
            have hg := HG1.out.alloc (.cells #[.slice none 0 0, .slice none 0 0] 25)
            refine hK _ _ (.inr (HS.out _ hb)) ?_
            clear hK
            generalize wk1.alloc (.cells #[.slice none 0 0, .slice none 0 0] 25) = wk14 at *
            generalize wk1.heap.size = gy14 at *
            have HB14 := Lib.hid hb
            have HX14 := Lib.hid hx
            clear hb hx
            have HG14 := Lib.hid hg
            clear hg
            refine Dsk.anyW_all (l := [5]) (by kernel_rfl) (by simp) fun j hj => ?_
            obtain rfl : j = 5 := by simpa using hj
            clear hj
            refine Dsk.Take.mk rfl rfl fun K hK => ?_
            refine wp_append_src _ _ _ _ _ rfl w4.heap.size 34 i0 _ 5 72 Tryd.underlying23 hi0 hi1 hi2 hi3 rfl (by omega) _ 0 [] rfl HG14.out _ m1 (itsC x.items us) rfl (items_src (HUS.out.keep HB14.out)) (by unfold maxLen; omega) (by omega) HB14.out.size ?_
            intro v15 wk15 hg hgr hn
            have hb := below_app HB14.out rfl HG14.out hgr
            rw [Nat.zero_add, List.nil_append] at hg
            have HX15 := Lib.hid (HX14.out.app hgr hn)
            obtain ⟨A150, c150, rfl⟩ := hg.slice
            refine hK _ _ (.inr (HS.out _ hb)) ?_
            clear hK
            have HB15 := Lib.hid hb
            have HG15 := Lib.hid hg
            clear hb hg hgr hn
            refine Dsk.anyW_all (l := [8]) (by kernel_rfl) (by simp) fun j hj => ?_
            obtain rfl : j = 8 := by simpa using hj
            clear hj
            refine Dsk.Take.mk rfl rfl fun K hK => ?_
            refine wp_append_src _ _ _ _ _ rfl w4.heap.size 34 i0 _ 5 72 Tryd.underlying23 hi0 hi1 hi2 hi3 rfl (by omega) _ m1 (itsC x.items us) rfl HG15.out _ m2 (itsC y.items us2) rfl (items_src (HUS2.out.keep HB15.out)) (by unfold maxLen; omega) (by omega) HB15.out.size ?_
            intro v16 wk16 hg hgr hn
            have hb := below_app HB15.out rfl HG15.out hgr
            have HX16 := Lib.hid (HX15.out.app hgr hn)
            obtain ⟨A160, c160, rfl⟩ := hg.slice
            refine hK _ _ (.inr (HS.out _ hb)) ?_
            clear hK
            have HB16 := Lib.hid hb
            have HG16 := Lib.hid hg
            clear hb hg hgr hn
            refine Dsk.anyW_all (l := [9]) (by kernel_rfl) (by simp) fun j hj => ?_
            obtain rfl : j = 9 := by simpa using hj
            clear hj
            refine Dsk.Take.mk rfl rfl fun K hK => ?_
            go_simp
            refine hK _ _ (.inr (HS.out _ HB16.out)) ?_
            clear hK
            refine Dsk.anyW_all (l := [11]) (by kernel_rfl) (by simp) fun j hj => ?_
            obtain rfl : j = 11 := by simpa using hj
            clear hj
            refine Dsk.Take.mk rfl rfl fun K hK => ?_
            have s0 : wk16.cell? ⟨gy14, 0, none⟩ = some (.slice none 0 0) := HX16.out.blk.at 0
            have s1 : wk16.cell? ⟨gy14, 1, none⟩ = some (.slice none 0 0) := HX16.out.blk.at 1
            have f0 := HX16.out.blk.thaw 0
            have f1 := HX16.out.blk.thaw 1
            go_simp
            refine hK _ _ (.inl (by simp)) ?_
            clear hK
            refine Dsk.anyW_done (by kernel_rfl) (NoPanic.normal ?_)
            try go_frame
            have hc : Chg (fun k => k = gy14) wk16 ((wk16.setCell ⟨gy14, 0, none⟩ (.slice A1 n1 c1)).setCell ⟨gy14, 1, none⟩ (.slice A160 (m1 + m2) c160)) := (Chg.set (F := fun k => k = gy14) (a := ⟨gy14, 0, none⟩) rfl _).trans (Chg.set (F := fun k => k = gy14) (a := ⟨gy14, 1, none⟩) rfl _)
            have hgz : Grow ((wk16.setCell ⟨gy14, 0, none⟩ (.slice A1 n1 c1)).setCell ⟨gy14, 1, none⟩ (.slice A160 (m1 + m2) c160)) w4.heap.size 5 (.slice A160 (m1 + m2) c160) (m1 + m2) (itsC x.items us ++ itsC y.items us2) := HG16.out.keep hc.size (fun g hg => hc.block g (HG16.out.block g hg).2 (fun e => HX16.out.ne (by rw [hg]; exact congrArg some e)))
            have hbk : Blk ((wk16.setCell ⟨gy14, 0, none⟩ (.slice A1 n1 c1)).setCell ⟨gy14, 1, none⟩ (.slice A160 (m1 + m2) c160)) gy14 25 #[.slice A1 n1 c1, .slice A160 (m1 + m2) c160] := (HX16.out.blk.put 0 _).put 1 _
            have hbz : Below w4.heap.size w4 ((wk16.setCell ⟨gy14, 0, none⟩ (.slice A1 n1 c1)).setCell ⟨gy14, 1, none⟩ (.slice A160 (m1 + m2) c160)) := HB16.out.trans (hc.below HB16.out.size (fun k hk => by rw [hk]; exact HX16.out.ge))
            have hwant := want_df X7.out HUS.out HUS2.out hbz hgz HM1.out HM2.out
            have hz3 := Z3.out.keep hbz
            have hb3z := HBZ.out.under hbz HBZ.out.inside
            have hb1z := HBX.out.under hbz HBX.out.inside
            generalize ((wk16.setCell ⟨gy14, 0, none⟩ (.slice A1 n1 c1)).setCell ⟨gy14, 1, none⟩ (.slice A160 (m1 + m2) c160)) = wz at *
            have q30 : wz.cell? ⟨b3, 0, none⟩ = some (.slice A5 n1 c5) := hb3z.at 0
            have q31 : wz.cell? ⟨b3, 1, none⟩ = some (.slice A6 (m1 + m2) c6) := hb3z.at 1
            have qg0 : wz.cell? ⟨gy14, 0, none⟩ = some (.slice A1 n1 c1) := hbk.at 0
            have qg1 : wz.cell? ⟨gy14, 1, none⟩ = some (.slice A160 (m1 + m2) c160) := hbk.at 1
            have q11 : wz.cell? ⟨b1, 1, none⟩ = some (.slice A2 m1 c2) := hb1z.at 1
            have HSM := Lib.hid (same_any hz3 hwant (HGX.out.lim_join HGY.out L).2 (HGX.out.lim_join HGY.out L).1)
            rw [show sameP ⟨x.decks, x.items ++ y.items.map (upI L)⟩ ⟨x.decks, x.items ++ y.items⟩ = true from same_over L x y x.decks] at HSM
            have HWT := Lib.hid hwant
            have HZ3 := Lib.hid hz3
            have BZ := Lib.hid (below_on B4.out hbz)
            have hl3 := hb3z.inside
            have hlg := hbk.inside
            have hl1 := hb1z.inside
            clear hc hgz hbk hbz hwant hz3 hb3z hb1z
            go_wp2_with (go_at_call 16; go_must (
              refine HSM.out.mono ?_; rintro e w6 ⟨rfl, b6⟩
              have r31 : w6.cell? ⟨b3, 1, none⟩ = some (.slice A6 (m1 + m2) c6) := (b6.cell (p := ⟨b3, 1, none⟩) hl3).trans q31
              have rg1 : w6.cell? ⟨gy14, 1, none⟩ = some (.slice A160 (m1 + m2) c160) := (b6.cell (p := ⟨gy14, 1, none⟩) hlg).trans qg1
              have r11 : w6.cell? ⟨b1, 1, none⟩ = some (.slice A2 m1 c2) := (b6.cell (p := ⟨b1, 1, none⟩) hl1).trans q11
              have B6 := Lib.hid (below_on BZ.out b6)
              have HW6 := Lib.hid (HWT.out.keep b6)
              have HZ6 := Lib.hid (HZ3.out.keep b6)
              clear b6))
            obtain ⟨uw, huw⟩ := df_items HW6.out
            obtain ⟨uz, huz⟩ := df_items HZ6.out
            have HUW := Lib.hid huw
            have HUZ := Lib.hid huz
            have HJL := Lib.hid (show (x.items ++ y.items).length = m1 + m2 by rw [List.length_append, HM1.out, HM2.out])
            have HLN := Lib.hid (show ∀ z ∈ x.items ++ y.items, 0 ≤ z.line ∧ z.line ≤ 2501 from fun z hz => by
              rcases List.mem_append.1 hz with hz | hz
              · have := HLX.out z hz
                rw [bl_len] at this
                omega
              · have := HLY.out z hz
                rw [bl_len] at this
                omega)
            clear huw huz q30 q31 qg0 qg1 q11 hl3 hlg hl1 HSM HWT HZ3 HW6 HZ6
            go_loopw [20] (fun iv wr => (∃ j : Nat, iv = .int .i64 j ∧ j ≤ m1 + m2) ∧ w6 = wr) (fun iv _ => m1 + m2 - (intOf iv).toNat)
            case atStart => exact ⟨⟨0, rfl, Nat.zero_le _⟩, rfl⟩
            case round =>
              obtain ⟨⟨j, rfl, hj⟩, rfl⟩ := hrel
              by_cases hlt : j < m1 + m2
              · have hj1 : j < (x.items ++ y.items).length := by rw [HJL.out]; exact hlt
                obtain ⟨g8, o8, rfl, hg8, k8⟩ := z_cell HUZ.out hj1
                obtain ⟨g9, o9, A9, n9, c9, rfl, hg9, -, k9, -⟩ := HUW.out.cell hj1
                have hln := HLN.out _ (List.getElem_mem hj1)
                have k9 : w6.cell? ⟨g9, o9 + j * 5 + 1, none⟩ = some (.int .i64 (x.items ++ y.items)[j].line) := k9
                generalize (x.items ++ y.items)[j].line = P at *
                rw [← HM1.out] at k8
                clear hj1
                by_cases hjm : j < m1
                · rw [if_pos hjm] at k8
                  have hjn : ¬ ((m1 : Int) ≤ j) := by omega
                  go_wp2_with fail
                  go_roundw
                  case rel => exact ⟨⟨j + 1, by simp, by omega⟩, trivial⟩
                  case measure => simp [intOf]; omega
                · rw [if_neg hjm] at k8
                  have hjn : (m1 : Int) ≤ j := by omega
                  go_wp2_with fail
                  go_roundw
                  case rel => exact ⟨⟨j + 1, by simp, by omega⟩, trivial⟩
                  case measure => simp [intOf]; omega
              · obtain rfl : j = m1 + m2 := by omega
                go_wp2_with fail
                go_ret
                exact ⟨rfl, B6.out⟩
        · clear hj
          refine Dsk.Take.mk rfl rfl fun K hK => ?_
          go_simp
          have hb := HB0.out.alloc HB0.out.size (.cells #[.slice none 0 0, .slice none 0 0] 25)
          have hx := BoxAt.new HB0.out.size (Grow.nil wk0 w4.heap.size 5)
          refine hK _ _ (.inr (HS.out _ hb)) ?_
          clear hK
          generalize wk0.alloc (.cells #[.slice none 0 0, .slice none 0 0] 25) = wk19 at *
          generalize wk0.heap.size = gy19 at *
          have HB19 := Lib.hid hb
          have HX19 := Lib.hid hx
          clear hb hx
          refine Dsk.anyW_all (l := [2]) (by kernel_rfl) (by simp) fun j hj => ?_
          obtain rfl : j = 2 := by simpa using hj
          clear hj
          refine Dsk.Take.mk rfl rfl fun K hK => ?_
          go_simp
          have hb := HB19.out.alloc HB19.out.size (.cells #[] 34)
          have hg := grow_zero wk19 w4.heap.size 5 34 HB19.out.size
          have hx : BoxAt (wk19.alloc (.cells #[] 34)) w4.heap.size gy19 (.slice (some ⟨wk19.heap.size, 0, none⟩) 0 0) := ⟨HX19.out.blk.kept _, HX19.out.ge, fun e => by have := HX19.out.blk.inside; have e : wk19.heap.size = gy19 := Option.some.inj e; omega⟩
          refine hK _ _ (.inr (HS.out _ hb)) ?_
          clear hK
          generalize wk19.alloc (.cells #[] 34) = wk20 at *
          have HB20 := Lib.hid hb
          have HG20 := Lib.hid hg
          clear hb hg
          have HX20 := Lib.hid hx
          clear hx
          refine Dsk.anyW_all (l := [5]) (by kernel_rfl) (by simp) fun j hj => ?_
          obtain rfl : j = 5 := by simpa using hj
          clear hj
          refine Dsk.Take.mk rfl rfl fun K hK => ?_
          refine wp_append_src _ _ _ _ _ rfl w4.heap.size 34 i0 _ 5 72 Tryd.underlying23 hi0 hi1 hi2 hi3 rfl (by omega) _ 0 [] rfl HG20.out _ m1 (itsC x.items us) rfl (items_src (HUS.out.keep HB20.out)) (by unfold maxLen; omega) (by omega) HB20.out.size ?_
          intro v21 wk21 hg hgr hn
          have hb := below_app HB20.out rfl HG20.out hgr
          rw [Nat.zero_add, List.nil_append] at hg
          have HX21 := Lib.hid (HX20.out.app hgr hn)
          obtain ⟨A210, c210, rfl⟩ := hg.slice
          refine hK _ _ (.inr (HS.out _ hb)) ?_
          clear hK
          have HB21 := Lib.hid hb
          have HG21 := Lib.hid hg
          clear hb hg hgr hn
          refine Dsk.anyW_all (l := [8]) (by kernel_rfl) (by simp) fun j hj => ?_
          obtain rfl : j = 8 := by simpa using hj
          clear hj
          refine Dsk.Take.mk rfl rfl fun K hK => ?_
          refine wp_append_src _ _ _ _ _ rfl w4.heap.size 34 i0 _ 5 72 Tryd.underlying23 hi0 hi1 hi2 hi3 rfl (by omega) _ m1 (itsC x.items us) rfl HG21.out _ m2 (itsC y.items us2) rfl (items_src (HUS2.out.keep HB21.out)) (by unfold maxLen; omega) (by omega) HB21.out.size ?_
          intro v22 wk22 hg hgr hn
          have hb := below_app HB21.out rfl HG21.out hgr
          have HX22 := Lib.hid (HX21.out.app hgr hn)
          obtain ⟨A220, c220, rfl⟩ := hg.slice
          refine hK _ _ (.inr (HS.out _ hb)) ?_
          clear hK
          have HB22 := Lib.hid hb
          have HG22 := Lib.hid hg
          clear hb hg hgr hn
          refine Dsk.anyW_all (l := [9]) (by kernel_rfl) (by simp) fun j hj => ?_
          obtain rfl : j = 9 := by simpa using hj
          clear hj
          refine Dsk.Take.mk rfl rfl fun K hK => ?_
          go_simp
          refine hK _ _ (.inr (HS.out _ HB22.out)) ?_
          clear hK
          refine Dsk.anyW_all (l := [11]) (by kernel_rfl) (by simp) fun j hj => ?_
          obtain rfl : j = 11 := by simpa using hj
          clear hj
          refine Dsk.Take.mk rfl rfl fun K hK => ?_
          have s0 : wk22.cell? ⟨gy19, 0, none⟩ = some (.slice none 0 0) := HX22.out.blk.at 0
          have s1 : wk22.cell? ⟨gy19, 1, none⟩ = some (.slice none 0 0) := HX22.out.blk.at 1
          have f0 := HX22.out.blk.thaw 0
          have f1 := HX22.out.blk.thaw 1
          go_simp
          refine hK _ _ (.inl (by simp)) ?_
          clear hK
          refine Dsk.anyW_done (by kernel_rfl) (NoPanic.normal ?_)
          try go_frame
          have hc : Chg (fun k => k = gy19) wk22 ((wk22.setCell ⟨gy19, 0, none⟩ (.slice A1 n1 c1)).setCell ⟨gy19, 1, none⟩ (.slice A220 (m1 + m2) c220)) := (Chg.set (F := fun k => k = gy19) (a := ⟨gy19, 0, none⟩) rfl _).trans (Chg.set (F := fun k => k = gy19) (a := ⟨gy19, 1, none⟩) rfl _)
          have hgz : Grow ((wk22.setCell ⟨gy19, 0, none⟩ (.slice A1 n1 c1)).setCell ⟨gy19, 1, none⟩ (.slice A220 (m1 + m2) c220)) w4.heap.size 5 (.slice A220 (m1 + m2) c220) (m1 + m2) (itsC x.items us ++ itsC y.items us2) := HG22.out.keep hc.size (fun g hg => hc.block g (HG22.out.block g hg).2 (fun e => HX22.out.ne (by rw [hg]; exact congrArg some e)))
          have hbk : Blk ((wk22.setCell ⟨gy19, 0, none⟩ (.slice A1 n1 c1)).setCell ⟨gy19, 1, none⟩ (.slice A220 (m1 + m2) c220)) gy19 25 #[.slice A1 n1 c1, .slice A220 (m1 + m2) c220] := (HX22.out.blk.put 0 _).put 1 _
          have hbz : Below w4.heap.size w4 ((wk22.setCell ⟨gy19, 0, none⟩ (.slice A1 n1 c1)).setCell ⟨gy19, 1, none⟩ (.slice A220 (m1 + m2) c220)) := HB22.out.trans (hc.below HB22.out.size (fun k hk => by rw [hk]; exact HX22.out.ge))
          have hwant := want_df X7.out HUS.out HUS2.out hbz hgz HM1.out HM2.out
          have hz3 := Z3.out.keep hbz
          have hb3z := HBZ.out.under hbz HBZ.out.inside
          have hb1z := HBX.out.under hbz HBX.out.inside
          generalize ((wk22.setCell ⟨gy19, 0, none⟩ (.slice A1 n1 c1)).setCell ⟨gy19, 1, none⟩ (.slice A220 (m1 + m2) c220)) = wz at *
          have q30 : wz.cell? ⟨b3, 0, none⟩ = some (.slice A5 n1 c5) := hb3z.at 0
          have q31 : wz.cell? ⟨b3, 1, none⟩ = some (.slice A6 (m1 + m2) c6) := hb3z.at 1
          have qg0 : wz.cell? ⟨gy19, 0, none⟩ = some (.slice A1 n1 c1) := hbk.at 0
          have qg1 : wz.cell? ⟨gy19, 1, none⟩ = some (.slice A220 (m1 + m2) c220) := hbk.at 1
          have q11 : wz.cell? ⟨b1, 1, none⟩ = some (.slice A2 m1 c2) := hb1z.at 1
          have HSM := Lib.hid (same_any hz3 hwant (HGX.out.lim_join HGY.out L).2 (HGX.out.lim_join HGY.out L).1)
          rw [show sameP ⟨x.decks, x.items ++ y.items.map (upI L)⟩ ⟨x.decks, x.items ++ y.items⟩ = true from same_over L x y x.decks] at HSM
          have HWT := Lib.hid hwant
          have HZ3 := Lib.hid hz3
          have BZ := Lib.hid (below_on B4.out hbz)
          have hl3 := hb3z.inside
          have hlg := hbk.inside
          have hl1 := hb1z.inside
          clear hc hgz hbk hbz hwant hz3 hb3z hb1z
          go_wp2_with (go_at_call 16; go_must (
            refine HSM.out.mono ?_; rintro e w6 ⟨rfl, b6⟩
            have r31 : w6.cell? ⟨b3, 1, none⟩ = some (.slice A6 (m1 + m2) c6) := (b6.cell (p := ⟨b3, 1, none⟩) hl3).trans q31
            have rg1 : w6.cell? ⟨gy19, 1, none⟩ = some (.slice A220 (m1 + m2) c220) := (b6.cell (p := ⟨gy19, 1, none⟩) hlg).trans qg1
            have r11 : w6.cell? ⟨b1, 1, none⟩ = some (.slice A2 m1 c2) := (b6.cell (p := ⟨b1, 1, none⟩) hl1).trans q11
            have B6 := Lib.hid (below_on BZ.out b6)
            have HW6 := Lib.hid (HWT.out.keep b6)
            have HZ6 := Lib.hid (HZ3.out.keep b6)
            clear b6))
          obtain ⟨uw, huw⟩ := df_items HW6.out
          obtain ⟨uz, huz⟩ := df_items HZ6.out
          have HUW := Lib.hid huw
          have HUZ := Lib.hid huz
          have HJL := Lib.hid (show (x.items ++ y.items).length = m1 + m2 by rw [List.length_append, HM1.out, HM2.out])
          have HLN := Lib.hid (show ∀ z ∈ x.items ++ y.items, 0 ≤ z.line ∧ z.line ≤ 2501 from fun z hz => by
            rcases List.mem_append.1 hz with hz | hz
            · have := HLX.out z hz
              rw [bl_len] at this
              omega
            · have := HLY.out z hz
              rw [bl_len] at this
              omega)
          clear huw huz q30 q31 qg0 qg1 q11 hl3 hlg hl1 HSM HWT HZ3 HW6 HZ6
          go_loopw [20] (fun iv wr => (∃ j : Nat, iv = .int .i64 j ∧ j ≤ m1 + m2) ∧ w6 = wr) (fun iv _ => m1 + m2 - (intOf iv).toNat)
          case atStart => exact ⟨⟨0, rfl, Nat.zero_le _⟩, rfl⟩
          case round =>
            obtain ⟨⟨j, rfl, hj⟩, rfl⟩ := hrel
            by_cases hlt : j < m1 + m2
            · have hj1 : j < (x.items ++ y.items).length := by rw [HJL.out]; exact hlt
              obtain ⟨g8, o8, rfl, hg8, k8⟩ := z_cell HUZ.out hj1
              obtain ⟨g9, o9, A9, n9, c9, rfl, hg9, -, k9, -⟩ := HUW.out.cell hj1
              have hln := HLN.out _ (List.getElem_mem hj1)
              have k9 : w6.cell? ⟨g9, o9 + j * 5 + 1, none⟩ = some (.int .i64 (x.items ++ y.items)[j].line) := k9
              generalize (x.items ++ y.items)[j].line = P at *
              rw [← HM1.out] at k8
              clear hj1
              by_cases hjm : j < m1
              · rw [if_pos hjm] at k8
                have hjn : ¬ ((m1 : Int) ≤ j) := by omega
                go_wp2_with fail
                go_roundw
                case rel => exact ⟨⟨j + 1, by simp, by omega⟩, trivial⟩
                case measure => simp [intOf]; omega
              · rw [if_neg hjm] at k8
                have hjn : (m1 : Int) ≤ j := by omega
                go_wp2_with fail
                go_roundw
                case rel => exact ⟨⟨j + 1, by simp, by omega⟩, trivial⟩
                case measure => simp [intOf]; omega
            · obtain rfl : j = m1 + m2 := by omega
              go_wp2_with fail
              go_ret
              exact ⟨rfl, B6.out⟩
end Drf
end Go.Proofs.YtibeangcjfjeiaaDoor

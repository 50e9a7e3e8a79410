/- The reference's Parts. -/
import Derived.Test.YtgophgnfiboefaaGreatDoorRqL
namespace Go.Proofs.YtgophgnfiboefaaGreatDoor
open Go.RowKit Wire
open Txt (Row)
open Go.Proofs.YtgophgnfiboefaaGreatDoor.Own Flo
open Dsk (Only nth)
set_option linter.unusedVariables false
set_option linter.unusedSimpArgs false
namespace Rgn
theorem Sp.front {W w : World} {X Y : List Thing} (h : Sp W w (X ++ Y)) : Sp W w X :=
  h.pick (fun i => i) (fun i j _ _ e => e) (fun i t ht => by
    rw [List.getElem?_append_left (List.getElem?_eq_some_iff.1 ht).1]
    exact ht)
abbrev PTq (qs : PartL) : List Thing := qs.map (fun q => RowT 1 q.1 q.2.length (qvs q.2))
theorem parts_rows {W w : World} {t0 t1 : Thing} {qs : PartL} (h : Sp W w (t0 :: t1 :: PTq qs)) : ∀ q ∈ qs, ∃ A c, q.1 = .slice A q.2.length c ∧ Row w w.heap.size A (qvs q.2) := by
  intro q hq
  obtain ⟨j, hj, e⟩ := List.getElem_of_mem hq
  have hg := h.grow (j + 2) (v := q.1) (n := q.2.length) (xs := qvs q.2) (size := 1) (by
    rw [List.getElem?_cons_succ, List.getElem?_cons_succ]
    show (qs.map _)[j]? = _
    rw [List.getElem?_map, List.getElem?_eq_getElem hj, e]
    rfl)
  obtain ⟨A, c, e2⟩ := hg.slice
  rw [e2] at hg
  exact ⟨A, c, e2, row_of_any hg⟩
theorem left_next {lf lf' : Nat → Bool} {P : List Nat} {k : Nat} (hk : k < P.length) (h : ∀ c, lf' c = (lf c && !decide (c ∈ P.take k))) {g : Nat → Bool} (hg : ∀ c, g c = if c = P.getD k 0 then false else lf' c) : ∀ c, g c = (lf c && !decide (c ∈ P.take (k + 1))) := by
  intro c
  rw [hg c, List.take_succ_eq_append_getElem hk]
  have e : P.getD k 0 = P[k] := by
    rw [List.getD_eq_getElem?_getD, List.getElem?_eq_getElem hk]
    rfl
  rw [e]
  have hm : (c ∈ P.take k ++ [P[k]]) ↔ (c ∈ P.take k ∨ c = P[k]) := by rw [List.mem_append, List.mem_singleton]
  by_cases hc : c = P[k]
  · rw [if_pos hc, decide_eq_true (hm.2 (.inr hc))]
    simp
  · rw [if_neg hc, h c]
    congr 2
    rw [decide_eq_decide, hm]
    exact ⟨fun h => .inl h, fun h => h.resolve_right hc⟩
theorem PrI.next2 {f : Fl} {a : List Nat} {i : Nat} {left : Nat → Bool} {qs : PartL} (h : PrI f a i left (qs.map (·.2))) (ha : Reg a) (hi : i < a.length) (hl : left (a.getD i 0) = true) {left' : Nat → Bool} (hl' : ∀ c, left' c = (left c && !decide (c ∈ clsL f a (a.getD i 0)))) :
    (clsL f a (a.getD i 0) = [] → PrI f a (i + 1) left' (qs.map (·.2))) ∧ (∀ pv : Value, clsL f a (a.getD i 0) ≠ [] → PrI f a (i + 1) left' ((qs ++ [(pv, clsL f a (a.getD i 0))] : PartL).map (·.2))) := by
  have h2 := h.next ha hi hl hl'
  constructor
  · intro e
    rw [if_pos e, List.append_nil] at h2
    exact h2
  · intro pv e
    rw [if_neg e] at h2
    rw [List.map_append]
    exact h2
set_option maxRecDepth 100000 in
set_option maxHeartbeats 8000000 in
theorem rparts_any {f : Fl} (ho : f.ok) (p : Pl) (B : Option Addr) (cb : Nat) (a : List Nat) (w : World) (hin : FlIn w f p) (ha : Reg a) (hra : Row w w.heap.size B (qvs a)) :
    Calls Tryz.prog 24 #[f.val p, .slice B a.length cb] w (PartsOf f a w) := by
  have hal := ha.len
  have HAV : Hid (∀ k, k < a.length → ∃ b o, B = some ⟨b, o, none⟩ ∧ ∀ w', Below w.heap.size w w' → w'.cell? ⟨b, o + k, none⟩ = some (.int .i64 (a.getD k 0 : Nat))) := Lib.hid fun k hk => row_valN hra hk
  have HMK : Hid (∀ w', Below w.heap.size w w' → Calls Tryz.prog 32 #[.slice B a.length cb] w' (MkPost (ivn a) w')) := Lib.hid fun w' b => marks_at w' B cb a ha (hra.lift b)
  have HPT : Hid (∀ w' g x, Below w.heap.size w w' → Row w' w'.heap.size (some ⟨g, 0, none⟩) (bvs (mkL (ivn a))) → Calls Tryz.prog 50 #[f.val p, .slice (some ⟨g, 0, none⟩) 4096 4096, .int .i64 ((x : Nat) : Int)] w' (NewL w' (clsL f a x))) := Lib.hid fun w' g x b h => rpart_any ho p g 4096 a x w' (hin.lift b) h
  have HAT : Hid (∀ i, i < a.length → a.getD i 0 < 4096) := Lib.hid fun i hi => ha.lt _ (by
    rw [List.getD_eq_getElem?_getD, List.getElem?_eq_getElem hi]
    exact List.getElem_mem hi)
  have HCT : Hid (∀ x k, k < (clsL f a x).length → (clsL f a x).getD k 0 < 4096) := Lib.hid fun x k hk => by
    have : (clsL f a x).getD k 0 ∈ clsL f a x := by
      rw [List.getD_eq_getElem?_getD, List.getElem?_eq_getElem hk]
      exact List.getElem_mem hk
    have := clsL_lt this
    have := ho.kinds
    have := ho.size
    omega
  have HCL : Hid (∀ x, (clsL f a x).length ≤ 4096) := Lib.hid fun x => by have := clsL_len f a x; have := ho.kinds; have := ho.size; omega
  have HP0 : Hid (PrI f a 0 (fun c => (mkL (ivn a)).getD c false) (([] : PartL).map (·.2))) := Lib.hid (PrI.start (a := a) (f := f) fun c => by
    by_cases hc : c < 4096
    · rw [mkL_at _ hc, decide_eq_true_iff, mem_ivn]
    · rw [List.getD_eq_getElem?_getD, List.getElem?_eq_none (by rw [mkL_len]; omega)]
      constructor
      · intro h; cases h
      · intro h
        have := ha.lt c h
        omega)
  have HPS : Hid (∀ i lf (qs : PartL), i < a.length → PrI f a i lf (qs.map (·.2)) → lf (a.getD i 0) = false → PrI f a (i + 1) lf (qs.map (·.2))) := Lib.hid fun i lf qs hi h hl => h.skip hi (.inl hl)
  have HPN := Lib.hid (fun i lf (qs : PartL) (hi : i < a.length) (h : PrI f a i lf (qs.map (·.2))) (hl : lf (a.getD i 0) = true) lf' => PrI.next2 (left' := lf') h ha hi hl)
  have HFI : Hid (∀ w3 w' t A c lf (qs : PartL), Below w.heap.size w w3 → PrI f a a.length lf (qs.map (·.2)) → Sp w3 w' (t :: RowT 1 (.slice A qs.length c) qs.length (qs.map (·.1)) :: PTq qs) → PartsOf f a w (.returned (.slice A qs.length c)) w') := Lib.hid fun w3 w' t A c lf qs b h hs => by
    have hrow := row_of_any (hs.grow 1 rfl)
    exact ⟨A, c, qs, rfl, h.known, h.parts, hrow, parts_rows hs, next_below b hs.below⟩
  have HML : Hid ((mkL (ivn a)).length = 4096) := Lib.hid (mkL_len _)
  generalize PartsOf f a w = QQ at *
  unfold MkPost at HMK
  unfold NewL at HPT
  clear ho hin ha hra
  generalize mkL (ivn a) = MK at *
  generalize PrI f a = PI at *
  generalize clsL f a = CL at *
  obtain ⟨A1, c1, A2, c2⟩ := p
  obtain ⟨W, H, D, K, O⟩ := f
  dsimp only [Fl.val] at *
  generalize K.length = n at *
  generalize O.length = n2 at *
  have hal' : (a.length : Int) ≤ 4096 := by omega
  have HAL := Lib.hid hal
  clear hal
  have HKB : Hid (∀ w', Below (w.alloc (.cells (boxV W H D A1 n c1 A2 n2 c2) 24)).heap.size (w.alloc (.cells (boxV W H D A1 n c1 A2 n2 c2) 24)) w' → BoxS w.heap.size W H D A1 n c1 A2 n2 c2 w' ∧ Below w.heap.size w w') := Lib.hid fun w' b => ⟨boxS ((Blk.fresh w _ _).under b (by simp)), next_below ((Below.refl _ w).alloc (Nat.le_refl _) _) b⟩
  go_enter Tryz.func24, Tryz.ntmps24
  go_upto_region 1 with (fail)
  generalize w.alloc (.cells #[.int .i64 W, .int .i64 H, .int .i64 D, .slice A1 n c1, .slice A2 n2 c2] 24) = wb at *
  go_upto_region 2 with (go_at_call 32; refine (HMK.out _ (HKB.out _ (Below.refl _ wb)).2).mono ?_; rintro e w1 ⟨g1, rfl, h1⟩)
  have B1 := Lib.hid h1.below
  have HIN1 := Lib.hid (row_of_grow (h1.grow 0 rfl))
  clear h1
  go_upto_region 3 with (go_at_call 32; refine (HMK.out _ (HKB.out _ B1.out).2).mono ?_; rintro e w2 ⟨g2, rfl, h2⟩)
  have HK1 : Hid (∀ w', Below w1.heap.size w1 w' → BoxS w.heap.size W H D A1 n c1 A2 n2 c2 w' ∧ Below w.heap.size w w' ∧ Row w' w'.heap.size (some ⟨g1, 0, none⟩) (bvs MK)) := Lib.hid fun w' b => ⟨(HKB.out w' (next_below B1.out b)).1, (HKB.out w' (next_below B1.out b)).2, HIN1.out.lift b⟩
  have HFI1 := Lib.hid (fun w' t A c lf qs => HFI.out w1 w' t A c lf qs (HKB.out _ B1.out).2)
  have HS0 : Hid (Sp w1 w2 (RowT 1 (slV g2 4096) 4096 (bvs MK) :: RowT 1 (.slice none 0 0) ([] : PartL).length (([] : PartL).map (·.1)) :: PTq [])) := Lib.hid (h2.nil_row 1)
  clear h2 HKB HMK HIN1 B1 HFI
  go_wp2_with fail
  go_loopw [7, 8, 9, 10] (fun ov iv _ _ wr => ∃ (i : Nat) (lf : List Bool) (qs : PartL), iv = .int .i64 ((i : Nat) : Int) ∧ i ≤ a.length ∧ qs.length ≤ i ∧ Hid (lf.length = 4096) ∧ Hid (PI i (fun c => lf.getD c false) (qs.map (·.2))) ∧ Hid (Sp w1 wr (RowT 1 (slV g2 4096) 4096 (bvs lf) :: RowT 1 ov qs.length (qs.map (·.1)) :: PTq qs))) (fun _ iv _ _ _ => a.length - (intOf iv).toNat)
  case atStart => exact ⟨0, MK, [], rfl, Nat.zero_le _, Nat.le_refl _, HML, HP0, HS0⟩
  case round =>
    clear HS0 HP0 HML
    obtain ⟨i, lf, qs, rfl, hi, hqi, HLF, HPI, HSP⟩ := hrel
    obtain ⟨Aq, cq, rfl⟩ := (HSP.out.grow 1 rfl).slice
    by_cases hlt : i < a.length
    · obtain ⟨b, o, rfl, hc⟩ := HAV.out i hlt
      have hx4 := HAT.out i hlt
      have HC : Hid (∀ w', Below wr.heap.size wr w' → w'.cell? ⟨b, o + i, none⟩ = some (.int .i64 ((a.getD i 0 : Nat) : Int))) := Lib.hid fun w' bw => hc _ (HK1.out _ (next_below HSP.out.below bw)).2.1
      have HPSi := Lib.hid (HPS.out i (fun c => lf.getD c false) qs hlt HPI.out)
      have HPNi := Lib.hid (HPN.out i (fun c => lf.getD c false) qs hlt HPI.out)
      have hi9 : (i : Int) < (a.length : Int) := by omega
      have HQL : Hid (qs.length ≤ 4096) := Lib.hid (by have := HAL.out; omega)
      have HKR : Hid (∀ w', Below wr.heap.size wr w' → BoxS w.heap.size W H D A1 n c1 A2 n2 c2 w' ∧ Below w.heap.size w w' ∧ Row w' w'.heap.size (some ⟨g1, 0, none⟩) (bvs MK)) := Lib.hid fun w' bw => HK1.out w' (next_below HSP.out.below bw)
      clear hc HPS HPN HAT HPI
      generalize a.getD i 0 = x at *
      have hx4' : (x : Int) < 4096 := by omega
      obtain ⟨x0, x1⟩ := Grow.cell (HSP.out.grow 0 rfl) (bvs_at (l := lf) (k := x) (by rw [HLF.out]; exact hx4))
      have z := HC.out _ (Below.refl _ _)
      cases hb : lf.getD x false
      · rw [hb] at x0
        have HP2 := Lib.hid (HPSi.out hb)
        clear HPSi HPNi
        go_wp2_with fail
        go_roundw
        case rel => exact ⟨i + 1, lf, qs, by simp, hlt, by omega, HLF, HP2, HSP⟩
        case measure => simp [intOf]; omega
      · rw [hb] at x0
        have HPNX := Lib.hid (fun lf' => HPNi.out hb lf')
        have HB0 : Hid (Below wr.heap.size wr wr.drew) := Lib.hid (Below.refl _ wr).drew
        have HPTx := Lib.hid (fun w' b h => HPT.out w' g1 x b h)
        have HCTx := Lib.hid (HCT.out x)
        have HCLx := Lib.hid (HCL.out x)
        clear HPSi HPNi hb HPT HCT HCL
        generalize CL x = P at *
        go_upto_region 8 with (fail)
        clear x0 x1 z
        obtain ⟨m0, m1, m2, m3, m4⟩ := (HKR.out _ (Below.refl _ _)).1
        have z := HC.out _ (Below.refl _ _)
        go_region_held3 (fun w' => w'.cell? ⟨b, o + i, none⟩ = some (.int .i64 (x : Int)) ∧ BoxS w.heap.size W H D A1 n c1 A2 n2 c2 w') (first | exact ⟨HC.out _ HB0.out, (HKR.out _ HB0.out).1⟩ | exact ⟨HC.out _ b7, (HKR.out _ b7).1⟩ | exact HC.out _ HB0.out | exact HC.out _ b7 | exact (HKR.out _ HB0.out).1 | exact (HKR.out _ b7).1 | go_keep)
          (first | (go_at_call 50; refine (HPTx.out _ (HKR.out _ HB0.out).2.1 (HKR.out _ HB0.out).2.2).mono ?_; rintro e w7 ⟨pv, rfl, h7⟩; have b7 := HB0.out.trans (h7.below.mono HB0.out.size)))
        have HS7 : Hid (Sp w1 w7 (RowT 1 (slV g2 4096) 4096 (bvs lf) :: RowT 1 (.slice Aq qs.length cq) qs.length (qs.map (·.1)) :: (PTq qs ++ [RowT 1 pv P.length (qvs P)]))) := Lib.hid (join (HSP.out.keep HB0.out) h7)
        obtain ⟨Ap, cp, rfl⟩ := (h7.grow 0 rfl).slice
        clear h7 b7 z m0 m1 m2 m3 m4 HSP HC HKR HB0 HPTx
        have HPL : Hid ((P.length : Int) ≤ 4096) := Lib.hid (by have := HCLx.out; omega)
        go_wp2_with fail
        go_loopw [10] (fun kv wr => ∃ (k : Nat) (lf2 : List Bool), kv = .int .i64 ((k : Nat) : Int) ∧ k ≤ P.length ∧ Hid (lf2.length = 4096) ∧ Hid (∀ c, lf2.getD c false = (lf.getD c false && !decide (c ∈ P.take k))) ∧ Hid (Sp w1 wr (RowT 1 (slV g2 4096) 4096 (bvs lf2) :: RowT 1 (.slice Aq qs.length cq) qs.length (qs.map (·.1)) :: (PTq qs ++ [RowT 1 (.slice Ap P.length cp) P.length (qvs P)])))) (fun kv _ => P.length - (intOf kv).toNat)
        case atStart => exact ⟨0, lf, rfl, Nat.zero_le _, HLF, Lib.hid (fun c => by simp), HS7⟩
        case round =>
          clear HS7
          obtain ⟨k, lf2, rfl, hk, HL2, HLV, HSP⟩ := hrel
          by_cases hkl : k < P.length
          · have hg := HSP.out.grow ((PTq qs).length + 2) (size := 1) (v := .slice Ap P.length cp) (n := P.length) (xs := qvs P) (by
              rw [List.getElem?_cons_succ, List.getElem?_cons_succ, List.getElem?_append_right (Nat.le_refl _), Nat.sub_self]
              rfl)
            obtain ⟨b3, o3, rfl, hc3⟩ := row_valN (row_of_any hg) hkl
            have z3 := hc3 _ (Below.refl _ _)
            have hy4 := HCTx.out k hkl
            have hk4 : (k : Int) < (P.length : Int) := by omega
            have hk5 : (k : Int) < 4096 := by have := HPL.out; omega
            have HLV2 : Hid (∀ c, (lf2.set (P.getD k 0) false).getD c false = (lf.getD c false && !decide (c ∈ P.take (k + 1)))) := Lib.hid (left_next (lf := fun c => lf.getD c false) (lf' := fun c => lf2.getD c false) hkl HLV.out fun c => getD_set _ _ _ _ (by rw [HL2.out]; exact hy4) c)
            clear hg hc3
            generalize P.getD k 0 = y at *
            have hy4' : (y : Int) < 4096 := by omega
            obtain ⟨x0, x1⟩ := Grow.cell (HSP.out.grow 0 rfl) (bvs_at (l := lf2) (k := y) (by rw [HL2.out]; exact hy4))
            have HS3 : Hid (Sp w1 (wr.setCell ⟨g2, y, none⟩ (.bool false)) (RowT 1 (slV g2 4096) 4096 (bvs (lf2.set y false)) :: RowT 1 (.slice Aq qs.length cq) qs.length (qs.map (·.1)) :: (PTq qs ++ [RowT 1 (.slice (some ⟨b3, o3, none⟩) P.length cp) P.length (qvs P)]))) := Lib.hid (by
              have := HSP.out.store 0 rfl y hy4 (.bool false)
              rw [bvs_set] at this
              exact this)
            have HL3 : Hid ((lf2.set y false).length = 4096) := Lib.hid (by rw [List.length_set]; exact HL2.out)
            clear HLV HL2 HSP
            generalize lf2.set y false = lf3 at *
            generalize lf2.getD y false = ov at *
            go_wp2_with fail
            go_roundw
            case rel => exact ⟨k + 1, lf3, by simp, hkl, HL3, HLV2, HS3⟩
            case measure => simp [intOf]; omega
          · obtain rfl : k = P.length := by omega
            have HLW : Hid (∀ c, lf2.getD c false = (lf.getD c false && !decide (c ∈ P))) := Lib.hid (by
              have := HLV.out
              rw [List.take_length] at this
              exact this)
            obtain ⟨hn0, hn1⟩ := HPNX.out (fun c => lf2.getD c false) HLW.out
            have HN0 := Lib.hid hn0
            have HN1 := Lib.hid hn1
            clear hn0 hn1 HPNX HLV HLW
            by_cases hp0 : P = []
            · have hP : Hid (Sp w1 wr (RowT 1 (slV g2 4096) 4096 (bvs lf2) :: RowT 1 (.slice Aq qs.length cq) qs.length (qs.map (·.1)) :: PTq qs)) := Lib.hid (Sp.front (X := RowT 1 (slV g2 4096) 4096 (bvs lf2) :: RowT 1 (.slice Aq qs.length cq) qs.length (qs.map (·.1)) :: PTq qs) HSP.out)
              have HP2 := Lib.hid (HN0.out hp0)
              subst hp0
              clear HN0 HN1 HSP HCTx HCLx HPL
              go_wp2_with fail
              go_roundw
              case rel => exact ⟨i + 1, lf2, qs, by simp, hlt, by omega, HL2, HP2, hP⟩
              case measure => simp [intOf]; omega
            · have hpl : 0 < P.length := List.length_pos_iff.2 hp0
              have hpl' : (0 : Int) < (P.length : Int) := by omega
              have HP2 := Lib.hid (HN1.out (.slice Ap P.length cp) hp0)
              have HPU := Lib.hid (push_sl (v := .slice Aq qs.length cq) (xs := qs.map (·.1)) HSP.out 1 (by rw [List.length_map]; rfl) (.slice Ap P.length cp) rfl (by rw [List.length_map]; have := HQL.out; omega) 22)
              clear HN0 HN1 HSP HCTx HCLx hp0
              have HPM : Hid (∀ v w', Sp w1 w' (RowT 1 (slV g2 4096) 4096 (bvs lf2) :: RowT 1 v (qs.map (fun q => q.1) ++ [(.slice Ap P.length cp : Value)]).length (qs.map (fun q => q.1) ++ [(.slice Ap P.length cp : Value)]) :: (PTq qs ++ [RowT 1 (.slice Ap P.length cp) P.length (qvs P)])) → Sp w1 w' (RowT 1 (slV g2 4096) 4096 (bvs lf2) :: RowT 1 v (qs ++ [((.slice Ap P.length cp : Value), P)] : PartL).length ((qs ++ [((.slice Ap P.length cp : Value), P)] : PartL).map (fun q => q.1)) :: PTq (qs ++ [((.slice Ap P.length cp : Value), P)]))) := Lib.hid fun v w' h => by
                have e1 : ((qs ++ [((.slice Ap P.length cp : Value), P)] : PartL).map (fun q => q.1)) = qs.map (fun q => q.1) ++ [.slice Ap P.length cp] := by simp
                have e2 : PTq (qs ++ [((.slice Ap P.length cp : Value), P)]) = PTq qs ++ [RowT 1 (.slice Ap P.length cp) P.length (qvs P)] := by simp [PTq]
                have e3 : (qs ++ [((.slice Ap P.length cp : Value), P)] : PartL).length = (qs.map (fun q => q.1) ++ [(.slice Ap P.length cp : Value)]).length := by simp
                rw [e3, e1, e2]
                exact h
              go_upto_region 14 with (fail)
              go_wp2_with (at_builtin; obtain ⟨v8, w8, r8, h8⟩ := HPU.out; have H8 := Lib.hid (HPM.out v8 w8 h8); refine wpList_append_run rfl _ _ _ _ rfl (by simp [go_sem]) (by simp [go_sem]) r8 ?_; clear r8 h8)
              go_roundw
              case rel => exact ⟨i + 1, lf2, qs ++ [(.slice Ap P.length cp, P)], by simp, hlt, by rw [List.length_append]; simp; omega, HL2, HP2, H8⟩
              case measure => simp [intOf]; omega
    · obtain rfl : i = a.length := by omega
      have HX := Lib.hid (HFI1.out wr _ Aq cq _ qs HPI.out HSP.out)
      clear HAV HPS HPN HAT HCT HCL HPT HFI1 HPI
      go_wp2_with fail
      have hx := HX.out
      exact hx
end Rgn
end Go.Proofs.YtgophgnfiboefaaGreatDoor

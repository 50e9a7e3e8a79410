/- FloorTells. -/
import Derived.Test.YtncbhhnojdhpeaaDoorFsC
namespace Go.Proofs.YtncbhhnojdhpeaaDoor
open Go.RowKit Wire
open Txt (Row)
open Own
open Dsk (Only nth)
set_option linter.unusedVariables false
set_option linter.unusedSimpArgs false
namespace Flo
theorem right_as (f : Fl) (p : Pl) (w : World) (hin : FlIn w f p) (hlk : f.Kind.length ≤ 9223372036854775807) (hlo : f.Out.length ≤ 9223372036854775807) (b : Bool) (hb : b = true ↔ f.ok) :
    Calls Tryd.prog 10 #[f.val p] w fun e w' => e = .returned (.bool b) ∧ Below w.heap.size w w' :=
  (right_any f p w hin hlk hlo).mono fun e w' ⟨b', he, hb', hw⟩ => by
    have : b' = b := by rw [Bool.eq_iff_iff, hb', hb]
    rw [this] at he
    exact ⟨he, hw⟩
theorem qRight_as (f : Fl) (p : Pl) (w : World) (hin : FlIn w f p) (hlk : f.Kind.length ≤ 9223372036854775807) (hlo : f.Out.length ≤ 9223372036854775807) (b : Bool) (hb : b = true ↔ f.ok) :
    Calls Tryd.prog 11 #[f.val p] w fun e w' => e = .returned (.bool b) ∧ Below w.heap.size w w' :=
  (qRight_any f p w hin hlk hlo).mono fun e w' ⟨b', he, hb', hw⟩ => by
    have : b' = b := by rw [Bool.eq_iff_iff, hb', hb]
    rw [this] at he
    exact ⟨he, hw⟩
theorem same_as (w : World) (A B : Option Addr) (n m c d : Nat) (l l' : List Int) (hn : n = l.length) (hm : m = l'.length) (hl : l.length ≤ 9223372036854775807) (e : l = l') (ha : Row w w.heap.size A (ivs l)) (hb : Row w w.heap.size B (ivs l')) :
    Calls Tryd.prog 24 #[.slice A n c, .slice B m d] w fun e w' => e = .returned (.bool true) ∧ Below w.heap.size w w' := by
  subst hn hm e
  refine (qSame_any w A B c d l l hl hl ha hb).mono fun e w' ⟨he, hw⟩ => ⟨?_, hw⟩
  rw [he, decide_eq_true rfl]
theorem pathIs_len {f : Fl} {avoid : List Int} {a b : Int} {l : List Int} (ho : f.ok) (h : PathIs f avoid a b l) : l.length ≤ 5000 := by
  rcases h with ⟨rfl, _⟩ | ⟨a', b', l', _, _, rfl, hl⟩
  · show 0 ≤ 5000
    omega
  · rw [List.length_map]
    have hw := hl.way ho
    have h1 := (fw_iff ho).2 hw
    apply Classical.byContradiction
    intro e
    have hk := ho.kinds
    have hs := ho.size
    have hnd : ∀ (x : Nat), x < l'.length → ∀ c, l'[l'.length - 1 - x]? = some c → To f avoid b' x c := fun x hx c hc => hl.rest ho x hx c hc
    have hnodup : l'.Nodup := by
      refine List.pairwise_iff_getElem.2 fun i j hi hj hij e2 => ?_
      have g1 : l'[i]? = some l'[i] := List.getElem?_eq_getElem hi
      have g2 : l'[j]? = some l'[i] := by rw [e2]; exact List.getElem?_eq_getElem hj
      have t2 := hl.from_ ho g2
      have pre : ∀ i c x, l'[i]? = some c → To f avoid b' x c → To f avoid b' (x + i) a' := by
        intro i
        induction i with
        | zero =>
          intro c x h0 hx
          rw [hl.head] at h0
          obtain rfl := Option.some.inj h0
          exact hx
        | succ i ih =>
          intro c x hc hx
          have hil := (List.getElem?_eq_some_iff.1 hc).1
          have g3 : l'[i]? = some l'[i] := List.getElem?_eq_getElem (by omega)
          obtain ⟨d, _, s2, _⟩ := hl.step i _ c g3 hc
          have := ih _ (x + 1) g3 (To.ahead ho hx s2 (hl.opened _ (List.mem_of_getElem? g3)).2)
          rwa [show x + (i + 1) = x + 1 + i from by omega]
      have := hl.short _ (pre i _ _ g1 t2)
      omega
    have := nodup_len hnodup (fun c hc => (hl.opened c hc).1)
    omega
set_option maxRecDepth 100000 in
set_option maxHeartbeats 8000000 in
theorem tells_law (f : Fl) (p : Pl) (x y z d : Int) (A : Option Addr) (ca : Nat) (src : List Int) (B : Option Addr) (cb : Nat) (avoid : List Int) (W : World) (hv : VS W ∧ VO W) (hin : FlIn W f p) (hlk : f.Kind.length ≤ maxLen) (hlo : f.Out.length ≤ maxLen) (hs : Row W W.heap.size A (ivs src)) (hsm : src.length ≤ maxLen) (ha : Row W W.heap.size B (ivs avoid)) (ham : avoid.length ≤ maxLen) :
    Calls Tryd.prog 3 #[f.val p, .int .i64 x, .int .i64 y, .int .i64 z, .int .i64 d, .slice A src.length ca, .slice B avoid.length cb] W fun e w' => e = .returned (.bool true) ∧ Below W.heap.size W w' := by
  have hk9 : f.Kind.length ≤ 9223372036854775807 := by unfold maxLen at hlk; omega
  have ho9 : f.Out.length ≤ 9223372036854775807 := by unfold maxLen at hlo; omega
  obtain ⟨r, hr⟩ : ∃ r : Bool, (r = true) ↔ f.ok := ⟨@decide _ (Classical.propDecidable _), @decide_eq_true_iff _ (Classical.propDecidable _)⟩
  have HSM : Hid (∀ w', Below W.heap.size W w' → Calls Tryd.prog 8 #[] w' fun e w2 => e = .returned (.bool true) ∧ Below w'.heap.size w' w2) := Lib.hid fun w' b => small_any w' (hv.1.lift b)
  obtain ⟨fw, hfw⟩ : ∃ b : Bool, b = (decide (f.Kind.length ≤ 300) && decide (f.Out.length ≤ 300)) := ⟨_, rfl⟩
  have HFE : Hid (∀ w', Calls Tryd.prog 9 #[f.val p, .int .i64 300] w' fun e w2 => e = .returned (.bool fw) ∧ Below w'.heap.size w' w2) := Lib.hid fun w' => by rw [hfw]; exact qFew_any f p 300 w' hk9 ho9
  have HR1 : Hid (∀ w', Below W.heap.size W w' → Calls Tryd.prog 10 #[f.val p] w' fun e w2 => e = .returned (.bool r) ∧ Below w'.heap.size w' w2) := Lib.hid fun w' b => right_as f p w' (hin.lift b) hk9 ho9 r hr
  have HR2 : Hid (∀ w', Below W.heap.size W w' → Calls Tryd.prog 11 #[f.val p] w' fun e w2 => e = .returned (.bool r) ∧ Below w'.heap.size w' w2) := Lib.hid fun w' b => qRight_as f p w' (hin.lift b) hk9 ho9 r hr
  have HO1 : Hid (∀ w', Below W.heap.size W w' → Calls Tryd.prog 12 #[.int .i64 d] w' fun e w2 => e = .returned (.int .i64 (opp d)) ∧ w' = w2) := Lib.hid fun w' b => opposite_any d w' (hv.2.lift b)
  have HO2 : Hid (∀ w', Calls Tryd.prog 13 #[.int .i64 d] w' fun e w2 => e = .returned (.int .i64 (opp d)) ∧ w' = w2) := Lib.hid (qOpposite_any d)
  have HBA : Hid (∀ o, Below W.heap.size W (W.alloc o)) := Lib.hid fun o => (Below.refl _ W).alloc (Nat.le_refl _) o
  have HOK : Hid (r = true → f.ok) := Lib.hid hr.1
  have HV := Lib.hid hv
  have HIN := Lib.hid hin
  have HSR := Lib.hid hs
  have HAR := Lib.hid ha
  have hse : (opp d != opp d) = false := by simp
  obtain ⟨A1, c1, A2, c2⟩ := p
  obtain ⟨n, hn⟩ : ∃ n : Nat, n = f.Kind.length := ⟨_, rfl⟩
  have HNF := Lib.hid hn
  have HVAL : Hid (f.val ⟨A1, c1, A2, c2⟩ = .agg #[.int .i64 f.W, .int .i64 f.H, .int .i64 f.D, .slice A1 n c1, .slice A2 f.Out.length c2]) := Lib.hid (by rw [hn])
  rw [HVAL.out] at HFE HR1 HR2 ⊢
  clear hv hin hlk hlo hk9 ho9 hr hs ha hn hfw
  generalize opp d = od at *
  generalize hW9 : f.W = fW at *
  generalize hH9 : f.H = fH at *
  generalize hD9 : f.D = fD at *
  generalize hO9 : f.Out.length = n2 at *
  clear hW9 hH9 hD9 hO9
  have hs9 : src.length ≤ 9223372036854775807 := by unfold maxLen at hsm; omega
  have ha9 : avoid.length ≤ 9223372036854775807 := by unfold maxLen at ham; omega
  clear hsm ham
  have HB0 : Hid (∀ w', Below (W.alloc (.cells (boxV fW fH fD A1 n c1 A2 n2 c2) 24)).heap.size (W.alloc (.cells (boxV fW fH fD A1 n c1 A2 n2 c2) 24)) w' → BoxS W.heap.size fW fH fD A1 n c1 A2 n2 c2 w' ∧ Below W.heap.size W w') := Lib.hid fun w' b => ⟨boxS ((Blk.fresh W _ _).under b (by simp)), next_below ((Below.refl _ W).alloc (Nat.le_refl _) _) b⟩
  cases fw
  · clear HR1 HR2 HO1 HO2 HV HIN HSR HAR HOK HNF HVAL
    generalize src.length = ls at *
    generalize avoid.length = la at *
    go_enter Tryd.func3, Tryd.ntmps3
    go_wp2_with (first
          | (go_at_call 8; refine (HSM.out _ (HBA.out _)).mono ?_; rintro e w1 ⟨rfl, b1⟩; have B1 := Lib.hid b1; obtain ⟨⟨m0, m1, m2, m3, m4⟩, hbw⟩ := HB0.out _ B1.out; have H1 := Lib.hid hbw; clear hbw b1)
          | (go_at_call 9; refine (HFE.out _).mono ?_; rintro e w2 ⟨rfl, b2⟩; have B2 := Lib.hid (next_below B1.out b2); clear m0 m1 m2 m3 m4; obtain ⟨⟨m0, m1, m2, m3, m4⟩, hbw⟩ := HB0.out _ B2.out; have H2 := Lib.hid hbw; clear hbw b2))
    go_ret
    exact ⟨rfl, H2.out⟩
  by_cases hs30 : (src.length : Int) ≤ 30
  case neg =>
    have hs31 : (30 : Int) < src.length := by omega
    clear HR1 HR2 HO1 HO2 HV HIN HSR HAR HOK HNF HVAL hs30
    generalize src.length = ls at *
    generalize avoid.length = la at *
    go_enter Tryd.func3, Tryd.ntmps3
    go_wp2_with (first
          | (go_at_call 8; refine (HSM.out _ (HBA.out _)).mono ?_; rintro e w1 ⟨rfl, b1⟩; have B1 := Lib.hid b1; obtain ⟨⟨m0, m1, m2, m3, m4⟩, hbw⟩ := HB0.out _ B1.out; have H1 := Lib.hid hbw; clear hbw b1)
          | (go_at_call 9; refine (HFE.out _).mono ?_; rintro e w2 ⟨rfl, b2⟩; have B2 := Lib.hid (next_below B1.out b2); clear m0 m1 m2 m3 m4; obtain ⟨⟨m0, m1, m2, m3, m4⟩, hbw⟩ := HB0.out _ B2.out; have H2 := Lib.hid hbw; clear hbw b2))
    go_ret
    exact ⟨rfl, H2.out⟩
  by_cases ha30 : (avoid.length : Int) ≤ 30
  case neg =>
    have ha31 : (30 : Int) < avoid.length := by omega
    clear HR1 HR2 HO1 HO2 HV HIN HSR HAR HOK HNF HVAL ha30
    generalize src.length = ls at *
    generalize avoid.length = la at *
    go_enter Tryd.func3, Tryd.ntmps3
    go_wp2_with (first
          | (go_at_call 8; refine (HSM.out _ (HBA.out _)).mono ?_; rintro e w1 ⟨rfl, b1⟩; have B1 := Lib.hid b1; obtain ⟨⟨m0, m1, m2, m3, m4⟩, hbw⟩ := HB0.out _ B1.out; have H1 := Lib.hid hbw; clear hbw b1)
          | (go_at_call 9; refine (HFE.out _).mono ?_; rintro e w2 ⟨rfl, b2⟩; have B2 := Lib.hid (next_below B1.out b2); clear m0 m1 m2 m3 m4; obtain ⟨⟨m0, m1, m2, m3, m4⟩, hbw⟩ := HB0.out _ B2.out; have H2 := Lib.hid hbw; clear hbw b2))
    go_ret
    exact ⟨rfl, H2.out⟩
  cases r
  · clear HOK HV HIN HSR HAR HNF HVAL
    have HLS : Hid ((src.length : Int) ≤ 30) := Lib.hid hs30
    have HLA : Hid ((avoid.length : Int) ≤ 30) := Lib.hid ha30
    go_enter Tryd.func3, Tryd.ntmps3
    go_upto_region 4 with (first
        | (go_at_call 8; refine (HSM.out _ (HBA.out _)).mono ?_; rintro e w1 ⟨rfl, b1⟩; have B1 := Lib.hid b1; obtain ⟨⟨m0, m1, m2, m3, m4⟩, hbw⟩ := HB0.out _ B1.out; have H1 := Lib.hid hbw; clear hbw b1)
        | (go_at_call 9; refine (HFE.out _).mono ?_; rintro e w2 ⟨rfl, b2⟩; have B2 := Lib.hid (next_below B1.out b2); clear m0 m1 m2 m3 m4; obtain ⟨⟨m0, m1, m2, m3, m4⟩, hbw⟩ := HB0.out _ B2.out; have H2 := Lib.hid hbw; clear hbw b2))
    have BD : Hid (Below (W.alloc (.cells (boxV fW fH fD A1 n c1 A2 n2 c2) 24)).heap.size (W.alloc (.cells (boxV fW fH fD A1 n c1 A2 n2 c2) 24)) w2.drew) := Lib.hid (next_below B2.out (Below.refl _ w2).drew)
    clear m0 m1 m2 m3 m4
    go_region_held3 (fun w' => BoxS W.heap.size fW fH fD A1 n c1 A2 n2 c2 w') (first | exact (HB0.out _ BD.out).1 | exact (HB0.out _ B3.out).1 | exact (HB0.out _ B4.out).1 | go_keep)
        (first
          | (go_at_call 10; refine (HR1.out _ (HB0.out _ BD.out).2).mono ?_; rintro e w3 ⟨rfl, b3⟩; have B3 := Lib.hid (next_below BD.out b3); clear b3)
          | (go_at_call 11; refine (HR2.out _ (HB0.out _ B3.out).2).mono ?_; rintro e w4 ⟨rfl, b4⟩; have B4 := Lib.hid (next_below B3.out b4); clear b4)
          | (go_at_call 12; refine (HO1.out _ (HB0.out _ B4.out).2).mono ?_; rintro e wq ⟨rfl, rfl⟩)
          | (go_at_call 13; refine (HO2.out _).mono ?_; rintro e wq ⟨rfl, rfl⟩))
    obtain ⟨⟨m0, m1, m2, m3, m4⟩, hbw⟩ := HB0.out _ B4.out
    have H4 := Lib.hid hbw
    clear hbw
    go_wp2_with (go_at_call 11; refine (HR2.out _ H4.out).mono ?_; rintro e w5 ⟨rfl, b5⟩; have H5 := Lib.hid (next_below H4.out b5); clear b5)
    go_ret
    exact ⟨rfl, H5.out⟩
  · have ho := HOK.out rfl
    have HPA : ∀ X : Prop, X → Hid X := fun X h => Lib.hid h
    have HAT1 : Hid (∀ w', Calls Tryd.prog 14 #[f.val ⟨A1, c1, A2, c2⟩, .int .i64 x] w' fun e w2 => e = .returned (.tuple #[.int .i64 (f.at x).1, .int .i64 (f.at x).2.1, .int .i64 (f.at x).2.2]) ∧ Below w'.heap.size w' w2) := Lib.hid fun w' => at_any ho _ x w'
    have HAT2 : Hid (∀ w', Calls Tryd.prog 15 #[f.val ⟨A1, c1, A2, c2⟩, .int .i64 x] w' fun e w2 => e = .returned (.tuple #[.int .i64 (f.at x).1, .int .i64 (f.at x).2.1, .int .i64 (f.at x).2.2]) ∧ Below w'.heap.size w' w2) := Lib.hid fun w' => qAt_any ho _ x w'
    have HNX1 : Hid (∀ w', Below W.heap.size W w' → Calls Tryd.prog 16 #[f.val ⟨A1, c1, A2, c2⟩, .int .i64 x, .int .i64 d] w' fun e w2 => e = .returned (resN (f.next x d)) ∧ Below w'.heap.size w' w2) := Lib.hid fun w' b => next_any ho _ x d w' (HV.out.1.lift b) (HIN.out.lift b)
    have HNX2 : Hid (∀ w', Below W.heap.size W w' → Calls Tryd.prog 17 #[f.val ⟨A1, c1, A2, c2⟩, .int .i64 x, .int .i64 d] w' fun e w2 => e = .returned (resN (f.next x d)) ∧ Below w'.heap.size w' w2) := Lib.hid fun w' b => qNext_any ho _ x d w' (HIN.out.lift b)
    have HBK1 : Hid (∀ w', Below W.heap.size W w' → Calls Tryd.prog 18 #[f.val ⟨A1, c1, A2, c2⟩, .int .i64 x, .int .i64 d] w' fun e w2 => e = .returned (resN (f.back x d)) ∧ Below w'.heap.size w' w2) := Lib.hid fun w' b => back_any ho _ x d w' (HV.out.1.lift b) (HV.out.2.lift b) (HIN.out.lift b)
    have HBK2 : Hid (∀ w', Below W.heap.size W w' → Calls Tryd.prog 19 #[f.val ⟨A1, c1, A2, c2⟩, .int .i64 x, .int .i64 d] w' fun e w2 => e = .returned (resN (f.back x d)) ∧ Below w'.heap.size w' w2) := Lib.hid fun w' b => qBack_any ho _ x d w' (HIN.out.lift b)
    have HCE1 : Hid (∀ w', Calls Tryd.prog 20 #[f.val ⟨A1, c1, A2, c2⟩, .int .i64 x, .int .i64 y, .int .i64 z] w' fun e w2 => e = .returned (.int .i64 (f.cell x y z)) ∧ Below w'.heap.size w' w2) := Lib.hid fun w' => cell_any ho _ x y z w'
    have HCE2 : Hid (∀ w', Calls Tryd.prog 21 #[f.val ⟨A1, c1, A2, c2⟩, .int .i64 x, .int .i64 y, .int .i64 z] w' fun e w2 => e = .returned (.int .i64 (f.cell x y z)) ∧ Below w'.heap.size w' w2) := Lib.hid fun w' => qCell_any ho _ x y z w'
    have HNE1 : Hid (∀ w', Below W.heap.size W w' → Calls Tryd.prog 22 #[f.val ⟨A1, c1, A2, c2⟩, .int .i64 x, .int .i64 y] w' fun e w2 => e = .returned (.bool (f.near x y)) ∧ Below w'.heap.size w' w2) := Lib.hid fun w' b => near_any ho _ x y w' (HV.out.1.lift b)
    have HNE2 : Hid (∀ w', Calls Tryd.prog 23 #[f.val ⟨A1, c1, A2, c2⟩, .int .i64 x, .int .i64 y] w' fun e w2 => e = .returned (.bool (f.near x y)) ∧ Below w'.heap.size w' w2) := Lib.hid fun w' => qNear_any ho _ x y w'
    have HDI1 : Hid (∀ w', Below W.heap.size W w' → Calls Tryd.prog 25 #[f.val ⟨A1, c1, A2, c2⟩, .slice A src.length ca, .slice B avoid.length cb] w' (SpreadPost f src avoid false w')) := Lib.hid fun w' b => dist_any ho _ A B ca cb src avoid w' (HV.out.1.lift b) (HIN.out.lift b) (HSR.out.lift b) (HAR.out.lift b) (by omega) (by omega)
    have HDI2 : Hid (∀ w', Below W.heap.size W w' → Calls Tryd.prog 26 #[f.val ⟨A1, c1, A2, c2⟩, .slice A src.length ca, .slice B avoid.length cb] w' (SpreadPost f src avoid false w')) := Lib.hid fun w' b => qDist_any ho _ A B ca cb src avoid w' (HIN.out.lift b) (HSR.out.lift b) (HAR.out.lift b) (by omega) (by omega)
    have HPA1 : Hid (∀ w', Below W.heap.size W w' → Calls Tryd.prog 27 #[f.val ⟨A1, c1, A2, c2⟩, .int .i64 x, .int .i64 y, .slice B avoid.length cb] w' (PathPost f avoid x y w')) := Lib.hid fun w' b => path_any ho _ x y B cb avoid w' (HV.out.1.lift b) (HIN.out.lift b) (HAR.out.lift b) (by omega)
    have HPA2 : Hid (∀ w', Below W.heap.size W w' → Calls Tryd.prog 28 #[f.val ⟨A1, c1, A2, c2⟩, .int .i64 x, .int .i64 y, .slice B avoid.length cb] w' (PathPost f avoid x y w')) := Lib.hid fun w' b => qPath_any ho _ x y B cb avoid w' (HIN.out.lift b) (HAR.out.lift b) (by omega)
    rw [HVAL.out] at HAT1 HAT2 HNX1 HNX2 HBK1 HBK2 HCE1 HCE2 HNE1 HNE2 HDI1 HDI2 HPA1 HPA2
    have HSD : Hid (∀ l l' : List Int, IsDist f.Kind.length (spSrc f src avoid) (spE f avoid false) l → IsDist f.Kind.length (spSrc f src avoid) (spE f avoid false) l' → l = l' ∧ n = l.length ∧ n = l'.length ∧ l.length ≤ 9223372036854775807) := Lib.hid fun l l' h h' => ⟨h.unique h', by rw [HNF.out, h.len], by rw [HNF.out, h'.len], by have := h.len; have := ho.kinds; have := ho.size; omega⟩
    have HSPa : Hid (∀ l l' : List Int, PathIs f avoid x y l → PathIs f avoid x y l' → l = l' ∧ l.length ≤ 9223372036854775807) := Lib.hid fun l l' h h' => ⟨h.unique ho h', by have := pathIs_len ho h; omega⟩
    unfold SpreadPost at HDI1 HDI2
    unfold PathPost at HPA1 HPA2
    rw [← HNF.out] at HDI1 HDI2 HSD
    dsimp only [resN] at HNX1 HNX2 HBK1 HBK2
    have HSDn := HSD
    clear HPA HOK HVAL HNF HIN HV HSR HAR ho
    generalize (f.at x).1 = a1 at *
    generalize (f.at x).2.1 = a2 at *
    generalize (f.at x).2.2 = a3 at *
    generalize (f.next x d).getD 0 = n1 at *
    generalize (f.next x d).isSome = nb1 at *
    generalize (f.back x d).getD 0 = k1 at *
    generalize (f.back x d).isSome = kb1 at *
    generalize f.cell x y z = cv at *
    generalize f.near x y = nr at *
    have q1 : (a1 != a1) = false := by simp
    have q2 : (a2 != a2) = false := by simp
    have q3 : (a3 != a3) = false := by simp
    have q4 : (n1 != n1) = false := by simp
    have q5 : (nb1 != nb1) = false := by simp
    have q6 : (k1 != k1) = false := by simp
    have q7 : (kb1 != kb1) = false := by simp
    have q8 : (cv == cv) = true := by simp
    have q9 : (nr == nr) = true := by simp
    have HLS : Hid ((src.length : Int) ≤ 30) := Lib.hid hs30
    have HLA : Hid ((avoid.length : Int) ≤ 30) := Lib.hid ha30
    go_enter Tryd.func3, Tryd.ntmps3
    go_upto_region 4 with (first
        | (go_at_call 8; refine (HSM.out _ (HBA.out _)).mono ?_; rintro e w1 ⟨rfl, b1⟩; have B1 := Lib.hid b1; obtain ⟨⟨m0, m1, m2, m3, m4⟩, hbw⟩ := HB0.out _ B1.out; have H1 := Lib.hid hbw; clear hbw b1)
        | (go_at_call 9; refine (HFE.out _).mono ?_; rintro e w2 ⟨rfl, b2⟩; have B2 := Lib.hid (next_below B1.out b2); clear m0 m1 m2 m3 m4; obtain ⟨⟨m0, m1, m2, m3, m4⟩, hbw⟩ := HB0.out _ B2.out; have H2 := Lib.hid hbw; clear hbw b2))
    have BD : Hid (Below (W.alloc (.cells (boxV fW fH fD A1 n c1 A2 n2 c2) 24)).heap.size (W.alloc (.cells (boxV fW fH fD A1 n c1 A2 n2 c2) 24)) w2.drew) := Lib.hid (next_below B2.out (Below.refl _ w2).drew)
    clear m0 m1 m2 m3 m4
    go_region_held3 (fun w' => BoxS W.heap.size fW fH fD A1 n c1 A2 n2 c2 w') (first | exact (HB0.out _ BD.out).1 | exact (HB0.out _ B3.out).1 | exact (HB0.out _ B4.out).1 | go_keep)
        (first
          | (go_at_call 10; refine (HR1.out _ (HB0.out _ BD.out).2).mono ?_; rintro e w3 ⟨rfl, b3⟩; have B3 := Lib.hid (next_below BD.out b3); clear b3)
          | (go_at_call 11; refine (HR2.out _ (HB0.out _ B3.out).2).mono ?_; rintro e w4 ⟨rfl, b4⟩; have B4 := Lib.hid (next_below B3.out b4); clear b4)
          | (go_at_call 12; refine (HO1.out _ (HB0.out _ B4.out).2).mono ?_; rintro e wq ⟨rfl, rfl⟩)
          | (go_at_call 13; refine (HO2.out _).mono ?_; rintro e wq ⟨rfl, rfl⟩))
    obtain ⟨⟨m0, m1, m2, m3, m4⟩, hbw⟩ := HB0.out _ B4.out
    have H4 := Lib.hid hbw
    clear hbw
    go_upto_region 16 with (first
          | (go_at_call 11; refine (HR2.out _ H4.out).mono ?_; rintro e w5 ⟨rfl, b5⟩; have B5 := Lib.hid (next_below B4.out b5); clear b5 m0 m1 m2 m3 m4; obtain ⟨⟨m0, m1, m2, m3, m4⟩, hbw⟩ := HB0.out _ B5.out; have H5 := Lib.hid hbw; clear hbw)
          | (go_at_call 14; refine (HAT1.out _).mono ?_; rintro e w6 ⟨rfl, b6⟩; have B6 := Lib.hid (next_below B5.out b6); clear m0 m1 m2 m3 m4; obtain ⟨⟨m0, m1, m2, m3, m4⟩, hbw⟩ := HB0.out _ B6.out; have H6 := Lib.hid hbw; clear hbw b6)
          | (go_at_call 15; refine (HAT2.out _).mono ?_; rintro e w7 ⟨rfl, b7⟩; have B7 := Lib.hid (next_below B6.out b7); clear m0 m1 m2 m3 m4; obtain ⟨⟨m0, m1, m2, m3, m4⟩, hbw⟩ := HB0.out _ B7.out; have H7 := Lib.hid hbw; clear hbw b7)
          | (go_at_call 16; refine (HNX1.out _ H7.out).mono ?_; rintro e w8 ⟨rfl, b8⟩; have B8 := Lib.hid (next_below B7.out b8); clear m0 m1 m2 m3 m4; obtain ⟨⟨m0, m1, m2, m3, m4⟩, hbw⟩ := HB0.out _ B8.out; have H8 := Lib.hid hbw; clear hbw b8)
          | (go_at_call 17; refine (HNX2.out _ H8.out).mono ?_; rintro e w9 ⟨rfl, b9⟩; have B9 := Lib.hid (next_below B8.out b9); clear m0 m1 m2 m3 m4; obtain ⟨⟨m0, m1, m2, m3, m4⟩, hbw⟩ := HB0.out _ B9.out; have H9 := Lib.hid hbw; clear hbw b9)
          | (go_at_call 18; refine (HBK1.out _ H9.out).mono ?_; rintro e w10 ⟨rfl, b10⟩; have B10 := Lib.hid (next_below B9.out b10); clear m0 m1 m2 m3 m4; obtain ⟨⟨m0, m1, m2, m3, m4⟩, hbw⟩ := HB0.out _ B10.out; have H10 := Lib.hid hbw; clear hbw b10)
          | (go_at_call 19; refine (HBK2.out _ H10.out).mono ?_; rintro e w11 ⟨rfl, b11⟩; have B11 := Lib.hid (next_below B10.out b11); clear m0 m1 m2 m3 m4; obtain ⟨⟨m0, m1, m2, m3, m4⟩, hbw⟩ := HB0.out _ B11.out; have H11 := Lib.hid hbw; clear hbw b11))
    have BE : Hid (Below (W.alloc (.cells (boxV fW fH fD A1 n c1 A2 n2 c2) 24)).heap.size (W.alloc (.cells (boxV fW fH fD A1 n c1 A2 n2 c2) 24)) w11.drew) := Lib.hid (next_below B11.out (Below.refl _ w11).drew)
    clear m0 m1 m2 m3 m4 q1 q2 q3 q4 q5 q6 q7
    go_region_held3 (fun w' => BoxS W.heap.size fW fH fD A1 n c1 A2 n2 c2 w') (first | exact (HB0.out _ BE.out).1 | exact (HB0.out _ B12.out).1 | exact (HB0.out _ B13.out).1 | exact (HB0.out _ B14.out).1 | exact (HB0.out _ B15.out).1 | exact (HB0.out _ B16.out).1 | exact (HB0.out _ B17.out).1 | exact (HB0.out _ B18.out).1 | exact (HB0.out _ B19.out).1 | exact (HB0.out _ B20.out).1 | exact (HB0.out _ B21.out).1 | go_keep)
        (first
          | (go_at_call 20; refine (HCE1.out _).mono ?_; rintro e w12 ⟨rfl, b12⟩; have B12 := Lib.hid (next_below BE.out b12); clear b12)
          | (go_at_call 21; refine (HCE2.out _).mono ?_; rintro e w13 ⟨rfl, b13⟩; have B13 := Lib.hid (next_below B12.out b13); clear b13)
          | (go_at_call 22; refine (HNE1.out _ (HB0.out _ B13.out).2).mono ?_; rintro e w14 ⟨rfl, b14⟩; have B14 := Lib.hid (next_below B13.out b14); clear b14)
          | (go_at_call 23; refine (HNE2.out _).mono ?_; rintro e w15 ⟨rfl, b15⟩; have B15 := Lib.hid (next_below B14.out b15); clear b15)
          | (go_at_call 25; refine (HDI1.out _ (HB0.out _ B15.out).2).mono ?_; rintro e w16 ⟨D1, e1, l1, rfl, hd1, hr1, b16⟩; have B16 := Lib.hid (next_below B15.out b16); have HD1 := Lib.hid hd1; have HRA := Lib.hid hr1; clear b16 hd1 hr1)
          | (go_at_call 26; refine (HDI2.out _ (HB0.out _ B16.out).2).mono ?_; rintro e w17 ⟨D2, e2, l2, rfl, hd2, hr2, b17⟩; have B17 := Lib.hid (next_below B16.out b17); have HRB := Lib.hid (HRA.out.lift b17); have HSS := Lib.hid (same_as w17 D1 D2 n n e1 e2 l1 l2 (HSD.out l1 l2 HD1.out hd2).2.1 (HSD.out l1 l2 HD1.out hd2).2.2.1 (HSD.out l1 l2 HD1.out hd2).2.2.2 (HSD.out l1 l2 HD1.out hd2).1 HRB.out hr2); clear b17 hd2 hr2)
          | (go_at_call 24; (with_reducible refine HSS.out.mono ?_); rintro e w18 ⟨rfl, b18⟩; have B18 := Lib.hid (next_below B17.out b18); clear b18)
          | (go_at_call 27; refine (HPA1.out _ (HB0.out _ B18.out).2).mono ?_; rintro e w19 ⟨P1, f1, j1, rfl, hp1, hs1, b19⟩; have B19 := Lib.hid (next_below B18.out b19); have HP1 := Lib.hid hp1; have HRC := Lib.hid hs1; clear b19 hp1 hs1)
          | (go_at_call 28; refine (HPA2.out _ (HB0.out _ B19.out).2).mono ?_; rintro e w20 ⟨P2, f2, j2, rfl, hp2, hs2, b20⟩; have B20 := Lib.hid (next_below B19.out b20); have HRD := Lib.hid (HRC.out.lift b20); have HST := Lib.hid (same_as w20 P1 P2 j1.length j2.length f1 f2 j1 j2 rfl rfl (HSPa.out j1 j2 HP1.out hp2).2 (HSPa.out j1 j2 HP1.out hp2).1 HRD.out hs2); clear b20 hp2 hs2)
          | (go_at_call 24; (with_reducible refine HST.out.mono ?_); rintro e w21 ⟨rfl, b21⟩; have B21 := Lib.hid (next_below B20.out b21); clear b21))
    go_wp2_with fail
    go_ret
    exact ⟨rfl, (HB0.out _ B21.out).2⟩
end Flo
end Go.Proofs.YtncbhhnojdhpeaaDoor

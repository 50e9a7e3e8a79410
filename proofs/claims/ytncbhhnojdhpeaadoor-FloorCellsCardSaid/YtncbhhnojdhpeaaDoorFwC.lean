/- FloorCells. -/
import Derived.Test.YtncbhhnojdhpeaaDoorFwB
import Derived.Test.YtncbhhnojdhpeaaDoorFwM
import Derived.Lib.MinMax
namespace Go.Proofs.YtncbhhnojdhpeaaDoor
open Go.RowKit Wire
open Txt (Row)
open Own
open Dsk (Only nth)
set_option linter.unusedVariables false
set_option linter.unusedSimpArgs false
namespace Flo
structure CelR (W1 : World) (jv : Value) (wr : World) (j : Nat) : Prop where
  jv : jv = .int .i64 j
  le : j ≤ 6
  below : Below W1.heap.size W1 wr
set_option maxRecDepth 100000 in
set_option maxHeartbeats 8000000 in
theorem cells_law (f : Fl) (p : Pl) (c e x y z : Int) (W : World) (hv : VS W) (hin : FlIn W f p) (hlk : f.Kind.length ≤ maxLen) (hlo : f.Out.length ≤ maxLen) :
    Calls Tryd.prog 4 #[f.val p, .int .i64 c, .int .i64 e, .int .i64 x, .int .i64 y, .int .i64 z] W fun e w' => e = .returned (.bool true) ∧ Below W.heap.size W w' := by
  have hk9 : f.Kind.length ≤ 9223372036854775807 := by unfold maxLen at hlk; omega
  have ho9 : f.Out.length ≤ 9223372036854775807 := by unfold maxLen at hlo; omega
  obtain ⟨fb, hfb⟩ : ∃ r : Bool, (r = true) ↔ (f.ok ∧ f.Kind.length ≤ 300) := ⟨@decide _ (Classical.propDecidable _), @decide_eq_true_iff _ (Classical.propDecidable _)⟩
  have HSM : Hid (∀ w', Below W.heap.size W w' → Calls Tryd.prog 8 #[] w' fun e w2 => e = .returned (.bool true) ∧ Below w'.heap.size w' w2) := Lib.hid fun w' b => small_any w' (hv.lift b)
  have HFA : Hid (∀ w', Below W.heap.size W w' → Calls Tryd.prog 29 #[f.val p, .int .i64 300] w' fun e w2 => e = .returned (.bool fb) ∧ Below w'.heap.size w' w2) := Lib.hid fun w' b => fair_as f p w' (hin.lift b) hk9 ho9 fb hfb
  have HB : Hid (∀ o, Below W.heap.size W (W.alloc o)) := Lib.hid fun o => (Below.refl _ W).alloc (Nat.le_refl _) o
  have HV := Lib.hid hv
  have HIN := Lib.hid hin
  have HOK := Lib.hid hfb.1
  obtain ⟨A1, c1, A2, c2⟩ := p
  obtain ⟨n, hn⟩ : ∃ n : Nat, n = f.Kind.length := ⟨_, rfl⟩
  have HNF := Lib.hid hn
  have HVAL : Hid (f.val ⟨A1, c1, A2, c2⟩ = .agg #[.int .i64 f.W, .int .i64 f.H, .int .i64 f.D, .slice A1 n c1, .slice A2 f.Out.length c2]) := Lib.hid (by rw [hn])
  rw [HVAL.out] at HFA ⊢
  clear hv hin hlk hlo hk9 ho9 hfb hn
  generalize hW9 : f.W = fW at *
  generalize hH9 : f.H = fH at *
  generalize hD9 : f.D = fD at *
  generalize hO9 : f.Out.length = n2 at *
  clear hW9 hH9 hD9 hO9
  have HB0 : Hid (∀ w', Below (W.alloc (.cells (boxV fW fH fD A1 n c1 A2 n2 c2) 24)).heap.size (W.alloc (.cells (boxV fW fH fD A1 n c1 A2 n2 c2) 24)) w' → BoxS W.heap.size fW fH fD A1 n c1 A2 n2 c2 w' ∧ Below W.heap.size W w') := Lib.hid fun w' b => ⟨boxS ((Blk.fresh W _ _).under b (by simp)), next_below ((Below.refl _ W).alloc (Nat.le_refl _) _) b⟩
  cases fb
  · clear HOK HV HIN HNF HVAL
    go_enter Tryd.func4, Tryd.ntmps4
    go_wp2_with (first
          | (go_at_call 8; refine (HSM.out _ (HB.out _)).mono ?_; rintro e w1 ⟨rfl, b1⟩; have B1 := Lib.hid b1; obtain ⟨⟨m0, m1, m2, m3, m4⟩, hbw⟩ := HB0.out _ B1.out; have H1 := Lib.hid hbw; clear hbw b1)
          | (go_at_call 29; refine (HFA.out _ H1.out).mono ?_; rintro e w2 ⟨rfl, b2⟩; have B2 := Lib.hid (next_below B1.out b2); clear m0 m1 m2 m3 m4; obtain ⟨⟨m0, m1, m2, m3, m4⟩, hbw⟩ := HB0.out _ B2.out; have H2 := Lib.hid hbw; clear hbw b2))
    go_ret
    exact ⟨rfl, H2.out⟩
  obtain ⟨ho, hk300⟩ := HOK.out rfl
  have hkn : (f.Kind.length : Int) = f.W * f.H * f.D := ho.kinds
  have HIS : Hid (∀ q, f.is q = true ↔ (0 ≤ q ∧ q < (n : Int))) := Lib.hid fun q => by
    unfold Fl.is
    rw [decide_eq_true_iff, HNF.out, hkn]
  have HCE : Hid (∀ x y z w', Calls Tryd.prog 20 #[f.val ⟨A1, c1, A2, c2⟩, .int .i64 x, .int .i64 y, .int .i64 z] w' fun e w2 => e = .returned (.int .i64 (f.cell x y z)) ∧ Below w'.heap.size w' w2) := Lib.hid fun x y z w' => cell_any ho _ x y z w'
  have HAT : Hid (∀ q w', f.is q = true → Calls Tryd.prog 14 #[f.val ⟨A1, c1, A2, c2⟩, .int .i64 q] w' fun e w2 => e = .returned (.tuple #[.int .i64 (f.px q), .int .i64 (f.py q), .int .i64 (f.pz q)]) ∧ Below w'.heap.size w' w2) := Lib.hid fun q w' hq => by
    have := at_any ho ⟨A1, c1, A2, c2⟩ q w'
    unfold Fl.at at this
    rwa [if_pos hq] at this
  have HNE : Hid (∀ a b w', Below W.heap.size W w' → Calls Tryd.prog 22 #[f.val ⟨A1, c1, A2, c2⟩, .int .i64 a, .int .i64 b] w' fun e w2 => e = .returned (.bool (f.near a b)) ∧ Below w'.heap.size w' w2) := Lib.hid fun a b w' bb => near_any ho _ a b w' (HV.out.lift bb)
  have HNX : Hid (∀ q d w', Below W.heap.size W w' → Calls Tryd.prog 16 #[f.val ⟨A1, c1, A2, c2⟩, .int .i64 q, .int .i64 d] w' fun e w2 => e = .returned (resN (f.next q d)) ∧ Below w'.heap.size w' w2) := Lib.hid fun q d w' bb => next_any ho _ q d w' (HV.out.lift bb) (HIN.out.lift bb)
  have hcase : (f.cell x y z = -1) ∨ (0 ≤ f.cell x y z ∧ f.cell x y z < (n : Int) ∧ f.is (f.cell x y z) = true ∧ f.px (f.cell x y z) = x ∧ f.py (f.cell x y z) = y ∧ f.pz (f.cell x y z) = z) := by
    by_cases h : f.inn x y z
    · have h1 := Fl.cell_is h
      obtain ⟨h2, h3⟩ := (HIS.out _).1 h1
      obtain ⟨h4, h5, h6⟩ := Fl.cell_place h
      exact .inr ⟨h2, h3, h1, h4, h5, h6⟩
    · exact .inl (Fl.cell_out h)
  have HCA := Lib.hid hcase
  have HC1 := Lib.hid (HCE.out x y z)
  have HSY : Hid (f.near e c = f.near c e) := Lib.hid (near_symm ho)
  have HSE : Hid (f.near c c = false) := Lib.hid (near_self ho)
  have HNC : Hid (f.near c e = true → (0 ≤ c ∧ c < (n : Int)) ∧ 0 ≤ e ∧ e < (n : Int)) := Lib.hid fun h => ⟨(HIS.out c).1 (near_cells h).1, (HIS.out e).1 (near_cells h).2⟩
  have HN1 : Hid (∀ w', Below W.heap.size W w' → Calls Tryd.prog 22 #[f.val ⟨A1, c1, A2, c2⟩, .int .i64 c, .int .i64 e] w' fun e' w2 => e' = .returned (.bool (f.near c e)) ∧ Below w'.heap.size w' w2) := Lib.hid (HNE.out c e)
  have HN2 : Hid (∀ w', Below W.heap.size W w' → Calls Tryd.prog 22 #[f.val ⟨A1, c1, A2, c2⟩, .int .i64 e, .int .i64 c] w' fun e' w2 => e' = .returned (.bool (f.near c e)) ∧ Below w'.heap.size w' w2) := Lib.hid fun w' bb => by have := HNE.out e c w' bb; rwa [HSY.out] at this
  have HN3 : Hid (∀ w', Below W.heap.size W w' → Calls Tryd.prog 22 #[f.val ⟨A1, c1, A2, c2⟩, .int .i64 c, .int .i64 c] w' fun e' w2 => e' = .returned (.bool false) ∧ Below w'.heap.size w' w2) := Lib.hid fun w' bb => by have := HNE.out c c w' bb; rwa [HSE.out] at this
  have HPL : Hid (∀ q, f.is q = true → 0 ≤ f.px q ∧ f.px q < 4096 ∧ 0 ≤ f.py q ∧ f.py q < 4096 ∧ 0 ≤ f.pz q ∧ f.pz q < 4096) := Lib.hid fun q hq => by
    obtain ⟨a0, a1, b0, b1, c0, c1⟩ := Fl.place_in ho hq
    obtain ⟨s1, s2, _, _⟩ := ho.small
    have s3 := ho.d4
    omega
  have HPC : Hid (∀ q, f.is q = true → f.cell (f.px q) (f.py q) (f.pz q) = q) := Lib.hid fun q hq => Fl.place_cell ho hq
  have HNP : Hid (f.is c = true → f.is e = true → f.near c e = (decide (far1 (f.px c) (f.px e) + far1 (f.py c) (f.py e) = 1) && decide (f.pz c = f.pz e))) := Lib.hid (near_place ho)
  have HFR : Hid (∀ d, f.next c d = some e → far1 (f.px c) (f.px e) + far1 (f.py c) (f.py e) + far1 (f.pz c) (f.pz e) = 1) := Lib.hid fun d h => next_far ho h
  rw [HVAL.out] at HC1 HN1 HN2 HN3 HNX HAT HCE
  clear HOK HV HIN HNF HNE HSY HSE hkn ho hk300 hcase
  have HNR : Hid (f.near c e = f.near c e) := Lib.hid rfl
  generalize hnr : f.near c e = nr at *
  clear hnr HNR
  generalize hcv : f.cell x y z = cv at *
  clear hcv
  go_enter Tryd.func4, Tryd.ntmps4
  go_upto_if 39 with (first
      | (go_at_call 8; refine (HSM.out _ (HB.out _)).mono ?_; rintro e w1 ⟨rfl, b1⟩; have B1 := Lib.hid b1; obtain ⟨⟨m0, m1, m2, m3, m4⟩, hbw⟩ := HB0.out _ B1.out; have H1 := Lib.hid hbw; clear hbw b1)
      | (go_at_call 29; refine (HFA.out _ H1.out).mono ?_; rintro e w2 ⟨rfl, b2⟩; have B2 := Lib.hid (next_below B1.out b2); clear m0 m1 m2 m3 m4; obtain ⟨⟨m0, m1, m2, m3, m4⟩, hbw⟩ := HB0.out _ B2.out; have H2 := Lib.hid hbw; clear hbw b2)
      | (go_at_call 20; refine (HC1.out _).mono ?_; rintro e w3 ⟨rfl, b3⟩; have B3 := Lib.hid (next_below B2.out b3); clear m0 m1 m2 m3 m4; obtain ⟨⟨m0, m1, m2, m3, m4⟩, hbw⟩ := HB0.out _ B3.out; have H3 := Lib.hid hbw; clear hbw b3))
  go_cut [14] (fun _ wx => Below (W.alloc (.cells (boxV fW fH fD A1 n c1 A2 n2 c2) 24)).heap.size (W.alloc (.cells (boxV fW fH fD A1 n c1 A2 n2 c2) 24)) wx)
  case first =>
    rcases HCA.out with rfl | ⟨g1, g2, g3, g4, g5, g6⟩
    · go_wp2_with fail
      all_goals
        go_meet
        case rel => exact B3.out
    · have HA1 := Lib.hid (fun w' => HAT.out cv w' g3)
      rw [g4, g5, g6] at HA1
      have qx : (x != x) = false := by simp
      have qy : (y != y) = false := by simp
      have qz : (z != z) = false := by simp
      clear g3 g4 g5 g6
      go_wp2_with (first
      | (go_at_call 14; refine (HA1.out _).mono ?_; rintro e w4 ⟨rfl, b4⟩; have B4 := Lib.hid (next_below B3.out b4); clear m0 m1 m2 m3 m4; obtain ⟨⟨m0, m1, m2, m3, m4⟩, hbw⟩ := HB0.out _ B4.out; have H4 := Lib.hid hbw; clear hbw b4))
      all_goals
        go_meet
        case rel => exact B4.out
  case rest =>
    have BC := Lib.hid hcut
    have BD : Hid (Below (W.alloc (.cells (boxV fW fH fD A1 n c1 A2 n2 c2) 24)).heap.size (W.alloc (.cells (boxV fW fH fD A1 n c1 A2 n2 c2) 24)) wc.drew) := Lib.hid (next_below hcut (Below.refl _ wc).drew)
    clear hcut B1 H1 B2 H2 B3 H3 m0 m1 m2 m3 m4 HCA HC1
    have hnn : (nr != nr) = false := by simp
    go_upto_region 9 with (fail)
    go_region_held3 (fun w' => BoxS W.heap.size fW fH fD A1 n c1 A2 n2 c2 w') (first | exact (HB0.out _ BD.out).1 | exact (HB0.out _ B5.out).1 | exact (HB0.out _ B6.out).1 | exact (HB0.out _ B7.out).1 | go_keep)
      (first
        | (go_at_call 22; (with_reducible refine (HN1.out _ (HB0.out _ BD.out).2).mono ?_); rintro e w5 ⟨rfl, b5⟩; have B5 := Lib.hid (next_below BD.out b5); clear b5)
        | (go_at_call 22; (with_reducible refine (HN2.out _ (HB0.out _ B5.out).2).mono ?_); rintro e w6 ⟨rfl, b6⟩; have B6 := Lib.hid (next_below B5.out b6); clear b6)
        | (go_at_call 22; (with_reducible refine (HN3.out _ (HB0.out _ B6.out).2).mono ?_); rintro e w7 ⟨rfl, b7⟩; have B7 := Lib.hid (next_below B6.out b7); clear b7))
    obtain ⟨⟨m0, m1, m2, m3, m4⟩, hbw⟩ := HB0.out _ B7.out
    have H7 := Lib.hid hbw
    clear hbw B5 B6 BD BC HN2 HN3
    by_cases hc0 : 0 ≤ c
    case neg =>
      obtain rfl : nr = false := by
        cases hq : nr with
        | false => rfl
        | true => exact absurd (HNC.out hq).1.1 hc0
      have hc1 : c < 0 := by omega
      clear hc0
      clear HNC HNP HFR HPL HPC HAT HCE HIS HNX
      go_wp2_with (go_at_call 22; (with_reducible refine (HN1.out _ H7.out).mono ?_); rintro e w8 ⟨rfl, b8⟩; have H8 := Lib.hid (next_below H7.out b8); clear b8)
      go_ret
      exact ⟨rfl, H8.out⟩
    by_cases hcn : c < (n : Int)
    case neg =>
      obtain rfl : nr = false := by
        cases hq : nr with
        | false => rfl
        | true => exact absurd (HNC.out hq).1.2 hcn
      clear HNC HNP HFR HPL HPC HAT HCE HIS HNX
      go_wp2_with (go_at_call 22; (with_reducible refine (HN1.out _ H7.out).mono ?_); rintro e w8 ⟨rfl, b8⟩; have H8 := Lib.hid (next_below H7.out b8); clear b8)
      go_ret
      exact ⟨rfl, H8.out⟩
    by_cases he0 : 0 ≤ e
    case neg =>
      obtain rfl : nr = false := by
        cases hq : nr with
        | false => rfl
        | true => exact absurd (HNC.out hq).2.1 he0
      have he1 : e < 0 := by omega
      clear he0
      clear HNC HNP HFR HPL HPC HAT HCE HIS HNX
      go_wp2_with (go_at_call 22; (with_reducible refine (HN1.out _ H7.out).mono ?_); rintro e w8 ⟨rfl, b8⟩; have H8 := Lib.hid (next_below H7.out b8); clear b8)
      go_ret
      exact ⟨rfl, H8.out⟩
    by_cases hen : e < (n : Int)
    case neg =>
      obtain rfl : nr = false := by
        cases hq : nr with
        | false => rfl
        | true => exact absurd (HNC.out hq).2.2 hen
      clear HNC HNP HFR HPL HPC HAT HCE HIS HNX
      go_wp2_with (go_at_call 22; (with_reducible refine (HN1.out _ H7.out).mono ?_); rintro e w8 ⟨rfl, b8⟩; have H8 := Lib.hid (next_below H7.out b8); clear b8)
      go_ret
      exact ⟨rfl, H8.out⟩
    have hic := (HIS.out c).2 ⟨hc0, hcn⟩
    have hie := (HIS.out e).2 ⟨he0, hen⟩
    have HA1 := Lib.hid (fun w' => HAT.out c w' hic)
    have HA2 := Lib.hid (fun w' => HAT.out e w' hie)
    have HC2 := Lib.hid (HCE.out (f.px c) (f.py c) (f.pz c))
    rw [HPC.out c hic] at HC2
    obtain ⟨pa0, pa1, pb0, pb1, pc0, pc1⟩ := HPL.out c hic
    obtain ⟨qa0, qa1, qb0, qb1, qc0, qc1⟩ := HPL.out e hie
    have hnp := HNP.out hic hie
    have HF3 := Lib.hid (fun d => HFR.out d)
    obtain ⟨fx, hfx⟩ : ∃ v, v = far1 (f.px c) (f.px e) := ⟨_, rfl⟩
    obtain ⟨fy, hfy⟩ : ∃ v, v = far1 (f.py c) (f.py e) := ⟨_, rfl⟩
    obtain ⟨fz, hfz⟩ : ∃ v, v = far1 (f.pz c) (f.pz e) := ⟨_, rfl⟩
    rw [← hfx, ← hfy] at hnp
    rw [← hfx, ← hfy, ← hfz] at HF3
    have gx := far1_eq (f.px c) (f.px e)
    have gy := far1_eq (f.py c) (f.py e)
    have gz := far1_eq (f.pz c) (f.pz e)
    rw [← hfx] at gx
    rw [← hfy] at gy
    rw [← hfz] at gz
    have bx : 0 ≤ fx ∧ fx < 4096 := by omega
    have by' : 0 ≤ fy ∧ fy < 4096 := by omega
    have bz : 0 ≤ fz ∧ fz < 4096 := by omega
    have mx : max (f.px c - f.px e) (f.px e - f.px c) = fx := by rw [hfx]; rfl
    have my : max (f.py c - f.py e) (f.py e - f.py c) = fy := by rw [hfy]; rfl
    have mz : max (f.pz c - f.pz e) (f.pz e - f.pz c) = fz := by rw [hfz]; rfl
    have HB1 : Hid ((fx + fy = 1 ∧ f.pz c = f.pz e ∧ nr = true) ∨ (fx + fy = 1 ∧ f.pz c ≠ f.pz e ∧ nr = false) ∨ (fx + fy ≠ 1 ∧ nr = false)) := Lib.hid (by
      by_cases h1 : fx + fy = 1
      · by_cases h2 : f.pz c = f.pz e
        · exact .inl ⟨h1, h2, by rw [hnp, decide_eq_true h1, decide_eq_true h2]; rfl⟩
        · exact .inr (.inl ⟨h1, h2, by rw [hnp, decide_eq_false h2, Bool.and_false]⟩)
      · exact .inr (.inr ⟨h1, by rw [hnp, decide_eq_false h1, Bool.false_and]⟩))
    have HNX1 := Lib.hid (HNX.out c)
    clear HNC HNP HFR HPL HPC HAT HCE HIS HNX hnp hfx hfy hfz gx gy gz hic hie hnn
    generalize f.px c = pa at *
    generalize f.py c = pb at *
    generalize f.pz c = pc at *
    generalize f.px e = qa at *
    generalize f.py e = qb at *
    generalize f.pz e = qc at *
    have hcc : (c != c) = false := by simp
    obtain ⟨bx0, bx1⟩ := bx
    obtain ⟨by0, by1⟩ := by'
    obtain ⟨bz0, bz1⟩ := bz
    have HBZ : Hid (0 ≤ fz ∧ fz < 4096 ∧ max (pc - qc) (qc - pc) = fz) := Lib.hid ⟨bz0, bz1, mz⟩
    clear bz0 bz1 mz
    rcases HB1.out with ⟨h1, h2, rfl⟩ | ⟨h1, h2, rfl⟩ | ⟨h1, rfl⟩
    · have t1 : (fx + fy == 1) = true := beq_iff_eq.2 h1
      have t2 : (pc == qc) = true := beq_iff_eq.2 h2
      clear h1 h2
      go_wp2_with (first
            | (go_at_call 14; (with_reducible refine (HA1.out _).mono ?_); rintro e w8 ⟨rfl, b8⟩; have B8 := Lib.hid (next_below B7.out b8); clear m0 m1 m2 m3 m4; obtain ⟨⟨m0, m1, m2, m3, m4⟩, hbw⟩ := HB0.out _ B8.out; have H8 := Lib.hid hbw; clear hbw b8)
            | (go_at_call 14; (with_reducible refine (HA2.out _).mono ?_); rintro e w9 ⟨rfl, b9⟩; have B9 := Lib.hid (next_below B8.out b9); clear m0 m1 m2 m3 m4; obtain ⟨⟨m0, m1, m2, m3, m4⟩, hbw⟩ := HB0.out _ B9.out; have H9 := Lib.hid hbw; clear hbw b9)
            | (go_at_call 20; refine (HC2.out _).mono ?_; rintro e w10 ⟨rfl, b10⟩; have B10 := Lib.hid (next_below B9.out b10); clear m0 m1 m2 m3 m4; obtain ⟨⟨m0, m1, m2, m3, m4⟩, hbw⟩ := HB0.out _ B10.out; have H10 := Lib.hid hbw; clear hbw b10)
            | (go_at_call 22; (with_reducible refine (HN1.out _ H10.out).mono ?_); rintro e w11 ⟨rfl, b11⟩; have B11 := Lib.hid (next_below B10.out b11); clear m0 m1 m2 m3 m4; obtain ⟨⟨m0, m1, m2, m3, m4⟩, hbw⟩ := HB0.out _ B11.out; have H11 := Lib.hid hbw; clear hbw b11))
      clear m0 m1 m2 m3 m4 hcc mx my
      go_loopw [25, 26, 27] (fun dv _ _ wr => ∃ j, CelR (W.alloc (.cells (boxV fW fH fD A1 n c1 A2 n2 c2) 24)) dv wr j) (fun dv _ _ _ => 6 - (intOf dv).toNat)
      case atStart => exact ⟨0, rfl, by omega, B11.out⟩
      case round =>
        obtain ⟨j, ⟨rfl, hj, hbel⟩⟩ := hrel
        have HBL := Lib.hid hbel
        obtain ⟨⟨m0, m1, m2, m3, m4⟩, hbw⟩ := HB0.out _ hbel
        have HBW := Lib.hid hbw
        clear hbel hbw
        by_cases hlt : j < 6
        · have HNJ := Lib.hid (HNX1.out (j : Int))
          have HFJ := Lib.hid (HF3.out (j : Int))
          generalize f.next c j = o at *
          rcases o with _ | m
          · dsimp only [resN, Option.getD, Option.isSome] at HNJ
            clear HFJ
            go_wp2_with (go_at_call 16; refine (HNJ.out _ HBW.out).mono ?_; rintro e w12 ⟨rfl, b12⟩; have B12 := Lib.hid (next_below HBL.out b12); clear b12)
            go_roundw
            case rel => exact ⟨j + 1, by simp, by omega, B12.out⟩
            case measure => simp [intOf]; omega
          · dsimp only [resN, Option.getD, Option.isSome] at HNJ
            by_cases hme : m = e
            · subst hme
              have h3 := HFJ.out rfl
              obtain ⟨bz0, bz1, mz⟩ := HBZ.out
              have hmm : (m == m) = true := by simp
              have hff : (fx + fy + fz != 1) = false := by rw [h3]; rfl
              clear HFJ h3
              go_wp2_with (go_at_call 16; refine (HNJ.out _ HBW.out).mono ?_; rintro e w12 ⟨rfl, b12⟩; have B12 := Lib.hid (next_below HBL.out b12); clear b12)
              go_roundw
              case rel => exact ⟨j + 1, by simp, by omega, B12.out⟩
              case measure => simp [intOf]; omega
            · have hmm : (m == e) = false := ne_b hme
              clear HFJ hme
              go_wp2_with (go_at_call 16; refine (HNJ.out _ HBW.out).mono ?_; rintro e w12 ⟨rfl, b12⟩; have B12 := Lib.hid (next_below HBL.out b12); clear b12)
              go_roundw
              case rel => exact ⟨j + 1, by simp, by omega, B12.out⟩
              case measure => simp [intOf]; omega
        · obtain rfl : j = 6 := by omega
          go_wp2_with fail
          go_ret
          exact ⟨rfl, HBW.out⟩
    · have t1 : (fx + fy == 1) = true := beq_iff_eq.2 h1
      have t2 : (pc == qc) = false := ne_b h2
      clear h1 h2
      go_wp2_with (first
            | (go_at_call 14; (with_reducible refine (HA1.out _).mono ?_); rintro e w8 ⟨rfl, b8⟩; have B8 := Lib.hid (next_below B7.out b8); clear m0 m1 m2 m3 m4; obtain ⟨⟨m0, m1, m2, m3, m4⟩, hbw⟩ := HB0.out _ B8.out; have H8 := Lib.hid hbw; clear hbw b8)
            | (go_at_call 14; (with_reducible refine (HA2.out _).mono ?_); rintro e w9 ⟨rfl, b9⟩; have B9 := Lib.hid (next_below B8.out b9); clear m0 m1 m2 m3 m4; obtain ⟨⟨m0, m1, m2, m3, m4⟩, hbw⟩ := HB0.out _ B9.out; have H9 := Lib.hid hbw; clear hbw b9)
            | (go_at_call 20; refine (HC2.out _).mono ?_; rintro e w10 ⟨rfl, b10⟩; have B10 := Lib.hid (next_below B9.out b10); clear m0 m1 m2 m3 m4; obtain ⟨⟨m0, m1, m2, m3, m4⟩, hbw⟩ := HB0.out _ B10.out; have H10 := Lib.hid hbw; clear hbw b10)
            | (go_at_call 22; (with_reducible refine (HN1.out _ H10.out).mono ?_); rintro e w11 ⟨rfl, b11⟩; have B11 := Lib.hid (next_below B10.out b11); clear m0 m1 m2 m3 m4; obtain ⟨⟨m0, m1, m2, m3, m4⟩, hbw⟩ := HB0.out _ B11.out; have H11 := Lib.hid hbw; clear hbw b11))
      clear m0 m1 m2 m3 m4 hcc mx my
      go_loopw [25, 26, 27] (fun dv _ _ wr => ∃ j, CelR (W.alloc (.cells (boxV fW fH fD A1 n c1 A2 n2 c2) 24)) dv wr j) (fun dv _ _ _ => 6 - (intOf dv).toNat)
      case atStart => exact ⟨0, rfl, by omega, B11.out⟩
      case round =>
        obtain ⟨j, ⟨rfl, hj, hbel⟩⟩ := hrel
        have HBL := Lib.hid hbel
        obtain ⟨⟨m0, m1, m2, m3, m4⟩, hbw⟩ := HB0.out _ hbel
        have HBW := Lib.hid hbw
        clear hbel hbw
        by_cases hlt : j < 6
        · have HNJ := Lib.hid (HNX1.out (j : Int))
          have HFJ := Lib.hid (HF3.out (j : Int))
          generalize f.next c j = o at *
          rcases o with _ | m
          · dsimp only [resN, Option.getD, Option.isSome] at HNJ
            clear HFJ
            go_wp2_with (go_at_call 16; refine (HNJ.out _ HBW.out).mono ?_; rintro e w12 ⟨rfl, b12⟩; have B12 := Lib.hid (next_below HBL.out b12); clear b12)
            go_roundw
            case rel => exact ⟨j + 1, by simp, by omega, B12.out⟩
            case measure => simp [intOf]; omega
          · dsimp only [resN, Option.getD, Option.isSome] at HNJ
            by_cases hme : m = e
            · subst hme
              have h3 := HFJ.out rfl
              obtain ⟨bz0, bz1, mz⟩ := HBZ.out
              have hmm : (m == m) = true := by simp
              have hff : (fx + fy + fz != 1) = false := by rw [h3]; rfl
              clear HFJ h3
              go_wp2_with (go_at_call 16; refine (HNJ.out _ HBW.out).mono ?_; rintro e w12 ⟨rfl, b12⟩; have B12 := Lib.hid (next_below HBL.out b12); clear b12)
              go_roundw
              case rel => exact ⟨j + 1, by simp, by omega, B12.out⟩
              case measure => simp [intOf]; omega
            · have hmm : (m == e) = false := ne_b hme
              clear HFJ hme
              go_wp2_with (go_at_call 16; refine (HNJ.out _ HBW.out).mono ?_; rintro e w12 ⟨rfl, b12⟩; have B12 := Lib.hid (next_below HBL.out b12); clear b12)
              go_roundw
              case rel => exact ⟨j + 1, by simp, by omega, B12.out⟩
              case measure => simp [intOf]; omega
        · obtain rfl : j = 6 := by omega
          go_wp2_with fail
          go_ret
          exact ⟨rfl, HBW.out⟩
    · have t1 : (fx + fy == 1) = false := ne_b h1
      clear h1
      go_wp2_with (first
            | (go_at_call 14; (with_reducible refine (HA1.out _).mono ?_); rintro e w8 ⟨rfl, b8⟩; have B8 := Lib.hid (next_below B7.out b8); clear m0 m1 m2 m3 m4; obtain ⟨⟨m0, m1, m2, m3, m4⟩, hbw⟩ := HB0.out _ B8.out; have H8 := Lib.hid hbw; clear hbw b8)
            | (go_at_call 14; (with_reducible refine (HA2.out _).mono ?_); rintro e w9 ⟨rfl, b9⟩; have B9 := Lib.hid (next_below B8.out b9); clear m0 m1 m2 m3 m4; obtain ⟨⟨m0, m1, m2, m3, m4⟩, hbw⟩ := HB0.out _ B9.out; have H9 := Lib.hid hbw; clear hbw b9)
            | (go_at_call 20; refine (HC2.out _).mono ?_; rintro e w10 ⟨rfl, b10⟩; have B10 := Lib.hid (next_below B9.out b10); clear m0 m1 m2 m3 m4; obtain ⟨⟨m0, m1, m2, m3, m4⟩, hbw⟩ := HB0.out _ B10.out; have H10 := Lib.hid hbw; clear hbw b10)
            | (go_at_call 22; (with_reducible refine (HN1.out _ H10.out).mono ?_); rintro e w11 ⟨rfl, b11⟩; have B11 := Lib.hid (next_below B10.out b11); clear m0 m1 m2 m3 m4; obtain ⟨⟨m0, m1, m2, m3, m4⟩, hbw⟩ := HB0.out _ B11.out; have H11 := Lib.hid hbw; clear hbw b11))
      clear m0 m1 m2 m3 m4 hcc mx my
      go_loopw [25, 26, 27] (fun dv _ _ wr => ∃ j, CelR (W.alloc (.cells (boxV fW fH fD A1 n c1 A2 n2 c2) 24)) dv wr j) (fun dv _ _ _ => 6 - (intOf dv).toNat)
      case atStart => exact ⟨0, rfl, by omega, B11.out⟩
      case round =>
        obtain ⟨j, ⟨rfl, hj, hbel⟩⟩ := hrel
        have HBL := Lib.hid hbel
        obtain ⟨⟨m0, m1, m2, m3, m4⟩, hbw⟩ := HB0.out _ hbel
        have HBW := Lib.hid hbw
        clear hbel hbw
        by_cases hlt : j < 6
        · have HNJ := Lib.hid (HNX1.out (j : Int))
          have HFJ := Lib.hid (HF3.out (j : Int))
          generalize f.next c j = o at *
          rcases o with _ | m
          · dsimp only [resN, Option.getD, Option.isSome] at HNJ
            clear HFJ
            go_wp2_with (go_at_call 16; refine (HNJ.out _ HBW.out).mono ?_; rintro e w12 ⟨rfl, b12⟩; have B12 := Lib.hid (next_below HBL.out b12); clear b12)
            go_roundw
            case rel => exact ⟨j + 1, by simp, by omega, B12.out⟩
            case measure => simp [intOf]; omega
          · dsimp only [resN, Option.getD, Option.isSome] at HNJ
            by_cases hme : m = e
            · subst hme
              have h3 := HFJ.out rfl
              obtain ⟨bz0, bz1, mz⟩ := HBZ.out
              have hmm : (m == m) = true := by simp
              have hff : (fx + fy + fz != 1) = false := by rw [h3]; rfl
              clear HFJ h3
              go_wp2_with (go_at_call 16; refine (HNJ.out _ HBW.out).mono ?_; rintro e w12 ⟨rfl, b12⟩; have B12 := Lib.hid (next_below HBL.out b12); clear b12)
              go_roundw
              case rel => exact ⟨j + 1, by simp, by omega, B12.out⟩
              case measure => simp [intOf]; omega
            · have hmm : (m == e) = false := ne_b hme
              clear HFJ hme
              go_wp2_with (go_at_call 16; refine (HNJ.out _ HBW.out).mono ?_; rintro e w12 ⟨rfl, b12⟩; have B12 := Lib.hid (next_below HBL.out b12); clear b12)
              go_roundw
              case rel => exact ⟨j + 1, by simp, by omega, B12.out⟩
              case measure => simp [intOf]; omega
        · obtain rfl : j = 6 := by omega
          go_wp2_with fail
          go_ret
          exact ⟨rfl, HBW.out⟩
end Flo
end Go.Proofs.YtncbhhnojdhpeaaDoor

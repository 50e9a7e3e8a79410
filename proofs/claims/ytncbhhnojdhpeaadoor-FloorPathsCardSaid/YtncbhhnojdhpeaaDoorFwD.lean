/- FloorDist. -/
import Derived.Test.YtncbhhnojdhpeaaDoorFwB
import Derived.Deep.QuietTactic
namespace Go.Proofs.YtncbhhnojdhpeaaDoor
open Go.RowKit Wire
open Txt (Row)
open Own
open Dsk (Only nth)
set_option linter.unusedVariables false
set_option linter.unusedSimpArgs false
namespace Flo
theorem row_fixed {w : World} {A : Option Addr} {l : List Int} (h : Row w w.heap.size A (ivs l)) (h0 : 0 < l.length) : ∃ b o, A = some ⟨b, o, none⟩ ∧ ∀ k, k < l.length → ∀ w', Below w.heap.size w w' → w'.cell? ⟨b, o + k, none⟩ = some (.int .i64 (l.getD k 0)) := by
  obtain ⟨b, o, e, _⟩ := row_val h h0
  refine ⟨b, o, e, fun k hk w' hb => ?_⟩
  obtain ⟨b', o', e', h'⟩ := row_val h hk
  rw [e] at e'
  injection e' with e'
  injection e' with e1 e2 _
  subst e1 e2
  exact h' w' hb
theorem getD_gt {l : List Int} {k : Nat} (h : k < l.length) : l.getD k 0 = gt l k := by
  unfold gt
  rw [List.getD_eq_getElem?_getD, List.getD_eq_getElem?_getD, List.getElem?_eq_getElem h]
  rfl
/-- What the distances are, cell by cell. -/
structure Loc (f : Fl) (src avoid l : List Int) : Prop where
  zero : ∀ c : Nat, c < f.Kind.length → (gt l c = 0 ↔ ((c : Int) ∈ src ∧ shutB f avoid c = false))
  shut : ∀ c : Nat, c < f.Kind.length → shutB f avoid c = true → gt l c = -1
  low : ∀ c : Nat, c < f.Kind.length → -1 ≤ gt l c ∧ gt l c < f.Kind.length
  step : ∀ c d m : Nat, c < f.Kind.length → f.next c d = some (m : Int) → 0 ≤ gt l c → (m : Int) ∉ avoid → 0 ≤ gt l m ∧ gt l m ≤ gt l c + 1
  pred : ∀ c : Nat, c < f.Kind.length → 0 < gt l c → ∃ d p : Nat, d < 6 ∧ f.back c d = some (p : Int) ∧ gt l p = gt l c - 1
theorem IsDist.loc {f : Fl} {src avoid l : List Int} (ho : f.ok) (h : IsDist f.Kind.length (spSrc f src avoid) (spE f avoid false) l) : Loc f src avoid l := by
  have some' : ∀ c : Nat, c < f.Kind.length → 0 ≤ gt l c → ∃ k : Nat, gt l c = k ∧ Walk (spSrc f src avoid) (spE f avoid false) k c ∧ ∀ j, j < k → ¬ Walk (spSrc f src avoid) (spE f avoid false) j c := fun c hc h0 => h.some_ c hc (by omega)
  refine ⟨fun c hc => ⟨fun e => ?_, fun ⟨e1, e2⟩ => ?_⟩, fun c hc hs => ?_, fun c hc => ?_, fun c d m hc hm h0 hma => ?_, fun c hc h0 => ?_⟩
  · obtain ⟨k, h1, h2, _⟩ := some' c hc (by omega)
    obtain rfl : k = 0 := by omega
    cases h2 with
    | src hs => exact ⟨hs.2.1, hs.2.2⟩
  · have hw : Walk (spSrc f src avoid) (spE f avoid false) 0 c := .src ⟨hc, e1, e2⟩
    obtain ⟨k, h1, _, h3⟩ := h.some_ c hc (fun e => h.none_ c hc e 0 hw)
    have : k = 0 := by
      apply Classical.byContradiction
      intro e
      exact h3 0 (by omega) hw
    omega
  · apply Classical.byContradiction
    intro e
    obtain ⟨k, _, h2, _⟩ := h.some_ c hc e
    have := (walk_open ho h2).2
    rw [hs] at this
    cases this
  · by_cases e : gt l c = -1
    · rw [e]
      have := ho.kinds
      omega
    · obtain ⟨k, h1, _, _⟩ := h.some_ c hc e
      have := dist_lt ho h hc h1
      omega
  · obtain ⟨k, h1, h2, h3⟩ := some' c hc h0
    have hml := (next_lt ho hm).1
    have hmo : shutB f avoid m = false := by
      unfold shutB
      obtain ⟨_, s2, _⟩ := may_split (Fl.next_some hm).2.2
      rw [decide_eq_false hma, Bool.false_or]
      exact ne_b s2
    have hw : Walk (spSrc f src avoid) (spE f avoid false) (k + 1) m := .step h2 (spE_fw.2 ⟨d, (next_lt ho hm).2.2, hm, hmo⟩)
    obtain ⟨y, g1, g2, g3⟩ := h.some_ m hml (fun e => h.none_ m hml e _ hw)
    have : y ≤ k + 1 := Classical.byContradiction fun e => g3 (k + 1) (by omega) hw
    omega
  · obtain ⟨k, h1, h2, h3⟩ := some' c hc (by omega)
    obtain ⟨k', rfl⟩ : ∃ k', k = k' + 1 := ⟨k - 1, by omega⟩
    cases h2 with
    | @step _ p _ hw he =>
      obtain ⟨d, q1, q2, q3⟩ := spE_fw.1 he
      have hp := (walk_open ho hw).1
      obtain ⟨y, g1, g2, g3⟩ := h.some_ p hp (fun e => h.none_ p hp e _ hw)
      have a1 : y ≤ k' := Classical.byContradiction fun e => g3 k' (by omega) hw
      have a2 : k' ≤ y := Classical.byContradiction fun e => h3 (y + 1) (by omega) (.step g2 he)
      exact ⟨d, p, q1, Fl.next_back ho q2, by rw [g1, h1]; push_cast; omega⟩
structure DwR (w3 : World) (n : Nat) (iv : Value) (wr : World) (c : Nat) : Prop where
  iv : iv = .int .i64 c
  le : c ≤ n
  below : Below w3.heap.size w3 wr
structure DiR (f : Fl) (l : List Int) (c : Nat) (w3 : World) (fv dv : Value) (wr : World) (d : Nat) (fb : Bool) : Prop where
  fv : fv = .bool fb
  dv : dv = .int .i64 d
  le : d ≤ 6
  fnd : fb = true ∨ (0 < gt l c ∧ ∀ d' p : Nat, d' < d → f.back c d' = some (p : Int) → gt l p ≠ gt l c - 1)
  below : Below w3.heap.size w3 wr
set_option maxRecDepth 100000 in
set_option maxHeartbeats 8000000 in
theorem distl_law (f : Fl) (p : Pl) (A : Option Addr) (ca : Nat) (src : List Int) (B : Option Addr) (cb : Nat) (avoid : List Int) (W : World) (hv : VS W ∧ VO W) (hin : FlIn W f p) (hlk : f.Kind.length ≤ maxLen) (hlo : f.Out.length ≤ maxLen) (hs : Row W W.heap.size A (ivs src)) (hsm : src.length ≤ maxLen) (ha : Row W W.heap.size B (ivs avoid)) (ham : avoid.length ≤ maxLen) :
    Calls Tryd.prog 6 #[f.val p, .slice A src.length ca, .slice B avoid.length cb] W fun e w' => e = .returned (.bool true) ∧ Below W.heap.size W w' := by
  have hk9 : f.Kind.length ≤ 9223372036854775807 := by unfold maxLen at hlk; omega
  have ho9 : f.Out.length ≤ 9223372036854775807 := by unfold maxLen at hlo; omega
  have hs9 : src.length ≤ 9223372036854775807 := by unfold maxLen at hsm; omega
  have ha9 : avoid.length ≤ 9223372036854775807 := by unfold maxLen at ham; omega
  obtain ⟨fb, hfb⟩ : ∃ r : Bool, (r = true) ↔ (f.ok ∧ f.Kind.length ≤ 300) := ⟨@decide _ (Classical.propDecidable _), @decide_eq_true_iff _ (Classical.propDecidable _)⟩
  have HSM : Hid (∀ w', Below W.heap.size W w' → Calls Tryd.prog 8 #[] w' fun e w2 => e = .returned (.bool true) ∧ Below w'.heap.size w' w2) := Lib.hid fun w' b => small_any w' (hv.1.lift b)
  have HFA : Hid (∀ w', Below W.heap.size W w' → Calls Tryd.prog 29 #[f.val p, .int .i64 300] w' fun e w2 => e = .returned (.bool fb) ∧ Below w'.heap.size w' w2) := Lib.hid fun w' b => fair_as f p w' (hin.lift b) hk9 ho9 fb hfb
  have HB : Hid (∀ o, Below W.heap.size W (W.alloc o)) := Lib.hid fun o => (Below.refl _ W).alloc (Nat.le_refl _) o
  have HHS : Hid (∀ k w', Below W.heap.size W w' → Calls Tryd.prog 30 #[.slice A src.length ca, .int .i64 k] w' fun e w2 => e = .returned (.bool (decide (k ∈ src))) ∧ w2 = w') := Lib.hid fun k w' b => (has_any w' A ca src k hs9 (hs.lift b)).mono fun e w2 ⟨h1, h2⟩ => ⟨h1, h2.symm⟩
  have HHA : Hid (∀ k w', Below W.heap.size W w' → Calls Tryd.prog 30 #[.slice B avoid.length cb, .int .i64 k] w' fun e w2 => e = .returned (.bool (decide (k ∈ avoid))) ∧ w2 = w') := Lib.hid fun k w' b => (has_any w' B cb avoid k ha9 (ha.lift b)).mono fun e w2 ⟨h1, h2⟩ => ⟨h1, h2.symm⟩
  have HV := Lib.hid hv
  have HIN := Lib.hid hin
  have HSR := Lib.hid hs
  have HAR := Lib.hid ha
  have HOK := Lib.hid hfb.1
  obtain ⟨A1, c1, A2, c2⟩ := p
  obtain ⟨n, hn⟩ : ∃ n : Nat, n = f.Kind.length := ⟨_, rfl⟩
  have HNF := Lib.hid hn
  have HVAL : Hid (f.val ⟨A1, c1, A2, c2⟩ = .agg #[.int .i64 f.W, .int .i64 f.H, .int .i64 f.D, .slice A1 n c1, .slice A2 f.Out.length c2]) := Lib.hid (by rw [hn])
  rw [HVAL.out] at HFA ⊢
  clear hv hin hlk hlo hk9 ho9 hfb hn hs ha hsm ham
  generalize hW9 : f.W = fW at *
  generalize hH9 : f.H = fH at *
  generalize hD9 : f.D = fD at *
  generalize hO9 : f.Out.length = n2 at *
  clear hW9 hH9 hD9 hO9
  have HB0 : Hid (∀ w', Below (W.alloc (.cells (boxV fW fH fD A1 n c1 A2 n2 c2) 24)).heap.size (W.alloc (.cells (boxV fW fH fD A1 n c1 A2 n2 c2) 24)) w' → BoxS W.heap.size fW fH fD A1 n c1 A2 n2 c2 w' ∧ Below W.heap.size W w') := Lib.hid fun w' b => ⟨boxS ((Blk.fresh W _ _).under b (by simp)), next_below ((Below.refl _ W).alloc (Nat.le_refl _) _) b⟩
  cases fb
  · clear HOK HV HIN HNF HVAL HSR HAR HHS HHA hs9 ha9
    generalize src.length = ls at *
    generalize avoid.length = la at *
    go_enter Tryd.func6, Tryd.ntmps6
    go_wp2_with (first
          | (go_at_call 8; refine (HSM.out _ (HB.out _)).mono ?_; rintro e w1 ⟨rfl, b1⟩; have B1 := Lib.hid b1; obtain ⟨⟨m0, m1, m2, m3, m4⟩, hbw⟩ := HB0.out _ B1.out; have H1 := Lib.hid hbw; clear hbw b1)
          | (go_at_call 29; refine (HFA.out _ H1.out).mono ?_; rintro e w2 ⟨rfl, b2⟩; have B2 := Lib.hid (next_below B1.out b2); clear m0 m1 m2 m3 m4; obtain ⟨⟨m0, m1, m2, m3, m4⟩, hbw⟩ := HB0.out _ B2.out; have H2 := Lib.hid hbw; clear hbw b2))
    go_ret
    exact ⟨rfl, H2.out⟩
  by_cases hs30 : (src.length : Int) ≤ 30
  case neg =>
    have hs31 : (30 : Int) < src.length := by omega
    clear HOK HV HIN HNF HVAL HSR HAR HHS HHA hs30
    generalize src.length = ls at *
    generalize avoid.length = la at *
    go_enter Tryd.func6, Tryd.ntmps6
    go_wp2_with (first
          | (go_at_call 8; refine (HSM.out _ (HB.out _)).mono ?_; rintro e w1 ⟨rfl, b1⟩; have B1 := Lib.hid b1; obtain ⟨⟨m0, m1, m2, m3, m4⟩, hbw⟩ := HB0.out _ B1.out; have H1 := Lib.hid hbw; clear hbw b1)
          | (go_at_call 29; refine (HFA.out _ H1.out).mono ?_; rintro e w2 ⟨rfl, b2⟩; have B2 := Lib.hid (next_below B1.out b2); clear m0 m1 m2 m3 m4; obtain ⟨⟨m0, m1, m2, m3, m4⟩, hbw⟩ := HB0.out _ B2.out; have H2 := Lib.hid hbw; clear hbw b2))
    go_ret
    exact ⟨rfl, H2.out⟩
  by_cases ha30 : (avoid.length : Int) ≤ 30
  case neg =>
    have ha31 : (30 : Int) < avoid.length := by omega
    clear HOK HV HIN HNF HVAL HSR HAR HHS HHA ha30
    generalize src.length = ls at *
    generalize avoid.length = la at *
    go_enter Tryd.func6, Tryd.ntmps6
    go_wp2_with (first
          | (go_at_call 8; refine (HSM.out _ (HB.out _)).mono ?_; rintro e w1 ⟨rfl, b1⟩; have B1 := Lib.hid b1; obtain ⟨⟨m0, m1, m2, m3, m4⟩, hbw⟩ := HB0.out _ B1.out; have H1 := Lib.hid hbw; clear hbw b1)
          | (go_at_call 29; refine (HFA.out _ H1.out).mono ?_; rintro e w2 ⟨rfl, b2⟩; have B2 := Lib.hid (next_below B1.out b2); clear m0 m1 m2 m3 m4; obtain ⟨⟨m0, m1, m2, m3, m4⟩, hbw⟩ := HB0.out _ B2.out; have H2 := Lib.hid hbw; clear hbw b2))
    go_ret
    exact ⟨rfl, H2.out⟩
  obtain ⟨ho, hk300⟩ := HOK.out rfl
  have hn0 : 0 < n := by
    have h1 := ho.small
    have h2 := Int.mul_le_mul_of_nonneg_left ho.d (show 0 ≤ f.W * f.H by omega)
    have h3 := ho.kinds
    have := HNF.out
    omega
  have hn300 : (n : Int) ≤ 300 := by have := HNF.out; omega
  have HDI : Hid (∀ w', Below W.heap.size W w' → Calls Tryd.prog 25 #[f.val ⟨A1, c1, A2, c2⟩, .slice A src.length ca, .slice B avoid.length cb] w' fun e w2 => ∃ bl ol cl l, e = .returned (.slice (some ⟨bl, ol, none⟩) n cl) ∧ Loc f src avoid l ∧ l.length = n ∧ (∀ k, k < n → ∀ w3, Below w2.heap.size w2 w3 → w3.cell? ⟨bl, ol + k, none⟩ = some (.int .i64 (gt l k))) ∧ Below w'.heap.size w' w2) := Lib.hid fun w' b => (dist_any ho _ A B ca cb src avoid w' (HV.out.1.lift b) (HIN.out.lift b) (HSR.out.lift b) (HAR.out.lift b) (by omega) (by omega)).mono fun e w2 ⟨A', c', l, he, hd, hr, hb⟩ => by
    have hll : l.length = n := by rw [hd.len, ← HNF.out]
    obtain ⟨bl, ol, rfl, hc⟩ := row_fixed hr (by omega)
    exact ⟨bl, ol, c', l, by rw [he, HNF.out], hd.loc ho, hll, fun k hk w3 b3 => by rw [← getD_gt (by omega)]; exact hc k (by omega) w3 b3, hb⟩
  have HNX : Hid (∀ q d w', Below W.heap.size W w' → Calls Tryd.prog 16 #[f.val ⟨A1, c1, A2, c2⟩, .int .i64 q, .int .i64 d] w' fun e w2 => e = .returned (resN (f.next q d)) ∧ Below w'.heap.size w' w2) := Lib.hid fun q d w' bb => next_any ho _ q d w' (HV.out.1.lift bb) (HIN.out.lift bb)
  have HBK : Hid (∀ q d w', Below W.heap.size W w' → Calls Tryd.prog 18 #[f.val ⟨A1, c1, A2, c2⟩, .int .i64 q, .int .i64 d] w' fun e w2 => e = .returned (resN (f.back q d)) ∧ Below w'.heap.size w' w2) := Lib.hid fun q d w' bb => back_any ho _ q d w' (HV.out.1.lift bb) (HV.out.2.lift bb) (HIN.out.lift bb)
  obtain ⟨bk, ok, ek, hkc⟩ := row_fixed HIN.out.kind (by rw [← HNF.out]; exact hn0)
  dsimp only at ek
  subst ek
  have HKC : Hid (∀ k, k < n → ∀ w', Below W.heap.size W w' → w'.cell? ⟨bk, ok + k, none⟩ = some (.int .i64 (f.kindAt k))) := Lib.hid fun k hk w' b => by
    have e : f.kindAt k = f.Kind.getD k 0 := by unfold Fl.kindAt; simp
    rw [e]
    exact hkc k (by rw [← HNF.out]; exact hk) w' b
  have HNL : Hid (∀ (c d : Nat) (z : Int), f.next c d = some z → ∃ m : Nat, z = m ∧ m < n) := Lib.hid fun c d z h => by
    obtain ⟨m, rfl⟩ : ∃ m : Nat, z = m := ⟨z.toNat, by have := (Fl.next_is h).2.2.2.1; omega⟩
    exact ⟨m, rfl, by rw [HNF.out]; exact (next_lt ho h).1⟩
  have HBL : Hid (∀ (c d : Nat) (z : Int), f.back c d = some z → ∃ m : Nat, z = m ∧ m < n) := Lib.hid fun c d z h => by
    have h' := Fl.back_some ho h
    obtain ⟨m, rfl⟩ : ∃ m : Nat, z = m := ⟨z.toNat, by have := (Fl.next_is h').2.2.2.2; omega⟩
    exact ⟨m, rfl, by rw [HNF.out]; exact (next_lt ho h').2.1⟩
  rw [HVAL.out] at HDI HNX HBK
  clear HOK HV HIN HSR HAR HVAL hkc hk300 ho
  have HN0 := Lib.hid hn0
  clear hn0
  go_enter Tryd.func6, Tryd.ntmps6
  go_wp2_with (first
      | (go_at_call 8; refine (HSM.out _ (HB.out _)).mono ?_; rintro e w1 ⟨rfl, b1⟩; have B1 := Lib.hid b1; obtain ⟨⟨m0, m1, m2, m3, m4⟩, hbw⟩ := HB0.out _ B1.out; have H1 := Lib.hid hbw; clear hbw b1)
      | (go_at_call 29; refine (HFA.out _ H1.out).mono ?_; rintro e w2 ⟨rfl, b2⟩; have B2 := Lib.hid (next_below B1.out b2); clear m0 m1 m2 m3 m4; obtain ⟨⟨m0, m1, m2, m3, m4⟩, hbw⟩ := HB0.out _ B2.out; have H2 := Lib.hid hbw; clear hbw b2)
      | (go_at_call 25; refine (HDI.out _ H2.out).mono ?_; rintro e w3 ⟨bl, ol, cl, l, rfl, hloc, hll, hlc, b3⟩; have B3 := Lib.hid (next_below B2.out b3); clear m0 m1 m2 m3 m4; obtain ⟨⟨m0, m1, m2, m3, m4⟩, hbw⟩ := HB0.out _ B3.out; have H3 := Lib.hid hbw; have HLO := Lib.hid hloc; have HLL := Lib.hid hll; have HLC := Lib.hid hlc; clear hbw b3 hloc hll hlc))
  have HW3 : Hid (∀ w', Below w3.heap.size w3 w' → BoxS W.heap.size fW fH fD (some ⟨bk, ok, none⟩) n c1 A2 n2 c2 w' ∧ Below W.heap.size W w') := Lib.hid fun w' b => HB0.out w' (next_below B3.out b)
  clear m0 m1 m2 m3 m4 HDI
  go_loopw [9, 10, 11, 12, 13, 14, 15, 16] (fun iv _ _ _ _ _ _ _ wr => ∃ c, DwR w3 n iv wr c) (fun iv _ _ _ _ _ _ _ _ => n - (intOf iv).toNat)
  case atStart => exact ⟨0, rfl, Nat.zero_le _, Below.refl _ _⟩
  case round =>
    obtain ⟨c, ⟨rfl, hc, hbel⟩⟩ := hrel
    have HBE := Lib.hid hbel
    obtain ⟨⟨m0, m1, m2, m3, m4⟩, hbw⟩ := HW3.out _ hbel
    have HBW := Lib.hid hbw
    clear hbel hbw
    by_cases hlt : c < n
    · have hcn : c < f.Kind.length := by rw [← HNF.out]; exact hlt
      have zk := HKC.out c hlt _ HBW.out
      have zl := HLC.out c hlt _ HBE.out
      obtain ⟨l0, l1⟩ := HLO.out.low c hcn
      have hlz := HLO.out.zero c hcn
      have hlsh := HLO.out.shut c hcn
      have HST := Lib.hid (fun d m h1 h2 h3 => HLO.out.step c d m hcn h1 h2 h3)
      have HPR := Lib.hid (HLO.out.pred c hcn)
      have hl9 : gt l c < 300 := by have := HNF.out; omega
      obtain ⟨op, hop⟩ : ∃ op, op = !shutB f avoid c := ⟨_, rfl⟩
      obtain ⟨inA, hinA⟩ : ∃ b, b = decide ((c : Int) ∈ avoid) := ⟨_, rfl⟩
      obtain ⟨inS, hinS⟩ : ∃ b, b = decide ((c : Int) ∈ src) := ⟨_, rfl⟩
      have hop2 : op = (!(inA || f.kindAt c == 0)) := by rw [hop, hinA]; rfl
      have hz2 : gt l c = 0 ↔ (inS = true ∧ op = true) := by
        rw [hlz, hinS, hop, decide_eq_true_iff]
        simp
      have hs2 : op = false → gt l c = -1 := fun h => hlsh (by rw [hop] at h; simpa using h)
      have HA0 : Hid (∀ w', Below W.heap.size W w' → Calls Tryd.prog 30 #[.slice B avoid.length cb, .int .i64 c] w' fun e w2 => e = .returned (.bool inA) ∧ w2 = w') := Lib.hid (by rw [hinA]; exact HHA.out c)
      have HS0 : Hid (∀ w', Below W.heap.size W w' → Calls Tryd.prog 30 #[.slice A src.length ca, .int .i64 c] w' fun e w2 => e = .returned (.bool inS) ∧ w2 = w') := Lib.hid (by rw [hinS]; exact HHS.out c)
      have HOP := Lib.hid hop2
      have HZ2 := Lib.hid hz2
      have HS2 := Lib.hid hs2
      have HLV := Lib.hid (show gt l c = gt l c from rfl)
      have HCN := Lib.hid hcn
      have hltZ : (c : Int) < n := by omega
      clear hlz hlsh hop hinA hinS hop2 hz2 hs2 hcn l1
      generalize hlc9 : gt l c = lc at *
      have HLC9 := Lib.hid hlc9
      clear hlc9 HLV
      generalize f.kindAt c = kc at *
      have HL0 : Hid (-1 ≤ lc) := Lib.hid l0
      go_upto_region 10 with (fail)
      go_cut [10] (fun v10 wx => v10 = .bool op ∧ wx = wr)
      case first =>
        by_cases hk0 : kc = 0
        · subst hk0
          have ho2 : op = false := by rw [HOP.out]; simp
          subst ho2
          go_wp2_with fail
          go_meet
          case rel => exact ⟨rfl, rfl⟩
        · have hkb : (kc != 0) = true := bne_iff_ne.2 hk0
          have ho2 : op = !inA := by rw [HOP.out, ne_b hk0, Bool.or_false]
          subst ho2
          clear hk0
          go_wp2_with (go_at_call 30; refine (HA0.out _ HBW.out).mono ?_; rintro e wq ⟨rfl, rfl⟩)
          go_meet
          case rel => exact ⟨rfl, rfl⟩
      case rest =>
        obtain ⟨rfl, rfl⟩ := hcut
        clear zk HOP
        have HHQ : Hid (∀ k, Calls Tryd.prog 30 #[.slice A src.length ca, .int .i64 c] (wc.drewN k) fun e w2 => e = .returned (.bool inS) ∧ w2 = wc.drewN k) := Lib.hid fun k => HS0.out _ (HBW.out.trans (below_any wc k))
        go_upto_region 11 with (fail)
        go_cut [89] (fun v89 wx => v89 = .bool false ∧ ∃ k, wx = wc.drewN k)
        case first =>
          cases op
          · have hm1 := HS2.out rfl
            subst hm1
            go_quiet ((go_at_call 30; exact Calls.quiet_of_same (HHQ.out _)))
            go_wp2_with fail
            go_meet
            case rel => first | exact ⟨rfl, _, rfl⟩ | exact ⟨congrArg Value.bool (decide_eq_false (by have := HL0.out; omega)), _, rfl⟩
          · cases inS
            · have hm1 : (lc == 0) = false := ne_b fun e => by
                have := (HZ2.out.1 e).1
                cases this
              go_quiet ((go_at_call 30; exact Calls.quiet_of_same (HHQ.out _)))
              go_wp2_with fail
              go_meet
              case rel => first | exact ⟨rfl, _, rfl⟩ | exact ⟨congrArg Value.bool (decide_eq_false (by have := HL0.out; omega)), _, rfl⟩
            · have hm1 : lc = 0 := HZ2.out.2 ⟨rfl, rfl⟩
              subst hm1
              go_quiet ((go_at_call 30; exact Calls.quiet_of_same (HHQ.out _)))
              go_wp2_with fail
              go_meet
              case rel => first | exact ⟨rfl, _, rfl⟩ | exact ⟨congrArg Value.bool (decide_eq_false (by have := HL0.out; omega)), _, rfl⟩
        case rest =>
          obtain ⟨rfl, k9, rfl⟩ := hcut
          have HBE2 : Hid (Below w3.heap.size w3 (wc.drewN k9)) := Lib.hid (HBE.out.trans (below_any wc k9))
          generalize wc.drewN k9 = w4 at *
          clear m0 m1 m2 m3 m4 zl HHQ HA0 HS0 HZ2 HS2 HBE HBW
          have zl := HLC.out c hlt _ HBE2.out
          rw [HLC9.out] at zl
          obtain ⟨fb0, hfb0⟩ : ∃ b, decide (lc ≤ 0) = b := ⟨_, rfl⟩
          have HD0 : Hid (fb0 = true ∨ 0 < gt l c) := Lib.hid (by
            rw [HLC9.out]
            by_cases h : lc ≤ 0
            · exact .inl (by rw [← hfb0, decide_eq_true h])
            · exact .inr (by omega))
          go_wp2_with fail
          go_loopw [11, 12, 13, 14, 15, 16] (fun fv dv _ _ _ _ wr => ∃ d fb, DiR f l c w3 fv dv wr d fb) (fun _ dv _ _ _ _ _ => 6 - (intOf dv).toNat)
          case atStart =>
            refine ⟨0, fb0, ?_, rfl, by omega, ?_, HBE2.out⟩
            · first | rfl | rw [hfb0]
            · rcases HD0.out with h | h
              · exact .inl h
              · exact .inr ⟨h, fun d' p h => by omega⟩
          case round =>
            clear HBE2 zl HD0 hfb0
            obtain ⟨d, fb, ⟨rfl, rfl, hd, hfd, hbel⟩⟩ := hrel
            have HFD := Lib.hid hfd
            have HBE := Lib.hid hbel
            obtain ⟨⟨m0, m1, m2, m3, m4⟩, hbw⟩ := HW3.out _ hbel
            have HBW := Lib.hid hbw
            clear hbel hbw hfd
            by_cases hlt2 : d < 6
            · have HNXc := Lib.hid (fun w' b => HNX.out (c : Int) (d : Int) w' b)
              have HBKc := Lib.hid (fun w' b => HBK.out (c : Int) (d : Int) w' b)
              have HNV : Hid ((f.next c d).isSome = false ∨ ∃ m : Nat, (f.next c d).isSome = true ∧ (f.next c d).getD 0 = m ∧ f.next c d = some (m : Int) ∧ m < n) := Lib.hid (by
                cases h : f.next c d with
                | none => exact .inl rfl
                | some z =>
                  obtain ⟨m, rfl, hm⟩ := HNL.out c d z h
                  exact .inr ⟨m, rfl, rfl, rfl, hm⟩)
              have HBV : Hid (((f.back c d).isSome = false ∧ f.back c d = none) ∨ ∃ m : Nat, (f.back c d).isSome = true ∧ (f.back c d).getD 0 = m ∧ f.back c d = some (m : Int) ∧ m < n) := Lib.hid (by
                cases h : f.back c d with
                | none => exact .inl ⟨rfl, rfl⟩
                | some z =>
                  obtain ⟨m, rfl, hm⟩ := HBL.out c d z h
                  exact .inr ⟨m, rfl, rfl, rfl, hm⟩)
              dsimp only [resN] at HNXc HBKc
              generalize (f.next c d).getD 0 = nv at *
              generalize (f.next c d).isSome = nb at *
              generalize (f.back c d).getD 0 = bv at *
              generalize (f.back c d).isSome = bb at *
              go_upto_region 18 with (go_at_call 16; refine (HNXc.out _ HBW.out).mono ?_; rintro e w5 ⟨rfl, b5⟩; have B5 := Lib.hid (next_below HBE.out b5); clear b5)
              clear m0 m1 m2 m3 m4
              have zl := HLC.out c hlt _ B5.out
              rw [HLC9.out] at zl
              go_cut [138] (fun v138 wx => v138 = .bool false ∧ ∃ k, wx = w5.drewN k)
              case first =>
                rcases HNV.out with rfl | ⟨m, rfl, rfl, hm, hmn⟩
                · go_quiet (fail)
                  go_wp2_with fail
                  go_meet
                  case rel => exact ⟨rfl, _, rfl⟩
                · have HH5 : Hid (∀ k, Calls Tryd.prog 30 #[.slice B avoid.length cb, .int .i64 m] (w5.drewN k) fun e w2 => e = .returned (.bool (decide ((m : Int) ∈ avoid))) ∧ w2 = w5.drewN k) := Lib.hid fun k => HHA.out m _ ((HW3.out _ B5.out).2.trans (below_any w5 k))
                  have hmz : (m : Int) < n := by omega
                  by_cases hl0 : 0 ≤ lc
                  · obtain ⟨inM, hinM⟩ : ∃ b, b = decide ((m : Int) ∈ avoid) := ⟨_, rfl⟩
                    rw [← hinM] at HH5
                    cases inM
                    · have hst := HST.out d m hm hl0 (of_decide_eq_false hinM.symm)
                      have zm := HLC.out m hmn _ B5.out
                      obtain ⟨s0, s1⟩ := hst
                      clear hm hmn hinM
                      generalize gt l m = lm at *
                      go_quiet ((go_at_call 30; exact Calls.quiet_of_same (HH5.out _)))
                      go_wp2_with fail
                      go_meet
                      case rel => first | exact ⟨rfl, _, rfl⟩ | exact ⟨congrArg Value.bool (by rw [IntWalk.i64_in (lc + 1) (by omega), decide_eq_false (show ¬ lm < 0 by omega), decide_eq_false (show ¬ lc + 1 < lm by omega)]; rfl), _, rfl⟩
                    · clear hm hmn hinM
                      go_quiet ((go_at_call 30; exact Calls.quiet_of_same (HH5.out _)))
                      go_wp2_with fail
                      go_meet
                      case rel => exact ⟨rfl, _, rfl⟩
                  · clear hm hmn
                    go_quiet ((go_at_call 30; exact Calls.quiet_of_same (HH5.out _)))
                    go_wp2_with fail
                    go_meet
                    case rel => exact ⟨rfl, _, rfl⟩
              case rest =>
                obtain ⟨rfl, k8, rfl⟩ := hcut
                have B6 : Hid (Below w3.heap.size w3 (w5.drewN k8)) := Lib.hid (B5.out.trans (below_any w5 k8))
                generalize w5.drewN k8 = w6 at *
                clear zl B5 HBW HBE HNXc HNV
                obtain ⟨⟨m0, m1, m2, m3, m4⟩, hbw⟩ := HW3.out _ B6.out
                have HBW := Lib.hid hbw
                clear hbw
                go_upto_region 21 with (go_at_call 18; refine (HBKc.out _ HBW.out).mono ?_; rintro e w7 ⟨rfl, b7⟩; have B7 := Lib.hid (next_below B6.out b7); clear b7)
                clear m0 m1 m2 m3 m4
                have zl := HLC.out c hlt _ B7.out
                rw [HLC9.out] at zl
                cases fb
                · obtain ⟨hpos, hno⟩ : 0 < gt l c ∧ ∀ d' p : Nat, d' < d → f.back c d' = some (p : Int) → gt l p ≠ gt l c - 1 := by
                    rcases HFD.out with h | h
                    · cases h
                    · exact h
                  have HPO := Lib.hid hpos
                  have HNO := Lib.hid hno
                  clear hpos hno
                  rcases HBV.out with ⟨rfl, hbn⟩ | ⟨m, rfl, rfl, hm, hmn⟩
                  · have HN2 : Hid (∀ d' p : Nat, d' < d + 1 → f.back c d' = some (p : Int) → gt l p ≠ gt l c - 1) := Lib.hid fun d' p h1 h2 => by
                      by_cases e : d' = d
                      · rw [e, hbn] at h2
                        cases h2
                      · exact HNO.out d' p (by omega) h2
                    clear hbn
                    go_quiet (fail)
                    go_wp2_with fail
                    go_roundw
                    case rel => exact ⟨d + 1, false, rfl, by simp, by omega, .inr ⟨HPO.out, HN2.out⟩, B7.out.trans (below_any _ _)⟩
                    case measure => simp [intOf]; omega
                  · have zm := HLC.out m hmn _ B7.out
                    have hmz : (m : Int) < n := by omega
                    by_cases hg : gt l m = lc - 1
                    · have hgb : (gt l m == lc - 1) = true := beq_iff_eq.2 hg
                      clear hm hmn hg
                      generalize gt l m = lm at *
                      go_quiet (fail)
                      go_wp2_with fail
                      go_roundw
                      case rel => exact ⟨d + 1, true, rfl, by simp, by omega, .inl rfl, B7.out.trans (below_any _ _)⟩
                      case measure => simp [intOf]; omega
                    · have hgb : (gt l m == lc - 1) = false := ne_b hg
                      have HN2 : Hid (∀ d' p : Nat, d' < d + 1 → f.back c d' = some (p : Int) → gt l p ≠ gt l c - 1) := Lib.hid fun d' p h1 h2 => by
                        by_cases e : d' = d
                        · rw [e, hm] at h2
                          have e2 := Option.some.inj h2
                          obtain rfl : m = p := by omega
                          rw [HLC9.out]
                          exact hg
                        · exact HNO.out d' p (by omega) h2
                      clear hm hmn hg
                      generalize gt l m = lm at *
                      go_quiet (fail)
                      go_wp2_with fail
                      go_roundw
                      case rel => exact ⟨d + 1, false, rfl, by simp, by omega, .inr ⟨HPO.out, HN2.out⟩, B7.out.trans (below_any _ _)⟩
                      case measure => simp [intOf]; omega
                · go_quiet (fail)
                  go_wp2_with fail
                  go_roundw
                  case rel => exact ⟨d + 1, true, rfl, by simp, by omega, .inl rfl, B7.out.trans (below_any _ _)⟩
                  case measure => simp [intOf]; omega
            · obtain rfl : d = 6 := by omega
              obtain rfl : fb = true := by
                rcases HFD.out with h | ⟨h1, h2⟩
                · exact h
                · rw [HLC9.out] at h1 h2
                  obtain ⟨d, p, g1, g2, g3⟩ := HPR.out h1
                  exact absurd g3 (h2 d p g1 g2)
              clear m0 m1 m2 m3 m4
              go_wp2_with fail
              go_roundw
              case rel => exact ⟨c + 1, by simp, hlt, HBE.out⟩
              case measure => simp [intOf]; omega
    · obtain rfl : c = n := by omega
      go_wp2_with fail
      go_ret
      exact ⟨rfl, HBW.out⟩
end Flo
end Go.Proofs.YtncbhhnojdhpeaaDoor

/- FloorPaths. -/
import Derived.Test.YtncbhhnojdhpeaaDoorFwD
import Derived.Test.YtncbhhnojdhpeaaDoorFwT
namespace Go.Proofs.YtncbhhnojdhpeaaDoor
open Go.RowKit Wire
open Txt (Row)
open Own
open Dsk (Only nth)
set_option linter.unusedVariables false
set_option linter.unusedSimpArgs false
namespace Flo
theorem pathIs_no {f : Fl} {avoid : List Int} {a b : Int} {l : List Int} (ho : f.ok) (h : PathIs f avoid a b l) (hn : ¬ (0 ≤ a ∧ a < f.Kind.length ∧ 0 ≤ b ∧ b < f.Kind.length)) : l = [] := by
  rcases h with ⟨rfl, _⟩ | ⟨a', b', l', rfl, rfl, rfl, hl⟩
  · rfl
  · have h1 := hl.opened _ (List.mem_of_getElem? hl.head)
    have h2 := hl.opened _ (List.mem_of_getElem? hl.last)
    omega
theorem pathIs_dist {f : Fl} {avoid : List Int} {a b : Nat} {l out : List Int} (ho : f.ok) (h : PathIs f avoid a b l) (hb : b < f.Kind.length) (hd : IsDist f.Kind.length (spSrc f [(a : Int)] avoid) (spE f avoid false) out) : (l.length : Int) = gt out b + 1 := by
  rcases h with ⟨rfl, hno⟩ | ⟨a', b', l', e1, e2, rfl, hl⟩
  · have : gt out b = -1 := Classical.byContradiction fun e => by
      obtain ⟨k, _, hw, _⟩ := hd.some_ b hb e
      exact hno a b rfl rfl k ((fw_iff ho).1 hw)
    rw [this]
    rfl
  · obtain rfl : a = a' := by omega
    obtain rfl : b = b' := by omega
    have hw := hl.way ho
    have hf := (fw_iff ho).2 hw
    obtain ⟨k, h1, h2, h3⟩ := hd.some_ b hb (fun e => hd.none_ b hb e _ hf)
    have h4 := hl.short _ ((fw_iff ho).1 h2)
    have h5 : ¬ l'.length - 1 < k := fun e => h3 _ e hf
    have := hl.pos
    rw [List.length_map, h1]
    omega
/-- A direction that is less than that of the way leads on to no other shortest way. -/
theorem less_bad {f : Fl} {avoid : List Int} {a b c n1 m i d : Nat} {l : List Nat} {out : List Int} (ho : f.ok) (h : Least f avoid a b l) (hb : b < f.Kind.length) (hc : l[i]? = some c) (hn : l[i + 1]? = some n1) (hm : f.next c d = some (m : Int)) (hno : ∀ d' : Nat, d' ≤ d → f.next c d' ≠ some (n1 : Int)) (hd : IsDist f.Kind.length (spSrc f [(m : Int)] avoid) (spE f avoid false) out) :
    gt out b < 0 ∨ (l.length : Int) - 2 - i < gt out b := by
  by_cases e : gt out b = -1
  · exact .inl (by omega)
  · right
    obtain ⟨k, h1, h2, _⟩ := hd.some_ b hb e
    have h3 := (fw_iff ho).1 h2
    obtain ⟨d0, g1, g2, g3⟩ := h.step i c n1 hc hn
    have hlt : d < d0 := Classical.byContradiction fun e => hno d0 (by omega) g2
    have hmo : shutB f avoid m = false := (walk_open ho h3).2
    have := g3 d m hlt hm hmo k
    apply Classical.byContradiction
    intro e2
    exact this (by omega) h3
structure PwR (w3 : World) (n : Nat) (iv : Value) (wr : World) (c : Nat) : Prop where
  iv : iv = .int .i64 c
  le : c ≤ n
  below : Below w3.heap.size w3 wr
structure PiR (f : Fl) (c n1 : Nat) (w3 : World) (mv dv : Value) (wr : World) (d : Nat) (mt : Bool) : Prop where
  mv : mv = .bool mt
  dv : dv = .int .i64 d
  le : d ≤ 6
  fnd : mt = true ∨ ∀ d' : Nat, d' < d → f.next c d' ≠ some (n1 : Int)
  below : Below w3.heap.size w3 wr
set_option maxRecDepth 100000 in
set_option maxHeartbeats 8000000 in
theorem paths_law (f : Fl) (p : Pl) (a b : Int) (B : Option Addr) (cb : Nat) (avoid : List Int) (W : World) (hv : VS W) (hin : FlIn W f p) (hlk : f.Kind.length ≤ maxLen) (hlo : f.Out.length ≤ maxLen) (ha : Row W W.heap.size B (ivs avoid)) (ham : avoid.length ≤ maxLen) :
    Calls Tryd.prog 7 #[f.val p, .int .i64 a, .int .i64 b, .slice B avoid.length cb] W fun e w' => e = .returned (.bool true) ∧ Below W.heap.size W w' := by
  have hk9 : f.Kind.length ≤ 9223372036854775807 := by unfold maxLen at hlk; omega
  have ho9 : f.Out.length ≤ 9223372036854775807 := by unfold maxLen at hlo; omega
  have ha9 : avoid.length ≤ 9223372036854775807 := by unfold maxLen at ham; omega
  obtain ⟨fb, hfb⟩ : ∃ r : Bool, (r = true) ↔ (f.ok ∧ f.Kind.length ≤ 300) := ⟨@decide _ (Classical.propDecidable _), @decide_eq_true_iff _ (Classical.propDecidable _)⟩
  have HSM : Hid (∀ w', Below W.heap.size W w' → Calls Tryd.prog 8 #[] w' fun e w2 => e = .returned (.bool true) ∧ Below w'.heap.size w' w2) := Lib.hid fun w' b => small_any w' (hv.lift b)
  have HFA : Hid (∀ w', Below W.heap.size W w' → Calls Tryd.prog 29 #[f.val p, .int .i64 300] w' fun e w2 => e = .returned (.bool fb) ∧ Below w'.heap.size w' w2) := Lib.hid fun w' b => fair_as f p w' (hin.lift b) hk9 ho9 fb hfb
  have HB : Hid (∀ o, Below W.heap.size W (W.alloc o)) := Lib.hid fun o => (Below.refl _ W).alloc (Nat.le_refl _) o
  have HHA : Hid (∀ k w', Below W.heap.size W w' → Calls Tryd.prog 30 #[.slice B avoid.length cb, .int .i64 k] w' fun e w2 => e = .returned (.bool (decide (k ∈ avoid))) ∧ w2 = w') := Lib.hid fun k w' b => (has_any w' B cb avoid k ha9 (ha.lift b)).mono fun e w2 ⟨h1, h2⟩ => ⟨h1, h2.symm⟩
  have HV := Lib.hid hv
  have HIN := Lib.hid hin
  have HAR := Lib.hid ha
  have HOK := Lib.hid hfb.1
  obtain ⟨A1, c1, A2, c2⟩ := p
  obtain ⟨n, hn⟩ : ∃ n : Nat, n = f.Kind.length := ⟨_, rfl⟩
  have HNF := Lib.hid hn
  have HVAL : Hid (f.val ⟨A1, c1, A2, c2⟩ = .agg #[.int .i64 f.W, .int .i64 f.H, .int .i64 f.D, .slice A1 n c1, .slice A2 f.Out.length c2]) := Lib.hid (by rw [hn])
  rw [HVAL.out] at HFA ⊢
  clear hv hin hlk hlo hk9 ho9 hfb hn ha ham
  generalize hW9 : f.W = fW at *
  generalize hH9 : f.H = fH at *
  generalize hD9 : f.D = fD at *
  generalize hO9 : f.Out.length = n2 at *
  clear hW9 hH9 hD9 hO9
  have HB0 : Hid (∀ w', Below (W.alloc (.cells (boxV fW fH fD A1 n c1 A2 n2 c2) 24)).heap.size (W.alloc (.cells (boxV fW fH fD A1 n c1 A2 n2 c2) 24)) w' → BoxS W.heap.size fW fH fD A1 n c1 A2 n2 c2 w' ∧ Below W.heap.size W w') := Lib.hid fun w' b => ⟨boxS ((Blk.fresh W _ _).under b (by simp)), next_below ((Below.refl _ W).alloc (Nat.le_refl _) _) b⟩
  cases fb
  · clear HOK HV HIN HNF HVAL HAR HHA ha9
    generalize avoid.length = la at *
    go_enter Tryd.func7, Tryd.ntmps7
    go_wp2_with (first
          | (go_at_call 8; refine (HSM.out _ (HB.out _)).mono ?_; rintro e w1 ⟨rfl, b1⟩; have B1 := Lib.hid b1; obtain ⟨⟨m0, m1, m2, m3, m4⟩, hbw⟩ := HB0.out _ B1.out; have H1 := Lib.hid hbw; clear hbw b1)
          | (go_at_call 29; refine (HFA.out _ H1.out).mono ?_; rintro e w2 ⟨rfl, b2⟩; have B2 := Lib.hid (next_below B1.out b2); clear m0 m1 m2 m3 m4; obtain ⟨⟨m0, m1, m2, m3, m4⟩, hbw⟩ := HB0.out _ B2.out; have H2 := Lib.hid hbw; clear hbw b2))
    go_ret
    exact ⟨rfl, H2.out⟩
  by_cases ha30 : (avoid.length : Int) ≤ 30
  case neg =>
    have ha31 : (30 : Int) < avoid.length := by omega
    clear HOK HV HIN HNF HVAL HAR HHA ha30
    generalize avoid.length = la at *
    go_enter Tryd.func7, Tryd.ntmps7
    go_wp2_with (first
          | (go_at_call 8; refine (HSM.out _ (HB.out _)).mono ?_; rintro e w1 ⟨rfl, b1⟩; have B1 := Lib.hid b1; obtain ⟨⟨m0, m1, m2, m3, m4⟩, hbw⟩ := HB0.out _ B1.out; have H1 := Lib.hid hbw; clear hbw b1)
          | (go_at_call 29; refine (HFA.out _ H1.out).mono ?_; rintro e w2 ⟨rfl, b2⟩; have B2 := Lib.hid (next_below B1.out b2); clear m0 m1 m2 m3 m4; obtain ⟨⟨m0, m1, m2, m3, m4⟩, hbw⟩ := HB0.out _ B2.out; have H2 := Lib.hid hbw; clear hbw b2))
    go_ret
    exact ⟨rfl, H2.out⟩
  obtain ⟨ho, hk300⟩ := HOK.out rfl
  have hn0 : 0 < n := by
    have h1 := ho.small
    have h2 := Int.mul_le_mul_of_nonneg_left ho.d (show 0 ≤ f.W * f.H by omega)
    have h3 := ho.kinds
    have := HNF.out
    omega
  have hn300 : (n : Int) ≤ 300 := by have := HNF.out; omega
  have HHO := Lib.hid ho
  have HPA : Hid (∀ w', Below W.heap.size W w' → Calls Tryd.prog 27 #[f.val ⟨A1, c1, A2, c2⟩, .int .i64 a, .int .i64 b, .slice B avoid.length cb] w' fun e w2 => ∃ Al cl l, e = .returned (.slice Al (List.length l) cl) ∧ PathIs f avoid a b l ∧ l.length ≤ 5000 ∧ Row w2 w2.heap.size Al (ivs l) ∧ Below w'.heap.size w' w2) := Lib.hid fun w' bb => (path_any ho _ a b B cb avoid w' (HV.out.lift bb) (HIN.out.lift bb) (HAR.out.lift bb) (by omega)).mono fun e w2 ⟨A', c', l, he, hp, hr, hb⟩ => ⟨A', c', l, he, hp, pathIs_len ho hp, hr, hb⟩
  have HDI : Hid (∀ z w', Below W.heap.size W w' → ∀ gx, w'.cell? ⟨gx, 0, none⟩ = some (.int .i64 z) → Calls Tryd.prog 25 #[f.val ⟨A1, c1, A2, c2⟩, .slice (some ⟨gx, 0, none⟩) 1 1, .slice B avoid.length cb] w' fun e w2 => ∃ bl ol cl l, e = .returned (.slice (some ⟨bl, ol, none⟩) n cl) ∧ IsDist f.Kind.length (spSrc f [z] avoid) (spE f avoid false) l ∧ l.length = n ∧ (∀ k, k < n → ∀ w3, Below w2.heap.size w2 w3 → w3.cell? ⟨bl, ol + k, none⟩ = some (.int .i64 (gt l k))) ∧ Below w'.heap.size w' w2) := Lib.hid fun z w' b gx hx => (dist_any ho _ (some ⟨gx, 0, none⟩) B 1 cb [z] avoid w' (HV.out.lift b) (HIN.out.lift b) (fun k u hu => by
    have hk := (List.getElem?_eq_some_iff.1 hu).1
    have hk' : k < 1 := hk
    obtain rfl : k = 0 := by omega
    have hu' : some (Value.int .i64 z) = some u := hu
    exact ⟨gx, 0, rfl, World.block_lt_of_cell? w' _ hx, by rw [Nat.zero_add, hx]; exact hu'⟩) (HAR.out.lift b) (by show 1 ≤ 1000000; omega) (by omega)).mono fun e w2 ⟨A', c', l, he, hd, hr, hb⟩ => by
    have hll : l.length = n := by rw [hd.len, ← HNF.out]
    obtain ⟨bl, ol, rfl, hc⟩ := row_fixed hr (by omega)
    exact ⟨bl, ol, c', l, by rw [he, HNF.out], hd, hll, fun k hk w3 b3 => by rw [← getD_gt (by omega)]; exact hc k (by omega) w3 b3, hb⟩
  have HNX : Hid (∀ q d w', Below W.heap.size W w' → Calls Tryd.prog 16 #[f.val ⟨A1, c1, A2, c2⟩, .int .i64 q, .int .i64 d] w' fun e w2 => e = .returned (resN (f.next q d)) ∧ Below w'.heap.size w' w2) := Lib.hid fun q d w' bb => next_any ho _ q d w' (HV.out.lift bb) (HIN.out.lift bb)
  have HNL : Hid (∀ (c d : Nat) (z : Int), f.next c d = some z → ∃ m : Nat, z = m ∧ m < n) := Lib.hid fun c d z h => by
    obtain ⟨m, rfl⟩ : ∃ m : Nat, z = m := ⟨z.toNat, by have := (Fl.next_is h).2.2.2.1; omega⟩
    exact ⟨m, rfl, by rw [HNF.out]; exact (next_lt ho h).1⟩
  rw [HVAL.out] at HPA HDI HNX
  clear HOK HV HIN HAR HVAL hk300 ho
  have HN0 := Lib.hid hn0
  clear hn0
  go_enter Tryd.func7, Tryd.ntmps7
  go_upto_region 6 with (first
      | (go_at_call 8; refine (HSM.out _ (HB.out _)).mono ?_; rintro e w1 ⟨rfl, b1⟩; have B1 := Lib.hid b1; obtain ⟨⟨m0, m1, m2, m3, m4⟩, hbw⟩ := HB0.out _ B1.out; have H1 := Lib.hid hbw; clear hbw b1)
      | (go_at_call 29; refine (HFA.out _ H1.out).mono ?_; rintro e w2 ⟨rfl, b2⟩; have B2 := Lib.hid (next_below B1.out b2); clear m0 m1 m2 m3 m4; obtain ⟨⟨m0, m1, m2, m3, m4⟩, hbw⟩ := HB0.out _ B2.out; have H2 := Lib.hid hbw; clear hbw b2)
      | (go_at_call 27; refine (HPA.out _ H2.out).mono ?_; rintro e w3 ⟨Al, cl, l, rfl, hpi, hll, hlc, b3⟩; have B3 := Lib.hid (next_below B2.out b3); clear m0 m1 m2 m3 m4; obtain ⟨⟨m0, m1, m2, m3, m4⟩, hbw⟩ := HB0.out _ B3.out; have H3 := Lib.hid hbw; have HPI := Lib.hid hpi; have HLC := Lib.hid hlc; clear hbw b3 hpi hlc)
      | (go_at_call 25; refine (HDI.out a _ (next_below H3.out ((Below.refl _ w3).alloc (Nat.le_refl _) _)) w3.heap.size ((Blk.fresh w3 _ _).at 0)).mono ?_; rintro e w4 ⟨bl, ol, cl4, far, rfl, hds, hdl, hdc, b4⟩; have B4 := Lib.hid (next_below (next_below B3.out ((Below.refl _ w3).alloc (Nat.le_refl _) _)) b4); have B34 := Lib.hid (next_below ((Below.refl _ w3).alloc (Nat.le_refl _) _) b4); clear m0 m1 m2 m3 m4; obtain ⟨⟨m0, m1, m2, m3, m4⟩, hbw⟩ := HB0.out _ B4.out; have H4 := Lib.hid hbw; have HDS := Lib.hid hds; have HDC := Lib.hid hdc; clear hbw b4 hds hdc))
  by_cases hcell : 0 ≤ a ∧ a < (n : Int) ∧ 0 ≤ b ∧ b < (n : Int)
  case neg =>
    have hl0 : l.length = 0 := by rw [pathIs_no HHO.out HPI.out (by rw [← HNF.out]; exact hcell)]; rfl
    clear HPI HLC HDS HDC HPA HDI HNX HNL HHO HHA hdl
    generalize l.length = L at *
    subst hl0
    by_cases g1 : b < 0
    · go_wp2_with fail
      go_ret
      exact ⟨rfl, H4.out⟩
    · by_cases g2 : (n : Int) ≤ b
      · go_wp2_with fail
        go_ret
        exact ⟨rfl, H4.out⟩
      · by_cases g3 : a < 0
        · go_wp2_with fail
          go_ret
          exact ⟨rfl, H4.out⟩
        · have g4 : (n : Int) ≤ a := by omega
          clear hcell
          go_wp2_with fail
          go_ret
          exact ⟨rfl, H4.out⟩
  obtain ⟨ha0, ha1, hb0, hb1⟩ := hcell
  obtain ⟨ka, rfl⟩ : ∃ k : Nat, a = k := ⟨a.toNat, by omega⟩
  obtain ⟨kb, rfl⟩ : ∃ k : Nat, b = k := ⟨b.toNat, by omega⟩
  have hka : ka < n := by omega
  have hkb : kb < n := by omega
  have hlen := pathIs_dist HHO.out HPI.out (by rw [← HNF.out]; exact hkb) HDS.out
  have zc := HDC.out kb hkb _ (Below.refl _ w4)
  clear HDS HDC HPA hdl
  obtain ⟨L, hL⟩ : ∃ L : Nat, L = l.length := ⟨_, rfl⟩
  have HL9 := Lib.hid hL
  rw [← hL] at hlen hll ⊢
  clear hL
  generalize gt far kb = gv at *
  have hcmp : ((L : Int) != IntKind.i64.wrap (gv + 1)) = false := by
    rw [IntWalk.i64_in _ (by omega), hlen]
    simp
  have hcmp2 : ((L : Int) != gv + 1) = false := by
    rw [hlen]
    simp
  have HLZ := Lib.hid hll
  go_wp2_with fail
  have HW4 : Hid (∀ w', Below w4.heap.size w4 w' → BoxS W.heap.size fW fH fD A1 n c1 A2 n2 c2 w' ∧ Below W.heap.size W w') := Lib.hid fun w' b => HB0.out w' (next_below B4.out b)
  clear m0 m1 m2 m3 m4 zc hcmp hcmp2 hlen
  have HKA := Lib.hid hka
  have HKB := Lib.hid hkb
  clear ha0 ha1 hb0 hb1 hka hkb
  generalize decide (n ≤ kb) = x1
  generalize decide (n ≤ ka) = x2
  generalize decide ((kb : Int) < 0) = x3
  generalize decide ((ka : Int) < 0) = x4
  generalize (x3 || x1 || x4 || x2) = x7
  generalize (x3 || x1 || x4) = x6
  generalize (x3 || x1) = x5
  generalize gv + 1 = gv1
  go_loopw [12, 13, 14, 15, 16, 17] (fun iv _ _ _ _ _ wr => ∃ c, PwR w4 L iv wr c) (fun iv _ _ _ _ _ _ => L - (intOf iv).toNat)
  case atStart => exact ⟨0, rfl, Nat.zero_le _, Below.refl _ _⟩
  case round =>
    obtain ⟨c, ⟨rfl, hc, hbel⟩⟩ := hrel
    have HBE := Lib.hid hbel
    obtain ⟨⟨m0, m1, m2, m3, m4⟩, hbw⟩ := HW4.out _ hbel
    have HBW := Lib.hid hbw
    clear hbel hbw
    by_cases hlt : c < L
    · obtain ⟨l', hl', hlst⟩ : ∃ l' : List Nat, l = l'.map (fun c : Nat => (c : Int)) ∧ Least f avoid ka kb l' := by
        rcases HPI.out with ⟨e, _⟩ | ⟨a', b', l', e1, e2, e3, h⟩
        · have h9 := HL9.out
          rw [e] at h9
          have h8 : L = 0 := h9
          omega
        · obtain rfl : ka = a' := by omega
          obtain rfl : kb = b' := by omega
          exact ⟨l', e3, h⟩
      have hLl : L = l'.length := by rw [HL9.out, hl', List.length_map]
      obtain ⟨bA, oA, hAl, hcA⟩ := row_fixed HLC.out (by rw [← HL9.out]; omega)
      subst hAl
      have HCA : Hid (∀ k q : Nat, l'[k]? = some q → ∀ w', Below w4.heap.size w4 w' → w'.cell? ⟨bA, oA + k, none⟩ = some (.int .i64 (q : Int))) := Lib.hid fun k q hq w' bw => by
        have hk := (List.getElem?_eq_some_iff.1 hq).1
        have e : l.getD k 0 = (q : Int) := by rw [hl', List.getD_eq_getElem?_getD, List.getElem?_map, hq]; rfl
        rw [← e]
        exact hcA k (by rw [hl', List.length_map]; exact hk) w' (next_below B34.out bw)
      obtain ⟨q, hq⟩ : ∃ q, l'[c]? = some q := ⟨_, List.getElem?_eq_getElem (by omega)⟩
      have hop := hlst.opened q (List.mem_of_getElem? hq)
      have hqn : q < n := by rw [HNF.out]; exact hop.1
      have hqa : decide ((q : Int) ∈ avoid) = false := by
        have h1 := hop.2
        unfold shutB at h1
        exact (Bool.or_eq_false_iff.1 h1).1
      have zq := HCA.out c q hq _ HBE.out
      have hq0 : c = 0 → q = ka := fun e => by
        rw [e, hlst.head] at hq
        exact (Option.some.inj hq).symm
      have hqL : c + 1 = L → q = kb := fun e => by
        have h9 := hlst.last
        rw [← hLl, show L - 1 = c from by omega, hq] at h9
        exact Option.some.inj h9
      have HHQ : Hid (∀ w', Below W.heap.size W w' → Calls Tryd.prog 30 #[.slice B avoid.length cb, .int .i64 q] w' fun e w2 => e = .returned (.bool false) ∧ w2 = w') := Lib.hid (by rw [← hqa]; exact HHA.out q)
      have z0 : wr.cell? ⟨bA, oA, none⟩ = some (.int .i64 (ka : Int)) := HCA.out 0 ka hlst.head _ HBE.out
      have HQ := Lib.hid hq
      have HLS := Lib.hid hlst
      have HLL := Lib.hid hLl
      have hLI : (L : Int) ≤ 5000 := by omega
      have hltI : (c : Int) < L := by omega
      have hqI : (q : Int) < n := by omega
      have hw1 : IntKind.i64.wrap ((L : Int) - 1) = (L : Int) - 1 := IntWalk.i64_in _ (by omega)
      obtain ⟨lastB, hlb⟩ : ∃ x : Bool, ((c : Int) == (L : Int) - 1) = x := ⟨_, rfl⟩
      have HLB := Lib.hid hlb
      have hlb2 : ((c : Int) == IntKind.i64.wrap ((L : Int) - 1)) = lastB := by rw [hw1]; exact hlb
      obtain ⟨zeroB, hzb⟩ : ∃ x : Bool, ((c : Int) == 0) = x := ⟨_, rfl⟩
      have HZB : Hid (zeroB = true → q = ka) := Lib.hid fun e => hq0 (by rw [e] at hzb; have := beq_iff_eq.1 hzb; omega)
      have HLK : Hid (lastB = true → q = kb) := Lib.hid fun e => hqL (by rw [e] at hlb; have := beq_iff_eq.1 hlb; omega)
      have HLN : Hid (lastB = false → c + 1 < L) := Lib.hid fun e => by
        rw [e] at hlb
        have h9 : (c : Int) ≠ (L : Int) - 1 := beq_eq_false_iff_ne.1 hlb
        omega
      have hqk1 : ((ka : Int) != (ka : Int)) = false := by simp
      have hqk2 : ((kb : Int) != (kb : Int)) = false := by simp
      clear hl' hcA hop hqa hq hq0 hqL hlst hLl HHA
      go_upto_region 15 with (fail)
      go_cut [121] (fun v wx => v = .bool false ∧ wx = wr)
      case first =>
        cases zeroB <;> cases lastB
        · go_wp2_with fail
          go_meet
          case rel => exact ⟨congrArg Value.bool (by first | rfl | (simp; omega)), rfl⟩
        · have e2 := HLK.out rfl
          subst e2
          go_wp2_with fail
          go_meet
          case rel => exact ⟨congrArg Value.bool (by first | rfl | (simp; omega)), rfl⟩
        · have e1 := HZB.out rfl
          subst e1
          go_wp2_with fail
          go_meet
          case rel => exact ⟨congrArg Value.bool (by first | rfl | (simp; omega)), rfl⟩
        · have e1 := HZB.out rfl
          have e2 := HLK.out rfl
          subst e1
          subst e2
          go_wp2_with fail
          go_meet
          case rel => exact ⟨congrArg Value.bool (by first | rfl | (simp; omega)), rfl⟩
      case rest =>
        obtain ⟨rfl, rfl⟩ := hcut
        go_upto_region 17 with (fail)
        go_cut [134] (fun v wx => v = .bool lastB ∧ wx = wc)
        case first =>
          cases lastB
          · go_wp2_with (go_at_call 30; refine (HHQ.out _ HBW.out).mono ?_; rintro e wq ⟨rfl, rfl⟩)
            go_meet
            case rel => exact ⟨rfl, rfl⟩
          · go_wp2_with (go_at_call 30; refine (HHQ.out _ HBW.out).mono ?_; rintro e wq ⟨rfl, rfl⟩)
            go_meet
            case rel => exact ⟨rfl, rfl⟩
        case rest =>
          obtain ⟨rfl, hwx⟩ := hcut
          subst hwx
          clear z0 hlb hlb2 hzb
          cases lastB
          · obtain ⟨n1, hn1⟩ : ∃ n1, l'[c + 1]? = some n1 := ⟨_, List.getElem?_eq_getElem (by have := HLN.out rfl; have := HLL.out; omega)⟩
            have HN1 := Lib.hid hn1
            have HC1 : Hid (c + 1 < L) := Lib.hid (HLN.out rfl)
            clear hn1
            go_wp2_with fail
            go_loopw [13, 14, 15, 16, 17] (fun mv dv _ _ _ wr => ∃ d mt, PiR f q n1 w4 mv dv wr d mt) (fun _ dv _ _ _ _ => 6 - (intOf dv).toNat)
            case atStart => exact ⟨0, false, rfl, rfl, by omega, .inr (fun d' h => by omega), HBE.out⟩
            case round =>
              obtain ⟨d, mt, ⟨rfl, rfl, hd, hfd, hbel⟩⟩ := hrel
              have HFD := Lib.hid hfd
              have HB3 := Lib.hid hbel
              clear zq m0 m1 m2 m3 m4 HBE HBW
              obtain ⟨⟨m0, m1, m2, m3, m4⟩, hbw⟩ := HW4.out _ hbel
              have HBW3 := Lib.hid hbw
              clear hbel hbw hfd
              by_cases hlt2 : d < 6
              · cases mt
                · have HNO : Hid (∀ d' : Nat, d' < d → f.next q d' ≠ some (n1 : Int)) := Lib.hid (by
                    rcases HFD.out with h | h
                    · cases h
                    · exact h)
                  have HNXc := Lib.hid (fun w' b => HNX.out (q : Int) (d : Int) w' b)
                  have HNV : Hid (((f.next q d).isSome = false ∧ f.next q d = none) ∨ ∃ m : Nat, (f.next q d).isSome = true ∧ (f.next q d).getD 0 = m ∧ f.next q d = some (m : Int) ∧ m < n) := Lib.hid (by
                    cases h : f.next q d with
                    | none => exact .inl ⟨rfl, rfl⟩
                    | some z =>
                      obtain ⟨m, rfl, hm⟩ := HNL.out q d z h
                      exact .inr ⟨m, rfl, rfl, rfl, hm⟩)
                  dsimp only [resN] at HNXc
                  generalize (f.next q d).getD 0 = nv at *
                  generalize (f.next q d).isSome = nb at *
                  have HKB2 : Hid (∀ w', Below wr.heap.size wr w' → BoxS W.heap.size fW fH fD A1 n c1 A2 n2 c2 w') := Lib.hid fun w' b => (HW4.out _ (next_below HB3.out b)).1
                  have HKC2 : Hid (∀ w', Below wr.heap.size wr w' → w'.cell? ⟨bA, oA + c, none⟩ = some (.int .i64 (q : Int))) := Lib.hid fun w' b => HCA.out c q HQ.out _ (next_below HB3.out b)
                  have HBD : Hid (Below wr.heap.size wr wr.drew) := Lib.hid (Below.refl _ wr).drew
                  have HBDW : Hid (Below W.heap.size W wr.drew) := Lib.hid (HW4.out _ (next_below HB3.out HBD.out)).2
                  go_upto_region 24 with (fail)
                  clear m0 m1 m2 m3 m4
                  go_region_held3 (fun w' => w'.cell? ⟨bA, oA + c, none⟩ = some (.int .i64 (q : Int)) ∧ BoxS W.heap.size fW fH fD A1 n c1 A2 n2 c2 w') (first | exact ⟨HKC2.out _ HBD.out, HKB2.out _ HBD.out⟩ | exact ⟨HKC2.out _ b5, HKB2.out _ b5⟩ | exact HKC2.out _ HBD.out | exact HKC2.out _ b5 | exact HKB2.out _ HBD.out | exact HKB2.out _ b5 | go_keep)
                    (first | (go_at_call 16; refine (HNXc.out _ HBDW.out).mono ?_; rintro e w5 ⟨rfl, b5'⟩; have b5 := next_below HBD.out b5'))
                  have B5 : Hid (Below w4.heap.size w4 w5) := Lib.hid (next_below HB3.out b5)
                  clear b5 b5' HKB2 HKC2 HBD HBDW HNXc
                  obtain ⟨⟨m0, m1, m2, m3, m4⟩, hbw⟩ := HW4.out _ B5.out
                  have HBW5 := Lib.hid hbw
                  clear hbw
                  have zn := HCA.out (c + 1) n1 HN1.out _ B5.out
                  have hwc : IntKind.i64.wrap ((c : Int) + 1) = ((c + 1 : Nat) : Int) := by rw [IntWalk.i64_in _ (by omega)]; omega
                  have hc1 := HC1.out
                  rcases HNV.out with ⟨rfl, hnn⟩ | ⟨m, rfl, rfl, hm, hmn⟩
                  · have HN2 : Hid (∀ d' : Nat, d' < d + 1 → f.next q d' ≠ some (n1 : Int)) := Lib.hid fun d' h1 h2 => by
                      by_cases e : d' = d
                      · rw [e, hnn] at h2
                        cases h2
                      · exact HNO.out d' (by omega) h2
                    clear hnn
                    try (go_quiet (fail))
                    go_wp2_with fail
                    go_roundw
                    case rel => exact ⟨d + 1, false, rfl, by simp, by omega, .inr HN2.out, B5.out⟩
                    case measure => simp [intOf]; omega
                  · by_cases hmn1 : m = n1
                    · subst hmn1
                      clear hm hmn
                      have hmm : ((m : Int) == (m : Int)) = true := by simp
                      try (go_quiet (fail))
                      go_wp2_with fail
                      go_roundw
                      case rel => exact ⟨d + 1, true, rfl, by simp, by omega, .inl rfl, B5.out⟩
                      case measure => simp [intOf]; omega
                    · have hmm : ((m : Int) == (n1 : Int)) = false := ne_b (by omega)
                      have HN2 : Hid (∀ d' : Nat, d' < d + 1 → f.next q d' ≠ some (n1 : Int)) := Lib.hid fun d' h1 h2 => by
                        by_cases e : d' = d
                        · rw [e, hm] at h2
                          have e2 := Option.some.inj h2
                          exact hmn1 (by omega)
                        · exact HNO.out d' (by omega) h2
                      have HBAD : Hid (∀ out, IsDist f.Kind.length (spSrc f [(m : Int)] avoid) (spE f avoid false) out → gt out kb < 0 ∨ (L : Int) - 2 - c < gt out kb) := Lib.hid fun out h => by
                        have := less_bad HHO.out HLS.out (by rw [← HNF.out]; exact HKB.out) HQ.out HN1.out hm (fun d' h => HN2.out d' (by omega)) h
                        rw [← HLL.out] at this
                        exact this
                      clear hm hmn hmn1
                      try (go_quiet (fail))
                      go_upto_region 28 with (go_at_call 25; refine (HDI.out m _ (next_below HBW5.out ((Below.refl _ w5).alloc (Nat.le_refl _) _)) w5.heap.size ((Blk.fresh w5 _ _).at 0)).mono ?_; rintro e w6 ⟨b6, o6, c6, rest, rfl, hds, hdl, hdc, hb6⟩; have B6 := Lib.hid (next_below (next_below B5.out ((Below.refl _ w5).alloc (Nat.le_refl _) _)) hb6); clear hb6)
                      clear m0 m1 m2 m3 m4 zn
                      have zr := hdc kb HKB.out _ (Below.refl _ w6)
                      have hbad := HBAD.out rest hds
                      clear hdc hds hdl HBAD
                      generalize gt rest kb = rb at *
                      have hr2 : IntKind.i64.wrap (IntKind.i64.wrap ((L : Int) - 2) - (c : Int)) = (L : Int) - 2 - c := by
                        rw [IntWalk.i64_in ((L : Int) - 2) (by omega), IntWalk.i64_in _ (by omega)]
                      by_cases hrb : rb < 0
                      · clear hbad
                        go_wp2_with fail
                        go_roundw
                        case rel => exact ⟨d + 1, false, rfl, by simp, by omega, .inr HN2.out, B6.out⟩
                        case measure => simp [intOf]; omega
                      · have hrb2 : (L : Int) - 2 - c < rb := by omega
                        clear hbad
                        go_wp2_with fail
                        go_roundw
                        case rel => exact ⟨d + 1, false, rfl, by simp, by omega, .inr HN2.out, B6.out⟩
                        case measure => simp [intOf]; omega
                · go_wp2_with fail
                  go_roundw
                  case rel => exact ⟨c + 1, by simp, hlt, HB3.out⟩
                  case measure => simp [intOf]; omega
              · obtain rfl : d = 6 := by omega
                cases mt
                · exfalso
                  obtain ⟨d0, g1, g2, _⟩ := HLS.out.step c q n1 HQ.out HN1.out
                  rcases HFD.out with h | h
                  · cases h
                  · exact h d0 g1 g2
                · go_wp2_with fail
                  go_roundw
                  case rel => exact ⟨c + 1, by simp, hlt, HB3.out⟩
                  case measure => simp [intOf]; omega
          · go_wp2_with (go_at_call 30; refine (HHQ.out _ HBW.out).mono ?_; rintro e wq ⟨rfl, rfl⟩)
            go_roundw
            case rel => exact ⟨c + 1, by simp, hlt, HBE.out⟩
            case measure => simp [intOf]; omega
    · obtain rfl : c = L := by omega
      go_wp2_with fail
      go_ret
      exact ⟨rfl, HBW.out⟩
end Flo
end Go.Proofs.YtncbhhnojdhpeaaDoor

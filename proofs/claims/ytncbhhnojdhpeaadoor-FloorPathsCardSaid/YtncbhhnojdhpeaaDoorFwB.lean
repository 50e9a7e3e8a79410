/- FloorBack. -/
import Derived.Test.YtncbhhnojdhpeaaDoorFsC
namespace Go.Proofs.YtncbhhnojdhpeaaDoor
open Go.RowKit Wire
open Txt (Row)
open Own
open Dsk (Only nth)
set_option linter.unusedVariables false
set_option linter.unusedSimpArgs false
namespace Flo
theorem fair_as (f : Fl) (p : Pl) (w : World) (hin : FlIn w f p) (hlk : f.Kind.length ≤ 9223372036854775807) (hlo : f.Out.length ≤ 9223372036854775807) (b : Bool) (hb : b = true ↔ f.ok ∧ f.Kind.length ≤ 300) :
    Calls Tryd.prog 29 #[f.val p, .int .i64 300] w fun e w' => e = .returned (.bool b) ∧ Below w.heap.size w w' :=
  (fair_any f p 300 w hin hlk hlo).mono fun e w' ⟨b', he, hb', hw⟩ => by
    have : b' = b := by rw [Bool.eq_iff_iff, hb', hb]
    rw [this] at he
    exact ⟨he, hw⟩
theorem may_split {f : Fl} {c n d : Int} (h : f.may c n d = true) : f.kindAt c ≠ 0 ∧ f.kindAt n ≠ 0 ∧ bitOf (f.outAt c) d ≠ 0 := by
  rw [may_eq] at h
  simp only [Bool.and_eq_true, bne_iff_ne] at h
  exact ⟨h.1.1.1, h.1.1.2, h.1.2⟩
set_option maxRecDepth 100000 in
set_option maxHeartbeats 8000000 in
theorem back_law (f : Fl) (p : Pl) (c d : Int) (W : World) (hv : VS W ∧ VO W) (hin : FlIn W f p) (hlk : f.Kind.length ≤ maxLen) (hlo : f.Out.length ≤ maxLen) :
    Calls Tryd.prog 5 #[f.val p, .int .i64 c, .int .i64 d] W fun e w' => e = .returned (.bool true) ∧ Below W.heap.size W w' := by
  have hk9 : f.Kind.length ≤ 9223372036854775807 := by unfold maxLen at hlk; omega
  have ho9 : f.Out.length ≤ 9223372036854775807 := by unfold maxLen at hlo; omega
  obtain ⟨fb, hfb⟩ : ∃ r : Bool, (r = true) ↔ (f.ok ∧ f.Kind.length ≤ 300) := ⟨@decide _ (Classical.propDecidable _), @decide_eq_true_iff _ (Classical.propDecidable _)⟩
  have HSM : Hid (∀ w', Below W.heap.size W w' → Calls Tryd.prog 8 #[] w' fun e w2 => e = .returned (.bool true) ∧ Below w'.heap.size w' w2) := Lib.hid fun w' b => small_any w' (hv.1.lift b)
  have HFA : Hid (∀ w', Below W.heap.size W w' → Calls Tryd.prog 29 #[f.val p, .int .i64 300] w' fun e w2 => e = .returned (.bool fb) ∧ Below w'.heap.size w' w2) := Lib.hid fun w' b => fair_as f p w' (hin.lift b) hk9 ho9 fb hfb
  have HB : Hid (∀ o, Below W.heap.size W (W.alloc o)) := Lib.hid fun o => (Below.refl _ W).alloc (Nat.le_refl _) o
  obtain ⟨A1, c1, A2, c2⟩ := p
  have HB0 : Hid (∀ w', Below (W.alloc (.cells (boxV f.W f.H f.D A1 f.Kind.length c1 A2 f.Out.length c2) 24)).heap.size (W.alloc (.cells (boxV f.W f.H f.D A1 f.Kind.length c1 A2 f.Out.length c2) 24)) w' → BoxS W.heap.size f.W f.H f.D A1 f.Kind.length c1 A2 f.Out.length c2 w' ∧ Below W.heap.size W w') := Lib.hid fun w' b => ⟨boxS ((Blk.fresh W _ _).under b (by simp)), next_below ((Below.refl _ W).alloc (Nat.le_refl _) _) b⟩
  have HZ0 : Hid (Below (W.alloc (.cells (boxV f.W f.H f.D A1 f.Kind.length c1 A2 f.Out.length c2) 24)).heap.size (W.alloc (.cells (boxV f.W f.H f.D A1 f.Kind.length c1 A2 f.Out.length c2) 24)) (W.alloc (.cells (boxV f.W f.H f.D A1 f.Kind.length c1 A2 f.Out.length c2) 24))) := Lib.hid (Below.refl _ _)
  cases fb
  · clear hv hin hfb hlk hlo hk9 ho9
    generalize hn : f.Kind.length = n at *
    generalize hn2 : f.Out.length = n2 at *
    have HVAL : Hid (f.val ⟨A1, c1, A2, c2⟩ = .agg #[.int .i64 f.W, .int .i64 f.H, .int .i64 f.D, .slice A1 n c1, .slice A2 n2 c2]) := Lib.hid (by rw [← hn, ← hn2])
    rw [HVAL.out] at HFA ⊢
    clear hn hn2 HVAL
    generalize f.W = fW at *
    generalize f.H = fH at *
    generalize f.D = fD at *
    go_enter Tryd.func5, Tryd.ntmps5
    go_wp2_with (first
      | (go_at_call 8; refine (HSM.out _ (HB.out _)).mono ?_; rintro e w1 ⟨rfl, b1⟩; have B1 := Lib.hid b1; obtain ⟨⟨m0, m1, m2, m3, m4⟩, hbw⟩ := HB0.out _ b1; have H1 := Lib.hid hbw; clear b1 hbw)
      | (go_at_call 29; refine (HFA.out _ H1.out).mono ?_; rintro e w2 ⟨rfl, b2⟩; have H2 := Lib.hid (next_below H1.out b2); clear b2))
    go_ret
    exact ⟨rfl, H2.out⟩
  obtain ⟨ho, hk300⟩ := hfb.1 rfl
  have HNXg : Hid (∀ c' d' w', Below W.heap.size W w' → Calls Tryd.prog 16 #[f.val ⟨A1, c1, A2, c2⟩, .int .i64 c', .int .i64 d'] w' fun e w2 => e = .returned (resN (f.next c' d')) ∧ Below w'.heap.size w' w2) := Lib.hid fun c' d' w' b => next_any ho ⟨A1, c1, A2, c2⟩ c' d' w' (hv.1.lift b) (hin.lift b)
  have HBKg : Hid (∀ c' d' w', Below W.heap.size W w' → Calls Tryd.prog 18 #[f.val ⟨A1, c1, A2, c2⟩, .int .i64 c', .int .i64 d'] w' fun e w2 => e = .returned (resN (f.back c' d')) ∧ Below w'.heap.size w' w2) := Lib.hid fun c' d' w' b => back_any ho ⟨A1, c1, A2, c2⟩ c' d' w' (hv.1.lift b) (hv.2.lift b) (hin.lift b)
  have HOPg : Hid (∀ d' w', Below W.heap.size W w' → Calls Tryd.prog 12 #[.int .i64 d'] w' fun e w2 => e = .returned (.int .i64 (opp d')) ∧ w' = w2) := Lib.hid fun d' w' b => opposite_any d' w' (hv.2.lift b)
  have HKR : Hid (∀ k, k < f.Kind.length → ∃ b o, A1 = some ⟨b, o, none⟩ ∧ ∀ w', Below W.heap.size W w' → w'.cell? ⟨b, o + k, none⟩ = some (.int .i64 (f.kindAt k))) := Lib.hid fun k hk => by
    have := row_val hin.kind hk
    have e : f.kindAt k = f.Kind.getD k 0 := by unfold Fl.kindAt; simp
    rw [e]
    exact this
  have HOR : Hid (∀ k, k < f.Out.length → ∃ b o, A2 = some ⟨b, o, none⟩ ∧ ∀ w', Below W.heap.size W w' → w'.cell? ⟨b, o + k, none⟩ = some (.int .i64 (f.outAt k))) := Lib.hid fun k hk => by
    have := row_val hin.out hk
    have e : f.outAt k = f.Out.getD k 0 := by unfold Fl.outAt; simp
    rw [e]
    exact this
  have hnn : f.Out.length = f.Kind.length := by have := ho.kinds; have := ho.outs; omega
  have HO := Lib.hid ho
  have HFN : Hid (∀ (c d n : Int), f.next c d = some n → ∃ kc kn j : Nat, c = kc ∧ n = kn ∧ d = j ∧ kc < f.Kind.length ∧ kn < f.Kind.length ∧ j < 6 ∧ f.kindAt kc ≠ 0 ∧ f.kindAt kn ≠ 0 ∧ bitOf (f.outAt kc) j ≠ 0 ∧ kn ≠ kc) := Lib.hid fun c d n h => by
    obtain ⟨g1, g2, g3⟩ := Fl.next_some h
    obtain ⟨q1, q2, q3, q4, q5⟩ := Fl.next_is h
    have q6 := Fl.is_bounds q1
    have q7 := Fl.is_bounds q3
    have q8 := of_decide_eq_true q2
    have q9 := HO.out.kinds
    obtain ⟨s1, s2, s3⟩ := may_split g3
    have hne := Fl.beside_ne g1
    refine ⟨c.toNat, n.toNat, d.toNat, by omega, by omega, by omega, by omega, by omega, by omega, ?_, ?_, ?_, ?_⟩
    · rwa [show ((c.toNat : Nat) : Int) = c from by omega]
    · rwa [show ((n.toNat : Nat) : Int) = n from by omega]
    · rwa [show ((c.toNat : Nat) : Int) = c from by omega, show ((d.toNat : Nat) : Int) = d from by omega]
    · rw [← g2] at hne
      omega
  clear hfb hv hin hlk hlo hk9 ho9

  generalize hn : f.Kind.length = n at *
  generalize hn2 : f.Out.length = n2 at *
  have HVAL : Hid (f.val ⟨A1, c1, A2, c2⟩ = .agg #[.int .i64 f.W, .int .i64 f.H, .int .i64 f.D, .slice A1 n c1, .slice A2 n2 c2]) := Lib.hid (by rw [← hn, ← hn2])
  rw [HVAL.out] at HFA HNXg HBKg ⊢
  clear hn hn2 HVAL
  subst hnn
  generalize f.W = fW at *
  generalize f.H = fH at *
  generalize f.D = fD at *
  have hn300 : (n2 : Int) ≤ 300 := by omega
  have HN1 := Lib.hid (fun w' b => HNXg.out c d w' b)
  have HB1 := Lib.hid (fun w' b => HBKg.out c d w' b)
  have HO1 := Lib.hid (fun w' b => HOPg.out d w' b)
  cases hid : isDir d
  · rw [opp_none hid] at HO1
    rw [Fl.next_none hid] at HN1
    rw [Fl.back_none hid] at HB1
    have hd9 := of_decide_eq_false hid
    have hdd : d < 0 ∨ (0 ≤ d ∧ 6 ≤ d) := by omega
    dsimp only [resN, Option.getD, Option.isSome] at HN1 HB1
    clear HNXg HBKg HOPg HKR HOR HFN hid hd9 HO
    rcases hdd with hd1 | ⟨hd1, hd2⟩
    · go_enter Tryd.func5, Tryd.ntmps5
      go_wp2_with (first
            | (go_at_call 8; refine (HSM.out _ (HB.out _)).mono ?_; rintro e w1 ⟨rfl, b1⟩; have B1 := Lib.hid b1; obtain ⟨⟨m0, m1, m2, m3, m4⟩, hbw⟩ := HB0.out _ B1.out; have H1 := Lib.hid hbw; clear hbw b1)
            | (go_at_call 29; refine (HFA.out _ H1.out).mono ?_; rintro e w2 ⟨rfl, b2⟩; have B2 := Lib.hid (next_below B1.out b2); clear m0 m1 m2 m3 m4; obtain ⟨⟨m0, m1, m2, m3, m4⟩, hbw⟩ := HB0.out _ B2.out; have H2 := Lib.hid hbw; clear hbw b2)
            | (go_at_call 16; (with_reducible refine (HN1.out _ H2.out).mono ?_); rintro e w3 ⟨rfl, b3⟩; have B3 := Lib.hid (next_below B2.out b3); clear m0 m1 m2 m3 m4; obtain ⟨⟨m0, m1, m2, m3, m4⟩, hbw⟩ := HB0.out _ B3.out; have H3 := Lib.hid hbw; clear hbw b3)
            | (go_at_call 18; (with_reducible refine (HB1.out _ H3.out).mono ?_); rintro e w4 ⟨rfl, b4⟩; have B4 := Lib.hid (next_below B3.out b4); clear m0 m1 m2 m3 m4; obtain ⟨⟨m0, m1, m2, m3, m4⟩, hbw⟩ := HB0.out _ B4.out; have H4 := Lib.hid hbw; clear hbw b4)
            | (go_at_call 12; (with_reducible refine (HO1.out _ H4.out).mono ?_); rintro e wq ⟨rfl, rfl⟩))
      go_ret
      exact ⟨rfl, H4.out⟩
    · go_enter Tryd.func5, Tryd.ntmps5
      go_wp2_with (first
            | (go_at_call 8; refine (HSM.out _ (HB.out _)).mono ?_; rintro e w1 ⟨rfl, b1⟩; have B1 := Lib.hid b1; obtain ⟨⟨m0, m1, m2, m3, m4⟩, hbw⟩ := HB0.out _ B1.out; have H1 := Lib.hid hbw; clear hbw b1)
            | (go_at_call 29; refine (HFA.out _ H1.out).mono ?_; rintro e w2 ⟨rfl, b2⟩; have B2 := Lib.hid (next_below B1.out b2); clear m0 m1 m2 m3 m4; obtain ⟨⟨m0, m1, m2, m3, m4⟩, hbw⟩ := HB0.out _ B2.out; have H2 := Lib.hid hbw; clear hbw b2)
            | (go_at_call 16; (with_reducible refine (HN1.out _ H2.out).mono ?_); rintro e w3 ⟨rfl, b3⟩; have B3 := Lib.hid (next_below B2.out b3); clear m0 m1 m2 m3 m4; obtain ⟨⟨m0, m1, m2, m3, m4⟩, hbw⟩ := HB0.out _ B3.out; have H3 := Lib.hid hbw; clear hbw b3)
            | (go_at_call 18; (with_reducible refine (HB1.out _ H3.out).mono ?_); rintro e w4 ⟨rfl, b4⟩; have B4 := Lib.hid (next_below B3.out b4); clear m0 m1 m2 m3 m4; obtain ⟨⟨m0, m1, m2, m3, m4⟩, hbw⟩ := HB0.out _ B4.out; have H4 := Lib.hid hbw; clear hbw b4)
            | (go_at_call 12; (with_reducible refine (HO1.out _ H4.out).mono ?_); rintro e wq ⟨rfl, rfl⟩))
      go_ret
      exact ⟨rfl, H4.out⟩
  have hd9 := of_decide_eq_true hid
  obtain ⟨j, rfl⟩ : ∃ j : Nat, d = j := ⟨d.toNat, by omega⟩
  have hj0 : (0 : Int) ≤ j := by omega
  have hj6 : ¬ (6 : Int) ≤ j := by omega
  have ub := uint_small j (by omega)
  obtain ⟨_, _, _, _, ho1, ho2⟩ := opp_dir hid
  have HO2 : Hid (∀ w', Below W.heap.size W w' → Calls Tryd.prog 12 #[.int .i64 (opp j)] w' fun e w2 => e = .returned (.int .i64 j) ∧ w' = w2) := Lib.hid fun w' b => by have := HOPg.out (opp j) w' b; rwa [ho1] at this
  have hob : (opp j != (j : Int)) = true := bne_iff_ne.2 ho2
  generalize opp (j : Int) = oj at *
  clear ho1 ho2 hid hd9 HOPg
  have HBI : Hid (∀ n : Int, f.back c j = some n ↔ f.next n j = some c) := Lib.hid fun n => Fl.back_iff HO.out
  have HBJ : Hid (∀ n : Int, f.next c j = some n → f.back n j = some c) := Lib.hid fun n h => Fl.next_back HO.out h
  cases hnx : f.next c j with
  | none =>
    rw [hnx] at HN1
    cases hbk : f.back c j with
    | none =>
      rw [hbk] at HB1
      dsimp only [resN, Option.getD, Option.isSome] at HN1 HB1
      clear HNXg HBKg HKR HOR HFN HO hnx hbk HBI HBJ
      go_enter Tryd.func5, Tryd.ntmps5
      go_wp2_with (first
            | (go_at_call 8; refine (HSM.out _ (HB.out _)).mono ?_; rintro e w1 ⟨rfl, b1⟩; have B1 := Lib.hid b1; obtain ⟨⟨m0, m1, m2, m3, m4⟩, hbw⟩ := HB0.out _ B1.out; have H1 := Lib.hid hbw; clear hbw b1)
            | (go_at_call 29; refine (HFA.out _ H1.out).mono ?_; rintro e w2 ⟨rfl, b2⟩; have B2 := Lib.hid (next_below B1.out b2); clear m0 m1 m2 m3 m4; obtain ⟨⟨m0, m1, m2, m3, m4⟩, hbw⟩ := HB0.out _ B2.out; have H2 := Lib.hid hbw; clear hbw b2)
            | (go_at_call 16; (with_reducible refine (HN1.out _ H2.out).mono ?_); rintro e w3 ⟨rfl, b3⟩; have B3 := Lib.hid (next_below B2.out b3); clear m0 m1 m2 m3 m4; obtain ⟨⟨m0, m1, m2, m3, m4⟩, hbw⟩ := HB0.out _ B3.out; have H3 := Lib.hid hbw; clear hbw b3)
            | (go_at_call 18; (with_reducible refine (HB1.out _ H3.out).mono ?_); rintro e w4 ⟨rfl, b4⟩; have B4 := Lib.hid (next_below B3.out b4); clear m0 m1 m2 m3 m4; obtain ⟨⟨m0, m1, m2, m3, m4⟩, hbw⟩ := HB0.out _ B4.out; have H4 := Lib.hid hbw; clear hbw b4)
            | (go_at_call 12; (with_reducible refine (HO1.out _ H4.out).mono ?_); rintro e wq ⟨rfl, rfl⟩)
            | (go_at_call 12; (with_reducible refine (HO2.out _ H4.out).mono ?_); rintro e wq ⟨rfl, rfl⟩))
      go_ret
      exact ⟨rfl, H4.out⟩
    | some z =>
      rw [hbk] at HB1
      have HN2 := Lib.hid (fun w' b => HNXg.out z j w' b)
      rw [(HBI.out z).1 hbk] at HN2
      have hzb : (c == c) = true := beq_self_eq_true c
      dsimp only [resN, Option.getD, Option.isSome] at HN1 HB1 HN2
      clear HNXg HBKg HKR HOR HFN HO hnx hbk HBI HBJ
      go_enter Tryd.func5, Tryd.ntmps5
      go_wp2_with (first
            | (go_at_call 8; refine (HSM.out _ (HB.out _)).mono ?_; rintro e w1 ⟨rfl, b1⟩; have B1 := Lib.hid b1; obtain ⟨⟨m0, m1, m2, m3, m4⟩, hbw⟩ := HB0.out _ B1.out; have H1 := Lib.hid hbw; clear hbw b1)
            | (go_at_call 29; refine (HFA.out _ H1.out).mono ?_; rintro e w2 ⟨rfl, b2⟩; have B2 := Lib.hid (next_below B1.out b2); clear m0 m1 m2 m3 m4; obtain ⟨⟨m0, m1, m2, m3, m4⟩, hbw⟩ := HB0.out _ B2.out; have H2 := Lib.hid hbw; clear hbw b2)
            | (go_at_call 16; (with_reducible refine (HN1.out _ H2.out).mono ?_); rintro e w3 ⟨rfl, b3⟩; have B3 := Lib.hid (next_below B2.out b3); clear m0 m1 m2 m3 m4; obtain ⟨⟨m0, m1, m2, m3, m4⟩, hbw⟩ := HB0.out _ B3.out; have H3 := Lib.hid hbw; clear hbw b3)
            | (go_at_call 18; (with_reducible refine (HB1.out _ H3.out).mono ?_); rintro e w4 ⟨rfl, b4⟩; have B4 := Lib.hid (next_below B3.out b4); clear m0 m1 m2 m3 m4; obtain ⟨⟨m0, m1, m2, m3, m4⟩, hbw⟩ := HB0.out _ B4.out; have H4 := Lib.hid hbw; clear hbw b4)
            | (go_at_call 16; (with_reducible refine (HN2.out _ H4.out).mono ?_); rintro e w5 ⟨rfl, b5⟩; have B5 := Lib.hid (next_below B4.out b5); clear m0 m1 m2 m3 m4; obtain ⟨⟨m0, m1, m2, m3, m4⟩, hbw⟩ := HB0.out _ B5.out; have H5 := Lib.hid hbw; clear hbw b5)
            | (go_at_call 12; (with_reducible refine (HO1.out _ H5.out).mono ?_); rintro e wq ⟨rfl, rfl⟩)
            | (go_at_call 12; (with_reducible refine (HO2.out _ H5.out).mono ?_); rintro e wq ⟨rfl, rfl⟩))
      go_ret
      exact ⟨rfl, H5.out⟩
  | some y =>
    rw [hnx] at HN1
    have HB2 := Lib.hid (fun w' b => HBKg.out y j w' b)
    rw [HBJ.out y hnx] at HB2
    obtain ⟨kc, kn, j', rfl, rfl, ej, q1, q2, q3, q4, q5, q6, q7⟩ := HFN.out _ _ _ hnx
    obtain rfl : j = j' := by omega
    obtain ⟨bk, ok, ek, hck⟩ := HKR.out kc q1
    obtain ⟨bk', ok', ek', hcn⟩ := HKR.out kn q2
    obtain ⟨bo, oo, rfl, hco⟩ := HOR.out kc q1
    subst ek
    injection ek' with ek'
    injection ek' with e1 e2 _
    subst e1 e2
    have HCK := Lib.hid hck
    have HCN := Lib.hid hcn
    have HCO := Lib.hid hco
    have hbit : bits .and .i64 (f.outAt kc / 2 ^ j) 1 = bitOf (f.outAt kc) j := by
      rw [and1]
      unfold bitOf
      simp
    have s1 : (f.kindAt kc == 0) = false := ne_b q4
    have s2 : (f.kindAt kn == 0) = false := ne_b q5
    have s3 : (bitOf (f.outAt kc) j == 0) = false := ne_b q6
    have s4 : ((kn : Int) == kc) = false := ne_b (by omega)
    have l1 : (kc : Int) < n2 := by omega
    have l2 : (kn : Int) < n2 := by omega
    clear q1 q2 q4 q5 q6 q7 q3 ej hck hcn hco
    cases hbk : f.back kc j with
    | none =>
      rw [hbk] at HB1
      dsimp only [resN, Option.getD, Option.isSome] at HN1 HB1 HB2
      clear HNXg HBKg HKR HOR HFN HO hnx hbk HBI HBJ
      generalize f.kindAt kc = vk at *
      generalize f.kindAt kn = vn at *
      generalize bitOf (f.outAt kc) j = vb at *
      generalize f.outAt kc = vo at *
      go_enter Tryd.func5, Tryd.ntmps5
      go_wp2_with (first
            | (go_at_call 8; refine (HSM.out _ (HB.out _)).mono ?_; rintro e w1 ⟨rfl, b1⟩; have B1 := Lib.hid b1; obtain ⟨⟨m0, m1, m2, m3, m4⟩, hbw⟩ := HB0.out _ B1.out; have H1 := Lib.hid hbw; clear hbw b1)
            | (go_at_call 29; refine (HFA.out _ H1.out).mono ?_; rintro e w2 ⟨rfl, b2⟩; have B2 := Lib.hid (next_below B1.out b2); clear m0 m1 m2 m3 m4; obtain ⟨⟨m0, m1, m2, m3, m4⟩, hbw⟩ := HB0.out _ B2.out; have H2 := Lib.hid hbw; clear hbw b2)
            | (go_at_call 16; (with_reducible refine (HN1.out _ H2.out).mono ?_); rintro e w3 ⟨rfl, b3⟩; have B3 := Lib.hid (next_below B2.out b3); clear m0 m1 m2 m3 m4; obtain ⟨⟨m0, m1, m2, m3, m4⟩, hbw⟩ := HB0.out _ B3.out; have H3 := Lib.hid hbw; clear hbw b3; have z1 := HCK.out _ H3.out; have z2 := HCN.out _ H3.out; have z3 := HCO.out _ H3.out)
            | (go_at_call 18; (with_reducible refine (HB2.out _ H3.out).mono ?_); rintro e w4 ⟨rfl, b4⟩; have B4 := Lib.hid (next_below B3.out b4); clear m0 m1 m2 m3 m4; obtain ⟨⟨m0, m1, m2, m3, m4⟩, hbw⟩ := HB0.out _ B4.out; have H4 := Lib.hid hbw; clear hbw b4; clear z1 z2 z3; have z1 := HCK.out _ H4.out; have z2 := HCN.out _ H4.out; have z3 := HCO.out _ H4.out)
            | (go_at_call 18; (with_reducible refine (HB1.out _ H4.out).mono ?_); rintro e w5 ⟨rfl, b5⟩; have B5 := Lib.hid (next_below B4.out b5); clear m0 m1 m2 m3 m4; obtain ⟨⟨m0, m1, m2, m3, m4⟩, hbw⟩ := HB0.out _ B5.out; have H5 := Lib.hid hbw; clear hbw b5)
            | (go_at_call 12; (with_reducible refine (HO1.out _ H5.out).mono ?_); rintro e wq ⟨rfl, rfl⟩)
            | (go_at_call 12; (with_reducible refine (HO2.out _ H5.out).mono ?_); rintro e wq ⟨rfl, rfl⟩))
      go_ret
      exact ⟨rfl, H5.out⟩
    | some z =>
      rw [hbk] at HB1
      have HN2 := Lib.hid (fun w' b => HNXg.out z j w' b)
      rw [(HBI.out z).1 hbk] at HN2
      dsimp only [resN, Option.getD, Option.isSome] at HN1 HB1 HB2 HN2
      clear HNXg HBKg HKR HOR HFN HO hnx hbk HBI HBJ
      generalize f.kindAt kc = vk at *
      generalize f.kindAt kn = vn at *
      generalize bitOf (f.outAt kc) j = vb at *
      generalize f.outAt kc = vo at *
      go_enter Tryd.func5, Tryd.ntmps5
      go_wp2_with (first
            | (go_at_call 8; refine (HSM.out _ (HB.out _)).mono ?_; rintro e w1 ⟨rfl, b1⟩; have B1 := Lib.hid b1; obtain ⟨⟨m0, m1, m2, m3, m4⟩, hbw⟩ := HB0.out _ B1.out; have H1 := Lib.hid hbw; clear hbw b1)
            | (go_at_call 29; refine (HFA.out _ H1.out).mono ?_; rintro e w2 ⟨rfl, b2⟩; have B2 := Lib.hid (next_below B1.out b2); clear m0 m1 m2 m3 m4; obtain ⟨⟨m0, m1, m2, m3, m4⟩, hbw⟩ := HB0.out _ B2.out; have H2 := Lib.hid hbw; clear hbw b2)
            | (go_at_call 16; (with_reducible refine (HN1.out _ H2.out).mono ?_); rintro e w3 ⟨rfl, b3⟩; have B3 := Lib.hid (next_below B2.out b3); clear m0 m1 m2 m3 m4; obtain ⟨⟨m0, m1, m2, m3, m4⟩, hbw⟩ := HB0.out _ B3.out; have H3 := Lib.hid hbw; clear hbw b3; have z1 := HCK.out _ H3.out; have z2 := HCN.out _ H3.out; have z3 := HCO.out _ H3.out)
            | (go_at_call 18; (with_reducible refine (HB2.out _ H3.out).mono ?_); rintro e w4 ⟨rfl, b4⟩; have B4 := Lib.hid (next_below B3.out b4); clear m0 m1 m2 m3 m4; obtain ⟨⟨m0, m1, m2, m3, m4⟩, hbw⟩ := HB0.out _ B4.out; have H4 := Lib.hid hbw; clear hbw b4; clear z1 z2 z3; have z1 := HCK.out _ H4.out; have z2 := HCN.out _ H4.out; have z3 := HCO.out _ H4.out)
            | (go_at_call 18; (with_reducible refine (HB1.out _ H4.out).mono ?_); rintro e w5 ⟨rfl, b5⟩; have B5 := Lib.hid (next_below B4.out b5); clear m0 m1 m2 m3 m4; obtain ⟨⟨m0, m1, m2, m3, m4⟩, hbw⟩ := HB0.out _ B5.out; have H5 := Lib.hid hbw; clear hbw b5)
            | (go_at_call 16; (with_reducible refine (HN2.out _ H5.out).mono ?_); rintro e w6 ⟨rfl, b6⟩; have B6 := Lib.hid (next_below B5.out b6); clear m0 m1 m2 m3 m4; obtain ⟨⟨m0, m1, m2, m3, m4⟩, hbw⟩ := HB0.out _ B6.out; have H6 := Lib.hid hbw; clear hbw b6)
            | (go_at_call 12; (with_reducible refine (HO1.out _ H6.out).mono ?_); rintro e wq ⟨rfl, rfl⟩)
            | (go_at_call 12; (with_reducible refine (HO2.out _ H6.out).mono ?_); rintro e wq ⟨rfl, rfl⟩))
      go_ret
      exact ⟨rfl, H6.out⟩
end Flo
end Go.Proofs.YtncbhhnojdhpeaaDoor

/- CellApart: the walk. -/
import Derived.Test.YtlokgmpdighfaaaDoorHld
namespace Go.Proofs.YtlokgmpdighfaaaDoor
open Go.RowKit Wire
set_option linter.unusedVariables false
set_option linter.unusedSimpArgs false
open Txt
namespace Dsk

theorem nm_some {c : Cl} {k : Nat} {v : List UInt8} (h : c.nm = some (k, v)) : c.slot ≠ 0 ∧ c.value = v := by
  unfold Cl.nm at h
  split at h
  · cases h
  · rename_i h0
    injection h with h
    injection h with h1 h2
    exact ⟨h0, h2⟩
theorem nm_none {c : Cl} (h : c.nm = none) : c.slot = 0 := by
  unfold Cl.nm at h
  split at h
  · assumption
  · cases h

/-- What CellApart comes to. -/
theorem apart_plain (s t : List UInt8) (hs : s.length ≤ 400) (ht : t.length ≤ 400) {f g : Nat} (hf : f < 16) (hg : g < 16) (hfg : f ≠ g) {n : Int} (hn : n ≤ 9223372036854775807) (ks : List Int) (hk : ks.length ≤ 100) :
    ∃ ca cb ca1 cb1 ca2 cb2 S1 S3 x, opn St.new f = (0, some ca) ∧ opn St.new g = (0, some cb) ∧ ca.set St.new s = (0, ca1, S1) ∧ cb.set (S1.arm n ks) t = (x, cb1, S3) ∧
      opn (S3.crash ks).start f = (0, some ca2) ∧ opn (S3.crash ks).start g = (0, some cb2) ∧ ca2.slot ≠ 0 ∧ ca2.value = s ∧ (x = 0 → cb2.slot ≠ 0) ∧ (cb2.slot ≠ 0 → cb2.value = t) := by
  obtain ⟨o1, ra⟩ := opn_new hf
  obtain ⟨o2, rb⟩ := opn_new hg
  have hF : isF (f : Int) = true := by unfold isF; exact decide_eq_true (by omega)
  have calm : Calm St.new := ⟨rfl, rfl, rfl⟩
  obtain ⟨e1, _⟩ := calm.set (c := ⟨f, 0, [], false⟩) hF s (by omega)
  obtain ⟨_, r1⟩ := ra.set (B := fun _ => True) s (by omega) (fun _ _ => trivial) (fun _ => trivial)
  obtain ⟨_, _, _, ra1⟩ := r1 e1
  have rb1 := rb.other ⟨f, 0, [], false⟩ (by show (f : Int) ≠ g; omega) s
  have hX : Cl.set ⟨f, 0, [], false⟩ St.new s = (0, (Cl.set ⟨f, 0, [], false⟩ St.new s).2.1, (Cl.set ⟨f, 0, [], false⟩ St.new s).2.2) := by rw [← e1]
  generalize (Cl.set ⟨f, 0, [], false⟩ St.new s).2.1 = ca1 at *
  generalize (Cl.set ⟨f, 0, [], false⟩ St.new s).2.2 = S1 at *
  have ra2 := ra1.arm (n := n) (ks := ks) hn (by omega)
  have rb2 := rb1.arm (n := n) (ks := ks) hn (by omega)
  obtain ⟨r3, r4⟩ := rb2.set (B := fun z => z = none ∨ ∃ k, z = some (k, t)) t (by omega) (fun _ h => .inl h) (fun k => .inr ⟨k, rfl⟩)
  have ra3 := ra2.other ⟨g, 0, [], false⟩ (by show (g : Int) ≠ f; omega) t
  have hY : Cl.set ⟨g, 0, [], false⟩ (S1.arm n ks) t = ((Cl.set ⟨g, 0, [], false⟩ (S1.arm n ks) t).1, (Cl.set ⟨g, 0, [], false⟩ (S1.arm n ks) t).2.1, (Cl.set ⟨g, 0, [], false⟩ (S1.arm n ks) t).2.2) := rfl
  generalize (Cl.set ⟨g, 0, [], false⟩ (S1.arm n ks) t).1 = x at *
  generalize (Cl.set ⟨g, 0, [], false⟩ (S1.arm n ks) t).2.1 = cb1 at *
  generalize (Cl.set ⟨g, 0, [], false⟩ (S1.arm n ks) t).2.2 = S3 at *
  obtain ⟨ca2, o3, ⟨k, hk3⟩, _⟩ := ra3.can.again hf ks
  obtain ⟨cb2, o4, hk4, _⟩ := r3.can.again hg ks
  refine ⟨_, _, ca1, cb1, ca2, cb2, S1, S3, x, o1, o2, hX, hY, o3, o4, (nm_some hk3).1, (nm_some hk3).2, fun e => ?_, fun e => ?_⟩
  · obtain ⟨_, _, _, r5⟩ := r4 e
    obtain ⟨cb3, o5, ⟨k, hk5⟩, _⟩ := r5.can.again hg ks
    rw [o4] at o5
    injection o5 with _ o5
    injection o5 with o5
    subst o5
    exact (nm_some hk5).1
  · rcases hk4 with h | ⟨k, h⟩
    · exact absurd (nm_none h) e
    · exact (nm_some h).2

set_option maxRecDepth 8000 in
set_option maxHeartbeats 2000000 in
theorem apart_law (s t : ByteArray) (f g n : Int) (A : Option Addr) (c : Nat) (ks : List Int) (W : World) (ho : Off W) (hs : s.size ≤ maxLen) (ht : t.size ≤ maxLen) (hn : n ≤ 9223372036854775807) (hr : Row W W.heap.size A (ks.map (Value.int .i64))) :
    Calls Tryd.prog 7 #[.string s, .string t, .int .i64 f, .int .i64 g, .int .i64 n, .slice A ks.length c] W fun e w' => e = .returned (.bool true) ∧ Below W.heap.size W w' := by
  have HSM := Lib.hid (csmall_any ho)
  have HOF := Lib.hid ho
  have HR : Hid (Row W W.heap.size A (ks.map (Value.int .i64))) := Lib.hid hr
  clear ho hr
  by_cases b1 : 400 < s.size
  · go_enter Tryd.func7, Tryd.ntmps7
    go_wp2_with (go_at_call 8; refine HSM.out.mono ?_; rintro e w1 ⟨rfl, h1⟩; have H1 := Lib.hid h1; clear h1)
    go_ret
    exact ⟨rfl, H1.out⟩
  by_cases b2 : 400 < t.size
  · go_enter Tryd.func7, Tryd.ntmps7
    go_wp2_with (go_at_call 8; refine HSM.out.mono ?_; rintro e w1 ⟨rfl, h1⟩; have H1 := Lib.hid h1; clear h1)
    go_ret
    exact ⟨rfl, H1.out⟩
  by_cases b3 : f < 0
  · go_enter Tryd.func7, Tryd.ntmps7
    go_wp2_with (go_at_call 8; refine HSM.out.mono ?_; rintro e w1 ⟨rfl, h1⟩; have H1 := Lib.hid h1; clear h1)
    go_ret
    exact ⟨rfl, H1.out⟩
  by_cases b4 : 15 < f
  · go_enter Tryd.func7, Tryd.ntmps7
    go_wp2_with (go_at_call 8; refine HSM.out.mono ?_; rintro e w1 ⟨rfl, h1⟩; have H1 := Lib.hid h1; clear h1)
    go_ret
    exact ⟨rfl, H1.out⟩
  by_cases b5 : g < 0
  · go_enter Tryd.func7, Tryd.ntmps7
    go_wp2_with (go_at_call 8; refine HSM.out.mono ?_; rintro e w1 ⟨rfl, h1⟩; have H1 := Lib.hid h1; clear h1)
    go_ret
    exact ⟨rfl, H1.out⟩
  by_cases b6 : 15 < g
  · go_enter Tryd.func7, Tryd.ntmps7
    go_wp2_with (go_at_call 8; refine HSM.out.mono ?_; rintro e w1 ⟨rfl, h1⟩; have H1 := Lib.hid h1; clear h1)
    go_ret
    exact ⟨rfl, H1.out⟩
  by_cases b7 : f = g
  · subst b7
    go_enter Tryd.func7, Tryd.ntmps7
    go_wp2_with (go_at_call 8; refine HSM.out.mono ?_; rintro e w1 ⟨rfl, h1⟩; have H1 := Lib.hid h1; clear h1)
    go_ret
    exact ⟨rfl, H1.out⟩
  have q7 : (f == g) = false := beq_eq_false_iff_ne.2 b7
  by_cases b8 : 100 < ks.length
  · go_enter Tryd.func7, Tryd.ntmps7
    go_wp2_with (go_at_call 8; refine HSM.out.mono ?_; rintro e w1 ⟨rfl, h1⟩; have H1 := Lib.hid h1; clear h1)
    go_ret
    exact ⟨rfl, H1.out⟩
  obtain ⟨ca, cb, ca1, cb1, ca2, cb2, S1, S3, x, o1, o2, s1, s2, o3, o4, v1, v2, v3, v4⟩ := apart_plain (bl s) (bl t) (by rw [bl_len]; omega) (by rw [bl_len]; omega) (f := f.toNat) (g := g.toNat) (by omega) (by omega) (by omega) hn ks (by omega)
  rw [Int.toNat_of_nonneg (by omega)] at o1 o2 o3 o4
  have HO1 := Lib.hid (fun w p (h : Ones W w p St.new []) => h.open_some o1)
  have HO2 := Lib.hid (fun w p q (h : Ones W w p St.new [(q, ca)]) => h.open_some o2)
  have HS1 : Hid (∀ w p q r, Ones W w p St.new [(r, cb), (q, ca)] → Calls Tryd.prog 14 #[ptr q, .string s] w fun e w2 => e = .returned (.int .i64 0) ∧ Ones W w2 p S1 [(r, cb)]) := Lib.hid fun w p q r h =>
    (h.swap.set s hs).mono fun e w2 ⟨he, h2⟩ => by rw [s1] at he h2; exact ⟨he, h2.drop⟩
  have HAR : Hid (∀ w p K, Ones W w p S1 K → Calls Tryd.prog 18 #[ptr p, .int .i64 n, .slice A ks.length c] w fun e w2 => e = .returned (.tuple #[]) ∧ Ones W w2 p (S1.arm n ks) K) := Lib.hid fun w p K h =>
    h.step (h.ok.arm hn (by omega)) (arm_c h.below n A c ks HR.out (by omega))
  have HS2 : Hid (∀ w p r, Ones W w p (S1.arm n ks) [(r, cb)] → Calls Tryd.prog 14 #[ptr r, .string t] w fun e w2 => e = .returned (.int .i64 x) ∧ Ones W w2 p S3 []) := Lib.hid fun w p r h =>
    (h.set t ht).mono fun e w2 ⟨he, h2⟩ => by rw [s2] at he h2; exact ⟨he, h2.drop⟩
  have HCR : Hid (∀ w p K, Ones W w p S3 K → Calls Tryd.prog 25 #[ptr p, .slice A ks.length c] w fun e w2 => e = .returned (.tuple #[]) ∧ Ones W w2 p (S3.crash ks) K) := Lib.hid fun w p K h =>
    h.step (h.ok.crash ks) (crash_c h.below h.ok A c ks HR.out (by omega))
  have HST : Hid (∀ w p K, Ones W w p (S3.crash ks) K → Calls Tryd.prog 26 #[ptr p] w fun e w2 => e = .returned (.tuple #[]) ∧ Ones W w2 p (S3.crash ks).start K) := Lib.hid fun w p K h =>
    h.step h.ok.start start_c
  have HO3 := Lib.hid (fun w p (h : Ones W w p (S3.crash ks).start []) => h.open_some o3)
  have HO4 := Lib.hid (fun w p q (h : Ones W w p (S3.crash ks).start [(q, ca2)]) => h.open_some o4)
  have HG1 : Hid (∀ w p q r, Ones W w p (S3.crash ks).start [(r, cb2), (q, ca2)] → Calls Tryd.prog 23 #[ptr q] w fun e w2 => e = .returned (.tuple #[.string s, .bool true]) ∧ Ones W w2 p (S3.crash ks).start [(q, ca2), (r, cb2)]) := Lib.hid fun w p q r h => by
    have := h.swap.get
    rw [v2, decide_eq_true v1] at this
    exact this
  have HG2 : Hid (∀ w p q r, Ones W w p (S3.crash ks).start [(q, ca2), (r, cb2)] → Calls Tryd.prog 23 #[ptr r] w fun e w2 => e = .returned (.tuple #[str cb2.value, .bool (decide (cb2.slot ≠ 0))]) ∧ Ones W w2 p (S3.crash ks).start [(r, cb2), (q, ca2)]) := Lib.hid fun w p q r h => h.swap.get
  clear o1 o2 o3 o4 s1 s2 v1 v2 hn hs ht
  generalize (S3.crash ks).start = S5 at *
  generalize S3.crash ks = S4 at *
  generalize S1.arm n ks = S2 at *
  have fin : (x = 0 ∧ cb2.slot ≠ 0 ∧ cb2.value = bl t) ∨ (x ≠ 0 ∧ cb2.slot ≠ 0 ∧ cb2.value = bl t) ∨ (x ≠ 0 ∧ cb2.slot = 0) := by
    by_cases hx : x = 0
    · exact .inl ⟨hx, v3 hx, v4 (v3 hx)⟩
    · by_cases h0 : cb2.slot = 0
      · exact .inr (.inr ⟨hx, h0⟩)
      · exact .inr (.inl ⟨hx, h0, v4 h0⟩)
  clear v3 v4
  rcases fin with ⟨hx, h0, hv⟩ | ⟨hx, h0, hv⟩ | ⟨hx, h0⟩
  · subst hx
    rw [hv, decide_eq_true h0] at HG2
    clear h0
    go_enter Tryd.func7, Tryd.ntmps7
    go_wp2_with (first
      | (go_at_call 8; refine HSM.out.mono ?_; rintro e w1 ⟨rfl, h1⟩; have H1 := Lib.hid h1; clear h1)
      | (go_at_call 10; refine (new_one H1.out).mono ?_; rintro e w2 ⟨p, rfl, h2⟩; have H2 := Lib.hid (Ones.of h2 HOF.out); clear h2)
      | (go_at_call 12; ((with_reducible refine (HO1.out _ _ H2.out).mono ?_); rintro e w3 ⟨qa, rfl, h3⟩; have H3 := Lib.hid h3; clear h3 H2))
      | (go_at_call 12; ((with_reducible refine (HO2.out _ _ _ H3.out).mono ?_); rintro e w4 ⟨qb, rfl, h4⟩; have H4 := Lib.hid h4; clear h4 H3))
      | (go_at_call 14; ((with_reducible refine (HS1.out _ _ _ _ H4.out).mono ?_); rintro e w5 ⟨rfl, h5⟩; have H5 := Lib.hid h5; clear h5 H4))
      | (go_at_call 18; ((with_reducible refine (HAR.out _ _ _ H5.out).mono ?_); rintro e w6 ⟨rfl, h6⟩; have H6 := Lib.hid h6; clear h6 H5))
      | (go_at_call 14; ((with_reducible refine (HS2.out _ _ _ H6.out).mono ?_); rintro e w7 ⟨rfl, h7⟩; have H7 := Lib.hid h7; clear h7 H6))
      | (go_at_call 25; ((with_reducible refine (HCR.out _ _ _ H7.out).mono ?_); rintro e w8 ⟨rfl, h8⟩; have H8 := Lib.hid h8; clear h8 H7))
      | (go_at_call 26; ((with_reducible refine (HST.out _ _ _ H8.out).mono ?_); rintro e w9 ⟨rfl, h9⟩; have H9 := Lib.hid h9; clear h9 H8))
      | (go_at_call 12; ((with_reducible refine (HO3.out _ _ H9.out).mono ?_); rintro e w10 ⟨qc, rfl, h10⟩; have H10 := Lib.hid h10; clear h10 H9))
      | (go_at_call 12; ((with_reducible refine (HO4.out _ _ _ H10.out).mono ?_); rintro e w11 ⟨qd, rfl, h11⟩; have H11 := Lib.hid h11; clear h11 H10))
      | (go_at_call 23; ((with_reducible refine (HG1.out _ _ _ _ H11.out).mono ?_); rintro e w12 ⟨rfl, h12⟩; have H12 := Lib.hid h12; clear h12 H11))
      | (go_at_call 23; ((with_reducible refine (HG2.out _ _ _ _ H12.out).mono ?_); rintro e w13 ⟨rfl, h13⟩; have H13 := Lib.hid h13; clear h13 H12)))
    go_ret
    exact ⟨rfl, H13.out.below⟩
  · have qx : (x == 0) = false := beq_eq_false_iff_ne.2 hx
    have qy := bne_of qx
    rw [hv, decide_eq_true h0] at HG2
    clear h0
    go_enter Tryd.func7, Tryd.ntmps7
    go_wp2_with (first
      | (go_at_call 8; refine HSM.out.mono ?_; rintro e w1 ⟨rfl, h1⟩; have H1 := Lib.hid h1; clear h1)
      | (go_at_call 10; refine (new_one H1.out).mono ?_; rintro e w2 ⟨p, rfl, h2⟩; have H2 := Lib.hid (Ones.of h2 HOF.out); clear h2)
      | (go_at_call 12; ((with_reducible refine (HO1.out _ _ H2.out).mono ?_); rintro e w3 ⟨qa, rfl, h3⟩; have H3 := Lib.hid h3; clear h3 H2))
      | (go_at_call 12; ((with_reducible refine (HO2.out _ _ _ H3.out).mono ?_); rintro e w4 ⟨qb, rfl, h4⟩; have H4 := Lib.hid h4; clear h4 H3))
      | (go_at_call 14; ((with_reducible refine (HS1.out _ _ _ _ H4.out).mono ?_); rintro e w5 ⟨rfl, h5⟩; have H5 := Lib.hid h5; clear h5 H4))
      | (go_at_call 18; ((with_reducible refine (HAR.out _ _ _ H5.out).mono ?_); rintro e w6 ⟨rfl, h6⟩; have H6 := Lib.hid h6; clear h6 H5))
      | (go_at_call 14; ((with_reducible refine (HS2.out _ _ _ H6.out).mono ?_); rintro e w7 ⟨rfl, h7⟩; have H7 := Lib.hid h7; clear h7 H6))
      | (go_at_call 25; ((with_reducible refine (HCR.out _ _ _ H7.out).mono ?_); rintro e w8 ⟨rfl, h8⟩; have H8 := Lib.hid h8; clear h8 H7))
      | (go_at_call 26; ((with_reducible refine (HST.out _ _ _ H8.out).mono ?_); rintro e w9 ⟨rfl, h9⟩; have H9 := Lib.hid h9; clear h9 H8))
      | (go_at_call 12; ((with_reducible refine (HO3.out _ _ H9.out).mono ?_); rintro e w10 ⟨qc, rfl, h10⟩; have H10 := Lib.hid h10; clear h10 H9))
      | (go_at_call 12; ((with_reducible refine (HO4.out _ _ _ H10.out).mono ?_); rintro e w11 ⟨qd, rfl, h11⟩; have H11 := Lib.hid h11; clear h11 H10))
      | (go_at_call 23; ((with_reducible refine (HG1.out _ _ _ _ H11.out).mono ?_); rintro e w12 ⟨rfl, h12⟩; have H12 := Lib.hid h12; clear h12 H11))
      | (go_at_call 23; ((with_reducible refine (HG2.out _ _ _ _ H12.out).mono ?_); rintro e w13 ⟨rfl, h13⟩; have H13 := Lib.hid h13; clear h13 H12)))
    go_ret
    exact ⟨rfl, H13.out.below⟩
  · have qx : (x == 0) = false := beq_eq_false_iff_ne.2 hx
    have qy := bne_of qx
    rw [decide_eq_false (by rw [h0]; simp)] at HG2
    unfold str at HG2
    generalize (⟨cb2.value.toArray⟩ : ByteArray) = vv at *
    clear h0
    go_enter Tryd.func7, Tryd.ntmps7
    go_wp2_with (first
      | (go_at_call 8; refine HSM.out.mono ?_; rintro e w1 ⟨rfl, h1⟩; have H1 := Lib.hid h1; clear h1)
      | (go_at_call 10; refine (new_one H1.out).mono ?_; rintro e w2 ⟨p, rfl, h2⟩; have H2 := Lib.hid (Ones.of h2 HOF.out); clear h2)
      | (go_at_call 12; ((with_reducible refine (HO1.out _ _ H2.out).mono ?_); rintro e w3 ⟨qa, rfl, h3⟩; have H3 := Lib.hid h3; clear h3 H2))
      | (go_at_call 12; ((with_reducible refine (HO2.out _ _ _ H3.out).mono ?_); rintro e w4 ⟨qb, rfl, h4⟩; have H4 := Lib.hid h4; clear h4 H3))
      | (go_at_call 14; ((with_reducible refine (HS1.out _ _ _ _ H4.out).mono ?_); rintro e w5 ⟨rfl, h5⟩; have H5 := Lib.hid h5; clear h5 H4))
      | (go_at_call 18; ((with_reducible refine (HAR.out _ _ _ H5.out).mono ?_); rintro e w6 ⟨rfl, h6⟩; have H6 := Lib.hid h6; clear h6 H5))
      | (go_at_call 14; ((with_reducible refine (HS2.out _ _ _ H6.out).mono ?_); rintro e w7 ⟨rfl, h7⟩; have H7 := Lib.hid h7; clear h7 H6))
      | (go_at_call 25; ((with_reducible refine (HCR.out _ _ _ H7.out).mono ?_); rintro e w8 ⟨rfl, h8⟩; have H8 := Lib.hid h8; clear h8 H7))
      | (go_at_call 26; ((with_reducible refine (HST.out _ _ _ H8.out).mono ?_); rintro e w9 ⟨rfl, h9⟩; have H9 := Lib.hid h9; clear h9 H8))
      | (go_at_call 12; ((with_reducible refine (HO3.out _ _ H9.out).mono ?_); rintro e w10 ⟨qc, rfl, h10⟩; have H10 := Lib.hid h10; clear h10 H9))
      | (go_at_call 12; ((with_reducible refine (HO4.out _ _ _ H10.out).mono ?_); rintro e w11 ⟨qd, rfl, h11⟩; have H11 := Lib.hid h11; clear h11 H10))
      | (go_at_call 23; ((with_reducible refine (HG1.out _ _ _ _ H11.out).mono ?_); rintro e w12 ⟨rfl, h12⟩; have H12 := Lib.hid h12; clear h12 H11))
      | (go_at_call 23; ((with_reducible refine (HG2.out _ _ _ _ H12.out).mono ?_); rintro e w13 ⟨rfl, h13⟩; have H13 := Lib.hid h13; clear h13 H12)))
    go_ret
    exact ⟨rfl, H13.out.below⟩
end Dsk
end Go.Proofs.YtlokgmpdighfaaaDoor

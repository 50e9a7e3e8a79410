/- The reference's Next, Back, Near. -/
import Derived.Test.YtgophgnfiboefaaGreatDoorFlD
namespace Go.Proofs.YtgophgnfiboefaaGreatDoor
open Go.RowKit Wire
open Txt (Row)
set_option linter.unusedVariables false
set_option linter.unusedSimpArgs false
namespace Flo
/-! Low bits. -/
theorem wrap_low {z : Int} (h0 : 0 ≤ z) (h1 : z < 4294967296) : IntKind.i64.wrap z = z := by
  unfold IntKind.wrap
  have e : z % (2 ^ IntKind.i64.bits : Int) = z := Int.emod_eq_of_lt h0 (by
    have : (2 ^ IntKind.i64.bits : Int) = 18446744073709551616 := by decide
    omega)
  simp only [e]
  have : (2 ^ (IntKind.i64.bits - 1) : Int) = 9223372036854775808 := by decide
  rw [if_neg]
  simp only [this, Bool.and_eq_true, decide_eq_true_eq]
  omega
theorem bits_low (x : Int) (k : Nat) (hk : k ≤ 31) : bits .and .i64 x ((2 ^ k - 1 : Nat) : Int) = x % 2 ^ k := by
  have h2 : 2 ^ k ≤ 2 ^ 31 := Nat.pow_le_pow_right (by omega) hk
  have h31 : 2 ^ 31 = 2147483648 := by decide
  have hp : 0 < 2 ^ k := Nat.two_pow_pos k
  have hx : (0 : Int) ≤ x % 18446744073709551616 ∧ x % 18446744073709551616 < 18446744073709551616 := by omega
  unfold bits
  have e : (BitVec.ofInt IntKind.i64.bits x &&& BitVec.ofInt IntKind.i64.bits ((2 ^ k - 1 : Nat) : Int)).toNat = (x % 18446744073709551616).toNat % 2 ^ k := by
    rw [BitVec.toNat_and]
    have a1 : (BitVec.ofInt IntKind.i64.bits x).toNat = (x % 18446744073709551616).toNat := BitVec.toNat_ofInt ..
    have a2 : (BitVec.ofInt IntKind.i64.bits ((2 ^ k - 1 : Nat) : Int)).toNat = 2 ^ k - 1 := by
      have : (BitVec.ofInt IntKind.i64.bits ((2 ^ k - 1 : Nat) : Int)).toNat = (((2 ^ k - 1 : Nat) : Int) % 18446744073709551616).toNat := BitVec.toNat_ofInt ..
      rw [this]
      omega
    rw [a1, a2, Nat.and_two_pow_sub_one_eq_mod]
  show IntKind.i64.wrap (((BitVec.ofInt IntKind.i64.bits x &&& BitVec.ofInt IntKind.i64.bits ((2 ^ k - 1 : Nat) : Int)).toNat : Nat) : Int) = _
  rw [e]
  have hm := Nat.mod_lt (x % 18446744073709551616).toNat hp
  rw [wrap_low (by omega) (by omega), Int.natCast_emod, Int.toNat_of_nonneg hx.1]
  have hd : (2 ^ k : Int) ∣ 18446744073709551616 := ⟨2 ^ (64 - k), by
    rw [← Int.pow_add, show k + (64 - k) = 64 from by omega]
    decide⟩
  rw [show (((2 ^ k : Nat)) : Int) = (2 ^ k : Int) from by push_cast; rfl]
  exact Int.emod_emod_of_dvd x hd
theorem and1 (x : Int) : bits .and .i64 x 1 = x % 2 := bits_low x 1 (by omega)
theorem uint_small (k : Nat) (h : k < 16) : IntKind.u64.wrap (k : Int) = k := by
  unfold IntKind.wrap
  have e : (k : Int) % (2 ^ IntKind.u64.bits : Int) = k := Int.emod_eq_of_lt (by omega) (by
    have : (2 ^ IntKind.u64.bits : Int) = 18446744073709551616 := by decide
    omega)
  simp only [e]
  rfl

/-- The lists of a floor that came in. -/
structure FlIn (w : World) (f : Fl) (p : Pl) : Prop where
  kind : Row w w.heap.size p.A1 (f.Kind.map (Value.int .i64))
  out : Row w w.heap.size p.A2 (f.Out.map (Value.int .i64))
theorem FlIn.lift {w w' : World} {f : Fl} {p : Pl} (h : FlIn w f p) (b : Below w.heap.size w w') : FlIn w' f p := ⟨h.kind.lift b, h.out.lift b⟩
theorem row_val {w : World} {A : Option Addr} {l : List Int} (h : Row w w.heap.size A (l.map (Value.int .i64))) {k : Nat} (hk : k < l.length) : ∃ b o, A = some ⟨b, o, none⟩ ∧ ∀ w', Below w.heap.size w w' → w'.cell? ⟨b, o + k, none⟩ = some (.int .i64 (l.getD k 0)) := by
  obtain ⟨b, o, e, hlt, hc⟩ := h k (.int .i64 l[k]) (by rw [List.getElem?_map, List.getElem?_eq_getElem hk]; rfl)
  refine ⟨b, o, e, fun w' hb => ?_⟩
  rw [List.getD_eq_getElem?_getD, List.getElem?_eq_getElem hk]
  exact (hb.cell (p := ⟨b, o + k, none⟩) hlt).trans hc
abbrev resN (o : Option Int) : Value := .tuple #[.int .i64 (o.getD 0), .bool o.isSome]
theorem may_eq {f : Fl} {c n d : Int} : f.may c n d = (f.kindAt c != 0 && f.kindAt n != 0 && bitOf (f.outAt c) d != 0 && (decide (d < 4) || (f.kindAt c == 6 && f.kindAt n == 6))) := rfl
theorem may_ways (kc kn bt d : Int) (r : Bool) (h : (kc != 0 && kn != 0 && bt != 0 && (decide (d < 4) || (kc == 6 && kn == 6))) = r) :
    (kc = 0 ∧ r = false) ∨ (kc ≠ 0 ∧ kn = 0 ∧ r = false) ∨ (kc ≠ 0 ∧ kn ≠ 0 ∧ bt = 0 ∧ r = false) ∨ (kc ≠ 0 ∧ kn ≠ 0 ∧ bt ≠ 0 ∧ 4 ≤ d ∧ kc ≠ 6 ∧ r = false) ∨ (kn ≠ 0 ∧ bt ≠ 0 ∧ 4 ≤ d ∧ kc = 6 ∧ kn ≠ 6 ∧ r = false) ∨ (bt ≠ 0 ∧ 4 ≤ d ∧ kc = 6 ∧ kn = 6 ∧ r = true) ∨ (kc ≠ 0 ∧ kn ≠ 0 ∧ bt ≠ 0 ∧ d < 4 ∧ r = true) := by
  by_cases h1 : kc = 0
  · exact .inl ⟨h1, by rw [← h, h1]; rfl⟩
  by_cases h2 : kn = 0
  · exact .inr (.inl ⟨h1, h2, by rw [← h, h2]; simp⟩)
  by_cases h3 : bt = 0
  · exact .inr (.inr (.inl ⟨h1, h2, h3, by rw [← h, h3]; simp⟩))
  by_cases h4 : d < 4
  · exact .inr (.inr (.inr (.inr (.inr (.inr ⟨h1, h2, h3, h4, by rw [← h]; simp [h1, h2, h3, h4]⟩)))))
  by_cases h5 : kc = 6
  · by_cases h6 : kn = 6
    · exact .inr (.inr (.inr (.inr (.inr (.inl ⟨h3, by omega, h5, h6, by rw [← h]; simp [h5, h6, h3]⟩)))))
    · exact .inr (.inr (.inr (.inr (.inl ⟨h2, h3, by omega, h5, h6, by rw [← h]; simp [h5, h6, h4]⟩))))
  · exact .inr (.inr (.inr (.inl ⟨h1, h2, h3, by omega, h5, by rw [← h]; simp [h5, h4]⟩)))
theorem ne_b {a b : Int} (h : a ≠ b) : (a == b) = false := beq_eq_false_iff_ne.2 h
set_option maxRecDepth 8000 in
set_option maxHeartbeats 2000000 in
theorem qNext_any {f : Fl} (ho : f.ok) (p : Pl) (c d : Int) (w : World) (hin : FlIn w f p) : Calls Tryz.prog 52 #[f.val p, .int .i64 c, .int .i64 d] w fun e w' => e = .returned (resN (f.next c d)) ∧ Below w.heap.size w w' := by
  have HBE := Lib.hid (fun w => qBeside_any ho p c d w)
  have hb : ∀ o, Below w.heap.size w (w.alloc o) := fun o => (Below.refl _ w).alloc (Nat.le_refl _) o
  have HB := Lib.hid hb
  by_cases hneg : f.beside c d < 0
  · rw [show f.next c d = none from by unfold Fl.next; rw [if_pos hneg]]
    clear ho hb hin
    generalize f.beside c d = n at *
    obtain ⟨W, H, D, K, O⟩ := f
    go_enter Tryz.func52, Tryz.ntmps52
    go_wp2_with (go_at_call 69; refine (HBE.out _).mono ?_; rintro e w1 ⟨rfl, b1⟩; have B1 := Lib.hid (next_below (HB.out _) b1); clear b1)
    go_returns
    exact ⟨rfl, B1.out⟩
  · obtain ⟨hic, hdd, u1, u2⟩ := Fl.beside_some hneg
    obtain ⟨hin2, u3, u4, u5⟩ := Fl.beside_place hneg
    clear u1 u2 u3 u4 u5
    have hnx : f.next c d = if f.may c (f.beside c d) d then some (f.beside c d) else none := by unfold Fl.next; rw [if_neg hneg]
    rw [hnx, may_eq]
    obtain ⟨j, hj, rfl⟩ : ∃ j : Nat, j < 6 ∧ d = j := ⟨d.toNat, by have := of_decide_eq_true hdd; omega, by have := of_decide_eq_true hdd; omega⟩
    obtain ⟨h0, h1⟩ := Fl.is_bounds hic
    obtain ⟨k, rfl⟩ : ∃ k : Nat, c = k := ⟨c.toNat, by omega⟩
    obtain ⟨h2, h3⟩ := Fl.is_bounds hin2
    obtain ⟨m, hm⟩ : ∃ m : Nat, f.beside k j = m := ⟨(f.beside k j).toNat, by omega⟩
    rw [hm] at h2 h3 ⊢ HBE
    have hk1 := ho.kinds
    have hk2 := ho.outs
    obtain ⟨b1, o1, e1, hc1⟩ := row_val hin.kind (k := k) (by omega)
    obtain ⟨b1', o1', e1', hc2⟩ := row_val hin.kind (k := m) (by omega)
    obtain ⟨b2, o2, e2, hc3⟩ := row_val hin.out (k := k) (by omega)
    have e3 : (⟨b1, o1, none⟩ : Addr) = ⟨b1', o1', none⟩ := Option.some.inj (e1.symm.trans e1')
    injection e3 with e3 e4
    subst e3 e4
    have HC1 := Lib.hid hc1
    have HC2 := Lib.hid hc2
    have HC3 := Lib.hid hc3
    have g1 : (k : Int) < f.Kind.length := by omega
    have g2 : (m : Int) < f.Kind.length := by omega
    have g3 : (k : Int) < f.Out.length := by omega
    have ub := uint_small j (by omega)
    have hbit : bits .and .i64 (f.outAt k / 2 ^ j) 1 = bitOf (f.outAt k) j := by
      rw [and1]
      unfold bitOf
      simp
    have ek : f.kindAt k = f.Kind.getD k 0 := by unfold Fl.kindAt; simp
    have em : f.kindAt m = f.Kind.getD m 0 := by unfold Fl.kindAt; simp
    have eo : f.outAt k = f.Out.getD k 0 := by unfold Fl.outAt; simp
    rw [← ek] at HC1
    rw [← em] at HC2
    rw [← eo] at HC3
    clear ho hb hneg hic hdd hin2 hnx h0 h1 h2 h3 hm hk1 hk2 hc1 hc2 hc3 e1' ek em eo hin
    obtain ⟨A1, c1, A2, c2⟩ := p
    dsimp only at e1 e2
    subst e1 e2
    generalize f.kindAt k = kc at *
    generalize f.kindAt m = kn at *
    generalize bitOf (f.outAt k) j = bt at *
    generalize f.outAt k = ov at *
    obtain ⟨W, H, D, K, O⟩ := f
    dsimp only at *
    generalize hr : (kc != 0 && kn != 0 && bt != 0 && (decide ((j : Int) < 4) || (kc == 6 && kn == 6))) = r
    have hways := may_ways kc kn bt j r hr
    clear hr
    rcases hways with ⟨a1, rfl⟩ | ⟨a1, a2, rfl⟩ | ⟨a1, a2, a3, rfl⟩ | ⟨a1, a2, a3, a4, a5, rfl⟩ | ⟨a2, a3, a4, a5, a6, rfl⟩ | ⟨a3, a4, a5, a6, rfl⟩ | ⟨a1, a2, a3, a4, rfl⟩
    · subst a1
      go_enter Tryz.func52, Tryz.ntmps52
      go_wp2_with (go_at_call 69; refine (HBE.out _).mono ?_; rintro e w1 ⟨rfl, bw⟩; have B1 := Lib.hid (next_below (HB.out _) bw); have K1 := Lib.hid ((Blk.fresh w _ _).under bw (by simp)); clear bw; have k3 := K1.out.at 3; have k4 := K1.out.at 4; have z1 := HC1.out _ B1.out; have z2 := HC2.out _ B1.out; have z3 := HC3.out _ B1.out)
      go_returns
      exact ⟨rfl, B1.out⟩
    · have q1 := ne_b a1; subst a2
      go_enter Tryz.func52, Tryz.ntmps52
      go_wp2_with (go_at_call 69; refine (HBE.out _).mono ?_; rintro e w1 ⟨rfl, bw⟩; have B1 := Lib.hid (next_below (HB.out _) bw); have K1 := Lib.hid ((Blk.fresh w _ _).under bw (by simp)); clear bw; have k3 := K1.out.at 3; have k4 := K1.out.at 4; have z1 := HC1.out _ B1.out; have z2 := HC2.out _ B1.out; have z3 := HC3.out _ B1.out)
      go_returns
      exact ⟨rfl, B1.out⟩
    · have q1 := ne_b a1; have q2 := ne_b a2; subst a3
      go_enter Tryz.func52, Tryz.ntmps52
      go_wp2_with (go_at_call 69; refine (HBE.out _).mono ?_; rintro e w1 ⟨rfl, bw⟩; have B1 := Lib.hid (next_below (HB.out _) bw); have K1 := Lib.hid ((Blk.fresh w _ _).under bw (by simp)); clear bw; have k3 := K1.out.at 3; have k4 := K1.out.at 4; have z1 := HC1.out _ B1.out; have z2 := HC2.out _ B1.out; have z3 := HC3.out _ B1.out)
      go_returns
      exact ⟨rfl, B1.out⟩
    · have q1 := ne_b a1; have q2 := ne_b a2; have q3 := ne_b a3; have q5 := ne_b a5; clear a1 a2 a3 a5
      go_enter Tryz.func52, Tryz.ntmps52
      go_wp2_with (go_at_call 69; refine (HBE.out _).mono ?_; rintro e w1 ⟨rfl, bw⟩; have B1 := Lib.hid (next_below (HB.out _) bw); have K1 := Lib.hid ((Blk.fresh w _ _).under bw (by simp)); clear bw; have k3 := K1.out.at 3; have k4 := K1.out.at 4; have z1 := HC1.out _ B1.out; have z2 := HC2.out _ B1.out; have z3 := HC3.out _ B1.out)
      go_returns
      exact ⟨rfl, B1.out⟩
    · have q2 := ne_b a2; have q3 := ne_b a3; have q6 := ne_b a6; subst a5; clear a2 a3 a6
      go_enter Tryz.func52, Tryz.ntmps52
      go_wp2_with (go_at_call 69; refine (HBE.out _).mono ?_; rintro e w1 ⟨rfl, bw⟩; have B1 := Lib.hid (next_below (HB.out _) bw); have K1 := Lib.hid ((Blk.fresh w _ _).under bw (by simp)); clear bw; have k3 := K1.out.at 3; have k4 := K1.out.at 4; have z1 := HC1.out _ B1.out; have z2 := HC2.out _ B1.out; have z3 := HC3.out _ B1.out)
      go_returns
      exact ⟨rfl, B1.out⟩
    · have q3 := ne_b a3; subst a5; subst a6; clear a3
      go_enter Tryz.func52, Tryz.ntmps52
      go_wp2_with (go_at_call 69; refine (HBE.out _).mono ?_; rintro e w1 ⟨rfl, bw⟩; have B1 := Lib.hid (next_below (HB.out _) bw); have K1 := Lib.hid ((Blk.fresh w _ _).under bw (by simp)); clear bw; have k3 := K1.out.at 3; have k4 := K1.out.at 4; have z1 := HC1.out _ B1.out; have z2 := HC2.out _ B1.out; have z3 := HC3.out _ B1.out)
      go_returns
      exact ⟨rfl, B1.out⟩
    · have q1 := ne_b a1; have q2 := ne_b a2; have q3 := ne_b a3; clear a1 a2 a3
      go_enter Tryz.func52, Tryz.ntmps52
      go_wp2_with (go_at_call 69; refine (HBE.out _).mono ?_; rintro e w1 ⟨rfl, bw⟩; have B1 := Lib.hid (next_below (HB.out _) bw); have K1 := Lib.hid ((Blk.fresh w _ _).under bw (by simp)); clear bw; have k3 := K1.out.at 3; have k4 := K1.out.at 4; have z1 := HC1.out _ B1.out; have z2 := HC2.out _ B1.out; have z3 := HC3.out _ B1.out)
      go_returns
      exact ⟨rfl, B1.out⟩
end Flo
end Go.Proofs.YtgophgnfiboefaaGreatDoor

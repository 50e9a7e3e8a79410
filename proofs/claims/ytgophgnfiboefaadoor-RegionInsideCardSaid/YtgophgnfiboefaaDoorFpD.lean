/- The program's leads, Next, Back, Near. -/
import Derived.Test.YtgophgnfiboefaaDoorFpC
namespace Go.Proofs.YtgophgnfiboefaaDoor
open Go.RowKit Wire
open Txt (Row)
set_option linter.unusedVariables false
set_option linter.unusedSimpArgs false
namespace Flo
theorem dz_ways (j : Nat) (hj : j < 6) : (j < 4 ∧ dz j = 0) ∨ (4 ≤ j ∧ dz j ≠ 0) := by
  obtain rfl | rfl | rfl | rfl | rfl | rfl : j = 0 ∨ j = 1 ∨ j = 2 ∨ j = 3 ∨ j = 4 ∨ j = 5 := by omega
  all_goals decide
set_option maxRecDepth 8000 in
set_option maxHeartbeats 2000000 in
theorem leads_any {f : Fl} (ho : f.ok) (p : Pl) (k m j : Nat) (w : World) (hv : VS w) (hin : FlIn w f p) (hk : f.is k = true) (hm : f.is m = true) (hj : j < 6) : Calls Tryd.prog 43 #[f.val p, .int .i64 k, .int .i64 m, .int .i64 j] w fun e w' => e = .returned (.bool (f.may k m j)) ∧ Below w.heap.size w w' := by
  have hb : ∀ o, Below w.heap.size w (w.alloc o) := fun o => (Below.refl _ w).alloc (Nat.le_refl _) o
  have HB : Hid (∀ n o, Below w.heap.size w ((w.alloc o).drewN n)) := Lib.hid fun n o => next_below ((Below.refl _ w).alloc (Nat.le_refl _) o) (below_any _ _)
  have HB1 : Hid (∀ o, Below w.heap.size w ((w.alloc o).drew)) := Lib.hid fun o => next_below ((Below.refl _ w).alloc (Nat.le_refl _) o) (Below.refl _ _).drew
  rw [may_eq]
  obtain ⟨h0, h1⟩ := Fl.is_bounds hk
  obtain ⟨h2, h3⟩ := Fl.is_bounds hm
  have hk1 := ho.kinds
  have hk2 := ho.outs
  have hsz := ho.size
  obtain ⟨b1, o1, e1, hc1⟩ := row_val hin.kind (k := k) (by omega)
  obtain ⟨b1', o1', e1', hc2⟩ := row_val hin.kind (k := m) (by omega)
  obtain ⟨b2, o2, e2, hc3⟩ := row_val hin.out (k := k) (by omega)
  have e3 : (⟨b1, o1, none⟩ : Addr) = ⟨b1', o1', none⟩ := Option.some.inj (e1.symm.trans e1')
  injection e3 with e3 e4
  subst e3 e4
  have hvd := (hv j hj).2.2
  have hvlt := hv.lt
  have hzw := dz_ways j hj
  have g1 : (k : Int) < f.Kind.length := by omega
  have g2 : (m : Int) < f.Kind.length := by omega
  have g3 : (k : Int) < f.Out.length := by omega
  have g4 : (f.Kind.length : Int) ≤ 4096 := by omega
  have g5 : (f.Out.length : Int) ≤ 4096 := by omega
  have hbit : bits .and .i64 (f.outAt k / 2 ^ j) 1 = bitOf (f.outAt k) j := by
    rw [and1]
    unfold bitOf
    simp
  have ek : f.kindAt k = f.Kind.getD k 0 := by unfold Fl.kindAt; simp
  have em : f.kindAt m = f.Kind.getD m 0 := by unfold Fl.kindAt; simp
  have eo : f.outAt k = f.Out.getD k 0 := by unfold Fl.outAt; simp
  rw [← ek] at hc1
  rw [← em] at hc2
  rw [← eo] at hc3
  clear ho hk hm hin h0 h1 h2 h3 hk1 hk2 hsz e1' ek em eo hv
  obtain ⟨A1, c1, A2, c2⟩ := p
  dsimp only at e1 e2
  subst e1 e2
  generalize f.kindAt k = kc at *
  generalize f.kindAt m = kn at *
  generalize bitOf (f.outAt k) j = bt at *
  generalize f.outAt k = ov at *
  generalize dz j = zz at *
  obtain ⟨W, H, D, K, O⟩ := f
  dsimp only [Fl.val] at *
  generalize K.length = n1 at *
  generalize O.length = n2 at *
  generalize hr : (kc != 0 && kn != 0 && bt != 0 && (decide ((j : Int) < 4) || (kc == 6 && kn == 6))) = r
  have hways := may_ways kc kn bt j r hr
  clear hr
  have hz : ∀ w', Below w.heap.size w w' → w'.cell? ⟨0, j * 3 + 2, none⟩ = some (.int .i64 zz) := fun w' b => (b.cell (p := ⟨0, j * 3 + 2, none⟩) hvlt).trans hvd
  have HZ := Lib.hid hz
  have HC1 := Lib.hid hc1
  have HC2 := Lib.hid hc2
  have HC3 := Lib.hid hc3
  clear hvd hvlt hz hc1 hc2 hc3
  have B0 := Lib.hid (hb (.cells #[.int .i64 W, .int .i64 H, .int .i64 D, .slice (some ⟨b1, o1, none⟩) n1 c1, .slice (some ⟨b2, o2, none⟩) n2 c2] 31))
  have z1 := HC1.out _ B0.out
  have z2 := HC2.out _ B0.out
  have z3 := HC3.out _ B0.out
  have z4 := HZ.out _ B0.out
  clear hb HC1 HC2 HC3 HZ
  have hj4 : (j : Int) < 6 := by omega
  rcases hways with ⟨a1, rfl⟩ | ⟨a1, a2, rfl⟩ | ⟨a1, a2, a3, rfl⟩ | ⟨a1, a2, a3, a4, a5, rfl⟩ | ⟨a2, a3, a4, a5, a6, rfl⟩ | ⟨a3, a4, a5, a6, rfl⟩ | ⟨a1, a2, a3, a4, rfl⟩
  · subst a1
    clear hzw
    go_enter Tryd.func43, Tryd.ntmps43
    go_wp2_with fail
    go_quiet (fail)
    go_wp2_with fail
    go_ret
    exact ⟨rfl, by first | exact HB1.out _ | exact HB.out _ _⟩
  · have q1 := ne_b a1
    subst a2
    clear hzw a1
    go_enter Tryd.func43, Tryd.ntmps43
    go_wp2_with fail
    go_quiet (fail)
    go_wp2_with fail
    go_ret
    exact ⟨rfl, by first | exact HB1.out _ | exact HB.out _ _⟩
  · have q1 := ne_b a1; have q2 := ne_b a2; subst a3
    clear hzw a1 a2
    go_enter Tryd.func43, Tryd.ntmps43
    go_wp2_with fail
    go_quiet (fail)
    go_wp2_with fail
    go_ret
    exact ⟨rfl, by first | exact HB1.out _ | exact HB.out _ _⟩
  · have q1 := ne_b a1; have q2 := ne_b a2; have q3 := ne_b a3; have q5 := ne_b a5
    have zn : (zz != 0) = true := by rcases hzw with h | h; omega; simp [h.2]
    clear hzw a1 a2 a3 a5
    go_enter Tryd.func43, Tryd.ntmps43
    go_wp2_with fail
    go_quiet (fail)
    go_wp2_with fail
    go_ret
    exact ⟨rfl, by first | exact HB1.out _ | exact HB.out _ _⟩
  · have q2 := ne_b a2; have q3 := ne_b a3; have q6 := ne_b a6; subst a5
    have zn : (zz != 0) = true := by rcases hzw with h | h; omega; simp [h.2]
    clear hzw a2 a3 a6
    go_enter Tryd.func43, Tryd.ntmps43
    go_wp2_with fail
    go_quiet (fail)
    go_wp2_with fail
    go_ret
    exact ⟨rfl, by first | exact HB1.out _ | exact HB.out _ _⟩
  · have q3 := ne_b a3; subst a5; subst a6
    have zn : (zz != 0) = true := by rcases hzw with h | h; omega; simp [h.2]
    clear hzw a3
    go_enter Tryd.func43, Tryd.ntmps43
    go_wp2_with fail
    go_quiet (fail)
    go_wp2_with fail
    go_ret
    exact ⟨rfl, by first | exact HB1.out _ | exact HB.out _ _⟩
  · have q1 := ne_b a1; have q2 := ne_b a2; have q3 := ne_b a3
    have zn : zz = 0 := by rcases hzw with h | h; exact h.2; omega
    subst zn
    clear hzw a1 a2 a3
    go_enter Tryd.func43, Tryd.ntmps43
    go_wp2_with fail
    go_quiet (fail)
    go_wp2_with fail
    go_ret
    exact ⟨rfl, by first | exact HB1.out _ | exact HB.out _ _⟩
end Flo
end Go.Proofs.YtgophgnfiboefaaDoor

/- The reference's Back, Near, Few, Same; has. -/
import Derived.Test.YtncbhhnojdhpeaaDoorFlE
import Derived.Deep.DeepCutAuto
namespace Go.Proofs.YtncbhhnojdhpeaaDoor
open Go.RowKit Wire
open Txt (Row)
set_option linter.unusedVariables false
set_option linter.unusedSimpArgs false
namespace Flo
/-- A boxed floor at g. -/
abbrev BoxS (g : Nat) (W H D : Int) (A1 : Option Addr) (n1 c1 : Nat) (A2 : Option Addr) (n2 c2 : Nat) (w : World) : Prop :=
  w.cell? ⟨g, 0, none⟩ = some (.int .i64 W) ∧ w.cell? ⟨g, 1, none⟩ = some (.int .i64 H) ∧ w.cell? ⟨g, 2, none⟩ = some (.int .i64 D) ∧ w.cell? ⟨g, 3, none⟩ = some (.slice A1 n1 c1) ∧ w.cell? ⟨g, 4, none⟩ = some (.slice A2 n2 c2)
theorem boxS {w : World} {g : Nat} {t : TypeId} {W H D : Int} {A1 A2 : Option Addr} {n1 c1 n2 c2 : Nat} (h : Blk w g t #[.int .i64 W, .int .i64 H, .int .i64 D, .slice A1 n1 c1, .slice A2 n2 c2]) : BoxS g W H D A1 n1 c1 A2 n2 c2 w := ⟨h.at 0, h.at 1, h.at 2, h.at 3, h.at 4⟩
set_option maxRecDepth 8000 in
set_option maxHeartbeats 2000000 in
theorem qBack_any {f : Fl} (ho : f.ok) (p : Pl) (c d : Int) (w : World) (hin : FlIn w f p) : Calls Tryd.prog 19 #[f.val p, .int .i64 c, .int .i64 d] w fun e w' => e = .returned (resN (f.back c d)) ∧ Below w.heap.size w w' := by
  have HOP := Lib.hid (qOpposite_any d)
  have HBE := Lib.hid (fun w => qBeside_any ho p c (opp d) w)
  have HNX := Lib.hid (fun m w' (b : Below w.heap.size w w') => qNext_any ho p m d w' (hin.lift b))
  have hb : ∀ o, Below w.heap.size w (w.alloc o) := fun o => (Below.refl _ w).alloc (Nat.le_refl _) o
  have HB := Lib.hid hb
  have HKP : Hid (∀ w' cs t, Below (w.alloc (.cells cs t)).heap.size (w.alloc (.cells cs t)) w' → Blk w' w.heap.size t cs) := Lib.hid fun w' cs t b => (Blk.fresh w t cs).under b (by simp)
  have HAL : Hid (∀ o w', Below (w.alloc o).heap.size (w.alloc o) w' → Below w.heap.size w w') := Lib.hid fun o w' b => next_below ((Below.refl _ w).alloc (Nat.le_refl _) o) b
  have hbk : f.back c d = if f.beside c (opp d) < 0 then none else if (f.next (f.beside c (opp d)) d).isSome then some (f.beside c (opp d)) else none := rfl
  rw [hbk]
  clear ho hb hin hbk
  generalize opp d = od at *
  generalize f.beside c od = m at *
  generalize hfn : f.next m d = nx at *
  have HN2 : Hid (∀ w', Below w.heap.size w w' → Calls Tryd.prog 17 #[f.val p, .int .i64 m, .int .i64 d] w' fun e w2 => e = .returned (.tuple #[.int .i64 (nx.getD 0), .bool nx.isSome]) ∧ Below w'.heap.size w' w2) := Lib.hid fun w' b => by have := HNX.out m w' b; rw [hfn] at this; exact this
  clear hfn HNX
  generalize hR : (if m < 0 then none else if nx.isSome = true then some m else none) = R at *
  have HR1 : Hid (m < 0 → R = none) := Lib.hid fun h => by rw [← hR, if_pos h]
  have HR2 : Hid (¬ m < 0 → nx.isSome = false → R = none) := Lib.hid fun h h2 => by rw [← hR, if_neg h, h2]; rfl
  have HR3 : Hid (¬ m < 0 → nx.isSome = true → R = some m) := Lib.hid fun h h2 => by rw [← hR, if_neg h, if_pos h2]
  clear hR
  generalize nx.getD 0 = v at *
  generalize nx.isSome = b at *
  obtain ⟨A1, c1, A2, c2⟩ := p
  obtain ⟨W, H, D, K, O⟩ := f
  dsimp only [Fl.val] at *
  generalize K.length = n1 at *
  generalize O.length = n2 at *
  go_enter Tryd.func19, Tryd.ntmps19
  go_upto_region 1 with (fail)
  generalize hw1 : w.alloc (.cells #[.int .i64 W, .int .i64 H, .int .i64 D, .slice A1 n1 c1, .slice A2 n2 c2] 24) = w1 at *
  have HB0 : Hid (Below w1.heap.size w1 w1.drew) := Lib.hid (Below.refl _ w1).drew
  have HKB : Hid (∀ w', Below w1.heap.size w1 w' → BoxS w.heap.size W H D A1 n1 c1 A2 n2 c2 w') := Lib.hid fun w' b => boxS (HKP.out w' _ _ (hw1 ▸ b))
  have HLW : Hid (∀ w', Below w1.heap.size w1 w' → Below w.heap.size w w') := Lib.hid fun w' b => HAL.out _ w' (hw1 ▸ b)
  clear hw1 HKP HAL HB
  go_region_held3 (fun w' => BoxS w.heap.size W H D A1 n1 c1 A2 n2 c2 w') (first | exact HKB.out _ HB0.out | exact HKB.out _ b3 | go_keep)
    (first
      | (go_at_call 13; refine (HOP.out _).mono ?_; rintro e w2 ⟨rfl, rfl⟩)
      | (go_at_call 39; refine (HBE.out _).mono ?_; rintro e w3 ⟨rfl, b3'⟩; have b3 := HB0.out.trans b3'))
  have B3 := Lib.hid b3
  obtain ⟨k0, k1, k2, k3, k4⟩ := HKB.out _ b3
  clear b3 b3'
  by_cases hneg : m < 0
  · have hr := HR1.out hneg
    subst hr
    go_wp2_with fail
    go_returns
    exact ⟨rfl, HLW.out _ B3.out⟩
  · cases b
    · go_wp2_with (go_at_call 17; refine (HN2.out _ (HLW.out _ B3.out)).mono ?_; rintro e w4 ⟨rfl, b4⟩; have B4 := Lib.hid (next_below (HLW.out _ B3.out) b4); clear b4)
      go_returns
      exact ⟨by rw [HR2.out hneg (by first | rfl | trivial)]; rfl, B4.out⟩
    · go_wp2_with (go_at_call 17; refine (HN2.out _ (HLW.out _ B3.out)).mono ?_; rintro e w4 ⟨rfl, b4⟩; have B4 := Lib.hid (next_below (HLW.out _ B3.out) b4); clear b4)
      go_returns
      exact ⟨by rw [HR3.out hneg (by first | rfl | trivial)]; rfl, B4.out⟩
theorem near_true {f : Fl} {a b : Int} {j : Nat} (hj : j < 4) (hb : f.is b = true) (h : f.beside a j = b) : f.near a b = true := by
  unfold Fl.near
  rw [hb]
  obtain rfl | rfl | rfl | rfl : j = 0 ∨ j = 1 ∨ j = 2 ∨ j = 3 := by omega
  all_goals
    have h' := h
    simp at h'
    simp [h']
theorem near_false {f : Fl} {a b : Int} (h : ∀ j : Nat, j < 4 → (f.is b && f.beside a j == b) = false) : f.near a b = false := by
  unfold Fl.near
  cases hb : f.is b
  · rfl
  · rw [hb] at h
    have h0 := h 0 (by omega)
    have h1 := h 1 (by omega)
    have h2 := h 2 (by omega)
    have h3 := h 3 (by omega)
    simp at h0 h1 h2 h3
    simp [h0, h1, h2, h3]
structure NearRel (w1 : World) (f : Fl) (a b : Int) (jv : Value) (wr : World) (j : Nat) : Prop where
  jv : jv = .int .i64 j
  le : j ≤ 4
  no : ∀ i : Nat, i < j → (f.is b && f.beside a i == b) = false
  below : Below w1.heap.size w1 wr
set_option maxRecDepth 8000 in
set_option maxHeartbeats 2000000 in
theorem qNear_any {f : Fl} (ho : f.ok) (p : Pl) (a b : Int) (w : World) : Calls Tryd.prog 23 #[f.val p, .int .i64 a, .int .i64 b] w fun e w' => e = .returned (.bool (f.near a b)) ∧ Below w.heap.size w w' := by
  have HIS := Lib.hid (fun w => qIs_any ho p b w)
  have HBE := Lib.hid (fun d w => qBeside_any ho p a d w)
  have hb : ∀ o, Below w.heap.size w (w.alloc o) := fun o => (Below.refl _ w).alloc (Nat.le_refl _) o
  have HB := Lib.hid hb
  have HT : Hid (∀ j : Nat, j < 4 → f.is b = true → f.beside a j = b → f.near a b = true) := Lib.hid fun j hj h1 h2 => near_true hj h1 h2
  have HF : Hid ((∀ i : Nat, i < 4 → (f.is b && f.beside a i == b) = false) → f.near a b = false) := Lib.hid near_false
  have HKP : Hid (∀ w' cs t, Below (w.alloc (.cells cs t)).heap.size (w.alloc (.cells cs t)) w' → Blk w' w.heap.size t cs) := Lib.hid fun w' cs t b => (Blk.fresh w t cs).under b (by simp)
  have HAL : Hid (∀ o w', Below (w.alloc o).heap.size (w.alloc o) w' → Below w.heap.size w w') := Lib.hid fun o w' b => next_below ((Below.refl _ w).alloc (Nat.le_refl _) o) b
  have HSB : Hid (∀ (i : Nat) r, f.beside a i = r → f.beside a i = r) := Lib.hid fun i r h => h
  clear ho hb
  generalize hnr : f.near a b = nr at *
  clear hnr
  generalize hfb : f.beside a = be at *
  generalize hib : f.is b = ib at *
  have HFB := Lib.hid hfb
  have HIB := Lib.hid hib
  clear hfb hib
  obtain ⟨A1, c1, A2, c2⟩ := p
  obtain ⟨W, H, D, K, O⟩ := f
  dsimp only [Fl.val] at *
  generalize hK : K.length = n1 at *
  generalize hO : O.length = n2 at *
  clear hK hO
  go_enter Tryd.func23, Tryd.ntmps23
  go_wp2_with fail
  generalize hw1 : w.alloc (.cells #[.int .i64 W, .int .i64 H, .int .i64 D, .slice A1 n1 c1, .slice A2 n2 c2] 24) = w1 at *
  have HKB : Hid (∀ w', Below w1.heap.size w1 w' → BoxS w.heap.size W H D A1 n1 c1 A2 n2 c2 w') := Lib.hid fun w' b => boxS (HKP.out w' _ _ (hw1 ▸ b))
  have HLW : Hid (∀ w', Below w1.heap.size w1 w' → Below w.heap.size w w') := Lib.hid fun w' b => HAL.out _ w' (hw1 ▸ b)
  clear hw1 HKP HAL HB
  go_loopw [7] (fun jv wr => ∃ j, NearRel w1 ⟨W, H, D, K, O⟩ a b jv wr j) (fun jv _ => 4 - (intOf jv).toNat)
  case atStart => exact ⟨0, rfl, Nat.zero_le _, fun i hi => by omega, Below.refl _ _⟩
  case round =>
    obtain ⟨j, ⟨rfl, hj, hno, hbel⟩⟩ := hrel
    obtain ⟨k0, k1, k2, k3, k4⟩ := HKB.out _ hbel
    rw [HIB.out] at hno
    have HNO := Lib.hid hno
    have HBL := Lib.hid hbel
    clear hno hbel
    by_cases hlt : j < 4
    · cases ib
      · go_wp2_with (go_at_call 36; refine (HIS.out _).mono ?_; rintro e w2 ⟨rfl, b2⟩; have B2 := Lib.hid (next_below HBL.out b2); clear b2)
        go_roundw
        case rel => exact ⟨j + 1, by simp, by omega, fun i hi => by rw [HIB.out]; rfl, B2.out⟩
        case measure => simp [intOf]; omega
      · generalize hbj : be j = r at *
        have HBJ : Hid (be j = r) := Lib.hid hbj
        have HBE2 : Hid (∀ w, Calls Tryd.prog 39 #[.agg #[.int .i64 W, .int .i64 H, .int .i64 D, .slice A1 n1 c1, .slice A2 n2 c2], .int .i64 a, .int .i64 j] w fun e w' => e = .returned (.int .i64 r) ∧ Below w.heap.size w w') := Lib.hid fun w => by have := HBE.out j w; rw [hbj] at this; exact this
        clear hbj
        by_cases hrb : r = b
        · have hrb2 : (r == b) = true := by simp [hrb]
          have HNR := Lib.hid (HT.out j hlt (by first | rfl | trivial) (by rw [HBJ.out]; exact hrb))
          clear hrb
          go_wp2_with (first
            | (go_at_call 36; refine (HIS.out _).mono ?_; rintro e w2 ⟨rfl, b2⟩; have B2 := Lib.hid (next_below HBL.out b2); clear b2 k0 k1 k2 k3 k4; obtain ⟨k0, k1, k2, k3, k4⟩ := HKB.out _ B2.out)
            | (go_at_call 39; refine (HBE2.out _).mono ?_; rintro e w3 ⟨rfl, b3⟩; have B3 := Lib.hid (next_below B2.out b3); clear b3))
          go_ret
          exact ⟨by rw [HNR.out]; rfl, HLW.out _ B3.out⟩
        · have hrb2 : (r == b) = false := beq_eq_false_iff_ne.2 hrb
          have HRB := Lib.hid hrb
          clear hrb
          go_wp2_with (first
            | (go_at_call 36; refine (HIS.out _).mono ?_; rintro e w2 ⟨rfl, b2⟩; have B2 := Lib.hid (next_below HBL.out b2); clear b2 k0 k1 k2 k3 k4; obtain ⟨k0, k1, k2, k3, k4⟩ := HKB.out _ B2.out)
            | (go_at_call 39; refine (HBE2.out _).mono ?_; rintro e w3 ⟨rfl, b3⟩; have B3 := Lib.hid (next_below B2.out b3); clear b3))
          go_roundw
          case rel =>
            refine ⟨j + 1, by simp, by omega, fun i hi => ?_, B3.out⟩
            rw [HIB.out, HFB.out]
            by_cases e : i = j
            · rw [e, HBJ.out]
              simpa using HRB.out
            · have := HNO.out i (by omega)
              rw [HFB.out] at this
              exact this
          case measure => simp [intOf]; omega
    · obtain rfl : j = 4 := by omega
      have HNR := Lib.hid (HF.out (fun i hi => by have := HNO.out i hi; rw [HFB.out] at this; exact this))
      go_wp2_with fail
      go_ret
      exact ⟨by rw [HNR.out]; rfl, HLW.out _ HBL.out⟩
end Flo
end Go.Proofs.YtncbhhnojdhpeaaDoor

/- The reference's Back, Near, Few, Same; has. The reference's Right and Few. Lists of numbers: has of the statements, Same of the reference; fair. The program's floor: numbers, directions, cells, places. The program's Cell, At. -/
import Derived.Test.YtgophgnfiboefaaGreatDoorFlE
import Derived.Deep.DeepCutAuto
import Derived.Deep.QuietTactic
import Derived.BigQuiet
namespace Go.Proofs.YtgophgnfiboefaaGreatDoor
open Go.RowKit Wire
open Txt (Row)
set_option linter.unusedVariables false
set_option linter.unusedSimpArgs false
namespace Flo
/-- A boxed floor at g. -/
abbrev BoxS (g : Nat) (W H D : Int) (A1 : Option Addr) (n1 c1 : Nat) (A2 : Option Addr) (n2 c2 : Nat) (w : World) : Prop :=
  w.cell? ⟨g, 0, none⟩ = some (.int .i64 W) ∧ w.cell? ⟨g, 1, none⟩ = some (.int .i64 H) ∧ w.cell? ⟨g, 2, none⟩ = some (.int .i64 D) ∧ w.cell? ⟨g, 3, none⟩ = some (.slice A1 n1 c1) ∧ w.cell? ⟨g, 4, none⟩ = some (.slice A2 n2 c2)
theorem boxS {w : World} {g : Nat} {t : TypeId} {W H D : Int} {A1 A2 : Option Addr} {n1 c1 n2 c2 : Nat} (h : Blk w g t #[.int .i64 W, .int .i64 H, .int .i64 D, .slice A1 n1 c1, .slice A2 n2 c2]) : BoxS g W H D A1 n1 c1 A2 n2 c2 w := ⟨h.at 0, h.at 1, h.at 2, h.at 3, h.at 4⟩
set_option maxRecDepth 8000 in
set_option maxHeartbeats 2000000 in
theorem qBack_any {f : Fl} (ho : f.ok) (p : Pl) (c d : Int) (w : World) (hin : FlIn w f p) : Calls Tryz.prog 72 #[f.val p, .int .i64 c, .int .i64 d] w fun e w' => e = .returned (resN (f.back c d)) ∧ Below w.heap.size w w' := by
  have HOP := Lib.hid (qOpposite_any d)
  have HBE := Lib.hid (fun w => qBeside_any ho p c (opp d) w)
  have HNX := Lib.hid (fun m w' (b : Below w.heap.size w w') => qNext_any ho p m d w' (hin.lift b))
  have hb : ∀ o, Below w.heap.size w (w.alloc o) := fun o => (Below.refl _ w).alloc (Nat.le_refl _) o
  have HB := Lib.hid hb
  have HKP : Hid (∀ w' cs t, Below (w.alloc (.cells cs t)).heap.size (w.alloc (.cells cs t)) w' → Blk w' w.heap.size t cs) := Lib.hid fun w' cs t b => (Blk.fresh w t cs).under b (by simp)
  have HAL : Hid (∀ o w', Below (w.alloc o).heap.size (w.alloc o) w' → Below w.heap.size w w') := Lib.hid fun o w' b => next_below ((Below.refl _ w).alloc (Nat.le_refl _) o) b
  have hbk : f.back c d = if f.beside c (opp d) < 0 then none else if (f.next (f.beside c (opp d)) d).isSome then some (f.beside c (opp d)) else none := rfl
  rw [hbk]
  clear ho hb hin hbk
  generalize opp d = od at *
  generalize f.beside c od = m at *
  generalize hfn : f.next m d = nx at *
  have HN2 : Hid (∀ w', Below w.heap.size w w' → Calls Tryz.prog 52 #[f.val p, .int .i64 m, .int .i64 d] w' fun e w2 => e = .returned (.tuple #[.int .i64 (nx.getD 0), .bool nx.isSome]) ∧ Below w'.heap.size w' w2) := Lib.hid fun w' b => by have := HNX.out m w' b; rw [hfn] at this; exact this
  clear hfn HNX
  generalize hR : (if m < 0 then none else if nx.isSome = true then some m else none) = R at *
  have HR1 : Hid (m < 0 → R = none) := Lib.hid fun h => by rw [← hR, if_pos h]
  have HR2 : Hid (¬ m < 0 → nx.isSome = false → R = none) := Lib.hid fun h h2 => by rw [← hR, if_neg h, h2]; rfl
  have HR3 : Hid (¬ m < 0 → nx.isSome = true → R = some m) := Lib.hid fun h h2 => by rw [← hR, if_neg h, if_pos h2]
  clear hR
  generalize nx.getD 0 = v at *
  generalize nx.isSome = b at *
  obtain ⟨A1, c1, A2, c2⟩ := p
  obtain ⟨W, H, D, K, O⟩ := f
  dsimp only [Fl.val] at *
  generalize K.length = n1 at *
  generalize O.length = n2 at *
  go_enter Tryz.func72, Tryz.ntmps72
  go_upto_region 1 with (fail)
  generalize hw1 : w.alloc (.cells #[.int .i64 W, .int .i64 H, .int .i64 D, .slice A1 n1 c1, .slice A2 n2 c2] 24) = w1 at *
  have HB0 : Hid (Below w1.heap.size w1 w1.drew) := Lib.hid (Below.refl _ w1).drew
  have HKB : Hid (∀ w', Below w1.heap.size w1 w' → BoxS w.heap.size W H D A1 n1 c1 A2 n2 c2 w') := Lib.hid fun w' b => boxS (HKP.out w' _ _ (hw1 ▸ b))
  have HLW : Hid (∀ w', Below w1.heap.size w1 w' → Below w.heap.size w w') := Lib.hid fun w' b => HAL.out _ w' (hw1 ▸ b)
  clear hw1 HKP HAL HB
  go_region_held3 (fun w' => BoxS w.heap.size W H D A1 n1 c1 A2 n2 c2 w') (first | exact HKB.out _ HB0.out | exact HKB.out _ b3 | go_keep)
    (first
      | (go_at_call 100; refine (HOP.out _).mono ?_; rintro e w2 ⟨rfl, rfl⟩)
      | (go_at_call 69; refine (HBE.out _).mono ?_; rintro e w3 ⟨rfl, b3'⟩; have b3 := HB0.out.trans b3'))
  have B3 := Lib.hid b3
  obtain ⟨k0, k1, k2, k3, k4⟩ := HKB.out _ b3
  clear b3 b3'
  by_cases hneg : m < 0
  · have hr := HR1.out hneg
    subst hr
    go_wp2_with fail
    go_returns
    exact ⟨rfl, HLW.out _ B3.out⟩
  · cases b
    · go_wp2_with (go_at_call 52; refine (HN2.out _ (HLW.out _ B3.out)).mono ?_; rintro e w4 ⟨rfl, b4⟩; have B4 := Lib.hid (next_below (HLW.out _ B3.out) b4); clear b4)
      go_returns
      exact ⟨by rw [HR2.out hneg (by first | rfl | trivial)]; rfl, B4.out⟩
    · go_wp2_with (go_at_call 52; refine (HN2.out _ (HLW.out _ B3.out)).mono ?_; rintro e w4 ⟨rfl, b4⟩; have B4 := Lib.hid (next_below (HLW.out _ B3.out) b4); clear b4)
      go_returns
      exact ⟨by rw [HR3.out hneg (by first | rfl | trivial)]; rfl, B4.out⟩
theorem near_true {f : Fl} {a b : Int} {j : Nat} (hj : j < 4) (hb : f.is b = true) (h : f.beside a j = b) : f.near a b = true := by
  unfold Fl.near
  rw [hb]
  obtain rfl | rfl | rfl | rfl : j = 0 ∨ j = 1 ∨ j = 2 ∨ j = 3 := by omega
  all_goals
    have h' := h
    simp at h'
    simp [h']
theorem near_false {f : Fl} {a b : Int} (h : ∀ j : Nat, j < 4 → (f.is b && f.beside a j == b) = false) : f.near a b = false := by
  unfold Fl.near
  cases hb : f.is b
  · rfl
  · rw [hb] at h
    have h0 := h 0 (by omega)
    have h1 := h 1 (by omega)
    have h2 := h 2 (by omega)
    have h3 := h 3 (by omega)
    simp at h0 h1 h2 h3
    simp [h0, h1, h2, h3]
structure NearRel (w1 : World) (f : Fl) (a b : Int) (jv : Value) (wr : World) (j : Nat) : Prop where
  jv : jv = .int .i64 j
  le : j ≤ 4
  no : ∀ i : Nat, i < j → (f.is b && f.beside a i == b) = false
  below : Below w1.heap.size w1 wr
end Flo
end Go.Proofs.YtgophgnfiboefaaGreatDoor

namespace Go.Proofs.YtgophgnfiboefaaGreatDoor
open Go.RowKit Wire
open Txt (Row)
set_option linter.unusedVariables false
set_option linter.unusedSimpArgs false
namespace Flo
theorem qFew_any (f : Fl) (p : Pl) (n : Nat) (w : World) (hk : f.Kind.length ≤ 9223372036854775807) (hl : f.Out.length ≤ 9223372036854775807) :
    Calls Tryz.prog 33 #[f.val p, .int .i64 n] w fun e w' => e = .returned (.bool (decide (f.Kind.length ≤ n) && decide (f.Out.length ≤ n))) ∧ Below w.heap.size w w' := by
  have HB : Hid (∀ o, Below w.heap.size w (w.alloc o)) := Lib.hid fun o => (Below.refl _ w).alloc (Nat.le_refl _) o
  obtain ⟨A1, c1, A2, c2⟩ := p
  obtain ⟨W, H, D, K, O⟩ := f
  dsimp only [Fl.val] at *
  generalize K.length = a at *
  generalize O.length = b at *
  by_cases h1 : a ≤ n
  · have h1' : (a : Int) ≤ n := by omega
    by_cases h2 : b ≤ n
    · have h2' : (b : Int) ≤ n := by omega
      rw [decide_eq_true h1, decide_eq_true h2]
      clear h1 h2
      go_enter Tryz.func33, Tryz.ntmps33
      go_wp2_with fail
      go_ret
      exact ⟨rfl, HB.out _⟩
    · have h2' : ¬ (b : Int) ≤ n := by omega
      rw [decide_eq_true h1, decide_eq_false h2]
      clear h1 h2
      go_enter Tryz.func33, Tryz.ntmps33
      go_wp2_with fail
      go_ret
      exact ⟨rfl, HB.out _⟩
  · have h1' : ¬ (a : Int) ≤ n := by omega
    rw [decide_eq_false h1]
    clear h1
    go_enter Tryz.func33, Tryz.ntmps33
    go_wp2_with fail
    go_ret
    exact ⟨rfl, HB.out _⟩
/-- The four bounds of a cell. -/
def goodAt (f : Fl) (j : Nat) : Prop := 0 ≤ f.Kind.getD j 0 ∧ f.Kind.getD j 0 < 7 ∧ 0 ≤ f.Out.getD j 0 ∧ f.Out.getD j 0 ≤ 63
theorem ok_of {f : Fl} (hw : 1 ≤ f.W) (hh : 1 ≤ f.H) (hd : 1 ≤ f.D) (hd4 : f.D ≤ 4) (hs : f.W * f.H * f.D ≤ 4096) (hk : (f.Kind.length : Int) = f.W * f.H * f.D) (ho : (f.Out.length : Int) = f.W * f.H * f.D) (hg : ∀ j, j < f.Kind.length → goodAt f j) : f.ok := by
  refine ⟨hw, hh, hd, hd4, hs, hk, ho, fun k hm => ?_, fun k hm => ?_⟩
  · obtain ⟨j, hj, rfl⟩ := List.getElem_of_mem hm
    have := hg j hj
    unfold goodAt at this
    rw [List.getD_eq_getElem?_getD, List.getElem?_eq_getElem hj] at this
    exact ⟨this.1, this.2.1⟩
  · obtain ⟨j, hj, rfl⟩ := List.getElem_of_mem hm
    have := hg j (by omega)
    unfold goodAt at this
    rw [List.getD_eq_getElem?_getD (l := f.Out), List.getElem?_eq_getElem hj] at this
    exact ⟨this.2.2.1, this.2.2.2⟩
theorem Fl.ok.good {f : Fl} (h : f.ok) {j : Nat} (hj : j < f.Kind.length) : goodAt f j := by
  have h1 := h.kinds
  have h2 := h.outs
  have hj2 : j < f.Out.length := by omega
  unfold goodAt
  rw [List.getD_eq_getElem?_getD, List.getD_eq_getElem?_getD, List.getElem?_eq_getElem hj, List.getElem?_eq_getElem hj2]
  exact ⟨(h.kind _ (List.getElem_mem hj)).1, (h.kind _ (List.getElem_mem hj)).2, (h.out _ (List.getElem_mem hj2)).1, (h.out _ (List.getElem_mem hj2)).2⟩
theorem good_next {f : Fl} {i : Nat} (h : ∀ j, j < i → goodAt f j) (hi : goodAt f i) : ∀ j, j < i + 1 → goodAt f j := by
  intro j hj
  by_cases e : j = i
  · rw [e]; exact hi
  · exact h j (by omega)
structure RightRel (w1 : World) (f : Fl) (n : Nat) (iv : Value) (wr : World) (i : Nat) : Prop where
  iv : iv = .int .i64 i
  le : i ≤ n
  good : ∀ j, j < i → goodAt f j
  same : w1 = wr
/-- What Right answers. -/
def RightPost (f : Fl) (w : World) (e : Ending) (w' : World) : Prop := ∃ b, e = .returned (.bool b) ∧ (b = true ↔ f.ok) ∧ Below w.heap.size w w'
theorem right_ways (f : Fl) : (f.W < 1) ∨ (1 ≤ f.W ∧ f.H < 1) ∨ (1 ≤ f.W ∧ 1 ≤ f.H ∧ f.D < 1) ∨ (1 ≤ f.W ∧ 1 ≤ f.H ∧ 1 ≤ f.D ∧ 4 < f.D) ∨ (1 ≤ f.W ∧ 1 ≤ f.H ∧ 1 ≤ f.D ∧ f.D ≤ 4 ∧ 4096 < f.W) ∨ (1 ≤ f.W ∧ 1 ≤ f.H ∧ 1 ≤ f.D ∧ f.D ≤ 4 ∧ f.W ≤ 4096 ∧ 4096 < f.H) ∨ (1 ≤ f.W ∧ 1 ≤ f.H ∧ 1 ≤ f.D ∧ f.D ≤ 4 ∧ f.W ≤ 4096 ∧ f.H ≤ 4096) := by omega
end Flo
end Go.Proofs.YtgophgnfiboefaaGreatDoor

namespace Go.Proofs.YtgophgnfiboefaaGreatDoor
open Go.RowKit Wire
open Txt (Row)
set_option linter.unusedVariables false
set_option linter.unusedSimpArgs false
namespace Flo
/-! Lists of numbers. -/
structure ScanRel (w : World) (n : Nat) (P : Nat → Prop) (iv : Value) (wr : World) (i : Nat) : Prop where
  iv : iv = .int .i64 i
  le : i ≤ n
  no : ∀ j, j < i → P j
  same : ∃ q, wr = w.drewN q
theorem scan_next {P : Nat → Prop} {i : Nat} (h : ∀ j, j < i → P j) (hi : P i) : ∀ j, j < i + 1 → P j := by
  intro j hj
  by_cases e : j = i
  · rw [e]; exact hi
  · exact h j (by omega)
theorem drewN_drewN (w : World) (a b : Nat) : ∃ q, (w.drewN a).drewN b = w.drewN q := ⟨a + b, by simp [World.drewN, Nat.add_comm, Nat.add_left_comm, Nat.add_assoc]⟩
/-- Same. -/
theorem qSame_any (w : World) (A B : Option Addr) (c d : Nat) (l m : List Int) (hl : l.length ≤ 9223372036854775807) (hm : m.length ≤ 9223372036854775807) (ha : Row w w.heap.size A (l.map (Value.int .i64))) (hb : Row w w.heap.size B (m.map (Value.int .i64))) :
    Calls Tryz.prog 7 #[.slice A l.length c, .slice B m.length d] w fun e w' => e = .returned (.bool (decide (l = m))) ∧ Below w.heap.size w w' := by
  by_cases hlen : l.length = m.length
  · have HR : Hid (∀ k, k < l.length → (∃ b o, A = some ⟨b, o, none⟩ ∧ ∀ w', Below w.heap.size w w' → w'.cell? ⟨b, o + k, none⟩ = some (.int .i64 (l.getD k 0))) ∧ ∃ b o, B = some ⟨b, o, none⟩ ∧ ∀ w', Below w.heap.size w w' → w'.cell? ⟨b, o + k, none⟩ = some (.int .i64 (m.getD k 0))) := Lib.hid fun k hk => ⟨row_val ha hk, row_val hb (by omega)⟩
    have HN : Hid (∀ k, k < l.length → ¬ l.getD k 0 = m.getD k 0 → decide (l = m) = false) := Lib.hid fun k hk e => decide_eq_false fun h => e (by rw [h])
    have HY : Hid ((∀ k, k < l.length → l.getD k 0 = m.getD k 0) → decide (l = m) = true) := Lib.hid fun h => decide_eq_true (by
      refine List.ext_getElem hlen fun k h1 h2 => ?_
      have := h k h1
      rw [List.getD_eq_getElem?_getD, List.getD_eq_getElem?_getD, List.getElem?_eq_getElem h1, List.getElem?_eq_getElem h2] at this
      exact this)
    rw [← hlen]
    clear ha hb hm hlen
    generalize decide (l = m) = r at *
    generalize hLL : l.getD = LL at *
    generalize hMM : m.getD = MM at *
    generalize l.length = len at *
    clear hLL hMM
    go_enter Tryz.func7, Tryz.ntmps7
    go_wp2_with fail
    go_loopw [4, 5] (fun _ iv wr => ∃ i, ScanRel w len (fun k => LL k 0 = MM k 0) iv wr i) (fun _ iv _ => len - (intOf iv).toNat)
    case atStart => exact ⟨0, rfl, Nat.zero_le _, (fun j hj => by omega), ⟨0, rfl⟩⟩
    case round =>
      obtain ⟨i, ⟨rfl, hi, hno, ⟨q, rfl⟩⟩⟩ := hrel
      have HNO := Lib.hid hno
      clear hno
      by_cases hlt : i < len
      · obtain ⟨⟨b1, o1, e1, hk⟩, ⟨b2, o2, e2, hv⟩⟩ := HR.out i hlt
        subst e1 e2
        have zk := hk _ (Below.refl _ w)
        have zo := hv _ (Below.refl _ w)
        have HNI := Lib.hid (HN.out i hlt)
        clear hk hv HR
        generalize h1 : LL i 0 = v1 at *
        generalize h2 : MM i 0 = v2 at *
        by_cases e : v1 = v2
        · have e2 : (v1 == v2) = true := by simp [e]
          have HEI : Hid (LL i 0 = MM i 0) := Lib.hid (by rw [h1, h2, e])
          clear h1 h2
          subst e
          go_wp2_with fail
          go_quiet (fail)
          go_wp2_with fail
          go_roundw
          case rel => exact ⟨i + 1, by simp, hlt, scan_next HNO.out HEI.out, by first | exact ⟨_, rfl⟩ | exact drewN_drewN _ _ _⟩
          case measure => simp [intOf]; omega
        · have e2 : (v1 == v2) = false := ne_b e
          have HX := Lib.hid (HNI.out e)
          clear e h1 h2
          go_wp2_with fail
          go_quiet (fail)
          go_wp2_with fail
          go_ret
          exact ⟨by rw [HX.out]; rfl, ⟨rfl, rfl, rfl, Nat.le_refl _, fun _ _ => rfl⟩⟩
      · obtain rfl : len = i := by omega
        have HX := Lib.hid (HY.out HNO.out)
        go_wp2_with fail
        go_ret
        exact ⟨by rw [HX.out]; rfl, below_any _ _⟩
  · have hne : decide (l = m) = false := decide_eq_false fun e => hlen (by rw [e])
    rw [hne]
    have hl2 : ((l.length : Int) == m.length) = false := ne_b (by omega)
    have hl3 : ¬ (l.length : Int) = m.length := by omega
    clear hne hlen ha hb
    generalize l.length = n1 at *
    generalize m.length = n2 at *
    go_enter Tryz.func7, Tryz.ntmps7
    go_wp2_with fail
    all_goals
      first
        | (go_ret; exact ⟨rfl, Below.refl _ _⟩)
        | omega
/-- fair. -/
def FairPost (f : Fl) (n : Nat) (w : World) (e : Ending) (w' : World) : Prop := ∃ b, e = .returned (.bool b) ∧ (b = true ↔ f.ok ∧ f.Kind.length ≤ n) ∧ Below w.heap.size w w'
end Flo
end Go.Proofs.YtgophgnfiboefaaGreatDoor

namespace Go.Proofs.YtgophgnfiboefaaGreatDoor
open Go.RowKit Wire
open Txt (Row)
set_option linter.unusedVariables false
set_option linter.unusedSimpArgs false
namespace Flo
/-- The variable of the steps. -/
def VS (w : World) : Prop := ∀ d : Nat, d < 6 → w.cell? ⟨0, d * 3, none⟩ = some (.int .i64 (dx d)) ∧ w.cell? ⟨0, d * 3 + 1, none⟩ = some (.int .i64 (dy d)) ∧ w.cell? ⟨0, d * 3 + 2, none⟩ = some (.int .i64 (dz d))
/-- The variable of the opposite directions. -/
def VO (w : World) : Prop := ∀ d : Nat, d < 6 → w.cell? ⟨1, d, none⟩ = some (.int .i64 (opp d))
theorem VS.lt {w : World} (h : VS w) : 0 < w.heap.size := World.block_lt_of_cell? w _ (h 0 (by omega)).1
theorem VO.lt {w : World} (h : VO w) : 1 < w.heap.size := World.block_lt_of_cell? w _ (h 0 (by omega))
theorem VS.below {w w' : World} {B : Nat} (h : VS w) (b : Below B w w') (hB : 0 < B) : VS w' := fun d hd =>
  ⟨(b.cell (p := ⟨0, d * 3, none⟩) hB).trans (h d hd).1, (b.cell (p := ⟨0, d * 3 + 1, none⟩) hB).trans (h d hd).2.1, (b.cell (p := ⟨0, d * 3 + 2, none⟩) hB).trans (h d hd).2.2⟩
theorem VO.below {w w' : World} {B : Nat} (h : VO w) (b : Below B w w') (hB : 1 < B) : VO w' := fun d hd => (b.cell (p := ⟨1, d, none⟩) hB).trans (h d hd)
theorem VS.lift {w w' : World} (h : VS w) (b : Below w.heap.size w w') : VS w' := h.below b h.lt
theorem VO.lift {w w' : World} (h : VO w) (b : Below w.heap.size w w') : VO w' := h.below b h.lt

theorem between_any (n lo hi : Int) (w : World) : Calls Tryz.prog 56 #[.int .i64 n, .int .i64 lo, .int .i64 hi] w fun e w' => e = .returned (.bool (decide (lo ≤ n) && decide (n ≤ hi))) ∧ w = w' := by
  by_cases h1 : lo ≤ n
  · by_cases h2 : n ≤ hi
    · rw [decide_eq_true h1, decide_eq_true h2]
      go_enter Tryz.func56, Tryz.ntmps56
      go_wp2_with fail
      go_ret
      exact ⟨rfl, rfl⟩
    · rw [decide_eq_true h1, decide_eq_false h2]
      go_enter Tryz.func56, Tryz.ntmps56
      go_wp2_with fail
      go_ret
      exact ⟨rfl, rfl⟩
  · rw [decide_eq_false h1]
    go_enter Tryz.func56, Tryz.ntmps56
    go_wp2_with fail
    go_ret
    exact ⟨rfl, rfl⟩
/-- As a relation of one answer. -/
theorem between_as {n lo hi : Int} (b : Bool) (h : (b = true) ↔ (lo ≤ n ∧ n ≤ hi)) (w : World) : Calls Tryz.prog 56 #[.int .i64 n, .int .i64 lo, .int .i64 hi] w fun e w' => e = .returned (.bool b) ∧ w = w' := by
  have e : (decide (lo ≤ n) && decide (n ≤ hi)) = b := by
    rw [Bool.eq_iff_iff, h]
    simp
  rw [← e]
  exact between_any n lo hi w
theorem isDir_any (d : Int) (w : World) : Calls Tryz.prog 75 #[.int .i64 d] w fun e w' => e = .returned (.bool (isDir d)) ∧ w = w' := by
  have HB := Lib.hid (between_as (n := d) (lo := 0) (hi := 5) (isDir d) (by unfold isDir; rw [decide_eq_true_iff]))
  generalize isDir d = b at *
  go_enter Tryz.func75, Tryz.ntmps75
  go_wp2_with (go_at_call 56; refine (HB.out _).mono ?_; rintro e w1 ⟨rfl, rfl⟩)
  go_ret
  exact ⟨rfl, rfl⟩
theorem opposite_any (d : Int) (w : World) (hv : VO w) : Calls Tryz.prog 62 #[.int .i64 d] w fun e w' => e = .returned (.int .i64 (opp d)) ∧ w = w' := by
  have HD := Lib.hid (isDir_any d)
  cases h : isDir d
  · rw [opp_none h]
    rw [h] at HD
    clear h hv
    go_enter Tryz.func62, Tryz.ntmps62
    go_wp2_with (go_at_call 75; refine (HD.out _).mono ?_; rintro e w1 ⟨rfl, rfl⟩)
    go_ret
    exact ⟨rfl, rfl⟩
  · rw [h] at HD
    obtain ⟨k, hk, rfl⟩ : ∃ k : Nat, k < 6 ∧ d = k := ⟨d.toNat, by have := of_decide_eq_true h; omega, by have := of_decide_eq_true h; omega⟩
    have hc := hv k hk
    clear h hv
    generalize opp k = o at *
    go_enter Tryz.func62, Tryz.ntmps62
    go_wp2_with (go_at_call 75; refine (HD.out _).mono ?_; rintro e w1 ⟨rfl, rfl⟩)
    go_ret
    exact ⟨rfl, rfl⟩
theorem isCell_any {f : Fl} (ho : f.ok) (p : Pl) (c : Int) (w : World) : Calls Tryz.prog 74 #[f.val p, .int .i64 c] w fun e w' => e = .returned (.bool (f.is c)) ∧ Below w.heap.size w w' := by
  have hk := ho.kinds
  have hsz := ho.size
  have HB := Lib.hid (between_as (n := c) (lo := 0) (hi := (f.Kind.length : Int) - 1) (f.is c) (by unfold Fl.is; rw [decide_eq_true_iff]; omega))
  have HA : Hid (∀ o, Below w.heap.size w (w.alloc o)) := Lib.hid fun o => (Below.refl _ w).alloc (Nat.le_refl _) o
  have hn : (f.Kind.length : Int) ≤ 4096 := by omega
  clear ho hk hsz
  generalize f.is c = b at *
  obtain ⟨W, H, D, K, O⟩ := f
  dsimp only at *
  go_enter Tryz.func74, Tryz.ntmps74
  go_wp2_with (go_at_call 56; refine (HB.out _).mono ?_; rintro e w1 ⟨rfl, rfl⟩)
  go_ret
  exact ⟨rfl, HA.out _⟩
end Flo
end Go.Proofs.YtgophgnfiboefaaGreatDoor

namespace Go.Proofs.YtgophgnfiboefaaGreatDoor
open Go.RowKit Wire
open Txt (Row)
set_option linter.unusedVariables false
set_option linter.unusedSimpArgs false
namespace Flo
set_option maxRecDepth 8000 in
set_option maxHeartbeats 1000000 in
theorem cell_any {f : Fl} (ho : f.ok) (p : Pl) (x y z : Int) (w : World) : Calls Tryz.prog 77 #[f.val p, .int .i64 x, .int .i64 y, .int .i64 z] w fun e w' => e = .returned (.int .i64 (f.cell x y z)) ∧ Below w.heap.size w w' := by
  have hb : ∀ o, Below w.heap.size w (w.alloc o) := fun o => (Below.refl _ w).alloc (Nat.le_refl _) o
  have HB := Lib.hid hb
  have hw := ho.w
  have hh := ho.h
  have hd := ho.d
  have hd4 := ho.d4
  obtain ⟨s1, s2, _, _⟩ := ho.small
  obtain ⟨bx, hbx⟩ : ∃ b : Bool, (b = true) ↔ (0 ≤ x ∧ x ≤ f.W - 1) := ⟨decide (0 ≤ x ∧ x ≤ f.W - 1), decide_eq_true_iff⟩
  obtain ⟨by', hby⟩ : ∃ b : Bool, (b = true) ↔ (0 ≤ y ∧ y ≤ f.H - 1) := ⟨decide (0 ≤ y ∧ y ≤ f.H - 1), decide_eq_true_iff⟩
  obtain ⟨bz, hbz⟩ : ∃ b : Bool, (b = true) ↔ (0 ≤ z ∧ z ≤ f.D - 1) := ⟨decide (0 ≤ z ∧ z ≤ f.D - 1), decide_eq_true_iff⟩
  have HX := Lib.hid (between_as bx hbx)
  have HY := Lib.hid (between_as by' hby)
  have HZ := Lib.hid (between_as bz hbz)
  clear hb
  by_cases hin : f.inn x y z
  · rw [Fl.cell_in hin]
    have hbd := Fl.is_bounds (Fl.cell_is hin)
    rw [Fl.cell_in hin] at hbd
    have hsz := ho.size
    obtain ⟨a, b, c, d, e, g⟩ := hin
    obtain rfl : bx = true := hbx.2 ⟨a, by omega⟩
    obtain rfl : by' = true := hby.2 ⟨c, by omega⟩
    obtain rfl : bz = true := hbz.2 ⟨e, by omega⟩
    have hz1 : 0 ≤ z * f.H := Int.mul_nonneg e (by omega)
    have hz2 : 0 ≤ (z * f.H + y) * f.W := Int.mul_nonneg (by omega) (by omega)
    have hz3 : z * f.H + y ≤ (z * f.H + y) * f.W := by
      have := Int.mul_le_mul_of_nonneg_left ho.w (show 0 ≤ z * f.H + y by omega)
      omega
    clear ho hbx hby hbz
    obtain ⟨W, H, D, K, O⟩ := f
    dsimp only at *
    go_enter Tryz.func77, Tryz.ntmps77
    go_wp2_with (first | (go_at_call 56; (with_reducible refine (HX.out _).mono ?_); rintro e w1 ⟨rfl, rfl⟩) | (go_at_call 56; (with_reducible refine (HY.out _).mono ?_); rintro e w1 ⟨rfl, rfl⟩) | (go_at_call 56; (with_reducible refine (HZ.out _).mono ?_); rintro e w1 ⟨rfl, rfl⟩))
    go_ret
    exact ⟨rfl, HB.out _⟩
  · rw [Fl.cell_out hin]
    have hno : bx = false ∨ (bx = true ∧ by' = false) ∨ (bx = true ∧ by' = true ∧ bz = false) := by
      unfold Fl.inn at hin
      cases h1 : bx
      · exact .inl rfl
      · cases h2 : by'
        · exact .inr (.inl ⟨rfl, rfl⟩)
        · cases h3 : bz
          · exact .inr (.inr ⟨rfl, rfl, rfl⟩)
          · have e1 := hbx.1 h1
            have e2 := hby.1 h2
            have e3 := hbz.1 h3
            exact absurd ⟨e1.1, by omega, e2.1, by omega, e3.1, by omega⟩ hin
    clear ho hin hbx hby hbz
    obtain ⟨W, H, D, K, O⟩ := f
    dsimp only at *
    rcases hno with rfl | ⟨rfl, rfl⟩ | ⟨rfl, rfl, rfl⟩
    all_goals
      go_enter Tryz.func77, Tryz.ntmps77
      go_wp2_with (first | (go_at_call 56; (with_reducible refine (HX.out _).mono ?_); rintro e w1 ⟨rfl, rfl⟩) | (go_at_call 56; (with_reducible refine (HY.out _).mono ?_); rintro e w1 ⟨rfl, rfl⟩) | (go_at_call 56; (with_reducible refine (HZ.out _).mono ?_); rintro e w1 ⟨rfl, rfl⟩))
      go_ret
      exact ⟨rfl, HB.out _⟩
set_option maxRecDepth 8000 in
set_option maxHeartbeats 1000000 in
theorem at_any {f : Fl} (ho : f.ok) (p : Pl) (c : Int) (w : World) : Calls Tryz.prog 76 #[f.val p, .int .i64 c] w fun e w' => e = .returned (.tuple #[.int .i64 (f.at c).1, .int .i64 (f.at c).2.1, .int .i64 (f.at c).2.2]) ∧ Below w.heap.size w w' := by
  have HS := Lib.hid (fun w => isCell_any ho p c w)
  have hb : ∀ o, Below w.heap.size w (w.alloc o) := fun o => (Below.refl _ w).alloc (Nat.le_refl _) o
  have HB := Lib.hid hb
  unfold Fl.at
  cases hi : f.is c
  · rw [hi] at HS
    simp only [Bool.false_eq_true, if_false]
    clear ho hb hi
    obtain ⟨W, H, D, K, O⟩ := f
    go_enter Tryz.func76, Tryz.ntmps76
    go_wp2_with (go_at_call 74; refine (HS.out _).mono ?_; rintro e w1 ⟨rfl, b1⟩; have B1 := Lib.hid (next_below (HB.out _) b1); clear b1)
    go_returns
    exact ⟨rfl, B1.out⟩
  · rw [hi] at HS
    simp only [if_true]
    obtain ⟨h0, h1⟩ := Fl.is_bounds hi
    have hw := ho.w
    have hh := ho.h
    have hsz := ho.size
    have hcs : c < 4096 := by omega
    have g1 : 0 ≤ c / f.W := Int.ediv_nonneg h0 (by omega)
    have g2 : c / f.W ≤ c := Int.ediv_le_self _ h0
    have g3 : 0 ≤ c / f.W / f.H := Int.ediv_nonneg g1 (by omega)
    have g4 : c / f.W / f.H ≤ c / f.W := Int.ediv_le_self _ g1
    have q1 : c.tmod f.W = c % f.W := Int.tmod_eq_emod_of_nonneg h0
    have q2 : c.tdiv f.W = c / f.W := Int.tdiv_eq_ediv_of_nonneg h0
    have q3 : (c / f.W).tmod f.H = c / f.W % f.H := Int.tmod_eq_emod_of_nonneg g1
    have q4 : (c / f.W).tdiv f.H = c / f.W / f.H := Int.tdiv_eq_ediv_of_nonneg g1
    have n1 : ¬ f.W = 0 := by omega
    have n2 : ¬ f.H = 0 := by omega
    clear ho hb hi hsz h1
    obtain ⟨W, H, D, K, O⟩ := f
    dsimp only [Fl.px, Fl.py, Fl.pz] at *
    go_enter Tryz.func76, Tryz.ntmps76
    go_wp2_with (go_at_call 74; refine (HS.out _).mono ?_; rintro e w1 ⟨rfl, b1⟩; have B1 := Lib.hid (next_below (HB.out _) b1); have K1 := (Blk.fresh w _ _).under b1 (by simp); have k0 := K1.at 0; have k1 := K1.at 1; clear b1 K1)
    go_quiet (fail)
    go_wp2_with fail
    go_returns
    exact ⟨rfl, next_below B1.out (below_any _ _)⟩
end Flo
end Go.Proofs.YtgophgnfiboefaaGreatDoor

/- Lists of numbers: has of the statements, Same of the reference; fair. -/
import Derived.Test.YtgophgnfiboefaaDoorFlG
namespace Go.Proofs.YtgophgnfiboefaaDoor
open Go.RowKit Wire
open Txt (Row)
set_option linter.unusedVariables false
set_option linter.unusedSimpArgs false
namespace Flo
/-! Lists of numbers. -/
structure ScanRel (w : World) (n : Nat) (P : Nat → Prop) (iv : Value) (wr : World) (i : Nat) : Prop where
  iv : iv = .int .i64 i
  le : i ≤ n
  no : ∀ j, j < i → P j
  same : ∃ q, wr = w.drewN q
theorem scan_next {P : Nat → Prop} {i : Nat} (h : ∀ j, j < i → P j) (hi : P i) : ∀ j, j < i + 1 → P j := by
  intro j hj
  by_cases e : j = i
  · rw [e]; exact hi
  · exact h j (by omega)
theorem drewN_drewN (w : World) (a b : Nat) : ∃ q, (w.drewN a).drewN b = w.drewN q := ⟨a + b, by simp [World.drewN, Nat.add_comm, Nat.add_left_comm, Nat.add_assoc]⟩
/-- Same. -/
theorem qSame_any (w : World) (A B : Option Addr) (c d : Nat) (l m : List Int) (hl : l.length ≤ 9223372036854775807) (hm : m.length ≤ 9223372036854775807) (ha : Row w w.heap.size A (l.map (Value.int .i64))) (hb : Row w w.heap.size B (m.map (Value.int .i64))) :
    Calls Tryd.prog 23 #[.slice A l.length c, .slice B m.length d] w fun e w' => e = .returned (.bool (decide (l = m))) ∧ Below w.heap.size w w' := by
  by_cases hlen : l.length = m.length
  · have HR : Hid (∀ k, k < l.length → (∃ b o, A = some ⟨b, o, none⟩ ∧ ∀ w', Below w.heap.size w w' → w'.cell? ⟨b, o + k, none⟩ = some (.int .i64 (l.getD k 0))) ∧ ∃ b o, B = some ⟨b, o, none⟩ ∧ ∀ w', Below w.heap.size w w' → w'.cell? ⟨b, o + k, none⟩ = some (.int .i64 (m.getD k 0))) := Lib.hid fun k hk => ⟨row_val ha hk, row_val hb (by omega)⟩
    have HN : Hid (∀ k, k < l.length → ¬ l.getD k 0 = m.getD k 0 → decide (l = m) = false) := Lib.hid fun k hk e => decide_eq_false fun h => e (by rw [h])
    have HY : Hid ((∀ k, k < l.length → l.getD k 0 = m.getD k 0) → decide (l = m) = true) := Lib.hid fun h => decide_eq_true (by
      refine List.ext_getElem hlen fun k h1 h2 => ?_
      have := h k h1
      rw [List.getD_eq_getElem?_getD, List.getD_eq_getElem?_getD, List.getElem?_eq_getElem h1, List.getElem?_eq_getElem h2] at this
      exact this)
    rw [← hlen]
    clear ha hb hm hlen
    generalize decide (l = m) = r at *
    generalize hLL : l.getD = LL at *
    generalize hMM : m.getD = MM at *
    generalize l.length = len at *
    clear hLL hMM
    go_enter Tryd.func23, Tryd.ntmps23
    go_wp2_with fail
    go_loopw [4, 5] (fun _ iv wr => ∃ i, ScanRel w len (fun k => LL k 0 = MM k 0) iv wr i) (fun _ iv _ => len - (intOf iv).toNat)
    case atStart => exact ⟨0, rfl, Nat.zero_le _, (fun j hj => by omega), ⟨0, rfl⟩⟩
    case round =>
      obtain ⟨i, ⟨rfl, hi, hno, ⟨q, rfl⟩⟩⟩ := hrel
      have HNO := Lib.hid hno
      clear hno
      by_cases hlt : i < len
      · obtain ⟨⟨b1, o1, e1, hk⟩, ⟨b2, o2, e2, hv⟩⟩ := HR.out i hlt
        subst e1 e2
        have zk := hk _ (Below.refl _ w)
        have zo := hv _ (Below.refl _ w)
        have HNI := Lib.hid (HN.out i hlt)
        clear hk hv HR
        generalize h1 : LL i 0 = v1 at *
        generalize h2 : MM i 0 = v2 at *
        by_cases e : v1 = v2
        · have e2 : (v1 == v2) = true := by simp [e]
          have HEI : Hid (LL i 0 = MM i 0) := Lib.hid (by rw [h1, h2, e])
          clear h1 h2
          subst e
          go_wp2_with fail
          go_quiet (fail)
          go_wp2_with fail
          go_roundw
          case rel => exact ⟨i + 1, by simp, hlt, scan_next HNO.out HEI.out, by first | exact ⟨_, rfl⟩ | exact drewN_drewN _ _ _⟩
          case measure => simp [intOf]; omega
        · have e2 : (v1 == v2) = false := ne_b e
          have HX := Lib.hid (HNI.out e)
          clear e h1 h2
          go_wp2_with fail
          go_quiet (fail)
          go_wp2_with fail
          go_ret
          exact ⟨by rw [HX.out]; rfl, ⟨rfl, rfl, rfl, Nat.le_refl _, fun _ _ => rfl⟩⟩
      · obtain rfl : len = i := by omega
        have HX := Lib.hid (HY.out HNO.out)
        go_wp2_with fail
        go_ret
        exact ⟨by rw [HX.out]; rfl, below_any _ _⟩
  · have hne : decide (l = m) = false := decide_eq_false fun e => hlen (by rw [e])
    rw [hne]
    have hl2 : ((l.length : Int) == m.length) = false := ne_b (by omega)
    have hl3 : ¬ (l.length : Int) = m.length := by omega
    clear hne hlen ha hb
    generalize l.length = n1 at *
    generalize m.length = n2 at *
    go_enter Tryd.func23, Tryd.ntmps23
    go_wp2_with fail
    all_goals
      first
        | (go_ret; exact ⟨rfl, Below.refl _ _⟩)
        | omega
/-- fair. -/
def FairPost (f : Fl) (n : Nat) (w : World) (e : Ending) (w' : World) : Prop := ∃ b, e = .returned (.bool b) ∧ (b = true ↔ f.ok ∧ f.Kind.length ≤ n) ∧ Below w.heap.size w w'
end Flo
end Go.Proofs.YtgophgnfiboefaaDoor

/- Lists of numbers: has of the statements, Same of the reference; fair. -/
import Derived.Test.YtncbhhnojdhpeaaDoorFlG
namespace Go.Proofs.YtncbhhnojdhpeaaDoor
open Go.RowKit Wire
open Txt (Row)
set_option linter.unusedVariables false
set_option linter.unusedSimpArgs false
namespace Flo
/-! Lists of numbers. -/
structure ScanRel (w : World) (n : Nat) (P : Nat → Prop) (iv : Value) (wr : World) (i : Nat) : Prop where
  iv : iv = .int .i64 i
  le : i ≤ n
  no : ∀ j, j < i → P j
  same : ∃ q, wr = w.drewN q
theorem scan_next {P : Nat → Prop} {i : Nat} (h : ∀ j, j < i → P j) (hi : P i) : ∀ j, j < i + 1 → P j := by
  intro j hj
  by_cases e : j = i
  · rw [e]; exact hi
  · exact h j (by omega)
theorem drewN_drewN (w : World) (a b : Nat) : ∃ q, (w.drewN a).drewN b = w.drewN q := ⟨a + b, by simp [World.drewN, Nat.add_comm, Nat.add_left_comm, Nat.add_assoc]⟩
/-- has. -/
theorem has_any (w : World) (A : Option Addr) (c : Nat) (l : List Int) (n : Int) (hl : l.length ≤ 9223372036854775807) (h : Row w w.heap.size A (l.map (Value.int .i64))) :
    Calls Tryd.prog 30 #[.slice A l.length c, .int .i64 n] w fun e w' => e = .returned (.bool (decide (n ∈ l))) ∧ w = w' := by
  have HR : Hid (∀ k, k < l.length → ∃ b o, A = some ⟨b, o, none⟩ ∧ ∀ w', Below w.heap.size w w' → w'.cell? ⟨b, o + k, none⟩ = some (.int .i64 (l.getD k 0))) := Lib.hid fun k hk => row_val h hk
  have HY : Hid (∀ k, k < l.length → l.getD k 0 = n → decide (n ∈ l) = true) := Lib.hid fun k hk e => decide_eq_true (by
    rw [← e, List.getD_eq_getElem?_getD, List.getElem?_eq_getElem hk]
    exact List.getElem_mem hk)
  have HN : Hid ((∀ k, k < l.length → ¬ l.getD k 0 = n) → decide (n ∈ l) = false) := Lib.hid fun h => decide_eq_false fun hm => by
    obtain ⟨k, hk, e⟩ := List.getElem_of_mem hm
    refine h k hk ?_
    rw [List.getD_eq_getElem?_getD, List.getElem?_eq_getElem hk]
    exact e
  clear h
  generalize decide (n ∈ l) = r at *
  generalize hLL : l.getD = LL at *
  generalize l.length = len at *
  clear hLL
  go_enter Tryd.func30, Tryd.ntmps30
  go_wp2_with fail
  go_loopw [4, 5] (fun _ iv wr => ∃ i, ScanRel w len (fun k => ¬ LL k 0 = n) iv wr i ∧ wr = w) (fun _ iv _ => len - (intOf iv).toNat)
  case atStart => exact ⟨0, ⟨rfl, Nat.zero_le _, (fun j hj => by omega), ⟨0, rfl⟩⟩, rfl⟩
  case round =>
    obtain ⟨i, ⟨rfl, hi, hno, _⟩, rfl⟩ := hrel
    have HNO := Lib.hid hno
    clear hno
    by_cases hlt : i < len
    · obtain ⟨b, o, rfl, hc⟩ := HR.out i hlt
      have z := hc _ (Below.refl _ _)
      have HYI := Lib.hid (HY.out i hlt)
      clear hc
      generalize hv : LL i 0 = v at *
      by_cases e : v = n
      · have e2 : (v == n) = true := by simp [e]
        have HX := Lib.hid (HYI.out e)
        clear e
        go_wp2_with fail
        go_ret
        exact ⟨by rw [HX.out]; rfl, rfl⟩
      · have e2 : (v == n) = false := ne_b e
        have HNI : Hid (¬ LL i 0 = n) := Lib.hid (by rw [hv]; exact e)
        clear e hv
        go_wp2_with fail
        go_roundw
        case rel => exact ⟨i + 1, ⟨by simp, hlt, scan_next HNO.out HNI.out, ⟨0, rfl⟩⟩, by first | rfl | trivial⟩
        case measure => simp [intOf]; omega
    · obtain rfl : len = i := by omega
      have HX := Lib.hid (HN.out HNO.out)
      go_wp2_with fail
      go_ret
      exact ⟨by rw [HX.out]; rfl, rfl⟩
/-- Same. -/
theorem qSame_any (w : World) (A B : Option Addr) (c d : Nat) (l m : List Int) (hl : l.length ≤ 9223372036854775807) (hm : m.length ≤ 9223372036854775807) (ha : Row w w.heap.size A (l.map (Value.int .i64))) (hb : Row w w.heap.size B (m.map (Value.int .i64))) :
    Calls Tryd.prog 24 #[.slice A l.length c, .slice B m.length d] w fun e w' => e = .returned (.bool (decide (l = m))) ∧ Below w.heap.size w w' := by
  by_cases hlen : l.length = m.length
  · have HR : Hid (∀ k, k < l.length → (∃ b o, A = some ⟨b, o, none⟩ ∧ ∀ w', Below w.heap.size w w' → w'.cell? ⟨b, o + k, none⟩ = some (.int .i64 (l.getD k 0))) ∧ ∃ b o, B = some ⟨b, o, none⟩ ∧ ∀ w', Below w.heap.size w w' → w'.cell? ⟨b, o + k, none⟩ = some (.int .i64 (m.getD k 0))) := Lib.hid fun k hk => ⟨row_val ha hk, row_val hb (by omega)⟩
    have HN : Hid (∀ k, k < l.length → ¬ l.getD k 0 = m.getD k 0 → decide (l = m) = false) := Lib.hid fun k hk e => decide_eq_false fun h => e (by rw [h])
    have HY : Hid ((∀ k, k < l.length → l.getD k 0 = m.getD k 0) → decide (l = m) = true) := Lib.hid fun h => decide_eq_true (by
      refine List.ext_getElem hlen fun k h1 h2 => ?_
      have := h k h1
      rw [List.getD_eq_getElem?_getD, List.getD_eq_getElem?_getD, List.getElem?_eq_getElem h1, List.getElem?_eq_getElem h2] at this
      exact this)
    rw [← hlen]
    clear ha hb hm hlen
    generalize decide (l = m) = r at *
    generalize hLL : l.getD = LL at *
    generalize hMM : m.getD = MM at *
    generalize l.length = len at *
    clear hLL hMM
    go_enter Tryd.func24, Tryd.ntmps24
    go_wp2_with fail
    go_loopw [4, 5] (fun _ iv wr => ∃ i, ScanRel w len (fun k => LL k 0 = MM k 0) iv wr i) (fun _ iv _ => len - (intOf iv).toNat)
    case atStart => exact ⟨0, rfl, Nat.zero_le _, (fun j hj => by omega), ⟨0, rfl⟩⟩
    case round =>
      obtain ⟨i, ⟨rfl, hi, hno, ⟨q, rfl⟩⟩⟩ := hrel
      have HNO := Lib.hid hno
      clear hno
      by_cases hlt : i < len
      · obtain ⟨⟨b1, o1, e1, hk⟩, ⟨b2, o2, e2, hv⟩⟩ := HR.out i hlt
        subst e1 e2
        have zk := hk _ (Below.refl _ w)
        have zo := hv _ (Below.refl _ w)
        have HNI := Lib.hid (HN.out i hlt)
        clear hk hv HR
        generalize h1 : LL i 0 = v1 at *
        generalize h2 : MM i 0 = v2 at *
        by_cases e : v1 = v2
        · have e2 : (v1 == v2) = true := by simp [e]
          have HEI : Hid (LL i 0 = MM i 0) := Lib.hid (by rw [h1, h2, e])
          clear h1 h2
          subst e
          go_wp2_with fail
          go_quiet (fail)
          go_wp2_with fail
          go_roundw
          case rel => exact ⟨i + 1, by simp, hlt, scan_next HNO.out HEI.out, by first | exact ⟨_, rfl⟩ | exact drewN_drewN _ _ _⟩
          case measure => simp [intOf]; omega
        · have e2 : (v1 == v2) = false := ne_b e
          have HX := Lib.hid (HNI.out e)
          clear e h1 h2
          go_wp2_with fail
          go_quiet (fail)
          go_wp2_with fail
          go_ret
          exact ⟨by rw [HX.out]; rfl, ⟨rfl, rfl, rfl, Nat.le_refl _, fun _ _ => rfl⟩⟩
      · obtain rfl : len = i := by omega
        have HX := Lib.hid (HY.out HNO.out)
        go_wp2_with fail
        go_ret
        exact ⟨by rw [HX.out]; rfl, below_any _ _⟩
  · have hne : decide (l = m) = false := decide_eq_false fun e => hlen (by rw [e])
    rw [hne]
    have hl2 : ((l.length : Int) == m.length) = false := ne_b (by omega)
    have hl3 : ¬ (l.length : Int) = m.length := by omega
    clear hne hlen ha hb
    generalize l.length = n1 at *
    generalize m.length = n2 at *
    go_enter Tryd.func24, Tryd.ntmps24
    go_wp2_with fail
    all_goals
      first
        | (go_ret; exact ⟨rfl, Below.refl _ _⟩)
        | omega
/-- fair. -/
def FairPost (f : Fl) (n : Nat) (w : World) (e : Ending) (w' : World) : Prop := ∃ b, e = .returned (.bool b) ∧ (b = true ↔ f.ok ∧ f.Kind.length ≤ n) ∧ Below w.heap.size w w'
theorem fair_any (f : Fl) (p : Pl) (n : Nat) (w : World) (hin : FlIn w f p) (hlk : f.Kind.length ≤ 9223372036854775807) (hlo : f.Out.length ≤ 9223372036854775807) :
    Calls Tryd.prog 29 #[f.val p, .int .i64 n] w (FairPost f n w) := by
  have HB : Hid (∀ o, Below w.heap.size w (w.alloc o)) := Lib.hid fun o => (Below.refl _ w).alloc (Nat.le_refl _) o
  have HFE := Lib.hid (fun w => qFew_any f p n w hlk hlo)
  have HRI := Lib.hid (fun w' (b : Below w.heap.size w w') => qRight_any f p w' (hin.lift b) hlk hlo)
  have HNO : Hid (¬ (f.Kind.length ≤ n ∧ f.Out.length ≤ n) → ∀ w', Below w.heap.size w w' → FairPost f n w (.returned (.bool false)) w') := Lib.hid fun h w' b => ⟨false, rfl, ⟨fun e => (by cases e), fun e => absurd ⟨e.2, by have := e.1.kinds; have := e.1.outs; have := e.2; omega⟩ h⟩, b⟩
  have HYES : Hid (∀ b w', Below w.heap.size w w' → f.Kind.length ≤ n → (b = true ↔ f.ok) → FairPost f n w (.returned (.bool b)) w') := Lib.hid fun b w' h h2 h3 => ⟨b, rfl, ⟨fun e => ⟨h3.1 e, h2⟩, fun e => h3.2 e.1⟩, h⟩
  by_cases h1 : f.Kind.length ≤ n ∧ f.Out.length ≤ n
  · rw [decide_eq_true h1.1, decide_eq_true h1.2] at HFE
    have HY2 := Lib.hid (fun b w' h h3 => HYES.out b w' h h1.1 h3)
    clear HYES HNO h1 hin
    have HRI2 : Hid (∀ w', Below w.heap.size w w' → Calls Tryd.prog 11 #[f.val p] w' fun e w2 => ∃ b, e = .returned (.bool b) ∧ (b = true ↔ f.ok) ∧ Below w'.heap.size w' w2) := HRI
    clear HRI
    generalize FairPost f n w = Q at *
    generalize f.ok = OK at *
    obtain ⟨A1, c1, A2, c2⟩ := p
    obtain ⟨W, H, D, K, O⟩ := f
    dsimp only [Fl.val] at *
    generalize K.length = n1 at *
    generalize O.length = n2 at *
    go_enter Tryd.func29, Tryd.ntmps29
    go_wp2_with (first
      | (go_at_call 9; refine (HFE.out _).mono ?_; rintro e w1 ⟨rfl, b1⟩; have B1 := Lib.hid (next_below (HB.out _) b1); have K1 := (Blk.fresh w _ _).under b1 (by simp); clear b1; obtain ⟨k0, k1, k2, k3, k4⟩ := boxS K1; clear K1)
      | (go_at_call 11; refine (HRI2.out _ B1.out).mono ?_; rintro e w2 ⟨b, rfl, hb, b2⟩; have HX := Lib.hid (HY2.out b _ (next_below B1.out b2) hb); clear hb b2))
    exact HX.out
  · have h2 : (decide (f.Kind.length ≤ n) && decide (f.Out.length ≤ n)) = false := by
      rw [← Bool.decide_and]
      exact decide_eq_false h1
    rw [h2] at HFE
    have HNO2 := Lib.hid (HNO.out h1)
    clear HYES HRI h1 h2 hin HNO
    generalize FairPost f n w = Q at *
    obtain ⟨A1, c1, A2, c2⟩ := p
    obtain ⟨W, H, D, K, O⟩ := f
    dsimp only [Fl.val] at *
    generalize K.length = n1 at *
    generalize O.length = n2 at *
    go_enter Tryd.func29, Tryd.ntmps29
    go_wp2_with (go_at_call 9; refine (HFE.out _).mono ?_; rintro e w1 ⟨rfl, b1⟩; have B1 := Lib.hid (next_below (HB.out _) b1); clear b1)
    exact HNO2.out _ B1.out
end Flo
end Go.Proofs.YtncbhhnojdhpeaaDoor

/- The program's Right. -/
import Derived.Test.YtgophgnfiboefaaGreatDoorMgM
namespace Go.Proofs.YtgophgnfiboefaaGreatDoor
open Go.RowKit Wire
open Txt (Row)
set_option linter.unusedVariables false
set_option linter.unusedSimpArgs false
namespace Flo
def areIn (l : List Int) (n hi : Int) : Bool := decide ((l.length : Int) = n ∧ ∀ k ∈ l, 0 ≤ k ∧ k ≤ hi)
set_option maxHeartbeats 1000000 in
theorem are_any (w : World) (A : Option Addr) (c : Nat) (l : List Int) (n hi : Int) (hl : l.length ≤ 9223372036854775807) (h : Row w w.heap.size A (l.map (Value.int .i64))) :
    Calls Tryz.prog 57 #[.slice A l.length c, .int .i64 n, .int .i64 hi] w fun e w' => e = .returned (.bool (areIn l n hi)) ∧ w = w' := by
  have HR : Hid (∀ k, k < l.length → ∃ b o, A = some ⟨b, o, none⟩ ∧ ∀ w', Below w.heap.size w w' → w'.cell? ⟨b, o + k, none⟩ = some (.int .i64 (l.getD k 0))) := Lib.hid fun k hk => row_val h hk
  have HN : Hid (∀ k, k < l.length → ¬ (0 ≤ l.getD k 0 ∧ l.getD k 0 ≤ hi) → areIn l n hi = false) := Lib.hid fun k hk e => decide_eq_false fun h => e (h.2 _ (by
    rw [List.getD_eq_getElem?_getD, List.getElem?_eq_getElem hk]
    exact List.getElem_mem hk))
  have HY : Hid ((∀ k, k < l.length → 0 ≤ l.getD k 0 ∧ l.getD k 0 ≤ hi) → areIn l n hi = ((l.length : Int) == n)) := Lib.hid fun h => by
    unfold areIn
    rw [Bool.eq_iff_iff, decide_eq_true_iff, beq_iff_eq]
    refine ⟨fun e => e.1, fun e => ⟨e, fun v hm => ?_⟩⟩
    obtain ⟨k, hk, e⟩ := List.getElem_of_mem hm
    have := h k hk
    rw [List.getD_eq_getElem?_getD, List.getElem?_eq_getElem hk] at this
    rw [← e]
    exact this
  clear h
  generalize areIn l n hi = r at *
  generalize hLL : l.getD = LL at *
  generalize l.length = len at *
  clear hLL
  go_enter Tryz.func57, Tryz.ntmps57
  go_wp2_with fail
  go_loopw [8, 11] (fun _ iv wr => ∃ i, ScanRel w len (fun k => 0 ≤ LL k 0 ∧ LL k 0 ≤ hi) iv wr i ∧ wr = w) (fun _ iv _ => len - (intOf iv).toNat)
  case atStart => exact ⟨0, ⟨rfl, Nat.zero_le _, (fun j hj => by omega), ⟨0, rfl⟩⟩, rfl⟩
  case round =>
    obtain ⟨i, ⟨rfl, hile, hno, _⟩, rfl⟩ := hrel
    have HNO := Lib.hid hno
    clear hno
    by_cases hlt : i < len
    · obtain ⟨b, o, rfl, hc⟩ := HR.out i hlt
      have z := hc _ (Below.refl _ _)
      have HYI := Lib.hid (HN.out i hlt)
      clear hc
      generalize hv : LL i 0 = v at *
      obtain ⟨t, ht⟩ : ∃ b : Bool, (b = true) ↔ (0 ≤ v ∧ v ≤ hi) := ⟨decide (0 ≤ v ∧ v ≤ hi), decide_eq_true_iff⟩
      have HB := Lib.hid (between_as t ht)
      have HT := Lib.hid ht
      clear ht
      have HNI : Hid (t = true → 0 ≤ LL i 0 ∧ LL i 0 ≤ hi) := Lib.hid (by rw [hv]; exact HT.out.1)
      clear hv
      cases t
      · have HX := Lib.hid (HYI.out (fun e => by have := HT.out.2 e; cases this))
        clear HT HYI
        go_wp2_with (go_at_call 56; refine (HB.out _).mono ?_; rintro e w1 ⟨rfl, rfl⟩)
        go_ret
        exact ⟨by rw [HX.out]; rfl, rfl⟩
      · clear HT HYI
        go_wp2_with (go_at_call 56; refine (HB.out _).mono ?_; rintro e w1 ⟨rfl, rfl⟩)
        go_roundw
        case rel => exact ⟨i + 1, ⟨by simp, hlt, scan_next HNO.out (HNI.out (by first | rfl | trivial)), ⟨0, rfl⟩⟩, by first | rfl | trivial⟩
        case measure => simp [intOf]; omega
    · obtain rfl : len = i := by omega
      have HX := Lib.hid (HY.out HNO.out)
      go_wp2_with fail
      go_ret
      exact ⟨by rw [HX.out]; rfl, rfl⟩
theorem right_iff {f : Fl} : f.ok ↔ (1 ≤ f.W ∧ f.W ≤ 4096) ∧ (1 ≤ f.H ∧ f.H ≤ 4096) ∧ (1 ≤ f.D ∧ f.D ≤ 4) ∧ f.W * f.H * f.D ≤ 4096 ∧ areIn f.Kind (f.W * f.H * f.D) 6 = true ∧ areIn f.Out (f.W * f.H * f.D) 63 = true := by
  unfold areIn
  rw [decide_eq_true_iff, decide_eq_true_iff]
  constructor
  · intro h
    obtain ⟨s1, s2, _, _⟩ := h.small
    exact ⟨⟨h.w, s1⟩, ⟨h.h, s2⟩, ⟨h.d, h.d4⟩, h.size, ⟨h.kinds, fun k hk => ⟨(h.kind k hk).1, by have := (h.kind k hk).2; omega⟩⟩, h.outs, h.out⟩
  · rintro ⟨⟨a, _⟩, ⟨b, _⟩, ⟨c, d⟩, e, ⟨g, h⟩, i, j⟩
    exact ⟨a, b, c, d, e, g, i, fun k hk => ⟨(h k hk).1, by have := (h k hk).2; omega⟩, j⟩
set_option maxRecDepth 8000 in
set_option maxHeartbeats 2000000 in
theorem right_any (f : Fl) (p : Pl) (w : World) (hin : FlIn w f p) (hlk : f.Kind.length ≤ 9223372036854775807) (hlo : f.Out.length ≤ 9223372036854775807) :
    Calls Tryz.prog 34 #[f.val p] w (RightPost f w) := by
  have HB : Hid (∀ o, Below w.heap.size w (w.alloc o)) := Lib.hid fun o => (Below.refl _ w).alloc (Nat.le_refl _) o
  have HK : Hid (∀ w' n, Below w.heap.size w w' → Calls Tryz.prog 57 #[.slice p.A1 f.Kind.length p.c1, .int .i64 n, .int .i64 6] w' fun e w2 => e = .returned (.bool (areIn f.Kind n 6)) ∧ w' = w2) := Lib.hid fun w' n b => are_any w' p.A1 p.c1 f.Kind n 6 hlk (hin.kind.lift b)
  have HO : Hid (∀ w' n, Below w.heap.size w w' → Calls Tryz.prog 57 #[.slice p.A2 f.Out.length p.c2, .int .i64 n, .int .i64 63] w' fun e w2 => e = .returned (.bool (areIn f.Out n 63)) ∧ w' = w2) := Lib.hid fun w' n b => are_any w' p.A2 p.c2 f.Out n 63 hlo (hin.out.lift b)
  obtain ⟨bw, hbw⟩ : ∃ b : Bool, (b = true) ↔ (1 ≤ f.W ∧ f.W ≤ 4096) := ⟨decide (1 ≤ f.W ∧ f.W ≤ 4096), decide_eq_true_iff⟩
  obtain ⟨bh, hbh⟩ : ∃ b : Bool, (b = true) ↔ (1 ≤ f.H ∧ f.H ≤ 4096) := ⟨decide (1 ≤ f.H ∧ f.H ≤ 4096), decide_eq_true_iff⟩
  obtain ⟨bd, hbd⟩ : ∃ b : Bool, (b = true) ↔ (1 ≤ f.D ∧ f.D ≤ 4) := ⟨decide (1 ≤ f.D ∧ f.D ≤ 4), decide_eq_true_iff⟩
  have HX := Lib.hid (between_as bw hbw)
  have HY := Lib.hid (between_as bh hbh)
  have HZ := Lib.hid (between_as bd hbd)
  obtain ⟨r, hr⟩ : ∃ r : Bool, (r = true) ↔ f.ok := ⟨@decide f.ok (Classical.propDecidable _), @decide_eq_true_iff _ (Classical.propDecidable _)⟩
  have HP : Hid (∀ w', Below w.heap.size w w' → RightPost f w (.returned (.bool r)) w') := Lib.hid fun w' b => ⟨r, rfl, hr, b⟩
  rw [right_iff, ← hbw, ← hbh, ← hbd] at hr
  obtain ⟨q, hq⟩ : ∃ q : Bool, (q = true) ↔ f.W * f.H * f.D ≤ 4096 := ⟨decide (f.W * f.H * f.D ≤ 4096), decide_eq_true_iff⟩
  rw [← hq] at hr
  have hr2 : r = (bw && bh && bd && q && areIn f.Kind (f.W * f.H * f.D) 6 && areIn f.Out (f.W * f.H * f.D) 63) := by
    rw [Bool.eq_iff_iff, hr]
    simp [and_assoc]
  have HR2 := Lib.hid hr2
  have HQ := Lib.hid hq
  have HPW := Lib.hid hbw.1
  have HPH := Lib.hid hbh.1
  have HPD := Lib.hid hbd.1
  clear hr hbw hbh hbd hin hr2 hq
  generalize RightPost f w = Q at *
  generalize areIn f.Kind = KI at *
  generalize areIn f.Out = OI at *
  obtain ⟨A1, c1, A2, c2⟩ := p
  obtain ⟨W, H, D, K, O⟩ := f
  dsimp only [Fl.val] at *
  generalize K.length = n1 at *
  generalize O.length = n2 at *
  cases bw
  · have hr : r = false := by rw [HR2.out]; simp
    subst hr
    go_enter Tryz.func34, Tryz.ntmps34
    go_wp2_with (go_at_call 56; (with_reducible refine (HX.out _).mono ?_); rintro e w1 ⟨rfl, rfl⟩)
    exact HP.out _ (HB.out _)
  cases bh
  · have hr : r = false := by rw [HR2.out]; simp
    subst hr
    go_enter Tryz.func34, Tryz.ntmps34
    go_wp2_with (first | (go_at_call 56; (with_reducible refine (HX.out _).mono ?_); rintro e w1 ⟨rfl, rfl⟩) | (go_at_call 56; (with_reducible refine (HY.out _).mono ?_); rintro e w1 ⟨rfl, rfl⟩))
    exact HP.out _ (HB.out _)
  cases bd
  · have hr : r = false := by rw [HR2.out]; simp
    subst hr
    go_enter Tryz.func34, Tryz.ntmps34
    go_wp2_with (first | (go_at_call 56; (with_reducible refine (HX.out _).mono ?_); rintro e w1 ⟨rfl, rfl⟩) | (go_at_call 56; (with_reducible refine (HY.out _).mono ?_); rintro e w1 ⟨rfl, rfl⟩) | (go_at_call 56; (with_reducible refine (HZ.out _).mono ?_); rintro e w1 ⟨rfl, rfl⟩))
    exact HP.out _ (HB.out _)
  obtain ⟨w0, w1⟩ := HPW.out rfl
  obtain ⟨h0, h1⟩ := HPH.out rfl
  obtain ⟨d0, d1⟩ := HPD.out rfl
  have m1 : 1 ≤ W * H := by have := Int.mul_le_mul w0 h0 (by omega) (by omega); omega
  have m2 : W * H ≤ 4096 * 4096 := Int.mul_le_mul w1 h1 (by omega) (by omega)
  have m3 : 1 ≤ W * H * D := by have := Int.mul_le_mul m1 d0 (by omega) (by omega); omega
  have m4 : W * H * D ≤ 4096 * 4096 * 4 := Int.mul_le_mul m2 d1 (by omega) (by omega)
  have m2' : W * H ≤ 16777216 := by omega
  have m4' : W * H * D ≤ 67108864 := by omega
  clear m2 m4
  cases q
  · have hr : r = false := by rw [HR2.out]; simp
    subst hr
    have hq : ¬ W * H * D ≤ 4096 := fun e => by have := HQ.out.2 e; cases this
    go_enter Tryz.func34, Tryz.ntmps34
    go_wp2_with (first | (go_at_call 56; (with_reducible refine (HX.out _).mono ?_); rintro e w1 ⟨rfl, rfl⟩) | (go_at_call 56; (with_reducible refine (HY.out _).mono ?_); rintro e w1 ⟨rfl, rfl⟩) | (go_at_call 56; (with_reducible refine (HZ.out _).mono ?_); rintro e w1 ⟨rfl, rfl⟩))
    exact HP.out _ (HB.out _)
  have hq : W * H * D ≤ 4096 := HQ.out.1 rfl
  simp only [Bool.true_and] at HR2
  generalize hKV : KI (W * H * D) 6 = kv at *
  generalize hOV : OI (W * H * D) 63 = ov at *
  have HKV := Lib.hid hKV
  have HOV := Lib.hid hOV
  clear hKV hOV HQ
  have HK2 : Hid (∀ w', Below w.heap.size w w' → Calls Tryz.prog 57 #[.slice A1 n1 c1, .int .i64 (W * H * D), .int .i64 6] w' fun e w2 => e = .returned (.bool kv) ∧ w' = w2) := Lib.hid fun w' b => by rw [← HKV.out]; exact HK.out w' _ b
  have HO2 : Hid (∀ w', Below w.heap.size w w' → Calls Tryz.prog 57 #[.slice A2 n2 c2, .int .i64 (W * H * D), .int .i64 63] w' fun e w2 => e = .returned (.bool ov) ∧ w' = w2) := Lib.hid fun w' b => by rw [← HOV.out]; exact HO.out w' _ b
  clear HKV HOV HK HO
  cases kv
  · have hr : r = false := by rw [HR2.out]; simp
    subst hr
    go_enter Tryz.func34, Tryz.ntmps34
    go_wp2_with (first | (go_at_call 56; (with_reducible refine (HX.out _).mono ?_); rintro e w1 ⟨rfl, rfl⟩) | (go_at_call 56; (with_reducible refine (HY.out _).mono ?_); rintro e w1 ⟨rfl, rfl⟩) | (go_at_call 56; (with_reducible refine (HZ.out _).mono ?_); rintro e w1 ⟨rfl, rfl⟩) | (go_at_call 57; refine (HK2.out _ (HB.out _)).mono ?_; rintro e w1 ⟨rfl, rfl⟩))
    exact HP.out _ (HB.out _)
  · obtain rfl : r = ov := by rw [HR2.out]; simp
    go_enter Tryz.func34, Tryz.ntmps34
    go_wp2_with (first | (go_at_call 56; (with_reducible refine (HX.out _).mono ?_); rintro e w1 ⟨rfl, rfl⟩) | (go_at_call 56; (with_reducible refine (HY.out _).mono ?_); rintro e w1 ⟨rfl, rfl⟩) | (go_at_call 56; (with_reducible refine (HZ.out _).mono ?_); rintro e w1 ⟨rfl, rfl⟩) | (go_at_call 57; (with_reducible refine (HK2.out _ (HB.out _)).mono ?_); rintro e w1 ⟨rfl, rfl⟩) | (go_at_call 57; (with_reducible refine (HO2.out _ (HB.out _)).mono ?_); rintro e w1 ⟨rfl, rfl⟩))
    exact HP.out _ (HB.out _)
end Flo
end Go.Proofs.YtgophgnfiboefaaGreatDoor

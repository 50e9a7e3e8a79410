/- The statements' example; small helpers of the statements. -/
import Derived.Test.YtpogoalbnbekaaaDoorJcI
import Derived.Test.YtpogoalbnbekaaaDoorWrD
namespace Go.Proofs.YtpogoalbnbekaaaDoor
open Go.RowKit Wire
set_option linter.unusedVariables false
set_option linter.unusedSimpArgs false
open Txt
open Sls (strs)
namespace Dsk

section
variable {F G : Nat → Prop} {W w w' : World} {p g : Nat} {S T S' : St} {f : FuncId} {args : Array Value} {R : Ending} {K : Option (Nat × Jl)} {J : Jl}
/-- A row that a literal lays. -/
theorem row_lit (w : World) (l : List ByteArray) (t : TypeId) : Row (w.alloc (.cells (strs l).toArray t)) (w.alloc (.cells (strs l).toArray t)).heap.size (some ⟨w.heap.size, 0, none⟩) (strs l) := by
  have h := new_cells w t (strs l)
  have hz : (w.alloc (.cells (strs l).toArray t)).heap.size = w.heap.size + 1 := Array.size_push ..
  intro k u hu
  have := h k u hu
  rw [row_add'] at this
  exact ⟨w.heap.size, 0, rfl, by omega, this⟩
theorem Js.append_lit (h : Js F W w p S (some (g, J))) (l : List ByteArray) (t : TypeId) (cp : Nat) (hn : l.length ≤ 1099511627776) :
    Calls Tryd.prog 13 #[ptr g, .slice (some ⟨w.heap.size, 0, none⟩) l.length cp] (w.alloc (.cells (strs l).toArray t)) fun e w' => e = .returned (.int .i64 (J.append S l).1) ∧ Js F W w' p (J.append S l).2.2 (some (g, (J.append S l).2.1)) ∧ SameF F w w' := by
  have b := (Below.refl _ w).alloc (Nat.le_refl _) (.cells (strs l).toArray t)
  refine ((h.alloc (.cells (strs l).toArray t)).append _ cp l (row_lit w l t) (fun b o e _ => ?_) hn).mono ?_
  · injection e with e
    injection e with e
    exact .inr (.inr e.symm)
  · rintro e w' ⟨he, hj, hs⟩
    refine ⟨he, hj.mono fun b hb => .inl hb, Nat.le_trans b.size hs.size, fun x hx => ?_⟩
    obtain ⟨D, _, _, _, hF, _⟩ := h.st
    exact (hs.same x (.inl hx)).trans (b.block x (hF x hx).1)
theorem same_lit (w : World) (A : Option Addr) (c c2 : Nat) (l m : List ByteArray) (t : TypeId) (hl : l.length ≤ 9223372036854775807) (hm : m.length ≤ 9223372036854775807) (h : Row w w.heap.size A (strs l)) :
    Calls Tryd.prog 16 #[.slice A l.length c, .slice (some ⟨w.heap.size, 0, none⟩) m.length c2] (w.alloc (.cells (strs m).toArray t)) fun e w' => e = .returned (.bool (decide (l = m))) ∧ Below w.heap.size w w' := by
  have b := (Below.refl _ w).alloc (Nat.le_refl _) (.cells (strs m).toArray t)
  exact (Wr.sameTexts_all _ _ c c2 l m hl hm _ (h.lift b) (row_lit w m t)).mono fun e w' ⟨he, hb⟩ => ⟨he, next_below b hb⟩
end
def s1 : List ByteArray := [⟨#[97]⟩, ⟨#[98, 99]⟩]
def s2 : List ByteArray := [⟨#[100]⟩]
def s3 : List ByteArray := [⟨#[101]⟩]
theorem small_calm : ∃ (J0 J1 J2 J3 J4 J5 : Jl) (S0 S1 S2 S3 S4 S5 : St), jopn St.new 3 = (0, some J0, S0) ∧ J0.L = [] ∧ J0.append S0 s1 = (0, J1, S1) ∧ J1.append S1 [] = (0, J2, S2) ∧ J2.append S2 s2 = (0, J3, S3) ∧ J3.cut S3 2 = (0, J4, S4) ∧ J4.L = s1 ∧ J4.append S4 s3 = (0, J5, S5) ∧ J5.L = s1 ++ s3 := by
  obtain ⟨J0, a1, a2, a3, a4, a5⟩ := (CanJ.new (f := 3) (by omega)).opn_calm (by omega) Calm.new
  obtain ⟨X, hX⟩ : ∃ X, X = jopn St.new ((3 : Nat) : Int) := ⟨_, rfl⟩
  have hX' : jopn St.new 3 = X := hX.symm
  rw [← hX] at a1 a2 a4 a5
  obtain ⟨er, oj, S0⟩ := X
  dsimp only at a1 a2 a4 a5
  subst a1 a2
  clear hX
  have fb : ∀ L : List ByteArray, L.length ≤ 4 → (∀ s ∈ L, s.size ≤ 2) → (form L).length ≤ 1048576 := fun L h1 h2 => by
    have := form_bound h2
    have h3 : (2 + 23) * L.length ≤ 25 * 4 := Nat.mul_le_mul_left _ h1
    omega
  have z1 : ∀ s ∈ s1, s.size ≤ 2 := by unfold s1; intro s hs; simp at hs; rcases hs with rfl | rfl <;> decide
  have z2 : ∀ s ∈ s1 ++ s2, s.size ≤ 2 := by unfold s1 s2; intro s hs; simp at hs; rcases hs with rfl | rfl | rfl <;> decide
  have z3 : ∀ s ∈ s1 ++ s3, s.size ≤ 2 := by unfold s1 s3; intro s hs; simp at hs; rcases hs with rfl | rfl | rfl <;> decide
  obtain ⟨b1, b2, b3, b4⟩ := a4.append_calm a5 s1 (by rw [a3]; exact fb _ (by decide) z1)
  obtain ⟨c1, c2, c3, c4⟩ := b3.append_calm b4 [] (by rw [b2, a3, List.append_nil]; exact fb _ (by decide) z1)
  obtain ⟨d1, d2, d3, d4⟩ := c3.append_calm c4 s2 (by rw [c2, b2, a3, List.append_nil]; exact fb _ (by decide) z2)
  have l3 : ((J0.append S0 s1).2.1.append (J0.append S0 s1).2.2 []).2.1.L = s1 := by rw [c2, b2, a3, List.append_nil]; rfl
  obtain ⟨e1, e2, e3, e4⟩ := d3.cut_calm d4 2 (by omega) (by rw [d2, l3]; decide)
  have l4 := e2
  rw [d2, l3] at l4
  have l4' : (s1 ++ s2).take (2 : Int).toNat = s1 := rfl
  rw [l4'] at l4
  obtain ⟨f1, f2, f3, f4⟩ := e3.append_calm e4 s3 (by rw [l4]; exact fb _ (by decide) z3)
  rw [l4] at f2
  exact ⟨J0, _, _, _, _, _, S0, _, _, _, _, _, hX', a3, by rw [← b1], by rw [← c1], by rw [← d1], by rw [← e1], l4, by rw [← f1], f2⟩

set_option maxRecDepth 8000 in
set_option maxHeartbeats 2000000 in
theorem jsmall_any {w : World} (ho : Off w) : Calls Tryd.prog 7 #[] w fun e w' => e = .returned (.bool true) ∧ Below w.heap.size w w' := by
  obtain ⟨J0, J1, J2, J3, J4, J5, S0, S1, S2, S3, S4, S5, q0, q1, q2, q3, q4, q5, q6, q7, q8⟩ := small_calm
  have HO := Lib.hid (fun w' p (h : Js (fun _ => False) w w' p St.new none) => h.open_some (n := 3) (by omega) q0)
  have HL : Hid (∀ w' p g, Js (fun _ => False) w w' p S0 (some (g, J0)) → Calls Tryd.prog 18 #[ptr g] w' fun e w2 => e = .returned (.int .i64 0) ∧ w' = w2) := Lib.hid fun w' p g h => by
    have := h.len
    rw [q1] at this
    exact this
  have HA1 : Hid (∀ w' p g, Js (fun _ => False) w w' p S0 (some (g, J0)) → Calls Tryd.prog 13 #[ptr g, .slice (some ⟨w'.heap.size, 0, none⟩) 2 2] (w'.alloc (.cells #[.string ⟨#[97]⟩, .string ⟨#[98, 99]⟩] 9)) fun e w2 => e = .returned (.int .i64 0) ∧ Js (fun _ => False) w w2 p S1 (some (g, J1)) ∧ SameF (fun _ => False) w' w2) := Lib.hid fun w' p g h => by
    have := h.append_lit s1 9 2 (by decide)
    rw [q2] at this
    exact this
  have HA2 : Hid (∀ w' p g, Js (fun _ => False) w w' p S1 (some (g, J1)) → Calls Tryd.prog 13 #[ptr g, .slice none 0 0] w' fun e w2 => e = .returned (.int .i64 0) ∧ Js (fun _ => False) w w2 p S2 (some (g, J2)) ∧ SameF (fun _ => False) w' w2) := Lib.hid fun w' p g h => by
    have := h.append none 0 [] (fun k u hu => by simp at hu) (fun b o e => by cases e) (by decide)
    rw [q3] at this
    exact this
  have HA3 : Hid (∀ w' p g, Js (fun _ => False) w w' p S2 (some (g, J2)) → Calls Tryd.prog 13 #[ptr g, .slice (some ⟨w'.heap.size, 0, none⟩) 1 1] (w'.alloc (.cells #[.string ⟨#[100]⟩] 9)) fun e w2 => e = .returned (.int .i64 0) ∧ Js (fun _ => False) w w2 p S3 (some (g, J3)) ∧ SameF (fun _ => False) w' w2) := Lib.hid fun w' p g h => by
    have := h.append_lit s2 9 1 (by decide)
    rw [q4] at this
    exact this
  have HC : Hid (∀ w' p g, Js (fun _ => False) w w' p S3 (some (g, J3)) → Calls Tryd.prog 14 #[ptr g, .int .i64 2] w' fun e w2 => e = .returned (.int .i64 0) ∧ Js (fun _ => False) w w2 p S4 (some (g, J4)) ∧ SameF (fun _ => False) w' w2) := Lib.hid fun w' p g h => by
    have := h.cut 2 (by omega) (by omega)
    rw [q5] at this
    exact this
  have HAL : Hid (∀ w' p g, Js (fun _ => False) w w' p S4 (some (g, J4)) → Calls Tryd.prog 17 #[ptr g] w' fun e w2 => ∃ v', e = .returned v' ∧ Grow w2 w'.heap.size 1 v' 2 (strs s1) ∧ Below w'.heap.size w' w2) := Lib.hid fun w' p g h => by
    have := h.all
    rw [q6] at this
    exact this
  have HST : Hid (∀ w' A c, Row w' w'.heap.size A (strs s1) → Calls Tryd.prog 16 #[.slice A 2 c, .slice (some ⟨w'.heap.size, 0, none⟩) 2 2] (w'.alloc (.cells #[.string ⟨#[97]⟩, .string ⟨#[98, 99]⟩] 9)) fun e w2 => e = .returned (.bool true) ∧ Below w'.heap.size w' w2) := Lib.hid fun w' A c h => by
    have := same_lit w' A c 2 s1 s1 9 (by decide) (by decide) h
    rw [decide_eq_true rfl] at this
    exact this
  have HA4 : Hid (∀ w' p g, Js (fun _ => False) w w' p S4 (some (g, J4)) → Calls Tryd.prog 13 #[ptr g, .slice (some ⟨w'.heap.size, 0, none⟩) 1 1] (w'.alloc (.cells #[.string ⟨#[101]⟩] 9)) fun e w2 => e = .returned (.int .i64 0) ∧ Js (fun _ => False) w w2 p S5 (some (g, J5)) ∧ SameF (fun _ => False) w' w2) := Lib.hid fun w' p g h => by
    have := h.append_lit s3 9 1 (by decide)
    rw [q7] at this
    exact this
  have HG1 : Hid (∀ w' p g, Js (fun _ => False) w w' p S5 (some (g, J5)) → Calls Tryd.prog 29 #[ptr g, .int .i64 2] w' fun e w2 => e = .returned (.string ⟨#[101]⟩) ∧ w' = w2) := Lib.hid fun w' p g h => by
    have := h.get 2 (by omega)
    rw [q8] at this
    exact this
  have HG2 : Hid (∀ w' p g, Js (fun _ => False) w w' p S5 (some (g, J5)) → Calls Tryd.prog 29 #[ptr g, .int .i64 3] w' fun e w2 => e = .returned (.string ⟨#[]⟩) ∧ w' = w2) := Lib.hid fun w' p g h => by
    have := h.get 3 (by omega)
    rw [q8] at this
    exact this
  clear q0 q1 q2 q3 q4 q5 q6 q7 q8
  have HOF := Lib.hid ho
  clear ho
  go_enter Tryd.func7, Tryd.ntmps7
  go_wp2_with (first
    | (go_at_call 9; refine (new_one (Below.refl _ w)).mono ?_; rintro e w1 ⟨p, rfl, h1⟩; have H1 := Lib.hid (Js.of h1 HOF.out); clear h1)
    | (go_at_call 10; refine (HO.out _ _ H1.out).mono ?_; rintro e w2 ⟨g, rfl, h2, _⟩; have H2 := Lib.hid h2; clear h2 H1)
    | (go_at_call 18; refine (HL.out _ _ _ H2.out).mono ?_; rintro e w3 ⟨rfl, rfl⟩)
    | (go_at_call 13; ((with_reducible refine (HA1.out _ _ _ H2.out).mono ?_); rintro e w4 ⟨rfl, h4, _⟩); have H4 := Lib.hid h4; clear h4 H2)
    | (go_at_call 13; ((with_reducible refine (HA2.out _ _ _ H4.out).mono ?_); rintro e w5 ⟨rfl, h5, _⟩); have H5 := Lib.hid h5; clear h5 H4)
    | (go_at_call 13; ((with_reducible refine (HA3.out _ _ _ H5.out).mono ?_); rintro e w6 ⟨rfl, h6, _⟩); have H6 := Lib.hid h6; clear h6 H5)
    | (go_at_call 14; ((with_reducible refine (HC.out _ _ _ H6.out).mono ?_); rintro e w7 ⟨rfl, h7, _⟩); have H7 := Lib.hid h7; clear h7 H6)
    | (go_at_call 17; refine (HAL.out _ _ _ H7.out).mono ?_; rintro e w8 ⟨v8, rfl, g8, b8⟩; obtain ⟨A8, c8, rfl, r8⟩ := Sls.Grow.row g8; have R8 := Lib.hid r8; have H8 := Lib.hid (H7.out.keep b8).1; clear g8 b8 r8 H7)
    | (go_at_call 16; refine (HST.out _ _ _ R8.out).mono ?_; rintro e w9 ⟨rfl, b9⟩; have H9 := Lib.hid (H8.out.keep b9).1; clear b9 H8)
    | (go_at_call 13; ((with_reducible refine (HA4.out _ _ _ H9.out).mono ?_); rintro e w10 ⟨rfl, h10, _⟩); have H10 := Lib.hid h10; clear h10 H9)
    | (go_at_call 29; ((with_reducible refine (HG1.out _ _ _ H10.out).mono ?_); rintro e w11 ⟨rfl, rfl⟩))
    | (go_at_call 29; ((with_reducible refine (HG2.out _ _ _ H10.out).mono ?_); rintro e w12 ⟨rfl, rfl⟩)))
  go_ret
  exact ⟨rfl, H10.out.below⟩
end Dsk
end Go.Proofs.YtpogoalbnbekaaaDoor

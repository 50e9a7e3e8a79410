import Derived.Test.YtionidjhfcmgiaaSame
import Derived.Test.YtionidjhfcmgiaaSmall
namespace Go.Proofs.Ytionidjhfcmgiaa
open Go.RowKit
set_option linter.unusedVariables false
set_option linter.unusedSimpArgs false
namespace Wire

theorem rnums_bad (g : Nat) (l : List UInt8) (w : World) (h : RS w g (some l)) (hl : l.length ≤ 1099511627776) (hs : list int l = none) :
    Calls Try.prog 31 #[ptr g] w fun e w' => e = .returned (.slice none 0 0) ∧ RS w' g none ∧ w.grownBy w' (some g) :=
  (rnums_any g l w h hl).mono fun e w' hp => by
    rcases hp with ⟨xs, r', v, h1, _⟩ | ⟨_, rfl, h3, h4⟩
    · rw [hs] at h1
      cases h1
    · exact ⟨rfl, h3, h4⟩
theorem rtexts_bad (g : Nat) (l : List UInt8) (w : World) (h : RS w g (some l)) (hl : l.length ≤ 1099511627776) (hs : list text l = none) :
    Calls Try.prog 34 #[ptr g] w fun e w' => e = .returned (.slice none 0 0) ∧ RS w' g none ∧ w.grownBy w' (some g) :=
  (rtexts_any g l w h hl).mono fun e w' hp => by
    rcases hp with ⟨xs, r', v, h1, _⟩ | ⟨_, rfl, h3, h4⟩
    · rw [hs] at h1
      cases h1
    · exact ⟨rfl, h3, h4⟩

theorem row_nil (w : World) (B : Nat) (A : Option Addr) : Row w B A [] := fun k u hu => by simp at hu

def bs (t : List UInt8) : ByteArray := ⟨t.toArray⟩
theorem bs_map (ts : List (List UInt8)) : (ts.map bs).map Value.string = ts.map fun t => str t := by
  rw [List.map_map]
  rfl
theorem bs_flat (ts : List (List UInt8)) : (ts.map bs).flatMap encText = ts.flatMap fun t => dec t.length ++ (58 :: (t ++ [44])) := by
  induction ts with
  | nil => rfl
  | cons t ts ih => rw [List.map_cons, List.flatMap_cons, List.flatMap_cons, ih]; rfl
theorem bs_list (ts : List (List UInt8)) : encList encText (ts.map bs) = encList (fun t => dec t.length ++ (58 :: (t ++ [44]))) ts := by
  unfold encList
  rw [bs_flat, List.length_map]
theorem flat_pos {α : Type} (enc : α → List UInt8) (h : ∀ x, 1 ≤ (enc x).length) (xs : List α) : xs.length ≤ (xs.flatMap enc).length := by
  induction xs with
  | nil => simp
  | cons x xs ih =>
    have := h x
    simp only [List.flatMap_cons, List.length_append, List.length_cons]
    omega
theorem list_fits {α : Type} (enc : α → List UInt8) (xs : List α) : (xs.flatMap enc).length ≤ (encList enc xs).length := by
  unfold encList
  simp
  omega
theorem encInt_pos (z : Int) : 1 ≤ (encInt z).length := by
  unfold encInt
  split
  · simp
  · simp

theorem rep_fits : ∀ (n : Nat) (l : List UInt8) (zs : List Int) (r : List UInt8), rep int n l = some (zs, r) → ∀ z ∈ zs, Fits z
  | 0, l, zs, r, h => by
    simp only [rep, Option.some.injEq, Prod.mk.injEq] at h
    obtain ⟨rfl, _⟩ := h
    exact fun z hz => by cases hz
  | n + 1, l, zs, r, h => by
    rw [rep] at h
    split at h
    · rename_i x r' hx
      obtain ⟨⟨ys, r2⟩, h1, h2⟩ := Option.map_eq_some_iff.1 h
      simp only [Prod.mk.injEq] at h2
      obtain ⟨rfl, rfl⟩ := h2
      intro z hz
      rcases List.mem_cons.1 hz with rfl | hz
      · have := int_read hx
        exact ⟨this.1, this.2.1⟩
      · exact rep_fits n r' ys r2 h1 z hz
    · cases h
theorem list_fit {l r : List UInt8} {zs : List Int} (h : list int l = some (zs, r)) : ∀ z ∈ zs, Fits z := by
  unfold list at h
  split at h
  · split at h
    · rename_i hr
      split at h
      · simp only [Option.some.injEq, Prod.mk.injEq] at h
        obtain ⟨rfl, _⟩ := h
        exact rep_fits _ _ _ _ hr
      · cases h
    · cases h
  · cases h

set_option maxRecDepth 100000 in
set_option maxHeartbeats 2000000 in
theorem again_num (l : List UInt8) (hl : l.length ≤ 400) (what : Int) (hw : Fits what) (hd : kd what = 0) (w : World) :
    Calls Try.prog 6 #[str l, .int .i64 what] w fun e w' => e = .returned (.bool true) ∧ Below w.heap.size w w' := by
  have HW := Lib.hid hw
  have HD := Lib.hid hd
  have HQ : Hid (l.length ≤ 4611686018427387904) := Nat.le_trans hl (by omega)
  have HQ2 : Hid (l.length ≤ 1099511627776) := Nat.le_trans hl (by omega)
  clear hw hd
  cases hp : num 59 l with
  | none =>
    have HP := Lib.hid hp
    clear hp
    go_enter Try.func6, Try.ntmps6
    go_wp2_with (first
      | (go_at_call 9; refine (small_any _).mono ?_; rintro e w1 ⟨rfl, b1⟩; have B1 := Lib.hid b1; clear b1)
      | (go_at_call 21; refine (open_any _ _).mono ?_; rintro e w2 ⟨rfl, r2, b2, z2⟩; have R2 : Hid (RS w2 _ (some (l))) := r2; have B2 := Lib.hid (next_below B1.out b2); have G2 : Hid (w.heap.size ≤ w1.heap.size) := B1.out.size; clear r2 b2 z2)
      | (go_at_call 23; refine (kind_any _ _ _ _ _ _ _ _ _ HW.out 0 HD.out _).mono ?_; rintro e w3 ⟨rfl, b3⟩; have R3 := Lib.hid (R2.out.below b3); have B3 := Lib.hid (next_below B2.out b3); clear b3)
      | (go_at_call 24; refine (rnum_bad _ (some l) _ R3.out HQ.out HP.out).mono ?_; rintro e w4 ⟨rfl, h4, g4⟩; have B4 := Lib.hid (B3.out.trans (grown_below g4 G2.out B3.out.size)); clear g4)
      | (go_at_call 11; refine (num_any 0 (by omega) _).mono ?_; rintro e w5 ⟨rfl, b5⟩; have R5 := h4.below b5; have B5 := Lib.hid (next_below B4.out b5); clear b5)
      | (go_at_call 36; refine (left_any _ none _ R5).mono ?_; rintro e w' ⟨rfl, rfl⟩)
      | (go_at_call 38; refine (done_none _ _ R5).mono ?_; rintro e w' ⟨rfl, rfl⟩))
    go_ret
    exact ⟨rfl, B5.out⟩
  | some q =>
    obtain ⟨n, r⟩ := q
    have hx := num_sound hp
    have HX := Lib.hid hx.2
    have hE : l = (dec n ++ [59]) ++ r := by rw [hx.1]; simp
    clear hx
    subst hE
    have hlen : (dec n ++ [59]).length + r.length ≤ 400 := by have hl2 := hl; rw [List.length_append] at hl2; exact hl2
    have hpos : 1 ≤ (dec n ++ [59]).length := by simp
    by_cases hr : r = []
    · subst hr
      rw [List.append_nil] at hp HQ HQ2 ⊢
      have HP := Lib.hid hp
      clear hp
      generalize hEE : (dec n ++ [59]) = E at *
      have HE := Lib.hid hEE
      clear hEE
      go_enter Try.func6, Try.ntmps6
      go_wp2_with (first
        | (go_at_call 9; refine (small_any _).mono ?_; rintro e w1 ⟨rfl, b1⟩; have B1 := Lib.hid b1; clear b1)
        | (go_at_call 21; refine (open_any _ _).mono ?_; rintro e w2 ⟨rfl, r2, b2, z2⟩; have R2 : Hid (RS w2 _ (some (E))) := r2; have B2 := Lib.hid (next_below B1.out b2); have G2 : Hid (w.heap.size ≤ w1.heap.size) := B1.out.size; clear r2 b2 z2)
        | (go_at_call 23; refine (kind_any _ _ _ _ _ _ _ _ _ HW.out 0 HD.out _).mono ?_; rintro e w3 ⟨rfl, b3⟩; have R3 := Lib.hid (R2.out.below b3); have B3 := Lib.hid (next_below B2.out b3); clear b3)
        | (go_at_call 24; refine (rnum_ok _ (some (E)) _ R3.out HQ.out n [] HP.out).mono ?_; rintro e w4 ⟨rfl, h4, g4⟩; have B4 := Lib.hid (B3.out.trans (grown_below g4 G2.out B3.out.size)); clear g4)
        | (go_at_call 11; refine (num_any n HX.out _).mono ?_; rintro e w5 ⟨he5, b5⟩; obtain rfl := he5.trans (congrArg (fun x => Ending.returned (str x)) HE.out); have R5 := h4.below b5; have B5 := Lib.hid (next_below B4.out b5); clear b5)
        | (go_at_call 36; refine (left_any _ (some []) _ R5).mono ?_; rintro e w' ⟨rfl, rfl⟩)
        | (go_at_call 38; refine (done_some _ [] _ R5).mono ?_; rintro e w' ⟨rfl, rfl⟩))
      go_ret
      exact ⟨congrArg (fun b => Ending.returned (.bool b)) (by rw [head_bytes]; simp), B5.out⟩
    · have hr1 : 1 ≤ r.length := by
        cases r with
        | nil => exact absurd rfl hr
        | cons c r => simp
      have HR := Lib.hid hr
      have HP := Lib.hid hp
      clear hr hp
      generalize hEE : (dec n ++ [59]) = E at *
      have HE := Lib.hid hEE
      clear hEE
      go_enter Try.func6, Try.ntmps6
      go_wp2_with (first
        | (go_at_call 9; refine (small_any _).mono ?_; rintro e w1 ⟨rfl, b1⟩; have B1 := Lib.hid b1; clear b1)
        | (go_at_call 21; refine (open_any _ _).mono ?_; rintro e w2 ⟨rfl, r2, b2, z2⟩; have R2 : Hid (RS w2 _ (some (E ++ r))) := r2; have B2 := Lib.hid (next_below B1.out b2); have G2 : Hid (w.heap.size ≤ w1.heap.size) := B1.out.size; clear r2 b2 z2)
        | (go_at_call 23; refine (kind_any _ _ _ _ _ _ _ _ _ HW.out 0 HD.out _).mono ?_; rintro e w3 ⟨rfl, b3⟩; have R3 := Lib.hid (R2.out.below b3); have B3 := Lib.hid (next_below B2.out b3); clear b3)
        | (go_at_call 24; refine (rnum_ok _ (some (E ++ r)) _ R3.out HQ.out n r HP.out).mono ?_; rintro e w4 ⟨rfl, h4, g4⟩; have B4 := Lib.hid (B3.out.trans (grown_below g4 G2.out B3.out.size)); clear g4)
        | (go_at_call 11; refine (num_any n HX.out _).mono ?_; rintro e w5 ⟨he5, b5⟩; obtain rfl := he5.trans (congrArg (fun x => Ending.returned (str x)) HE.out); have R5 := h4.below b5; have B5 := Lib.hid (next_below B4.out b5); clear b5)
        | (go_at_call 36; refine (left_any _ (some r) _ R5).mono ?_; rintro e w' ⟨rfl, rfl⟩)
        | (go_at_call 38; refine (done_some _ r _ R5).mono ?_; rintro e w' ⟨rfl, rfl⟩))
      go_ret
      exact ⟨congrArg (fun b => Ending.returned (.bool b)) (by rw [head_bytes]; simp), B5.out⟩

set_option maxRecDepth 100000 in
set_option maxHeartbeats 2000000 in
theorem again_int (l : List UInt8) (hl : l.length ≤ 400) (what : Int) (hw : Fits what) (hd : kd what = 1) (w : World) :
    Calls Try.prog 6 #[str l, .int .i64 what] w fun e w' => e = .returned (.bool true) ∧ Below w.heap.size w w' := by
  have HW := Lib.hid hw
  have HD := Lib.hid hd
  have HQ : Hid (l.length ≤ 4611686018427387904) := Nat.le_trans hl (by omega)
  have HQ2 : Hid (l.length ≤ 1099511627776) := Nat.le_trans hl (by omega)
  clear hw hd
  cases hp : int l with
  | none =>
    have HP := Lib.hid hp
    clear hp
    go_enter Try.func6, Try.ntmps6
    go_wp2_with (first
      | (go_at_call 9; refine (small_any _).mono ?_; rintro e w1 ⟨rfl, b1⟩; have B1 := Lib.hid b1; clear b1)
      | (go_at_call 21; refine (open_any _ _).mono ?_; rintro e w2 ⟨rfl, r2, b2, z2⟩; have R2 : Hid (RS w2 _ (some (l))) := r2; have B2 := Lib.hid (next_below B1.out b2); have G2 : Hid (w.heap.size ≤ w1.heap.size) := B1.out.size; clear r2 b2 z2)
      | (go_at_call 23; refine (kind_any _ _ _ _ _ _ _ _ _ HW.out 1 HD.out _).mono ?_; rintro e w3 ⟨rfl, b3⟩; have R3 := Lib.hid (R2.out.below b3); have B3 := Lib.hid (next_below B2.out b3); clear b3)
      | (go_at_call 26; refine (rint_bad _ (some l) _ R3.out HQ.out HP.out).mono ?_; rintro e w4 ⟨rfl, h4, g4⟩; have B4 := Lib.hid (B3.out.trans (grown_below g4 G2.out B3.out.size)); clear g4)
      | (go_at_call 13; refine (int_any 0 (by omega) (by omega) _).mono ?_; rintro e w5 ⟨rfl, b5⟩; have R5 := h4.below b5; have B5 := Lib.hid (next_below B4.out b5); clear b5)
      | (go_at_call 36; refine (left_any _ none _ R5).mono ?_; rintro e w' ⟨rfl, rfl⟩)
      | (go_at_call 38; refine (done_none _ _ R5).mono ?_; rintro e w' ⟨rfl, rfl⟩))
    go_ret
    exact ⟨rfl, B5.out⟩
  | some q =>
    obtain ⟨n, r⟩ := q
    have hx := int_read hp
    have HX := Lib.hid hx
    have hE : l = (encInt n) ++ r := hx.2.2
    clear hx
    subst hE
    have hlen : (encInt n).length + r.length ≤ 400 := by have hl2 := hl; rw [List.length_append] at hl2; exact hl2
    have hpos : 1 ≤ (encInt n).length := encInt_pos n
    by_cases hr : r = []
    · subst hr
      rw [List.append_nil] at hp HQ HQ2 ⊢
      have HP := Lib.hid hp
      clear hp
      generalize hEE : (encInt n) = E at *
      have HE := Lib.hid hEE
      clear hEE
      go_enter Try.func6, Try.ntmps6
      go_wp2_with (first
        | (go_at_call 9; refine (small_any _).mono ?_; rintro e w1 ⟨rfl, b1⟩; have B1 := Lib.hid b1; clear b1)
        | (go_at_call 21; refine (open_any _ _).mono ?_; rintro e w2 ⟨rfl, r2, b2, z2⟩; have R2 : Hid (RS w2 _ (some (E))) := r2; have B2 := Lib.hid (next_below B1.out b2); have G2 : Hid (w.heap.size ≤ w1.heap.size) := B1.out.size; clear r2 b2 z2)
        | (go_at_call 23; refine (kind_any _ _ _ _ _ _ _ _ _ HW.out 1 HD.out _).mono ?_; rintro e w3 ⟨rfl, b3⟩; have R3 := Lib.hid (R2.out.below b3); have B3 := Lib.hid (next_below B2.out b3); clear b3)
        | (go_at_call 26; refine (rint_ok _ (some (E)) _ R3.out HQ.out n [] HP.out).mono ?_; rintro e w4 ⟨rfl, h4, g4⟩; have B4 := Lib.hid (B3.out.trans (grown_below g4 G2.out B3.out.size)); clear g4)
        | (go_at_call 13; refine (int_any n HX.out.1 HX.out.2.1 _).mono ?_; rintro e w5 ⟨he5, b5⟩; obtain rfl := he5.trans (congrArg (fun x => Ending.returned (str x)) HE.out); have R5 := h4.below b5; have B5 := Lib.hid (next_below B4.out b5); clear b5)
        | (go_at_call 36; refine (left_any _ (some []) _ R5).mono ?_; rintro e w' ⟨rfl, rfl⟩)
        | (go_at_call 38; refine (done_some _ [] _ R5).mono ?_; rintro e w' ⟨rfl, rfl⟩))
      go_ret
      exact ⟨congrArg (fun b => Ending.returned (.bool b)) (by rw [head_bytes]; simp), B5.out⟩
    · have hr1 : 1 ≤ r.length := by
        cases r with
        | nil => exact absurd rfl hr
        | cons c r => simp
      have HR := Lib.hid hr
      have HP := Lib.hid hp
      clear hr hp
      generalize hEE : (encInt n) = E at *
      have HE := Lib.hid hEE
      clear hEE
      go_enter Try.func6, Try.ntmps6
      go_wp2_with (first
        | (go_at_call 9; refine (small_any _).mono ?_; rintro e w1 ⟨rfl, b1⟩; have B1 := Lib.hid b1; clear b1)
        | (go_at_call 21; refine (open_any _ _).mono ?_; rintro e w2 ⟨rfl, r2, b2, z2⟩; have R2 : Hid (RS w2 _ (some (E ++ r))) := r2; have B2 := Lib.hid (next_below B1.out b2); have G2 : Hid (w.heap.size ≤ w1.heap.size) := B1.out.size; clear r2 b2 z2)
        | (go_at_call 23; refine (kind_any _ _ _ _ _ _ _ _ _ HW.out 1 HD.out _).mono ?_; rintro e w3 ⟨rfl, b3⟩; have R3 := Lib.hid (R2.out.below b3); have B3 := Lib.hid (next_below B2.out b3); clear b3)
        | (go_at_call 26; refine (rint_ok _ (some (E ++ r)) _ R3.out HQ.out n r HP.out).mono ?_; rintro e w4 ⟨rfl, h4, g4⟩; have B4 := Lib.hid (B3.out.trans (grown_below g4 G2.out B3.out.size)); clear g4)
        | (go_at_call 13; refine (int_any n HX.out.1 HX.out.2.1 _).mono ?_; rintro e w5 ⟨he5, b5⟩; obtain rfl := he5.trans (congrArg (fun x => Ending.returned (str x)) HE.out); have R5 := h4.below b5; have B5 := Lib.hid (next_below B4.out b5); clear b5)
        | (go_at_call 36; refine (left_any _ (some r) _ R5).mono ?_; rintro e w' ⟨rfl, rfl⟩)
        | (go_at_call 38; refine (done_some _ r _ R5).mono ?_; rintro e w' ⟨rfl, rfl⟩))
      go_ret
      exact ⟨congrArg (fun b => Ending.returned (.bool b)) (by rw [head_bytes]; simp), B5.out⟩

set_option maxRecDepth 100000 in
set_option maxHeartbeats 2000000 in
theorem again_text (l : List UInt8) (hl : l.length ≤ 400) (what : Int) (hw : Fits what) (hd : kd what = 2) (w : World) :
    Calls Try.prog 6 #[str l, .int .i64 what] w fun e w' => e = .returned (.bool true) ∧ Below w.heap.size w w' := by
  have HW := Lib.hid hw
  have HD := Lib.hid hd
  have HQ : Hid (l.length ≤ 4611686018427387904) := Nat.le_trans hl (by omega)
  have HQ2 : Hid (l.length ≤ 1099511627776) := Nat.le_trans hl (by omega)
  clear hw hd
  cases hp : text l with
  | none =>
    have HP := Lib.hid hp
    clear hp
    go_enter Try.func6, Try.ntmps6
    go_wp2_with (first
      | (go_at_call 9; refine (small_any _).mono ?_; rintro e w1 ⟨rfl, b1⟩; have B1 := Lib.hid b1; clear b1)
      | (go_at_call 21; refine (open_any _ _).mono ?_; rintro e w2 ⟨rfl, r2, b2, z2⟩; have R2 : Hid (RS w2 _ (some (l))) := r2; have B2 := Lib.hid (next_below B1.out b2); have G2 : Hid (w.heap.size ≤ w1.heap.size) := B1.out.size; clear r2 b2 z2)
      | (go_at_call 23; refine (kind_any _ _ _ _ _ _ _ _ _ HW.out 2 HD.out _).mono ?_; rintro e w3 ⟨rfl, b3⟩; have R3 := Lib.hid (R2.out.below b3); have B3 := Lib.hid (next_below B2.out b3); clear b3)
      | (go_at_call 28; refine (rtext_bad _ (some l) _ R3.out HQ.out HP.out).mono ?_; rintro e w4 ⟨rfl, h4, g4⟩; have B4 := Lib.hid (B3.out.trans (grown_below g4 G2.out B3.out.size)); clear g4)
      | (go_at_call 15; refine (text_any ⟨#[]⟩ (by show 0 ≤ _; omega) _).mono ?_; rintro e w5 ⟨rfl, b5⟩; have R5 := h4.below b5; have B5 := Lib.hid (next_below B4.out b5); clear b5)
      | (go_at_call 36; refine (left_any _ none _ R5).mono ?_; rintro e w' ⟨rfl, rfl⟩)
      | (go_at_call 38; refine (done_none _ _ R5).mono ?_; rintro e w' ⟨rfl, rfl⟩))
    go_ret
    exact ⟨rfl, B5.out⟩
  | some q =>
    obtain ⟨n, r⟩ := q
    have hx := text_sound hp
    have HX := Lib.hid (show (bs n).size ≤ 281474976710656 by show n.length ≤ _; rw [hx] at hl; simp at hl; omega)
    have hE : l = (dec n.length ++ (58 :: (n ++ [44]))) ++ r := by rw [hx]; simp
    clear hx
    subst hE
    have hlen : (dec n.length ++ (58 :: (n ++ [44]))).length + r.length ≤ 400 := by have hl2 := hl; rw [List.length_append] at hl2; exact hl2
    have hpos : 1 ≤ (dec n.length ++ (58 :: (n ++ [44]))).length := by simp; omega
    by_cases hr : r = []
    · subst hr
      rw [List.append_nil] at hp HQ HQ2 ⊢
      have HP := Lib.hid hp
      clear hp
      generalize hEE : (dec n.length ++ (58 :: (n ++ [44]))) = E at *
      have HE := Lib.hid hEE
      clear hEE
      go_enter Try.func6, Try.ntmps6
      go_wp2_with (first
        | (go_at_call 9; refine (small_any _).mono ?_; rintro e w1 ⟨rfl, b1⟩; have B1 := Lib.hid b1; clear b1)
        | (go_at_call 21; refine (open_any _ _).mono ?_; rintro e w2 ⟨rfl, r2, b2, z2⟩; have R2 : Hid (RS w2 _ (some (E))) := r2; have B2 := Lib.hid (next_below B1.out b2); have G2 : Hid (w.heap.size ≤ w1.heap.size) := B1.out.size; clear r2 b2 z2)
        | (go_at_call 23; refine (kind_any _ _ _ _ _ _ _ _ _ HW.out 2 HD.out _).mono ?_; rintro e w3 ⟨rfl, b3⟩; have R3 := Lib.hid (R2.out.below b3); have B3 := Lib.hid (next_below B2.out b3); clear b3)
        | (go_at_call 28; refine (rtext_ok _ (some (E)) _ R3.out HQ.out n [] HP.out).mono ?_; rintro e w4 ⟨rfl, h4, g4⟩; have B4 := Lib.hid (B3.out.trans (grown_below g4 G2.out B3.out.size)); clear g4)
        | (go_at_call 15; refine (text_any (bs n) HX.out _).mono ?_; rintro e w5 ⟨he5, b5⟩; obtain rfl := he5.trans (congrArg (fun x => Ending.returned (str x)) HE.out); have R5 := h4.below b5; have B5 := Lib.hid (next_below B4.out b5); clear b5)
        | (go_at_call 36; refine (left_any _ (some []) _ R5).mono ?_; rintro e w' ⟨rfl, rfl⟩)
        | (go_at_call 38; refine (done_some _ [] _ R5).mono ?_; rintro e w' ⟨rfl, rfl⟩))
      go_ret
      exact ⟨congrArg (fun b => Ending.returned (.bool b)) (by rw [head_bytes]; simp), B5.out⟩
    · have hr1 : 1 ≤ r.length := by
        cases r with
        | nil => exact absurd rfl hr
        | cons c r => simp
      have HR := Lib.hid hr
      have HP := Lib.hid hp
      clear hr hp
      generalize hEE : (dec n.length ++ (58 :: (n ++ [44]))) = E at *
      have HE := Lib.hid hEE
      clear hEE
      go_enter Try.func6, Try.ntmps6
      go_wp2_with (first
        | (go_at_call 9; refine (small_any _).mono ?_; rintro e w1 ⟨rfl, b1⟩; have B1 := Lib.hid b1; clear b1)
        | (go_at_call 21; refine (open_any _ _).mono ?_; rintro e w2 ⟨rfl, r2, b2, z2⟩; have R2 : Hid (RS w2 _ (some (E ++ r))) := r2; have B2 := Lib.hid (next_below B1.out b2); have G2 : Hid (w.heap.size ≤ w1.heap.size) := B1.out.size; clear r2 b2 z2)
        | (go_at_call 23; refine (kind_any _ _ _ _ _ _ _ _ _ HW.out 2 HD.out _).mono ?_; rintro e w3 ⟨rfl, b3⟩; have R3 := Lib.hid (R2.out.below b3); have B3 := Lib.hid (next_below B2.out b3); clear b3)
        | (go_at_call 28; refine (rtext_ok _ (some (E ++ r)) _ R3.out HQ.out n r HP.out).mono ?_; rintro e w4 ⟨rfl, h4, g4⟩; have B4 := Lib.hid (B3.out.trans (grown_below g4 G2.out B3.out.size)); clear g4)
        | (go_at_call 15; refine (text_any (bs n) HX.out _).mono ?_; rintro e w5 ⟨he5, b5⟩; obtain rfl := he5.trans (congrArg (fun x => Ending.returned (str x)) HE.out); have R5 := h4.below b5; have B5 := Lib.hid (next_below B4.out b5); clear b5)
        | (go_at_call 36; refine (left_any _ (some r) _ R5).mono ?_; rintro e w' ⟨rfl, rfl⟩)
        | (go_at_call 38; refine (done_some _ r _ R5).mono ?_; rintro e w' ⟨rfl, rfl⟩))
      go_ret
      exact ⟨congrArg (fun b => Ending.returned (.bool b)) (by rw [head_bytes]; simp), B5.out⟩

set_option maxRecDepth 100000 in
set_option maxHeartbeats 2000000 in
theorem again_nums (l : List UInt8) (hl : l.length ≤ 400) (what : Int) (hw : Fits what) (hd : kd what = 3) (w : World) :
    Calls Try.prog 6 #[str l, .int .i64 what] w fun e w' => e = .returned (.bool true) ∧ Below w.heap.size w w' := by
  have HW := Lib.hid hw
  have HD := Lib.hid hd
  have HQ : Hid (l.length ≤ 4611686018427387904) := Nat.le_trans hl (by omega)
  have HQ2 : Hid (l.length ≤ 1099511627776) := Nat.le_trans hl (by omega)
  clear hw hd
  cases hp : list int l with
  | none =>
    have HP := Lib.hid hp
    clear hp
    go_enter Try.func6, Try.ntmps6
    go_wp2_with (first
      | (go_at_call 9; refine (small_any _).mono ?_; rintro e w1 ⟨rfl, b1⟩; have B1 := Lib.hid b1; clear b1)
      | (go_at_call 21; refine (open_any _ _).mono ?_; rintro e w2 ⟨rfl, r2, b2, z2⟩; have R2 : Hid (RS w2 _ (some (l))) := r2; have B2 := Lib.hid (next_below B1.out b2); have G2 : Hid (w.heap.size ≤ w1.heap.size) := B1.out.size; clear r2 b2 z2)
      | (go_at_call 23; refine (kind_any _ _ _ _ _ _ _ _ _ HW.out 3 HD.out _).mono ?_; rintro e w3 ⟨rfl, b3⟩; have R3 := Lib.hid (R2.out.below b3); have B3 := Lib.hid (next_below B2.out b3); clear b3)
      | (go_at_call 31; refine (rnums_bad _ l _ R3.out HQ2.out HP.out).mono ?_; rintro e w4 ⟨rfl, h4, g4⟩; have B4 := Lib.hid (B3.out.trans (grown_below g4 G2.out B3.out.size)); clear g4)
      | (go_at_call 17; refine (nums_any none 0 [] _ (row_nil _ _ _) (fun z hz => by cases hz) (by show 0 ≤ _; omega)).mono ?_; rintro e w5 ⟨rfl, b5⟩; have R5 := h4.below b5; have B5 := Lib.hid (next_below B4.out b5); clear b5)
      | (go_at_call 36; refine (left_any _ none _ R5).mono ?_; rintro e w' ⟨rfl, rfl⟩)
      | (go_at_call 38; refine (done_none _ _ R5).mono ?_; rintro e w' ⟨rfl, rfl⟩))
    go_ret
    exact ⟨rfl, B5.out⟩
  | some q =>
    obtain ⟨n, r⟩ := q
    have hx := list_read (enc := encInt) (fun a b c h => (int_read h).2.2) hp
    have HX := Lib.hid (show (∀ z ∈ n, -9223372036854775808 ≤ z ∧ z ≤ 9223372036854775807) ∧ n.length ≤ 1000000 from ⟨list_fit hp, by have h1 := flat_pos encInt encInt_pos n; have h2 := list_fits encInt n; rw [hx, List.length_append] at hl; omega⟩)
    have hE : l = (encList encInt n) ++ r := hx
    clear hx
    subst hE
    have hlen : (encList encInt n).length + r.length ≤ 400 := by have hl2 := hl; rw [List.length_append] at hl2; exact hl2
    have hpos : 1 ≤ (encList encInt n).length := by unfold encList; simp; omega
    by_cases hr : r = []
    · subst hr
      rw [List.append_nil] at hp HQ HQ2 ⊢
      have HP := Lib.hid hp
      clear hp
      generalize hEE : (encList encInt n) = E at *
      have HE := Lib.hid hEE
      clear hEE
      go_enter Try.func6, Try.ntmps6
      go_wp2_with (first
        | (go_at_call 9; refine (small_any _).mono ?_; rintro e w1 ⟨rfl, b1⟩; have B1 := Lib.hid b1; clear b1)
        | (go_at_call 21; refine (open_any _ _).mono ?_; rintro e w2 ⟨rfl, r2, b2, z2⟩; have R2 : Hid (RS w2 _ (some (E))) := r2; have B2 := Lib.hid (next_below B1.out b2); have G2 : Hid (w.heap.size ≤ w1.heap.size) := B1.out.size; clear r2 b2 z2)
        | (go_at_call 23; refine (kind_any _ _ _ _ _ _ _ _ _ HW.out 3 HD.out _).mono ?_; rintro e w3 ⟨rfl, b3⟩; have R3 := Lib.hid (R2.out.below b3); have B3 := Lib.hid (next_below B2.out b3); clear b3)
        | (go_at_call 31; refine (rnums_ok _ (E) _ R3.out HQ2.out n [] HP.out).mono ?_; rintro e w4 ⟨A4, c4, rfl, row4, h4, g4⟩; have B4 := Lib.hid (B3.out.trans (grown_below g4 G2.out B3.out.size)); clear g4)
        | (go_at_call 17; refine (nums_any A4 c4 n _ row4 HX.out.1 HX.out.2).mono ?_; rintro e w5 ⟨he5, b5⟩; obtain rfl := he5.trans (congrArg (fun x => Ending.returned (str x)) HE.out); have R5 := h4.below b5; have B5 := Lib.hid (next_below B4.out b5); clear b5)
        | (go_at_call 36; refine (left_any _ (some []) _ R5).mono ?_; rintro e w' ⟨rfl, rfl⟩)
        | (go_at_call 38; refine (done_some _ [] _ R5).mono ?_; rintro e w' ⟨rfl, rfl⟩))
      go_ret
      exact ⟨congrArg (fun b => Ending.returned (.bool b)) (by rw [head_bytes]; simp), B5.out⟩
    · have hr1 : 1 ≤ r.length := by
        cases r with
        | nil => exact absurd rfl hr
        | cons c r => simp
      have HR := Lib.hid hr
      have HP := Lib.hid hp
      clear hr hp
      generalize hEE : (encList encInt n) = E at *
      have HE := Lib.hid hEE
      clear hEE
      go_enter Try.func6, Try.ntmps6
      go_wp2_with (first
        | (go_at_call 9; refine (small_any _).mono ?_; rintro e w1 ⟨rfl, b1⟩; have B1 := Lib.hid b1; clear b1)
        | (go_at_call 21; refine (open_any _ _).mono ?_; rintro e w2 ⟨rfl, r2, b2, z2⟩; have R2 : Hid (RS w2 _ (some (E ++ r))) := r2; have B2 := Lib.hid (next_below B1.out b2); have G2 : Hid (w.heap.size ≤ w1.heap.size) := B1.out.size; clear r2 b2 z2)
        | (go_at_call 23; refine (kind_any _ _ _ _ _ _ _ _ _ HW.out 3 HD.out _).mono ?_; rintro e w3 ⟨rfl, b3⟩; have R3 := Lib.hid (R2.out.below b3); have B3 := Lib.hid (next_below B2.out b3); clear b3)
        | (go_at_call 31; refine (rnums_ok _ (E ++ r) _ R3.out HQ2.out n r HP.out).mono ?_; rintro e w4 ⟨A4, c4, rfl, row4, h4, g4⟩; have B4 := Lib.hid (B3.out.trans (grown_below g4 G2.out B3.out.size)); clear g4)
        | (go_at_call 17; refine (nums_any A4 c4 n _ row4 HX.out.1 HX.out.2).mono ?_; rintro e w5 ⟨he5, b5⟩; obtain rfl := he5.trans (congrArg (fun x => Ending.returned (str x)) HE.out); have R5 := h4.below b5; have B5 := Lib.hid (next_below B4.out b5); clear b5)
        | (go_at_call 36; refine (left_any _ (some r) _ R5).mono ?_; rintro e w' ⟨rfl, rfl⟩)
        | (go_at_call 38; refine (done_some _ r _ R5).mono ?_; rintro e w' ⟨rfl, rfl⟩))
      go_ret
      exact ⟨congrArg (fun b => Ending.returned (.bool b)) (by rw [head_bytes]; simp), B5.out⟩

set_option maxRecDepth 100000 in
set_option maxHeartbeats 2000000 in
theorem again_texts (l : List UInt8) (hl : l.length ≤ 400) (what : Int) (hw : Fits what) (hd : kd what = 4) (w : World) :
    Calls Try.prog 6 #[str l, .int .i64 what] w fun e w' => e = .returned (.bool true) ∧ Below w.heap.size w w' := by
  have HW := Lib.hid hw
  have HD := Lib.hid hd
  have HQ : Hid (l.length ≤ 4611686018427387904) := Nat.le_trans hl (by omega)
  have HQ2 : Hid (l.length ≤ 1099511627776) := Nat.le_trans hl (by omega)
  clear hw hd
  cases hp : list text l with
  | none =>
    have HP := Lib.hid hp
    clear hp
    go_enter Try.func6, Try.ntmps6
    go_wp2_with (first
      | (go_at_call 9; refine (small_any _).mono ?_; rintro e w1 ⟨rfl, b1⟩; have B1 := Lib.hid b1; clear b1)
      | (go_at_call 21; refine (open_any _ _).mono ?_; rintro e w2 ⟨rfl, r2, b2, z2⟩; have R2 : Hid (RS w2 _ (some (l))) := r2; have B2 := Lib.hid (next_below B1.out b2); have G2 : Hid (w.heap.size ≤ w1.heap.size) := B1.out.size; clear r2 b2 z2)
      | (go_at_call 23; refine (kind_any _ _ _ _ _ _ _ _ _ HW.out 4 HD.out _).mono ?_; rintro e w3 ⟨rfl, b3⟩; have R3 := Lib.hid (R2.out.below b3); have B3 := Lib.hid (next_below B2.out b3); clear b3)
      | (go_at_call 34; refine (rtexts_bad _ l _ R3.out HQ2.out HP.out).mono ?_; rintro e w4 ⟨rfl, h4, g4⟩; have B4 := Lib.hid (B3.out.trans (grown_below g4 G2.out B3.out.size)); clear g4)
      | (go_at_call 19; refine (texts_any none 0 [] _ (row_nil _ _ _) (by show 0 ≤ _; omega) (by show 0 ≤ _; omega)).mono ?_; rintro e w5 ⟨rfl, b5⟩; have R5 := h4.below b5; have B5 := Lib.hid (next_below B4.out b5); clear b5)
      | (go_at_call 36; refine (left_any _ none _ R5).mono ?_; rintro e w' ⟨rfl, rfl⟩)
      | (go_at_call 38; refine (done_none _ _ R5).mono ?_; rintro e w' ⟨rfl, rfl⟩))
    go_ret
    exact ⟨rfl, B5.out⟩
  | some q =>
    obtain ⟨n, r⟩ := q
    have hx0 := list_read (enc := fun t : List UInt8 => dec t.length ++ (58 :: (t ++ [44]))) (fun a b c h => by rw [text_sound h]; simp) hp
    have hx : l = encList encText (n.map bs) ++ r := by rw [bs_list]; exact hx0
    have HX := Lib.hid (show ((n.map bs).flatMap encText).length ≤ 1099511627776 ∧ (n.map bs).length ≤ 1099511627776 from ⟨by have h2 := list_fits encText (n.map bs); rw [hx, List.length_append] at hl; omega, by have h1 := flat_pos encText (fun s => by have := dec_pos s.size; unfold encText; simp; omega) (n.map bs); have h2 := list_fits encText (n.map bs); rw [hx, List.length_append] at hl; omega⟩)
    have hE : l = (encList encText (n.map bs)) ++ r := hx
    clear hx hx0
    subst hE
    have hlen : (encList encText (n.map bs)).length + r.length ≤ 400 := by have hl2 := hl; rw [List.length_append] at hl2; exact hl2
    have hpos : 1 ≤ (encList encText (n.map bs)).length := by unfold encList; simp; omega
    by_cases hr : r = []
    · subst hr
      rw [List.append_nil] at hp HQ HQ2 ⊢
      have HP := Lib.hid hp
      clear hp
      generalize hEE : (encList encText (n.map bs)) = E at *
      generalize hns : n.map bs = ns at *
      have HNS := Lib.hid hns.symm
      clear hns
      have HE := Lib.hid hEE
      clear hEE
      go_enter Try.func6, Try.ntmps6
      go_wp2_with (first
        | (go_at_call 9; refine (small_any _).mono ?_; rintro e w1 ⟨rfl, b1⟩; have B1 := Lib.hid b1; clear b1)
        | (go_at_call 21; refine (open_any _ _).mono ?_; rintro e w2 ⟨rfl, r2, b2, z2⟩; have R2 : Hid (RS w2 _ (some (E))) := r2; have B2 := Lib.hid (next_below B1.out b2); have G2 : Hid (w.heap.size ≤ w1.heap.size) := B1.out.size; clear r2 b2 z2)
        | (go_at_call 23; refine (kind_any _ _ _ _ _ _ _ _ _ HW.out 4 HD.out _).mono ?_; rintro e w3 ⟨rfl, b3⟩; have R3 := Lib.hid (R2.out.below b3); have B3 := Lib.hid (next_below B2.out b3); clear b3)
        | (go_at_call 34; refine (rtexts_ok _ (E) _ R3.out HQ2.out n [] HP.out).mono ?_; rintro e w4 ⟨A4, c4, he, row4, h4, g4⟩; have he' : e = .returned (.slice A4 ns.length c4) := he.trans (by rw [HNS.out, List.length_map]); obtain rfl := he'; have row5 : Hid (Row w4 w4.heap.size A4 (ns.map Value.string)) := (show Row w4 w4.heap.size A4 (ns.map Value.string) from (congrArg (Row w4 w4.heap.size A4) ((congrArg (List.map Value.string) HNS.out).trans (bs_map n))).mpr row4); clear row4 he; have B4 := Lib.hid (B3.out.trans (grown_below g4 G2.out B3.out.size)); clear g4)
        | (go_at_call 19; refine (texts_any A4 c4 ns _ row5.out HX.out.1 HX.out.2).mono ?_; rintro e w5 ⟨he5, b5⟩; obtain rfl := he5.trans (congrArg (fun x => Ending.returned (str x)) HE.out); have R5 := h4.below b5; have B5 := Lib.hid (next_below B4.out b5); clear b5)
        | (go_at_call 36; refine (left_any _ (some []) _ R5).mono ?_; rintro e w' ⟨rfl, rfl⟩)
        | (go_at_call 38; refine (done_some _ [] _ R5).mono ?_; rintro e w' ⟨rfl, rfl⟩))
      go_ret
      exact ⟨congrArg (fun b => Ending.returned (.bool b)) (by rw [head_bytes]; simp), B5.out⟩
    · have hr1 : 1 ≤ r.length := by
        cases r with
        | nil => exact absurd rfl hr
        | cons c r => simp
      have HR := Lib.hid hr
      have HP := Lib.hid hp
      clear hr hp
      generalize hEE : (encList encText (n.map bs)) = E at *
      generalize hns : n.map bs = ns at *
      have HNS := Lib.hid hns.symm
      clear hns
      have HE := Lib.hid hEE
      clear hEE
      go_enter Try.func6, Try.ntmps6
      go_wp2_with (first
        | (go_at_call 9; refine (small_any _).mono ?_; rintro e w1 ⟨rfl, b1⟩; have B1 := Lib.hid b1; clear b1)
        | (go_at_call 21; refine (open_any _ _).mono ?_; rintro e w2 ⟨rfl, r2, b2, z2⟩; have R2 : Hid (RS w2 _ (some (E ++ r))) := r2; have B2 := Lib.hid (next_below B1.out b2); have G2 : Hid (w.heap.size ≤ w1.heap.size) := B1.out.size; clear r2 b2 z2)
        | (go_at_call 23; refine (kind_any _ _ _ _ _ _ _ _ _ HW.out 4 HD.out _).mono ?_; rintro e w3 ⟨rfl, b3⟩; have R3 := Lib.hid (R2.out.below b3); have B3 := Lib.hid (next_below B2.out b3); clear b3)
        | (go_at_call 34; refine (rtexts_ok _ (E ++ r) _ R3.out HQ2.out n r HP.out).mono ?_; rintro e w4 ⟨A4, c4, he, row4, h4, g4⟩; have he' : e = .returned (.slice A4 ns.length c4) := he.trans (by rw [HNS.out, List.length_map]); obtain rfl := he'; have row5 : Hid (Row w4 w4.heap.size A4 (ns.map Value.string)) := (show Row w4 w4.heap.size A4 (ns.map Value.string) from (congrArg (Row w4 w4.heap.size A4) ((congrArg (List.map Value.string) HNS.out).trans (bs_map n))).mpr row4); clear row4 he; have B4 := Lib.hid (B3.out.trans (grown_below g4 G2.out B3.out.size)); clear g4)
        | (go_at_call 19; refine (texts_any A4 c4 ns _ row5.out HX.out.1 HX.out.2).mono ?_; rintro e w5 ⟨he5, b5⟩; obtain rfl := he5.trans (congrArg (fun x => Ending.returned (str x)) HE.out); have R5 := h4.below b5; have B5 := Lib.hid (next_below B4.out b5); clear b5)
        | (go_at_call 36; refine (left_any _ (some r) _ R5).mono ?_; rintro e w' ⟨rfl, rfl⟩)
        | (go_at_call 38; refine (done_some _ r _ R5).mono ?_; rintro e w' ⟨rfl, rfl⟩))
      go_ret
      exact ⟨congrArg (fun b => Ending.returned (.bool b)) (by rw [head_bytes]; simp), B5.out⟩
end Wire
end Go.Proofs.Ytionidjhfcmgiaa

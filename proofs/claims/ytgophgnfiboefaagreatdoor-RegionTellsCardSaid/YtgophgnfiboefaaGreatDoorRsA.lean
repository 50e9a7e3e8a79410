/- small. -/
import Derived.Test.YtgophgnfiboefaaGreatDoorRpK
import Derived.Test.YtgophgnfiboefaaGreatDoorMhK
namespace Go.Proofs.YtgophgnfiboefaaGreatDoor
open Go.RowKit Wire
open Txt (Row)
open Go.Proofs.YtgophgnfiboefaaGreatDoor.Own Flo
open Dsk (Only nth)
set_option linter.unusedVariables false
set_option linter.unusedSimpArgs false
namespace Rgn
def exG : Fl := ⟨3, 1, 1, [1, 1, 1], [63, 1, 63]⟩
theorem exG_ok : exG.ok := ⟨by decide, by decide, by decide, by decide, by decide, by decide, by decide, by decide, by decide⟩
theorem exG_step (x y : Nat) : stE exG.next x y ↔ (x = 0 ∧ y = 1) ∨ (x = 1 ∧ y = 2) ∨ (x = 2 ∧ y = 1) := by
  constructor
  · rintro ⟨d, hd, e⟩
    have hx := Fl.is_bounds (Fl.next_is e).1
    have hy := Fl.is_bounds (Fl.next_is e).2.2.1
    have hx3 : x < 3 := by have : exG.W * exG.H * exG.D = 3 := by decide
                           omega
    have hy3 : y < 3 := by have : exG.W * exG.H * exG.D = 3 := by decide
                           omega
    have all : ∀ x y : Fin 3, ∀ d : Fin 6, exG.next ((x.1 : Nat) : Int) ((d.1 : Nat) : Int) = some ((y.1 : Nat) : Int) → (x.1 = 0 ∧ y.1 = 1) ∨ (x.1 = 1 ∧ y.1 = 2) ∨ (x.1 = 2 ∧ y.1 = 1) := by decide +kernel
    exact all ⟨x, hx3⟩ ⟨y, hy3⟩ ⟨d, hd⟩ e
  · rintro (⟨rfl, rfl⟩ | ⟨rfl, rfl⟩ | ⟨rfl, rfl⟩)
    · exact ⟨0, by omega, by decide +kernel⟩
    · exact ⟨0, by omega, by decide +kernel⟩
    · exact ⟨2, by omega, by decide +kernel⟩
theorem exG_away {P : Nat → Prop} {x y : Nat} (h : Rch (stE exG.next) P x y) (hx : x ≠ 0) : y ≠ 0 := by
  induction h with
  | refl => exact hx
  | step k e p ih =>
    rcases (exG_step _ _).1 e with ⟨_, rfl⟩ | ⟨_, rfl⟩ | ⟨_, rfl⟩ <;> omega
theorem exG_opn3 (x : Nat) : opn (usL exG [0, 1, 2]) x ↔ x < 3 := by
  constructor
  · intro h
    have := opn_lt h
    rw [usL_len] at this
    exact this
  · intro h
    have all : ∀ x : Nat, x < 3 → (usL exG [0, 1, 2]).getD x false = true := by decide +kernel
    exact all x h
theorem exG_opn2 (x : Nat) : opn (usL exG [0, 1]) x ↔ x < 2 := by
  have all : ∀ x : Nat, x < 3 → ((usL exG [0, 1]).getD x false = true ↔ x < 2) := by decide +kernel
  constructor
  · intro h
    have := opn_lt h
    rw [usL_len] at this
    exact (all x this).1 h
  · intro h
    exact (all x (by omega)).2 h
theorem exG_parts : partsOf exG [0, 1, 2] = [[0], [1, 2]] := by
  refine (partsOf_eq ⟨by simp, by simp, fun p hp x hx y => ?_, fun x hx => ?_, by simp⟩).symm
  · simp only [List.mem_cons, List.not_mem_nil, or_false] at hp
    rcases hp with rfl | rfl
    · obtain rfl : x = 0 := by simpa using hx
      rw [exG_opn3]
      constructor
      · intro h
        obtain rfl : y = 0 := by simpa using h
        exact ⟨by omega, .refl, .refl⟩
      · rintro ⟨_, _, h⟩
        by_cases e : y = 0
        · simp [e]
        · exact absurd rfl (exG_away h e)
    · have hx2 : x = 1 ∨ x = 2 := by simpa using hx
      rw [exG_opn3]
      have s12 : ∀ a b : Nat, (a = 1 ∨ a = 2) → (b = 1 ∨ b = 2) → Rch (stE exG.next) (opn (usL exG [0, 1, 2])) a b := by
        intro a b ha hb
        by_cases e : a = b
        · rw [e]; exact .refl
        · refine Rch.step .refl ((exG_step a b).2 ?_) ((exG_opn3 b).2 (by omega))
          omega
      constructor
      · intro h
        have hy2 : y = 1 ∨ y = 2 := by simpa using h
        exact ⟨by omega, s12 x y hx2 hy2, s12 y x hy2 hx2⟩
      · rintro ⟨h1, h2, _⟩
        have := exG_away h2 (by omega)
        have : y = 1 ∨ y = 2 := by omega
        simpa using this
  · have := (exG_opn3 x).1 hx
    obtain rfl | rfl | rfl : x = 0 ∨ x = 1 ∨ x = 2 := by omega
    · exact ⟨[0], by simp, by simp⟩
    · exact ⟨[1, 2], by simp, by simp⟩
    · exact ⟨[1, 2], by simp, by simp⟩
theorem exG_parts2 : partsOf exG [0, 1] = [[0], [1]] := by
  refine (partsOf_eq ⟨by simp, by simp, fun p hp x hx y => ?_, fun x hx => ?_, by simp⟩).symm
  · have stay : ∀ a b : Nat, Rch (stE exG.next) (opn (usL exG [0, 1])) a b → a ≠ 0 → a < 2 → b = a := by
      intro a b h h0 h2
      induction h with
      | refl => rfl
      | step k e p ih =>
        rcases (exG_step _ _).1 e with ⟨h3, h4⟩ | ⟨h3, h4⟩ | ⟨h3, h4⟩
        · omega
        · have := (exG_opn2 _).1 p
          omega
        · omega
    simp only [List.mem_cons, List.not_mem_nil, or_false] at hp
    rcases hp with rfl | rfl
    · obtain rfl : x = 0 := by simpa using hx
      rw [exG_opn2]
      constructor
      · intro h
        obtain rfl : y = 0 := by simpa using h
        exact ⟨by omega, .refl, .refl⟩
      · rintro ⟨_, _, h⟩
        by_cases e : y = 0
        · simp [e]
        · exact absurd rfl (exG_away h e)
    · obtain rfl : x = 1 := by simpa using hx
      rw [exG_opn2]
      constructor
      · intro h
        obtain rfl : y = 1 := by simpa using h
        exact ⟨by omega, .refl, .refl⟩
      · rintro ⟨h1, h2, _⟩
        have := stay 1 y h2 (by omega) (by omega)
        simp [this]
  · have := (exG_opn2 x).1 hx
    obtain rfl | rfl : x = 0 ∨ x = 1 := by omega
    · exact ⟨[0], by simp, by simp⟩
    · exact ⟨[1], by simp, by simp⟩
theorem exG_linked : lnkB exG [0, 1] = false := by
  unfold lnkB
  rw [exG_parts2]
  simp
theorem exG_edge : ([0, 1] : List Nat).filter (outB exG [0, 1]) = [1] := by decide +kernel
theorem exG_off : offR exG [0, 1, 2] = [] := by
  have : ([] : List Nat) = regOf (difB (List.range exG.Kind.length) [0, 1, 2]) 4096 := Reg.eq ⟨List.Pairwise.nil, by simp⟩ _ fun x _ => by
    unfold difB
    rw [show exG.Kind.length = 3 from rfl]
    have : ∀ x : Nat, (decide (x ∈ List.range 3) && !decide (x ∈ [0, 1, 2])) = false := fun x => by
      by_cases h : x < 3
      · obtain rfl | rfl | rfl : x = 0 ∨ x = 1 ∨ x = 2 := by omega
        all_goals rfl
      · simp [h]
    rw [this]
    simp
  exact this.symm
theorem exG_inside {out : List Int} (h : InsideIs exG [0, 1, 2] [2] out) : out = [-1, 1, 0] := by
  obtain ⟨dist, hd, rfl⟩ := h
  rw [exG_off] at hd
  have := hd.unique (isDist_local exG_ok (show localB exG [2] [] [-1, 1, 0] = true from by decide +kernel))
  rw [this]
  rfl
theorem two_of {a b : List Nat} : ∀ {qs : PartL}, qs.map (·.2) = [a, b] → ∃ q1 q2, qs = [q1, q2]
  | [], h => by simp at h
  | [_], h => by simp at h
  | [q1, q2], _ => ⟨q1, q2, rfl⟩
  | _ :: _ :: _ :: _, h => by simp at h
abbrev gxV (A1 : Option Addr) (c1 : Nat) (A2 : Option Addr) (c2 : Nat) : Value := .agg #[.int .i64 3, .int .i64 1, .int .i64 1, .slice A1 3 c1, .slice A2 3 c2]
theorem blk_row {w : World} {g : Nat} {ty : TypeId} {l : List Int} (h : Blk w g ty (ivs l).toArray) : Row w w.heap.size (some ⟨g, 0, none⟩) (ivs l) := fun k u hu => ⟨g, 0, rfl, h.inside, by rw [Nat.zero_add, h.at]; simpa using hu⟩
theorem blk_rowN {w : World} {g : Nat} {ty : TypeId} {l : List Nat} (h : Blk w g ty (qvs l).toArray) : Row w w.heap.size (some ⟨g, 0, none⟩) (qvs l) := fun k u hu => ⟨g, 0, rfl, h.inside, by rw [Nat.zero_add, h.at]; simpa using hu⟩
theorem same_new {w' : World} {A : Option Addr} {c : Nat} (l : List Int) (hl : l.length ≤ 1000) (hr : Row w' w'.heap.size A (ivs l)) (g : TypeId) :
    Calls Tryz.prog 7 #[.slice A l.length c, .slice (some ⟨w'.heap.size, 0, none⟩) l.length l.length] (w'.alloc (.cells (ivs l).toArray g)) fun e w2 => e = .returned (.bool true) ∧ Below w'.heap.size w' w2 :=
  (qSame_any _ A (some ⟨w'.heap.size, 0, none⟩) c l.length l l (by omega) (by omega) (hr.lift ((Below.refl _ w').alloc (Nat.le_refl _) _)) (blk_row (Blk.fresh w' g _))).mono fun e w2 ⟨he, hb⟩ => ⟨by rw [he, decide_eq_true rfl], next_below ((Below.refl _ w').alloc (Nat.le_refl _) _) hb⟩
set_option maxRecDepth 100000 in
set_option maxHeartbeats 8000000 in
theorem regSmall_any (w : World) (hv : VS w) (hvo : VO w) : Calls Tryz.prog 4 #[] w fun e w' => e = .returned (.bool true) ∧ Below w.heap.size w w' := by
  have HV : Hid (∀ w', Below w.heap.size w w' → VS w' ∧ VO w') := Lib.hid fun w' b => ⟨hv.lift b, hvo.lift b⟩
  have HPA : Hid (∀ w' g A1 c1 A2 c2, VS w' → VO w' → FlIn w' exG ⟨A1, c1, A2, c2⟩ → Calls Tryz.prog 23 #[gxV A1 c1 A2 c2, .slice (some ⟨w'.heap.size, 0, none⟩) 3 3] (w'.alloc (.cells #[.int .i64 0, .int .i64 1, .int .i64 2] g)) fun e w2 => ∃ b o c B1 d1 B2 d2, e = .returned (.slice (some ⟨b, o, none⟩) 2 c) ∧ (∀ w3, Below w2.heap.size w2 w3 → w3.cell? ⟨b, o, none⟩ = some (.slice B1 1 d1) ∧ w3.cell? ⟨b, o + 1, none⟩ = some (.slice B2 2 d2)) ∧ Row w2 w2.heap.size B1 (ivs [0]) ∧ Row w2 w2.heap.size B2 (ivs [1, 2]) ∧ Below w'.heap.size w' w2) := Lib.hid fun w' g A1 c1 A2 c2 h1 h2 h3 => by
    have ba := (Below.refl w'.heap.size w').alloc (Nat.le_refl _) (.cells #[.int .i64 0, .int .i64 1, .int .i64 2] g)
    refine (partsOf_any exG_ok ⟨A1, c1, A2, c2⟩ (some ⟨w'.heap.size, 0, none⟩) 3 [0, 1, 2] _ (h1.lift ba) (h2.lift ba) (h3.lift ba) (blk_rowN (Blk.fresh w' g _)) (by decide)).mono ?_
    rintro e w2 ⟨A, c, qs, rfl, h4, _, h5, h6, h7⟩
    rw [exG_parts] at h4
    obtain ⟨q1, q2, rfl⟩ := two_of h4
    · simp only [List.map_cons, List.map_nil, List.cons.injEq, and_true] at h4
      obtain ⟨B1, d1, e1, r1⟩ := h6 q1 (by simp)
      obtain ⟨B2, d2, e2, r2⟩ := h6 q2 (by simp)
      rw [h4.1] at e1 r1
      rw [h4.2] at e2 r2
      obtain ⟨b, o, rfl, hb, hc⟩ := h5 0 q1.1 rfl
      obtain ⟨b', o', e', hb', hc'⟩ := h5 1 q2.1 rfl
      injection e' with e'
      injection e' with e3 e4
      subst e3 e4
      refine ⟨b, o, c, B1, d1, B2, d2, rfl, fun w3 b3 => ⟨?_, ?_⟩, r1, r2, next_below ba h7⟩
      · rw [b3.cell (p := ⟨b, o, none⟩) hb]
        rw [e1] at hc
        exact hc
      · rw [b3.cell (p := ⟨b, o + 1, none⟩) hb]
        rw [e2] at hc'
        exact hc'
  have HLI : Hid (∀ w' g A1 c1 A2 c2, VS w' → VO w' → FlIn w' exG ⟨A1, c1, A2, c2⟩ → Calls Tryz.prog 25 #[gxV A1 c1 A2 c2, .slice (some ⟨w'.heap.size, 0, none⟩) 2 2] (w'.alloc (.cells #[.int .i64 0, .int .i64 1] g)) fun e w2 => e = .returned (.bool false) ∧ Below w'.heap.size w' w2) := Lib.hid fun w' g A1 c1 A2 c2 h1 h2 h3 => by
    have ba := (Below.refl w'.heap.size w').alloc (Nat.le_refl _) (.cells #[.int .i64 0, .int .i64 1] g)
    refine (linked_any exG_ok ⟨A1, c1, A2, c2⟩ (some ⟨w'.heap.size, 0, none⟩) 2 [0, 1] _ (h1.lift ba) (h2.lift ba) (h3.lift ba) (blk_rowN (Blk.fresh w' g _)) (by decide)).mono ?_
    rintro e w2 ⟨rfl, h7⟩
    exact ⟨by rw [exG_linked], next_below ba h7⟩
  have HED : Hid (∀ w' g A1 c1 A2 c2, VS w' → VO w' → FlIn w' exG ⟨A1, c1, A2, c2⟩ → Calls Tryz.prog 27 #[gxV A1 c1 A2 c2, .slice (some ⟨w'.heap.size, 0, none⟩) 2 2] (w'.alloc (.cells #[.int .i64 0, .int .i64 1] g)) fun e w2 => ∃ A c, e = .returned (.slice A 1 c) ∧ Row w2 w2.heap.size A (ivs [1]) ∧ Below w'.heap.size w' w2) := Lib.hid fun w' g A1 c1 A2 c2 h1 h2 h3 => by
    have ba := (Below.refl w'.heap.size w').alloc (Nat.le_refl _) (.cells #[.int .i64 0, .int .i64 1] g)
    refine (edge_any exG_ok ⟨A1, c1, A2, c2⟩ (some ⟨w'.heap.size, 0, none⟩) 2 [0, 1] _ (h1.lift ba) (h3.lift ba) ⟨by decide, by decide⟩ (blk_rowN (Blk.fresh w' g _))).mono ?_
    rintro e w2 ⟨v, rfl, h7⟩
    rw [exG_edge] at h7
    have hg := h7.grow 0 rfl
    obtain ⟨A, c, rfl⟩ := hg.slice
    exact ⟨A, c, rfl, row_of_any hg, next_below ba h7.below⟩
  have HIN : Hid (∀ w' g A1 c1 A2 c2, VS w' → VO w' → FlIn w' exG ⟨A1, c1, A2, c2⟩ → Calls Tryz.prog 29 #[gxV A1 c1 A2 c2, .slice (some ⟨w'.heap.size, 0, none⟩) 3 3, .slice (some ⟨w'.heap.size + 1, 0, none⟩) 1 1] ((w'.alloc (.cells #[.int .i64 0, .int .i64 1, .int .i64 2] g)).alloc (.cells #[.int .i64 2] g)) fun e w2 => ∃ A c, e = .returned (.slice A 3 c) ∧ Row w2 w2.heap.size A (ivs [-1, 1, 0]) ∧ Below w'.heap.size w' w2) := Lib.hid fun w' g A1 c1 A2 c2 h1 h2 h3 => by
    have ba := ((Below.refl w'.heap.size w').alloc (Nat.le_refl _) (.cells #[.int .i64 0, .int .i64 1, .int .i64 2] g)).alloc (by simp) (.cells #[.int .i64 2] g)
    have hb1 : Row ((w'.alloc (.cells #[.int .i64 0, .int .i64 1, .int .i64 2] g)).alloc (.cells #[.int .i64 2] g)) ((w'.alloc (.cells #[.int .i64 0, .int .i64 1, .int .i64 2] g)).alloc (.cells #[.int .i64 2] g)).heap.size (some ⟨w'.heap.size, 0, none⟩) (qvs [0, 1, 2]) := (blk_rowN (Blk.fresh w' g _)).lift ((Below.refl _ _).alloc (Nat.le_refl _) _)
    have hb2 : Row ((w'.alloc (.cells #[.int .i64 0, .int .i64 1, .int .i64 2] g)).alloc (.cells #[.int .i64 2] g)) ((w'.alloc (.cells #[.int .i64 0, .int .i64 1, .int .i64 2] g)).alloc (.cells #[.int .i64 2] g)).heap.size (some ⟨w'.heap.size + 1, 0, none⟩) (ivs [2]) := by
      have := blk_row (l := [2]) (Blk.fresh (w'.alloc (.cells #[.int .i64 0, .int .i64 1, .int .i64 2] g)) g _)
      have e : (w'.alloc (.cells #[.int .i64 0, .int .i64 1, .int .i64 2] g)).heap.size = w'.heap.size + 1 := by simp
      rw [e] at this
      exact this
    refine (inside_any exG_ok ⟨A1, c1, A2, c2⟩ (some ⟨w'.heap.size, 0, none⟩) (some ⟨w'.heap.size + 1, 0, none⟩) 3 1 [0, 1, 2] [2] _ (h1.lift ba) (h3.lift ba) ⟨by decide, by decide⟩ hb1 hb2 (by decide)).mono ?_
    rintro e w2 ⟨A, c, out, rfl, h4, h5, h6⟩
    obtain rfl := exG_inside h4
    exact ⟨A, c, rfl, h5, next_below ba h6⟩
  have HS1 : Hid (∀ w' A c g, Row w' w'.heap.size A (ivs [0]) → Calls Tryz.prog 7 #[.slice A 1 c, .slice (some ⟨w'.heap.size, 0, none⟩) 1 1] (w'.alloc (.cells #[.int .i64 0] g)) fun e w2 => e = .returned (.bool true) ∧ Below w'.heap.size w' w2) := Lib.hid fun w' A c g hr => same_new [0] (by decide) hr g
  have HS2 : Hid (∀ w' A c g, Row w' w'.heap.size A (ivs [1, 2]) → Calls Tryz.prog 7 #[.slice A 2 c, .slice (some ⟨w'.heap.size, 0, none⟩) 2 2] (w'.alloc (.cells #[.int .i64 1, .int .i64 2] g)) fun e w2 => e = .returned (.bool true) ∧ Below w'.heap.size w' w2) := Lib.hid fun w' A c g hr => same_new [1, 2] (by decide) hr g
  have HS3 : Hid (∀ w' A c g, Row w' w'.heap.size A (ivs [1]) → Calls Tryz.prog 7 #[.slice A 1 c, .slice (some ⟨w'.heap.size, 0, none⟩) 1 1] (w'.alloc (.cells #[.int .i64 1] g)) fun e w2 => e = .returned (.bool true) ∧ Below w'.heap.size w' w2) := Lib.hid fun w' A c g hr => same_new [1] (by decide) hr g
  have HS4 : Hid (∀ w' A c g, Row w' w'.heap.size A (ivs [-1, 1, 0]) → Calls Tryz.prog 7 #[.slice A 3 c, .slice (some ⟨w'.heap.size, 0, none⟩) 3 3] (w'.alloc (.cells #[.int .i64 (-1), .int .i64 1, .int .i64 0] g)) fun e w2 => e = .returned (.bool true) ∧ Below w'.heap.size w' w2) := Lib.hid fun w' A c g hr => same_new [-1, 1, 0] (by decide) hr g
  clear hv hvo
  go_enter Tryz.func4, Tryz.ntmps4
  go_upto_region 2 with (fail)
  have h1 := ((Sp.nil (Below.refl w.heap.size w)).local 3 #[.int .i64 1, .int .i64 1, .int .i64 1]).local 3 #[.int .i64 63, .int .i64 1, .int .i64 63] |>.local 24 #[.int .i64 3, .int .i64 1, .int .i64 1, .slice (some ⟨w.heap.size, 0, none⟩) 3 3, .slice (some ⟨w.heap.size + 1, 0, none⟩) 3 3]
  simp only [World.size_alloc, Nat.add_assoc, Nat.reduceAdd, List.nil_append, List.cons_append] at h1
  have hin2 : FlIn _ exG ⟨some ⟨w.heap.size, 0, none⟩, 3, some ⟨w.heap.size + 1, 0, none⟩, 3⟩ := ⟨blk_row (l := [1, 1, 1]) (h1.blk 0 rfl), blk_row (l := [63, 1, 63]) (h1.blk 1 rfl)⟩
  have hk2 := h1.blk 2 rfl
  have b2 := h1.below
  clear h1
  simp only [Nat.add_assoc, Nat.reduceAdd]
  generalize ((w.alloc (.cells #[.int .i64 1, .int .i64 1, .int .i64 1] 3)).alloc (.cells #[.int .i64 63, .int .i64 1, .int .i64 63] 3)).alloc (.cells #[.int .i64 3, .int .i64 1, .int .i64 1, .slice (some ⟨w.heap.size, 0, none⟩) 3 3, .slice (some ⟨w.heap.size + 1, 0, none⟩) 3 3] 24) = w2 at *
  generalize w.heap.size + 2 = g at *
  generalize w.heap.size + 1 = gb at *
  generalize (some ⟨gb, 0, none⟩ : Option Addr) = A2 at *
  generalize (some ⟨w.heap.size, 0, none⟩ : Option Addr) = A1 at *
  have HW : Hid (∀ w', Below w2.heap.size w2 w' → VS w' ∧ VO w' ∧ FlIn w' exG ⟨A1, 3, A2, 3⟩ ∧ BoxS g 3 1 1 A1 3 3 A2 3 3 w' ∧ Below w.heap.size w w') := Lib.hid fun w' b => ⟨(HV.out _ (next_below b2 b)).1, (HV.out _ (next_below b2 b)).2, hin2.lift b, boxS (hk2.under b hk2.inside), next_below b2 b⟩
  obtain ⟨m0, m1, m2, m3, m4⟩ := (HW.out _ (Below.refl _ _)).2.2.2.1
  have B2 : Hid (Below w2.heap.size w2 w2) := Lib.hid (Below.refl _ _)
  clear b2 hin2 hk2 HV
  go_upto_region 3 with (go_at_call 23; (with_reducible refine (HPA.out _ 3 A1 3 A2 3 (HW.out _ B2.out).1 (HW.out _ B2.out).2.1 (HW.out _ B2.out).2.2.1).mono ?_); rintro e w3 ⟨pb, po, pc, B1, d1, B2', d2, rfl, hpc, hr1, hr2, b3⟩; have B3 := Lib.hid (next_below B2.out b3); have HPC := Lib.hid hpc; have HR1 := Lib.hid hr1; have HR2 := Lib.hid hr2; clear b3 hpc hr1 hr2 m0 m1 m2 m3 m4; obtain ⟨m0, m1, m2, m3, m4⟩ := (HW.out _ B3.out).2.2.2.1)
  go_wp2_with (first
    | (go_at_call 25; (with_reducible refine (HLI.out _ 3 A1 3 A2 3 (HW.out _ B3.out).1 (HW.out _ B3.out).2.1 (HW.out _ B3.out).2.2.1).mono ?_); rintro e w4 ⟨rfl, b4⟩; have B4 := Lib.hid (next_below B3.out b4); have BX4 := Lib.hid b4; obtain ⟨p0, p1⟩ := HPC.out _ b4; clear b4 m0 m1 m2 m3 m4; obtain ⟨m0, m1, m2, m3, m4⟩ := (HW.out _ B4.out).2.2.2.1)
    | (go_at_call 7; (with_reducible refine (HS1.out w4 B1 d1 3 (HR1.out.lift BX4.out)).mono ?_); rintro e w5 ⟨rfl, b5⟩; have B5 := Lib.hid (next_below B4.out b5); have BX5 := Lib.hid (next_below BX4.out b5); obtain ⟨q0, q1⟩ := HPC.out _ BX5.out; clear b5 m0 m1 m2 m3 m4; obtain ⟨m0, m1, m2, m3, m4⟩ := (HW.out _ B5.out).2.2.2.1)
    | (go_at_call 7; (with_reducible refine (HS2.out w5 B2' d2 3 (HR2.out.lift BX5.out)).mono ?_); rintro e w6 ⟨rfl, b6⟩; have B6 := Lib.hid (next_below B5.out b6); clear b6 m0 m1 m2 m3 m4; obtain ⟨m0, m1, m2, m3, m4⟩ := (HW.out _ B6.out).2.2.2.1)
    | (go_at_call 27; (with_reducible refine (HED.out _ 3 A1 3 A2 3 (HW.out _ B6.out).1 (HW.out _ B6.out).2.1 (HW.out _ B6.out).2.2.1).mono ?_); rintro e w7 ⟨Ae, ce, rfl, hre, b7⟩; have B7 := Lib.hid (next_below B6.out b7); have HRE := Lib.hid hre; clear b7 hre)
    | (go_at_call 7; (with_reducible refine (HS3.out w7 Ae ce 3 HRE.out).mono ?_); rintro e w8 ⟨rfl, b8⟩; have B8 := Lib.hid (next_below B7.out b8); clear b8 m0 m1 m2 m3 m4; obtain ⟨m0, m1, m2, m3, m4⟩ := (HW.out _ B8.out).2.2.2.1)
    | (go_at_call 29; (with_reducible refine (HIN.out _ 3 A1 3 A2 3 (HW.out _ B8.out).1 (HW.out _ B8.out).2.1 (HW.out _ B8.out).2.2.1).mono ?_); rintro e w9 ⟨Ai, ci, rfl, hri, b9⟩; have B9 := Lib.hid (next_below B8.out b9); have HRI := Lib.hid hri; clear b9 hri)
    | (go_at_call 7; (with_reducible refine (HS4.out w9 Ai ci 3 HRI.out).mono ?_); rintro e w10 ⟨rfl, b10⟩; have B10 := Lib.hid (next_below B9.out b10); clear b10))
  go_ret
  exact ⟨rfl, (HW.out _ B10.out).2.2.2.2⟩
end Rgn
end Go.Proofs.YtgophgnfiboefaaGreatDoor

import Derived.Test.YtpmmbbaigfjhnaaIntw
import Derived.Test.YtpmmbbaigfjhnaaQuot
import Derived.Test.YtpmmbbaigfjhnaaFlds
import Derived.Test.YtpmmbbaigfjhnaaPatn
namespace Go.Proofs.Ytpmmbbaigfjhnaa
open Go.RowKit Wire
set_option linter.unusedVariables false
set_option linter.unusedSimpArgs false
namespace Txt

/-- The least int. -/
def least : Int := -9223372036854775808

theorem small_i1 (w : World) : Calls Try.prog 9 #[.string ⟨#[45, 48]⟩] w fun e w' => e = .returned (.tuple #[.int .i64 0, .bool false]) ∧ Below w.heap.size w w' := by
  have h := int_any ⟨#[45, 48]⟩ (by show 2 ≤ _; omega) w
  have e : intR (bl ⟨#[45, 48]⟩) = .tuple #[.int .i64 0, .bool false] := by kernel_rfl
  rw [e] at h
  exact h
theorem small_i2 (w : World) : Calls Try.prog 9 #[.string ⟨#[48, 48, 55]⟩] w fun e w' => e = .returned (.tuple #[.int .i64 0, .bool false]) ∧ Below w.heap.size w w' := by
  have h := int_any ⟨#[48, 48, 55]⟩ (by show 3 ≤ _; omega) w
  have e : intR (bl ⟨#[48, 48, 55]⟩) = .tuple #[.int .i64 0, .bool false] := by kernel_rfl
  rw [e] at h
  exact h
theorem small_i3 (w : World) : Calls Try.prog 9 #[.string ⟨#[45, 57, 50, 50, 51, 51, 55, 50, 48, 51, 54, 56, 53, 52, 55, 55, 53, 56, 48, 56]⟩] w fun e w' => e = .returned (.tuple #[.int .i64 (-9223372036854775808), .bool true]) ∧ Below w.heap.size w w' := by
  have h := int_any ⟨#[45, 57, 50, 50, 51, 51, 55, 50, 48, 51, 54, 56, 53, 52, 55, 55, 53, 56, 48, 56]⟩ (by show 20 ≤ _; omega) w
  have e : intR (bl ⟨#[45, 57, 50, 50, 51, 51, 55, 50, 48, 51, 54, 56, 53, 52, 55, 55, 53, 56, 48, 56]⟩) = .tuple #[.int .i64 (-9223372036854775808), .bool true] := by kernel_rfl
  rw [e] at h
  exact h
theorem small_q (w : World) : Calls Try.prog 15 #[.string ⟨#[97, 34, 10, 200]⟩] w fun e w' => e = .returned (.string ⟨#[34, 97, 92, 34, 92, 110, 92, 120, 99, 56, 34]⟩) ∧ Below w.heap.size w w' := by
  have h := quote_any ⟨#[97, 34, 10, 200]⟩ (by show 4 ≤ _; omega) w
  have e : str (quo (bl ⟨#[97, 34, 10, 200]⟩)) = .string ⟨#[34, 97, 92, 34, 92, 110, 92, 120, 99, 56, 34]⟩ := by kernel_rfl
  rw [e] at h
  exact h

/-- A slice of three strings, of which the second and the third are known. -/
theorem Strs.cells {w : World} {B : Nat} {v : Value} {t : List (List UInt8)} {n : Nat} (h : Strs w B v t) (hn : t.length = n) (h0 : 0 < n) : ∃ g cap, v = .slice (some ⟨g, 0, none⟩) n cap ∧ g < w.heap.size ∧ ∀ j u, t[j]? = some u → w.cell? ⟨g, j, none⟩ = some (str u) := by
  subst hn
  rcases h.form with ⟨_, h1⟩ | ⟨g, cap, rfl, h1, h2, h3, h4, h5, h6, h7⟩
  · omega
  · refine ⟨g, cap, rfl, h2, fun j u hu => h7 j _ ?_⟩
    rw [List.getElem?_map, hu]
    rfl

theorem small_l (w : World) : Calls Try.prog 18 #[.string ⟨#[97, 10, 10, 98]⟩] w fun e w' => ∃ g cap, e = .returned (.slice (some ⟨g, 0, none⟩) 3 cap) ∧ g < w'.heap.size ∧ w'.cell? ⟨g, 1, none⟩ = some (.string ⟨#[]⟩) ∧ w'.cell? ⟨g, 2, none⟩ = some (.string ⟨#[98]⟩) ∧ Below w.heap.size w w' :=
  (lines_any ⟨#[97, 10, 10, 98]⟩ (by show 4 ≤ _; omega) w).mono fun e w' ⟨v, he, hs, hb⟩ => by
    obtain ⟨g, cap, rfl, h1, h2⟩ := hs.cells (n := 3) rfl (by omega)
    exact ⟨g, cap, he, h1, h2 1 [] rfl, h2 2 [98] rfl, hb⟩
theorem small_f (w : World) : Calls Try.prog 22 #[.string ⟨#[32, 97, 32, 32, 98, 10]⟩] w fun e w' => ∃ g cap, e = .returned (.slice (some ⟨g, 0, none⟩) 2 cap) ∧ g < w'.heap.size ∧ w'.cell? ⟨g, 1, none⟩ = some (.string ⟨#[98]⟩) ∧ Below w.heap.size w w' :=
  (fields_any ⟨#[32, 97, 32, 32, 98, 10]⟩ (by show 6 ≤ _; omega) w).mono fun e w' ⟨v, he, hs, hb⟩ => by
    obtain ⟨g, cap, rfl, h1, h2⟩ := hs.cells (n := 2) rfl (by omega)
    exact ⟨g, cap, he, h1, h2 1 [98] rfl, hb⟩

theorem small_pat (p s : List UInt8) (b : Bool) (hp : p.length ≤ 100) (hs : s.length ≤ 100) (h : mt (parse p) s = b) (w : World) : Calls Try.prog 24 #[str p, str s] w fun e w' => e = .returned (.bool b) ∧ Below w.heap.size w w' := by
  have := pattern_any ⟨p.toArray⟩ ⟨s.toArray⟩ (by rw [bytes_size]; omega) (by rw [bytes_size]; omega) w
  rw [show mt (parse (bl ⟨p.toArray⟩)) (bl ⟨s.toArray⟩) = b from h] at this
  exact this
theorem small_p1 (w : World) : Calls Try.prog 24 #[.string ⟨#[97, 42, 91, 33, 120, 45, 122, 93, 63]⟩, .string ⟨#[97, 98, 99, 100]⟩] w fun e w' => e = .returned (.bool true) ∧ Below w.heap.size w w' :=
  small_pat [97, 42, 91, 33, 120, 45, 122, 93, 63] [97, 98, 99, 100] true (by decide) (by decide) (by decide +kernel) w
theorem small_p2 (w : World) : Calls Try.prog 24 #[.string ⟨#[91, 93, 93]⟩, .string ⟨#[93]⟩] w fun e w' => e = .returned (.bool true) ∧ Below w.heap.size w w' :=
  small_pat [91, 93, 93] [93] true (by decide) (by decide) (by decide +kernel) w
theorem small_p3 (w : World) : Calls Try.prog 24 #[.string ⟨#[91, 97]⟩, .string ⟨#[91, 97]⟩] w fun e w' => e = .returned (.bool true) ∧ Below w.heap.size w w' :=
  small_pat [91, 97] [91, 97] true (by decide) (by decide) (by decide +kernel) w
theorem small_p4 (w : World) : Calls Try.prog 24 #[.string ⟨#[92, 42]⟩, .string ⟨#[42]⟩] w fun e w' => e = .returned (.bool true) ∧ Below w.heap.size w w' :=
  small_pat [92, 42] [42] true (by decide) (by decide) (by decide +kernel) w
theorem small_p5 (w : World) : Calls Try.prog 24 #[.string ⟨#[92, 42]⟩, .string ⟨#[97, 98]⟩] w fun e w' => e = .returned (.bool false) ∧ Below w.heap.size w w' :=
  small_pat [92, 42] [97, 98] false (by decide) (by decide) (by decide +kernel) w

set_option maxHeartbeats 1000000 in
theorem small_any (w : World) : Calls Try.prog 8 #[] w fun e w' => e = .returned (.bool true) ∧ Below w.heap.size w w' := by
  go_enter Try.func8, Try.ntmps8
  go_wp2_with (first
    | (go_at_call 9; ((with_reducible refine (small_i1 _).mono ?_); rintro e w1 ⟨rfl, b1⟩))
    | (go_at_call 9; ((with_reducible refine (small_i2 _).mono ?_); rintro e w2 ⟨rfl, b2⟩))
    | (go_at_call 9; ((with_reducible refine (small_i3 _).mono ?_); rintro e w3 ⟨rfl, b3⟩))
    | (go_at_call 18; ((with_reducible refine (small_l _).mono ?_); rintro e w4 ⟨g, cap, rfl, hg, l1, l2, b4⟩))
    | (go_at_call 22; ((with_reducible refine (small_f _).mono ?_); rintro e w5 ⟨g', cap', rfl, hg', f1, b5⟩; have l1' := (b5.cell (p := ⟨g, 1, none⟩) hg).trans l1; have l2' := (b5.cell (p := ⟨g, 2, none⟩) hg).trans l2; have hz5 := b5.size; clear l1 l2))
    | (go_at_call 15; ((with_reducible refine (small_q _).mono ?_); rintro e w6 ⟨rfl, b6⟩; have l3 := (b6.cell (p := ⟨g, 1, none⟩) (Nat.lt_of_lt_of_le hg hz5)).trans l1'; have l4 := (b6.cell (p := ⟨g, 2, none⟩) (Nat.lt_of_lt_of_le hg hz5)).trans l2'; have f2 := (b6.cell (p := ⟨g', 1, none⟩) hg').trans f1; clear l1' l2' f1))
    | (go_at_call 24; ((with_reducible refine (small_p1 _).mono ?_); rintro e w7 ⟨rfl, b7⟩))
    | (go_at_call 24; ((with_reducible refine (small_p2 _).mono ?_); rintro e w8 ⟨rfl, b8⟩))
    | (go_at_call 24; ((with_reducible refine (small_p3 _).mono ?_); rintro e w9 ⟨rfl, b9⟩))
    | (go_at_call 24; ((with_reducible refine (small_p4 _).mono ?_); rintro e w10 ⟨rfl, b10⟩))
    | (go_at_call 24; ((with_reducible refine (small_p5 _).mono ?_); rintro e w11 ⟨rfl, b11⟩)))
  go_ret
  exact ⟨rfl, next_below (next_below (next_below (next_below (next_below (next_below (next_below (next_below (next_below (next_below b1 b2) b3) b4) b5) b6) b7) b8) b9) b10) b11⟩
end Txt
end Go.Proofs.Ytpmmbbaigfjhnaa

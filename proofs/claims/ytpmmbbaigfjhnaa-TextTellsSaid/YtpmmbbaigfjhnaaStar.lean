import Derived.Test.YtpmmbbaigfjhnaaSmal
import Derived.Test.YtpmmbbaigfjhnaaEsca
namespace Go.Proofs.Ytpmmbbaigfjhnaa
open Go.RowKit Wire
set_option linter.unusedVariables false
set_option linter.unusedSimpArgs false
namespace Txt

theorem pat_is (a b : ByteArray) (x : Bool) (ha : a.size ≤ 1000000000) (hb : b.size ≤ 1000000000) (h : mt (parse (bl a)) (bl b) = x) (w : World) :
    Calls Try.prog 24 #[.string a, .string b] w fun e w' => e = .returned (.bool x) ∧ Below w.heap.size w w' := by
  have g := pattern_any a b ha hb w
  rw [h] at g
  exact g

/-- Whether one of the first n ends matches. -/
def ends (p s : ByteArray) (n : Nat) : Bool := (List.range n).any fun k => mt (parse (bl p)) ((bl s).drop k)
def begs (p s : ByteArray) (n : Nat) : Bool := (List.range n).any fun k => mt (parse (bl p)) ((bl s).take k)
theorem ends_succ (p s : ByteArray) (n : Nat) : ends p s (n + 1) = (ends p s n || mt (parse (bl p)) ((bl s).drop n)) := by
  unfold ends
  rw [List.range_succ, List.any_append]
  simp
theorem begs_succ (p s : ByteArray) (n : Nat) : begs p s (n + 1) = (begs p s n || mt (parse (bl p)) ((bl s).take n)) := by
  unfold begs
  rw [List.range_succ, List.any_append]
  simp

theorem bl_append (a b : ByteArray) : bl (a ++ b) = bl a ++ bl b := by
  obtain ⟨⟨a⟩⟩ := a
  obtain ⟨⟨b⟩⟩ := b
  rw [show (⟨⟨a⟩⟩ : ByteArray) = ⟨a.toArray⟩ from rfl, show (⟨⟨b⟩⟩ : ByteArray) = ⟨b.toArray⟩ from rfl, cat_bytes]
theorem bl_cut (s : ByteArray) (a b : Nat) : bl (s.extract a b) = ((bl s).take b).drop a := by
  obtain ⟨⟨l⟩⟩ := s
  rw [show (⟨⟨l⟩⟩ : ByteArray) = ⟨l.toArray⟩ from rfl, bytes_extract]
theorem bl_from (s : ByteArray) (a : Nat) : bl (s.extract a s.size) = (bl s).drop a := by
  rw [bl_cut, List.take_of_length_le (by rw [bl_len]; exact Nat.le_refl _)]
theorem bl_to (s : ByteArray) (b : Nat) : bl (s.extract 0 b) = (bl s).take b := by
  rw [bl_cut, List.drop_zero]

theorem star_is (p s : ByteArray) : mt (parse (bl ((⟨#[42]⟩ : ByteArray) ++ p))) (bl s) = ends p s (s.size + 1) := by
  rw [bl_append]
  show mt (parse (42 :: bl p)) (bl s) = _
  rw [Bool.eq_iff_iff, star_before]
  unfold ends
  rw [List.any_eq_true]
  constructor
  · rintro ⟨k, hk, h⟩
    rw [bl_len] at hk
    exact ⟨k, by simp; omega, h⟩
  · rintro ⟨k, hk, h⟩
    rw [List.mem_range] at hk
    exact ⟨k, by rw [bl_len]; omega, h⟩
theorem last_is (p s : ByteArray) (h : (bl p).getLast? ≠ some 92) : mt (parse (bl (p ++ (⟨#[42]⟩ : ByteArray)))) (bl s) = begs p s (s.size + 1) := by
  rw [bl_append]
  show mt (parse (bl p ++ [42])) (bl s) = _
  rw [Bool.eq_iff_iff, star_behind _ _ h]
  unfold begs
  rw [List.any_eq_true]
  constructor
  · rintro ⟨k, hk, h⟩
    rw [bl_len] at hk
    exact ⟨k, by simp; omega, h⟩
  · rintro ⟨k, hk, h⟩
    rw [List.mem_range] at hk
    exact ⟨k, by rw [bl_len]; omega, h⟩
theorem any_is (p s : ByteArray) (h : 0 < s.size) : mt (parse (bl ((⟨#[63]⟩ : ByteArray) ++ p))) (bl s) = mt (parse (bl p)) ((bl s).drop 1) := by
  rw [bl_append]
  show mt (parse (63 :: bl p)) (bl s) = _
  rw [any_before]
  have : (bl s).isEmpty = false := by
    cases hb : bl s with
    | nil => have := bl_len s; rw [hb] at this; simp at this; omega
    | cons c r => rfl
  rw [this]
  rfl
theorem any_not (p s : ByteArray) (h : s.size = 0) : mt (parse (bl ((⟨#[63]⟩ : ByteArray) ++ p))) (bl s) = false := by
  rw [bl_append]
  show mt (parse (63 :: bl p)) (bl s) = _
  rw [any_before]
  have : bl s = [] := List.eq_nil_of_length_eq_zero (by rw [bl_len]; exact h)
  rw [this]
  rfl
theorem esc_is (t p s : ByteArray) : mt (parse (bl ((⟨(esc (bl t)).toArray⟩ : ByteArray) ++ p))) (bl (t ++ s)) = mt (parse (bl p)) (bl s) := by
  rw [bl_append, bl_append]
  exact esc_mt _ _ _

theorem nil_of {s : ByteArray} (h : ¬ 0 < s.size) : bl s = [] := List.eq_nil_of_length_eq_zero (by rw [bl_len]; omega)
theorem empty_1 {s : ByteArray} (h : ¬ 0 < s.size) : s.toList = [] := is_empty h
theorem empty_2 {s : ByteArray} (h : ¬ 0 < s.size) : s.toList.isEmpty = true := by rw [is_empty h]; rfl
theorem p_cases (p : ByteArray) : (¬ 0 < p.size) ∨ (∃ h : 0 < p.size, ((p[p.size - 1].toNat : Int) == 92) = true ∧ (bl p).getLast? = some 92) ∨ (∃ h : 0 < p.size, ((p[p.size - 1].toNat : Int) == 92) = false ∧ (bl p).getLast? ≠ some 92) := by
  by_cases h : 0 < p.size
  · have hl := last_at h 92
    cases hb : ((p[p.size - 1].toNat : Int) == 92) with
    | true =>
      refine .inr (.inl ⟨h, hb, ?_⟩)
      rw [show (((92 : UInt8).toNat : Nat) : Int) = 92 from rfl, hb] at hl
      exact eq_of_beq hl
    | false =>
      refine .inr (.inr ⟨h, hb, fun e => ?_⟩)
      rw [show (((92 : UInt8).toNat : Nat) : Int) = 92 from rfl, hb, e] at hl
      simp at hl
  · exact .inl h

theorem one_drop {s : ByteArray} (h : s.size = 1) : bl ByteArray.empty = (bl s).drop 1 := (drop_end (by omega)).symm

structure StarRel (W : World) (p s : ByteArray) (ev bv iv : Value) (w : World) (k : Nat) : Prop where
  ev : ev = .bool (ends p s k)
  bv : bv = .bool (begs p s k)
  iv : iv = .int .i64 k
  le : k ≤ s.size + 1
  below : Below W.heap.size W w

set_option maxHeartbeats 4000000 in
theorem stars_any (p s t : ByteArray) (hp : p.size ≤ 9223372036854775807) (hs : s.size ≤ 9223372036854775807) (ht : t.size ≤ 9223372036854775807) (w : World) :
    Calls Try.prog 6 #[.string p, .string s, .string t] w fun e w' => e = .returned (.bool true) ∧ Below w.heap.size w w' := by
  by_cases hp1 : p.size ≤ 60
  · by_cases hs1 : s.size ≤ 100
    · by_cases ht1 : t.size ≤ 100
      · go_enter Try.func6, Try.ntmps6
        go_wp2_with (go_at_call 8; refine (small_any _).mono ?_; rintro e w1 ⟨rfl, b1⟩)
        go_loopw [8, 9, 10] (fun ev bv iv wr => ∃ k, StarRel w p s ev bv iv wr k) (fun _ _ iv _ => s.size + 1 - (intOf iv).toNat)
        case atStart => exact ⟨0, rfl, rfl, rfl, Nat.zero_le _, b1⟩
        case round =>
          clear b1
          obtain ⟨k, ⟨rfl, rfl, rfl, hk, hbel⟩⟩ := hrel
          by_cases hlt : k ≤ s.size
          · have HE := Lib.hid (ends_succ p s k)
            have HB := Lib.hid (begs_succ p s k)
            have c1 := Lib.hid (pat_is p (s.extract k s.size) _ (by omega) (by rw [ByteArray.size_extract]; omega) rfl)
            have c2 := Lib.hid (pat_is p (s.extract 0 k) _ (by omega) (by rw [ByteArray.size_extract]; omega) rfl)
            rw [bl_from] at c1
            rw [bl_to] at c2
            generalize mt (parse (bl p)) ((bl s).drop k) = m1 at *
            generalize mt (parse (bl p)) ((bl s).take k) = m2 at *
            cases hE : ends p s k <;> cases hB : begs p s k
            all_goals
              rw [hE] at HE
              rw [hB] at HB
              clear hE hB
              go_wp2_with (first
                | (go_at_call 24; ((with_reducible refine (c1.out _).mono ?_); rintro e w2 ⟨rfl, g1⟩))
                | (go_at_call 24; ((with_reducible refine (c2.out _).mono ?_); rintro e w3 ⟨rfl, g2⟩)))
              go_roundw
              case rel => exact ⟨k + 1, ⟨by rw [HE.out]; rfl, by rw [HB.out]; rfl, by simp, by omega, by repeat (first | exact hbel | exact next_below hbel ‹_› | exact next_below (next_below hbel g1) g2)⟩⟩
              case measure => simp [intOf]; omega
          · obtain rfl : k = s.size + 1 := by omega
            have hz1 : ((⟨#[42]⟩ : ByteArray) ++ p).size ≤ 1000000000 := by rw [ByteArray.size_append]; show 1 + _ ≤ _; omega
            have hz2 : ((⟨#[63]⟩ : ByteArray) ++ p).size ≤ 1000000000 := by rw [ByteArray.size_append]; show 1 + _ ≤ _; omega
            have hz3 : (p ++ (⟨#[42]⟩ : ByteArray)).size ≤ 1000000000 := by rw [ByteArray.size_append]; show _ + 1 ≤ _; omega
            have hz4 : ((⟨(esc (bl t)).toArray⟩ : ByteArray) ++ p).size ≤ 1000000000 := by
              have := esc_len (bl t)
              rw [bl_len] at this
              rw [ByteArray.size_append]
              show (esc (bl t)).length + _ ≤ _
              omega
            have hel := esc_len (bl t)
            rw [bl_len] at hel
            have hz5 : (t ++ s).size ≤ 1000000000 := by rw [ByteArray.size_append]; omega
            have d1 := Lib.hid (pat_is _ s _ hz1 (by omega) (star_is p s))
            have d4 := Lib.hid (escape_any t (by omega))
            have d5 := Lib.hid (pat_is _ _ _ hz4 hz5 (esc_is t p s))
            have d6 := Lib.hid (pat_is p s _ (by omega) (by omega) rfl)
            have d7' := Lib.hid (fun h => pat_is _ s _ hz3 (by omega) (last_is p s h))
            have k2 : ∀ h : 0 < s.size, _ := fun h => pat_is _ s _ hz2 (by omega) (any_is p s h)
            have k2' : ∀ h : s.size = 0, _ := fun h => pat_is _ s _ hz2 (by omega) (any_not p s h)
            have k3 := pat_is p (s.extract 1 s.size) _ (by omega) (by rw [ByteArray.size_extract]; omega) rfl
            rw [bl_from] at k3
            have k3' : ∀ h : s.size = 1, _ := fun h => pat_is p ByteArray.empty _ (by omega) (by show 0 ≤ _; omega) (congrArg (mt (parse (bl p))) (one_drop h))
            clear hz1 hz2 hz3 hz4 hz5
            generalize ends p s (s.size + 1) = eB at *
            generalize begs p s (s.size + 1) = bB at *
            generalize mt (parse (bl p)) (bl s) = mB at *
            generalize mt (parse (bl p)) ((bl s).drop 1) = qB at *
            have K2 := Lib.hid k2
            have K2' := Lib.hid k2'
            have K3 := Lib.hid k3
            have K3' := Lib.hid k3'
            clear k2 k2' k3 k3'
            rcases p_cases p with hpe | ⟨hp0, hp92, hp92'⟩ | ⟨hp0, hp92, hp92'⟩
            · have q1 := empty_1 hpe
              have q2 := empty_2 hpe
              have q3 : (bl p).getLast? ≠ some 92 := by rw [nil_of hpe]; simp
              have d7 := Lib.hid (d7'.out q3)
              clear q3 hpe
              by_cases hs0 : 0 < s.size
              · have q3 := not_empty hs0
                have q4 := not_empty2 hs0
                have d2 := Lib.hid (K2.out hs0)
                by_cases hs2 : 1 < s.size
                · have d3 := K3
                  go_wp2_with (first
                    | (go_at_call 24; ((with_reducible refine (d1.out _).mono ?_); rintro e w2 ⟨rfl, g1⟩))
                    | (go_at_call 24; ((with_reducible refine (d2.out _).mono ?_); rintro e w3 ⟨rfl, g2⟩))
                    | (go_at_call 24; ((with_reducible refine (d3.out _).mono ?_); rintro e w4 ⟨rfl, g3⟩))
                    | (go_at_call 30; ((with_reducible refine (d4.out _).mono ?_); rintro e w5 ⟨rfl, g4⟩))
                    | (go_at_call 24; ((with_reducible refine (d5.out _).mono ?_); rintro e w6 ⟨rfl, g5⟩))
                    | (go_at_call 24; ((with_reducible refine (d6.out _).mono ?_); rintro e w7 ⟨rfl, g6⟩))
                    | (go_at_call 24; ((with_reducible refine (d7.out _).mono ?_); rintro e w8 ⟨rfl, g7⟩)))
                  go_ret
                  exact ⟨rfl, next_below (next_below (next_below (next_below (next_below (next_below (next_below (hbel) g1) g2) g3) g4) g5) g6) g7⟩
                · have hs3 : s.size = 1 := by omega
                  have d3 := Lib.hid (K3'.out hs3)
                  have h1s : ¬ 1 < s.size := hs2
                  clear hs3
                  go_wp2_with (first
                    | (go_at_call 24; ((with_reducible refine (d1.out _).mono ?_); rintro e w2 ⟨rfl, g1⟩))
                    | (go_at_call 24; ((with_reducible refine (d2.out _).mono ?_); rintro e w3 ⟨rfl, g2⟩))
                    | (go_at_call 24; ((with_reducible refine (d3.out _).mono ?_); rintro e w4 ⟨rfl, g3⟩))
                    | (go_at_call 24; ((with_reducible refine (K3.out _).mono ?_); rintro e w4 ⟨rfl, g3⟩))
                    | (go_at_call 30; ((with_reducible refine (d4.out _).mono ?_); rintro e w5 ⟨rfl, g4⟩))
                    | (go_at_call 24; ((with_reducible refine (d5.out _).mono ?_); rintro e w6 ⟨rfl, g5⟩))
                    | (go_at_call 24; ((with_reducible refine (d6.out _).mono ?_); rintro e w7 ⟨rfl, g6⟩))
                    | (go_at_call 24; ((with_reducible refine (d7.out _).mono ?_); rintro e w8 ⟨rfl, g7⟩)))
                  go_ret
                  exact ⟨rfl, next_below (next_below (next_below (next_below (next_below (next_below (next_below (hbel) g1) g2) g3) g4) g5) g6) g7⟩
              · have q3 := empty_1 hs0
                have q4 := empty_2 hs0
                have d2 := Lib.hid (K2'.out (by omega))
                go_wp2_with (first
                  | (go_at_call 24; ((with_reducible refine (d1.out _).mono ?_); rintro e w2 ⟨rfl, g1⟩))
                  | (go_at_call 24; ((with_reducible refine (d2.out _).mono ?_); rintro e w3 ⟨rfl, g2⟩))
                  | (go_at_call 30; ((with_reducible refine (d4.out _).mono ?_); rintro e w5 ⟨rfl, g4⟩))
                  | (go_at_call 24; ((with_reducible refine (d5.out _).mono ?_); rintro e w6 ⟨rfl, g5⟩))
                  | (go_at_call 24; ((with_reducible refine (d6.out _).mono ?_); rintro e w7 ⟨rfl, g6⟩))
                  | (go_at_call 24; ((with_reducible refine (d7.out _).mono ?_); rintro e w8 ⟨rfl, g7⟩)))
                go_ret
                exact ⟨rfl, next_below (next_below (next_below (next_below (next_below (next_below (hbel) g1) g2) g4) g5) g6) g7⟩
            · have q1 := not_empty hp0
              have q2 := not_empty2 hp0
              clear hp92'
              by_cases hs0 : 0 < s.size
              · have q3 := not_empty hs0
                have q4 := not_empty2 hs0
                have d2 := Lib.hid (K2.out hs0)
                by_cases hs2 : 1 < s.size
                · have d3 := K3
                  go_wp2_with (first
                    | (go_at_call 24; ((with_reducible refine (d1.out _).mono ?_); rintro e w2 ⟨rfl, g1⟩))
                    | (go_at_call 24; ((with_reducible refine (d2.out _).mono ?_); rintro e w3 ⟨rfl, g2⟩))
                    | (go_at_call 24; ((with_reducible refine (d3.out _).mono ?_); rintro e w4 ⟨rfl, g3⟩))
                    | (go_at_call 30; ((with_reducible refine (d4.out _).mono ?_); rintro e w5 ⟨rfl, g4⟩))
                    | (go_at_call 24; ((with_reducible refine (d5.out _).mono ?_); rintro e w6 ⟨rfl, g5⟩))
                    | (go_at_call 24; ((with_reducible refine (d6.out _).mono ?_); rintro e w7 ⟨rfl, g6⟩)))
                  go_ret
                  exact ⟨rfl, next_below (next_below (next_below (next_below (next_below (next_below (hbel) g1) g2) g3) g4) g5) g6⟩
                · have hs3 : s.size = 1 := by omega
                  have d3 := Lib.hid (K3'.out hs3)
                  have h1s : ¬ 1 < s.size := hs2
                  clear hs3
                  go_wp2_with (first
                    | (go_at_call 24; ((with_reducible refine (d1.out _).mono ?_); rintro e w2 ⟨rfl, g1⟩))
                    | (go_at_call 24; ((with_reducible refine (d2.out _).mono ?_); rintro e w3 ⟨rfl, g2⟩))
                    | (go_at_call 24; ((with_reducible refine (d3.out _).mono ?_); rintro e w4 ⟨rfl, g3⟩))
                    | (go_at_call 24; ((with_reducible refine (K3.out _).mono ?_); rintro e w4 ⟨rfl, g3⟩))
                    | (go_at_call 30; ((with_reducible refine (d4.out _).mono ?_); rintro e w5 ⟨rfl, g4⟩))
                    | (go_at_call 24; ((with_reducible refine (d5.out _).mono ?_); rintro e w6 ⟨rfl, g5⟩))
                    | (go_at_call 24; ((with_reducible refine (d6.out _).mono ?_); rintro e w7 ⟨rfl, g6⟩)))
                  go_ret
                  exact ⟨rfl, next_below (next_below (next_below (next_below (next_below (next_below (hbel) g1) g2) g3) g4) g5) g6⟩
              · have q3 := empty_1 hs0
                have q4 := empty_2 hs0
                have d2 := Lib.hid (K2'.out (by omega))
                go_wp2_with (first
                  | (go_at_call 24; ((with_reducible refine (d1.out _).mono ?_); rintro e w2 ⟨rfl, g1⟩))
                  | (go_at_call 24; ((with_reducible refine (d2.out _).mono ?_); rintro e w3 ⟨rfl, g2⟩))
                  | (go_at_call 30; ((with_reducible refine (d4.out _).mono ?_); rintro e w5 ⟨rfl, g4⟩))
                  | (go_at_call 24; ((with_reducible refine (d5.out _).mono ?_); rintro e w6 ⟨rfl, g5⟩))
                  | (go_at_call 24; ((with_reducible refine (d6.out _).mono ?_); rintro e w7 ⟨rfl, g6⟩)))
                go_ret
                exact ⟨rfl, next_below (next_below (next_below (next_below (next_below (hbel) g1) g2) g4) g5) g6⟩
            · have q1 := not_empty hp0
              have q2 := not_empty2 hp0
              have d7 := Lib.hid (d7'.out hp92')
              clear hp92'
              by_cases hs0 : 0 < s.size
              · have q3 := not_empty hs0
                have q4 := not_empty2 hs0
                have d2 := Lib.hid (K2.out hs0)
                by_cases hs2 : 1 < s.size
                · have d3 := K3
                  go_wp2_with (first
                    | (go_at_call 24; ((with_reducible refine (d1.out _).mono ?_); rintro e w2 ⟨rfl, g1⟩))
                    | (go_at_call 24; ((with_reducible refine (d2.out _).mono ?_); rintro e w3 ⟨rfl, g2⟩))
                    | (go_at_call 24; ((with_reducible refine (d3.out _).mono ?_); rintro e w4 ⟨rfl, g3⟩))
                    | (go_at_call 30; ((with_reducible refine (d4.out _).mono ?_); rintro e w5 ⟨rfl, g4⟩))
                    | (go_at_call 24; ((with_reducible refine (d5.out _).mono ?_); rintro e w6 ⟨rfl, g5⟩))
                    | (go_at_call 24; ((with_reducible refine (d6.out _).mono ?_); rintro e w7 ⟨rfl, g6⟩))
                    | (go_at_call 24; ((with_reducible refine (d7.out _).mono ?_); rintro e w8 ⟨rfl, g7⟩)))
                  go_ret
                  exact ⟨rfl, next_below (next_below (next_below (next_below (next_below (next_below (next_below (hbel) g1) g2) g3) g4) g5) g6) g7⟩
                · have hs3 : s.size = 1 := by omega
                  have d3 := Lib.hid (K3'.out hs3)
                  have h1s : ¬ 1 < s.size := hs2
                  clear hs3
                  go_wp2_with (first
                    | (go_at_call 24; ((with_reducible refine (d1.out _).mono ?_); rintro e w2 ⟨rfl, g1⟩))
                    | (go_at_call 24; ((with_reducible refine (d2.out _).mono ?_); rintro e w3 ⟨rfl, g2⟩))
                    | (go_at_call 24; ((with_reducible refine (d3.out _).mono ?_); rintro e w4 ⟨rfl, g3⟩))
                    | (go_at_call 24; ((with_reducible refine (K3.out _).mono ?_); rintro e w4 ⟨rfl, g3⟩))
                    | (go_at_call 30; ((with_reducible refine (d4.out _).mono ?_); rintro e w5 ⟨rfl, g4⟩))
                    | (go_at_call 24; ((with_reducible refine (d5.out _).mono ?_); rintro e w6 ⟨rfl, g5⟩))
                    | (go_at_call 24; ((with_reducible refine (d6.out _).mono ?_); rintro e w7 ⟨rfl, g6⟩))
                    | (go_at_call 24; ((with_reducible refine (d7.out _).mono ?_); rintro e w8 ⟨rfl, g7⟩)))
                  go_ret
                  exact ⟨rfl, next_below (next_below (next_below (next_below (next_below (next_below (next_below (hbel) g1) g2) g3) g4) g5) g6) g7⟩
              · have q3 := empty_1 hs0
                have q4 := empty_2 hs0
                have d2 := Lib.hid (K2'.out (by omega))
                go_wp2_with (first
                  | (go_at_call 24; ((with_reducible refine (d1.out _).mono ?_); rintro e w2 ⟨rfl, g1⟩))
                  | (go_at_call 24; ((with_reducible refine (d2.out _).mono ?_); rintro e w3 ⟨rfl, g2⟩))
                  | (go_at_call 30; ((with_reducible refine (d4.out _).mono ?_); rintro e w5 ⟨rfl, g4⟩))
                  | (go_at_call 24; ((with_reducible refine (d5.out _).mono ?_); rintro e w6 ⟨rfl, g5⟩))
                  | (go_at_call 24; ((with_reducible refine (d6.out _).mono ?_); rintro e w7 ⟨rfl, g6⟩))
                  | (go_at_call 24; ((with_reducible refine (d7.out _).mono ?_); rintro e w8 ⟨rfl, g7⟩)))
                go_ret
                exact ⟨rfl, next_below (next_below (next_below (next_below (next_below (next_below (hbel) g1) g2) g4) g5) g6) g7⟩
      · go_enter Try.func6, Try.ntmps6
        go_wp2_with (go_at_call 8; refine (small_any _).mono ?_; rintro e w1 ⟨rfl, b1⟩)
        go_ret
        exact ⟨rfl, b1⟩
    · go_enter Try.func6, Try.ntmps6
      go_wp2_with (go_at_call 8; refine (small_any _).mono ?_; rintro e w1 ⟨rfl, b1⟩)
      go_ret
      exact ⟨rfl, b1⟩
  · go_enter Try.func6, Try.ntmps6
    go_wp2_with (go_at_call 8; refine (small_any _).mono ?_; rintro e w1 ⟨rfl, b1⟩)
    go_ret
    exact ⟨rfl, b1⟩
end Txt
end Go.Proofs.Ytpmmbbaigfjhnaa

/- LexTexts: the walk. -/
import Derived.Test.YtjgaghapjlmcpaaDoorLwH
import Derived.Deep.RegionHeld3
import Derived.Deep.DeepCutAuto
namespace Go.Proofs.YtjgaghapjlmcpaaDoor
open Go.RowKit Wire Txt
set_option linter.unusedVariables false
set_option linter.unusedSimpArgs false
namespace Lx

theorem one_char (c : UInt8) (w : World) :
    Sem.run Tryd.prog (convert 36 9 (.slice (some ⟨w.heap.size, 0, none⟩) 1 1)) (w.alloc (.cells #[.int .u8 c.toNat] 5)) =
      .ok (.string ⟨#[c]⟩) (w.alloc (.cells #[.int .u8 c.toNat] 5)) := by
  exact run_convert_bytes_back (P := Tryd.prog) (w.alloc (.cells #[.int .u8 c.toNat] 5)) 36 9 5 ⟨w.heap.size, 0, none⟩ 1 [c] Tryd.underlying36 Tryd.underlying5 Tryd.underlying9 (fun j hj => by
    have hj0 : j = 0 := by simp at hj; omega
    subst hj0
    rw [row_add', (Blk.fresh w _ _).at]
    simp only [List.getElem_cons_zero]
    rfl)
theorem same_tk (t : Tk) (w : World) : (binOp .neq 31 t.val t.val).run Tryd.prog w = .ok (.bool false) w := by
  rw [neq_tk, decide_eq_true rfl]
  rfl
theorem same_tk' (t : Tk) (w : World) : (binOp .eql 31 t.val t.val).run Tryd.prog w = .ok (.bool true) w := by
  rw [eql_tk, decide_eq_true rfl]
/-- The first token of a list, where it lies. -/
theorem has_first {w : World} {v : Value} {t u : Tk} (h : Has w v [t, u]) : ∃ g o c, v = .slice (some ⟨g, o, none⟩) 2 c ∧ 2 ≤ c ∧ g < w.heap.size ∧
    w.cell? ⟨g, o, none⟩ = some (.int .i64 t.kind) ∧ w.cell? ⟨g, o + 1, none⟩ = some (str t.text) ∧ w.cell? ⟨g, o + 2, none⟩ = some (.int .i64 t.n) ∧ w.cell? ⟨g, o + 3, none⟩ = some (.int .i64 t.line) := by
  obtain ⟨A, c, rfl, hc, hr⟩ := h.is
  obtain ⟨g, o, rfl, hg, k0, k1, k2, k3⟩ := row_tk hr (i := 0) rfl
  exact ⟨g, o, c, rfl, hc, hg, k0, k1, k2, k3⟩
/-- The ways of a byte as a part of a word. -/
theorem part_at (c : UInt8) : (97 ≤ c.toNat ∧ c.toNat ≤ 122 ∧ isP c = true) ∨ (65 ≤ c.toNat ∧ c.toNat ≤ 90 ∧ isP c = true) ∨ (48 ≤ c.toNat ∧ c.toNat ≤ 57 ∧ isP c = true) ∨ (c.toNat = 95 ∧ isP c = true) ∨ (c.toNat = 45 ∧ isP c = true) ∨
    (c.toNat < 48 ∧ c.toNat ≠ 45 ∧ isP c = false) ∨ (57 < c.toNat ∧ c.toNat < 65 ∧ isP c = false) ∨ (90 < c.toNat ∧ c.toNat < 97 ∧ c.toNat ≠ 95 ∧ isP c = false) ∨ (122 < c.toNat ∧ isP c = false) := by
  have h95 : (c == 95) = decide (c.toNat = 95) := by
    rw [Bool.eq_iff_iff, beq_iff_eq, decide_eq_true_eq, ← UInt8.toNat_inj]
    rfl
  have h45 : (c == 45) = decide (c.toNat = 45) := by
    rw [Bool.eq_iff_iff, beq_iff_eq, decide_eq_true_eq, ← UInt8.toNat_inj]
    rfl
  unfold isP isL isD
  rw [h95, h45]
  simp only [← Bool.decide_and, ← Bool.decide_or, decide_eq_true_eq, decide_eq_false_iff_not]
  omega

abbrev TBox (W : World) (g o : Nat) (t : Tk) (w : World) : Prop := Below W.heap.size W w ∧ g < w.heap.size ∧ w.cell? ⟨g, o, none⟩ = some (.int .i64 t.kind) ∧ w.cell? ⟨g, o + 1, none⟩ = some (str t.text) ∧ w.cell? ⟨g, o + 2, none⟩ = some (.int .i64 t.n) ∧ w.cell? ⟨g, o + 3, none⟩ = some (.int .i64 t.line)
theorem TBox.keep {W w w1 : World} {g o : Nat} {t : Tk} (h : TBox W g o t w) (b : Below w.heap.size w w1) : TBox W g o t w1 :=
  ⟨next_below h.1 b, Nat.lt_of_lt_of_le h.2.1 b.size, (b.cell (p := ⟨g, o, none⟩) h.2.1).trans h.2.2.1, (b.cell (p := ⟨g, o + 1, none⟩) h.2.1).trans h.2.2.2.1, (b.cell (p := ⟨g, o + 2, none⟩) h.2.1).trans h.2.2.2.2.1, (b.cell (p := ⟨g, o + 3, none⟩) h.2.1).trans h.2.2.2.2.2⟩
theorem TBox.drew {W w : World} {g o : Nat} {t : Tk} (h : TBox W g o t w) : TBox W g o t w.drew := ⟨h.1.drew, h.2.1, h.2.2.1, h.2.2.2.1, h.2.2.2.2.1, h.2.2.2.2.2⟩

theorem below_at {W w w1 : World} {o : Obj} (h : Below W.heap.size W w) (b : Below (w.alloc o).heap.size (w.alloc o) w1) : Below W.heap.size W w1 := next_below (h.alloc h.size o) b

set_option maxRecDepth 8000 in
set_option maxHeartbeats 4000000 in
theorem texts_law (s : ByteArray) (n : Int) (hn : Fits n) (c : UInt8) (W : World) :
    Calls Tryd.prog 7 #[.string s, .int .i64 n, .int .u8 c.toNat] W fun e w' => e = .returned (.bool true) ∧ Below W.heap.size W w' := by
  by_cases hs : s.size ≤ 300
  case neg =>
    have g1 : (300 : Int) < (s.size : Int) := by omega
    go_enter Tryd.func7, Tryd.ntmps7
    go_wp2_with (go_at_call 8; refine (small_any _).mono ?_; rintro e w0 ⟨rfl, b0⟩; have B0 := Lib.hid b0; clear b0)
    go_ret
    exact ⟨rfl, B0.out⟩
  obtain ⟨q, hq⟩ := mk_bl (quo (bl s))
  have hql : q.size ≤ 1300 := by rw [← bl_len, hq]; have := quo_len (bl s); rw [bl_len] at this; omega
  have HQ := Lib.hid (fun w => quote_any s (by omega) w)
  rw [← hq, str_bl] at HQ
  have HL1 : Hid (∀ w, Calls Tryd.prog 9 #[.string q] w (LPost w (.ok [⟨2, bl s, 0, 1⟩, fin 1]))) := Lib.hid fun w => by
    have := lex_any (bl q) w (by rw [bl_len]; omega)
    rwa [lexAll_small (by rw [bl_len]; omega), hq, lexP_quo, ← hq] at this
  have HWD := Lib.hid (fun w => word_any s w (by omega))
  obtain ⟨dd, hdd⟩ := mk_bl (decI n)
  have hdl : dd.size ≤ 22 := by rw [← bl_len, hdd]; exact decI_len n
  have HD := Lib.hid (fun w => decimal_any n hn w)
  rw [← hdd, str_bl] at HD
  have HN1 : ∀ w, (binOp .neq 31 (.agg #[.int .i64 2, .string s, .int .i64 0, .int .i64 1]) (.agg #[.int .i64 2, .string s, .int .i64 0, .int .i64 1])).run Tryd.prog w = .ok (.bool false) w := fun w => same_tk ⟨2, bl s, 0, 1⟩ w
  have HN2 : ∀ w, (binOp .neq 31 (.agg #[.int .i64 0, .string s, .int .i64 0, .int .i64 1]) (.agg #[.int .i64 0, .string s, .int .i64 0, .int .i64 1])).run Tryd.prog w = .ok (.bool false) w := fun w => same_tk ⟨0, bl s, 0, 1⟩ w
  have HN3 : ∀ w, (binOp .eql 31 (.agg #[.int .i64 1, .string dd, .int .i64 n, .int .i64 1]) (.agg #[.int .i64 1, .string dd, .int .i64 n, .int .i64 1])).run Tryd.prog w = .ok (.bool true) w := fun w => same_tk' ⟨1, bl dd, n, 1⟩ w
  have HC1 := one_char c
  have HL3 : (n < 0 ∧ Hid (∀ w, Calls Tryd.prog 9 #[.string dd] w (LPost w (.bad 11 1)))) ∨ (¬ n < 0 ∧ Hid (∀ w, Calls Tryd.prog 9 #[.string dd] w (LPost w (.ok [⟨1, bl dd, n, 1⟩, fin 1])))) := by
    have hx : ∀ w, Calls Tryd.prog 9 #[.string dd] w (LPost w (lexP (decI n) 1)) := fun w => by
      have := lex_any (bl dd) w (by rw [bl_len]; omega)
      rwa [lexAll_small (by rw [bl_len]; omega), hdd, ← hdd, str_bl, hdd] at this
    by_cases h0 : n < 0
    · rw [lexP_neg h0] at hx
      exact .inl ⟨h0, Lib.hid hx⟩
    · obtain ⟨m, rfl⟩ := Int.eq_ofNat_of_zero_le (show 0 ≤ n by omega)
      unfold Fits at hn
      rw [decI_pos] at hx hdd
      rw [lexP_dec (by omega), ← hdd] at hx
      exact .inr ⟨h0, Lib.hid hx⟩
  clear hq hql hdd hdl
  generalize hbw : word (bl s) = bw at HWD
  go_enter Tryd.func7, Tryd.ntmps7
  go_upto_region 5 with (first
    | (go_at_call 9; have B1' := B1.out; refine (HL1.out _).mono ?_; rintro e w2 ⟨b2, v2, rfl, x2⟩; have B2 := Lib.hid (next_below B1' b2); have X2 := Lib.hid x2; clear b2 x2 B1')
    | (go_at_call 17; refine (HQ.out _).mono ?_; rintro e w1 ⟨rfl, b1⟩; have B1 := Lib.hid (next_below B0.out b1); clear b1)
    | (go_at_call 8; refine (small_any _).mono ?_; rintro e w0 ⟨rfl, b0⟩; have B0 := Lib.hid b0; clear b0))
  obtain ⟨g1, o1, c1, rfl, hc1, hg1, k0, k1, k2, k3⟩ := has_first X2.out
  have k0' : w2.cell? ⟨g1, o1, none⟩ = some (.int .i64 2) := k0
  have k1' : w2.cell? ⟨g1, o1 + 1, none⟩ = some (.string s) := k1
  have k2' : w2.cell? ⟨g1, o1 + 2, none⟩ = some (.int .i64 0) := k2
  have k3' : w2.cell? ⟨g1, o1 + 3, none⟩ = some (.int .i64 1) := k3
  clear k0 k1 k2 k3
  go_upto_region 9 with (fail)
  clear k0' k1' k2' k3' X2
  cases bw with
  | false =>
    clear hbw
    go_upto_region 16 with (first
      | (go_at_call 14; refine (HWD.out _).mono ?_; rintro e w3 ⟨rfl, b3⟩; have Bz := Lib.hid (next_below B2.out b3); clear b3))
    rcases HL3 with ⟨hn0, HL3⟩ | ⟨hn0, HL3⟩
    · go_wp2_with (first
        | (go_at_call 9; have B7' := B7.out; refine (HL3.out _).mono ?_; rintro e w8 ⟨b8, rfl⟩; have B8 := Lib.hid (next_below B7' b8); clear b8 B7')
        | (go_at_call 16; refine (HD.out _).mono ?_; rintro e w7 ⟨rfl, b7⟩; have B7 := Lib.hid (next_below Bz.out b7); clear b7))
      go_ret
      exact ⟨rfl, B8.out⟩
    · go_upto_region 21 with (first
        | (go_at_call 9; have B7' := B7.out; refine (HL3.out _).mono ?_; rintro e w8 ⟨b8, v8, rfl, x8⟩; have B8 := Lib.hid (next_below B7' b8); obtain ⟨g8, o8, c8, rfl, hc8, hg8, m0, m1, m2, m3⟩ := has_first x8; have TB8 : TBox W g8 o8 ⟨1, bl dd, n, 1⟩ w8 := ⟨B8.out, hg8, m0, m1, m2, m3⟩; clear b8 B7' x8 m0 m1 m2 m3 hg8)
        | (go_at_call 16; refine (HD.out _).mono ?_; rintro e w7 ⟨rfl, b7⟩; have B7 := Lib.hid (next_below Bz.out b7); clear b7))
      have HTB := Lib.hid TB8.drew
      clear TB8
      have tb := HTB.out
      go_region_held3 (fun w' => Below W.heap.size W w' ∧ g8 < w'.heap.size ∧ w'.cell? ⟨g8, o8, none⟩ = some (.int .i64 1) ∧ w'.cell? ⟨g8, o8 + 1, none⟩ = some (.string dd) ∧ w'.cell? ⟨g8, o8 + 2, none⟩ = some (.int .i64 n) ∧ w'.cell? ⟨g8, o8 + 3, none⟩ = some (.int .i64 1)) (first | exact HTB.out | exact TBox.keep (t := ⟨1, bl dd, n, 1⟩) ‹_› ‹_› | go_keep)
        (first
          | (go_at_call 16; refine (HD.out _).mono ?_; rintro e w9 ⟨rfl, b9⟩))
      go_wp2_with fail
      go_ret
      exact ⟨rfl, And.left (by assumption)⟩
  | true =>
    have HL2 : Hid (∀ w, Calls Tryd.prog 9 #[.string s] w (LPost w (.ok [⟨0, bl s, 0, 1⟩, fin 1]))) := Lib.hid fun w => by
      have := lex_any (bl s) w (by rw [bl_len]; omega)
      rwa [lexAll_small (by rw [bl_len]; omega), lexP_word hbw] at this
    have HW2 : Hid (∀ w, Calls Tryd.prog 14 #[.string (s ++ ⟨#[c]⟩)] w fun e w' => e = .returned (.bool (isP c && decide (s.size < 20))) ∧ Below w.heap.size w w') := Lib.hid fun w => by
      have := word_any (s ++ ⟨#[c]⟩) w (by rw [← bl_len, bl_cat, List.length_append, bl_len, show (bl ⟨#[c]⟩).length = 1 from rfl]; omega)
      rwa [bl_cat, show bl ⟨#[c]⟩ = [c] from rfl, word_snoc hbw, bl_len] at this
    clear hbw
    go_upto_region 13 with (first
      | (go_at_call 9; have B3' := B3.out; refine (HL2.out _).mono ?_; rintro e w4 ⟨b4, v4, rfl, x4⟩; have B4 := Lib.hid (next_below B3' b4); obtain ⟨g4, o4, c4, rfl, hc4, hg4, m0, m1, m2, m3⟩ := has_first x4; have j0 : w4.cell? ⟨g4, o4, none⟩ = some (.int .i64 0) := m0; have j1 : w4.cell? ⟨g4, o4 + 1, none⟩ = some (.string s) := m1; have j2 : w4.cell? ⟨g4, o4 + 2, none⟩ = some (.int .i64 0) := m2; have j3 : w4.cell? ⟨g4, o4 + 3, none⟩ = some (.int .i64 1) := m3; clear b4 B3' x4 m0 m1 m2 m3)
      | (go_at_call 14; have B2' := B2.out; refine (HWD.out _).mono ?_; rintro e w3 ⟨rfl, b3⟩; have B3 := Lib.hid (next_below B2' b3); clear b3 B2'))
    generalize hp : isP c = pc at HW2
    go_cut [14] (fun v14 wx => v14 = .bool pc ∧ wx = w4)
    case first =>
      rcases part_at c with ⟨h1, h2, hv⟩ | ⟨h1, h2, hv⟩ | ⟨h1, h2, hv⟩ | ⟨h1, hv⟩ | ⟨h1, hv⟩ | ⟨h1, h2, hv⟩ | ⟨h1, h2, hv⟩ | ⟨h1, h2, h3, hv⟩ | ⟨h1, hv⟩
      · rw [hv] at hp
        subst hp
        clear hv
        have f0 : (97 : Int) ≤ (c.toNat : Int) := by omega
        have f1 : (c.toNat : Int) ≤ 122 := by omega
        clear h1 h2
        go_wp2_with fail
        go_meet
        exact ⟨rfl, rfl⟩
      · rw [hv] at hp
        subst hp
        clear hv
        have f0 : ¬ (97 : Int) ≤ (c.toNat : Int) := by omega
        have f1 : (65 : Int) ≤ (c.toNat : Int) := by omega
        have f2 : (c.toNat : Int) ≤ 90 := by omega
        clear h1 h2
        go_wp2_with fail
        go_meet
        exact ⟨rfl, rfl⟩
      · rw [hv] at hp
        subst hp
        clear hv
        have f0 : ¬ (97 : Int) ≤ (c.toNat : Int) := by omega
        have f1 : ¬ (65 : Int) ≤ (c.toNat : Int) := by omega
        have f2 : (48 : Int) ≤ (c.toNat : Int) := by omega
        have f3 : (c.toNat : Int) ≤ 57 := by omega
        clear h1 h2
        go_wp2_with fail
        go_meet
        exact ⟨rfl, rfl⟩
      · rw [hv] at hp
        subst hp
        clear hv
        have f0 : ¬ (97 : Int) ≤ (c.toNat : Int) := by omega
        have f1 : (65 : Int) ≤ (c.toNat : Int) := by omega
        have f2 : ¬ (c.toNat : Int) ≤ 90 := by omega
        have f3 : (48 : Int) ≤ (c.toNat : Int) := by omega
        have f4 : ¬ (c.toNat : Int) ≤ 57 := by omega
        have f5 : ((c.toNat : Int) == 95) = true := beq_iff_eq.2 (by omega)
        clear h1
        go_wp2_with fail
        go_meet
        exact ⟨rfl, rfl⟩
      · rw [hv] at hp
        subst hp
        clear hv
        have f0 : ¬ (97 : Int) ≤ (c.toNat : Int) := by omega
        have f1 : ¬ (65 : Int) ≤ (c.toNat : Int) := by omega
        have f2 : ¬ (48 : Int) ≤ (c.toNat : Int) := by omega
        have f3 : ((c.toNat : Int) == 95) = false := beq_eq_false_iff_ne.2 (by omega)
        have f4 : ((c.toNat : Int) == 45) = true := beq_iff_eq.2 (by omega)
        clear h1
        go_wp2_with fail
        go_meet
        exact ⟨rfl, rfl⟩
      · rw [hv] at hp
        subst hp
        clear hv
        have f0 : ¬ (97 : Int) ≤ (c.toNat : Int) := by omega
        have f1 : ¬ (65 : Int) ≤ (c.toNat : Int) := by omega
        have f2 : ¬ (48 : Int) ≤ (c.toNat : Int) := by omega
        have f3 : ((c.toNat : Int) == 95) = false := beq_eq_false_iff_ne.2 (by omega)
        have f4 : ((c.toNat : Int) == 45) = false := beq_eq_false_iff_ne.2 (by omega)
        clear h1 h2
        go_wp2_with fail
        go_meet
        exact ⟨rfl, rfl⟩
      · rw [hv] at hp
        subst hp
        clear hv
        have f0 : ¬ (97 : Int) ≤ (c.toNat : Int) := by omega
        have f1 : ¬ (65 : Int) ≤ (c.toNat : Int) := by omega
        have f2 : (48 : Int) ≤ (c.toNat : Int) := by omega
        have f3 : ¬ (c.toNat : Int) ≤ 57 := by omega
        have f4 : ((c.toNat : Int) == 95) = false := beq_eq_false_iff_ne.2 (by omega)
        have f5 : ((c.toNat : Int) == 45) = false := beq_eq_false_iff_ne.2 (by omega)
        clear h1 h2
        go_wp2_with fail
        go_meet
        exact ⟨rfl, rfl⟩
      · rw [hv] at hp
        subst hp
        clear hv
        have f0 : ¬ (97 : Int) ≤ (c.toNat : Int) := by omega
        have f1 : (65 : Int) ≤ (c.toNat : Int) := by omega
        have f2 : ¬ (c.toNat : Int) ≤ 90 := by omega
        have f3 : (48 : Int) ≤ (c.toNat : Int) := by omega
        have f4 : ¬ (c.toNat : Int) ≤ 57 := by omega
        have f5 : ((c.toNat : Int) == 95) = false := beq_eq_false_iff_ne.2 (by omega)
        have f6 : ((c.toNat : Int) == 45) = false := beq_eq_false_iff_ne.2 (by omega)
        clear h1 h2 h3
        go_wp2_with fail
        go_meet
        exact ⟨rfl, rfl⟩
      · rw [hv] at hp
        subst hp
        clear hv
        have f0 : (97 : Int) ≤ (c.toNat : Int) := by omega
        have f1 : ¬ (c.toNat : Int) ≤ 122 := by omega
        have f2 : (65 : Int) ≤ (c.toNat : Int) := by omega
        have f3 : ¬ (c.toNat : Int) ≤ 90 := by omega
        have f4 : (48 : Int) ≤ (c.toNat : Int) := by omega
        have f5 : ¬ (c.toNat : Int) ≤ 57 := by omega
        have f6 : ((c.toNat : Int) == 95) = false := beq_eq_false_iff_ne.2 (by omega)
        have f7 : ((c.toNat : Int) == 45) = false := beq_eq_false_iff_ne.2 (by omega)
        clear h1
        go_wp2_with fail
        go_meet
        exact ⟨rfl, rfl⟩
    case rest =>
      obtain ⟨rfl, rfl⟩ := hcut
      clear hp
      cases pc with
      | false =>
        go_upto_region 16 with (first
          | (go_at_call 14; refine (HW2.out _).mono ?_; rintro e w5 ⟨rfl, b5⟩; have Bz := Lib.hid (below_at B4.out b5); clear b5))
        rcases HL3 with ⟨hn0, HL3⟩ | ⟨hn0, HL3⟩
        · go_wp2_with (first
            | (go_at_call 9; have B7' := B7.out; refine (HL3.out _).mono ?_; rintro e w8 ⟨b8, rfl⟩; have B8 := Lib.hid (next_below B7' b8); clear b8 B7')
            | (go_at_call 16; refine (HD.out _).mono ?_; rintro e w7 ⟨rfl, b7⟩; have B7 := Lib.hid (next_below Bz.out b7); clear b7))
          go_ret
          exact ⟨rfl, B8.out⟩
        · go_upto_region 21 with (first
            | (go_at_call 9; have B7' := B7.out; refine (HL3.out _).mono ?_; rintro e w8 ⟨b8, v8, rfl, x8⟩; have B8 := Lib.hid (next_below B7' b8); obtain ⟨g8, o8, c8, rfl, hc8, hg8, m0, m1, m2, m3⟩ := has_first x8; have TB8 : TBox W g8 o8 ⟨1, bl dd, n, 1⟩ w8 := ⟨B8.out, hg8, m0, m1, m2, m3⟩; clear b8 B7' x8 m0 m1 m2 m3 hg8)
            | (go_at_call 16; refine (HD.out _).mono ?_; rintro e w7 ⟨rfl, b7⟩; have B7 := Lib.hid (next_below Bz.out b7); clear b7))
          have HTB := Lib.hid TB8.drew
          clear TB8
          have tb := HTB.out
          go_region_held3 (fun w' => Below W.heap.size W w' ∧ g8 < w'.heap.size ∧ w'.cell? ⟨g8, o8, none⟩ = some (.int .i64 1) ∧ w'.cell? ⟨g8, o8 + 1, none⟩ = some (.string dd) ∧ w'.cell? ⟨g8, o8 + 2, none⟩ = some (.int .i64 n) ∧ w'.cell? ⟨g8, o8 + 3, none⟩ = some (.int .i64 1)) (first | exact HTB.out | exact TBox.keep (t := ⟨1, bl dd, n, 1⟩) ‹_› ‹_› | go_keep)
            (first
              | (go_at_call 16; refine (HD.out _).mono ?_; rintro e w9 ⟨rfl, b9⟩))
          go_wp2_with fail
          go_ret
          exact ⟨rfl, And.left (by assumption)⟩
      | true =>
        by_cases h20 : s.size < 20
        · have f20 : (s.size : Int) < 20 := by omega
          rw [decide_eq_true h20] at HW2
          clear h20
          go_upto_region 16 with (first
            | (go_at_call 14; refine (HW2.out _).mono ?_; rintro e w5 ⟨rfl, b5⟩; have Bz := Lib.hid (below_at B4.out b5); clear b5))
          rcases HL3 with ⟨hn0, HL3⟩ | ⟨hn0, HL3⟩
          · go_wp2_with (first
              | (go_at_call 9; have B7' := B7.out; refine (HL3.out _).mono ?_; rintro e w8 ⟨b8, rfl⟩; have B8 := Lib.hid (next_below B7' b8); clear b8 B7')
              | (go_at_call 16; refine (HD.out _).mono ?_; rintro e w7 ⟨rfl, b7⟩; have B7 := Lib.hid (next_below Bz.out b7); clear b7))
            go_ret
            exact ⟨rfl, B8.out⟩
          · go_upto_region 21 with (first
              | (go_at_call 9; have B7' := B7.out; refine (HL3.out _).mono ?_; rintro e w8 ⟨b8, v8, rfl, x8⟩; have B8 := Lib.hid (next_below B7' b8); obtain ⟨g8, o8, c8, rfl, hc8, hg8, m0, m1, m2, m3⟩ := has_first x8; have TB8 : TBox W g8 o8 ⟨1, bl dd, n, 1⟩ w8 := ⟨B8.out, hg8, m0, m1, m2, m3⟩; clear b8 B7' x8 m0 m1 m2 m3 hg8)
              | (go_at_call 16; refine (HD.out _).mono ?_; rintro e w7 ⟨rfl, b7⟩; have B7 := Lib.hid (next_below Bz.out b7); clear b7))
            have HTB := Lib.hid TB8.drew
            clear TB8
            have tb := HTB.out
            go_region_held3 (fun w' => Below W.heap.size W w' ∧ g8 < w'.heap.size ∧ w'.cell? ⟨g8, o8, none⟩ = some (.int .i64 1) ∧ w'.cell? ⟨g8, o8 + 1, none⟩ = some (.string dd) ∧ w'.cell? ⟨g8, o8 + 2, none⟩ = some (.int .i64 n) ∧ w'.cell? ⟨g8, o8 + 3, none⟩ = some (.int .i64 1)) (first | exact HTB.out | exact TBox.keep (t := ⟨1, bl dd, n, 1⟩) ‹_› ‹_› | go_keep)
              (first
                | (go_at_call 16; refine (HD.out _).mono ?_; rintro e w9 ⟨rfl, b9⟩))
            go_wp2_with fail
            go_ret
            exact ⟨rfl, And.left (by assumption)⟩
        · have f20 : ¬ (s.size : Int) < 20 := by omega
          rw [decide_eq_false h20] at HW2
          clear h20
          go_upto_region 16 with (first
            | (go_at_call 14; refine (HW2.out _).mono ?_; rintro e w5 ⟨rfl, b5⟩; have Bz := Lib.hid (below_at B4.out b5); clear b5))
          rcases HL3 with ⟨hn0, HL3⟩ | ⟨hn0, HL3⟩
          · go_wp2_with (first
              | (go_at_call 9; have B7' := B7.out; refine (HL3.out _).mono ?_; rintro e w8 ⟨b8, rfl⟩; have B8 := Lib.hid (next_below B7' b8); clear b8 B7')
              | (go_at_call 16; refine (HD.out _).mono ?_; rintro e w7 ⟨rfl, b7⟩; have B7 := Lib.hid (next_below Bz.out b7); clear b7))
            go_ret
            exact ⟨rfl, B8.out⟩
          · go_upto_region 21 with (first
              | (go_at_call 9; have B7' := B7.out; refine (HL3.out _).mono ?_; rintro e w8 ⟨b8, v8, rfl, x8⟩; have B8 := Lib.hid (next_below B7' b8); obtain ⟨g8, o8, c8, rfl, hc8, hg8, m0, m1, m2, m3⟩ := has_first x8; have TB8 : TBox W g8 o8 ⟨1, bl dd, n, 1⟩ w8 := ⟨B8.out, hg8, m0, m1, m2, m3⟩; clear b8 B7' x8 m0 m1 m2 m3 hg8)
              | (go_at_call 16; refine (HD.out _).mono ?_; rintro e w7 ⟨rfl, b7⟩; have B7 := Lib.hid (next_below Bz.out b7); clear b7))
            have HTB := Lib.hid TB8.drew
            clear TB8
            have tb := HTB.out
            go_region_held3 (fun w' => Below W.heap.size W w' ∧ g8 < w'.heap.size ∧ w'.cell? ⟨g8, o8, none⟩ = some (.int .i64 1) ∧ w'.cell? ⟨g8, o8 + 1, none⟩ = some (.string dd) ∧ w'.cell? ⟨g8, o8 + 2, none⟩ = some (.int .i64 n) ∧ w'.cell? ⟨g8, o8 + 3, none⟩ = some (.int .i64 1)) (first | exact HTB.out | exact TBox.keep (t := ⟨1, bl dd, n, 1⟩) ‹_› ‹_› | go_keep)
              (first
                | (go_at_call 16; refine (HD.out _).mono ?_; rintro e w9 ⟨rfl, b9⟩))
            go_wp2_with fail
            go_ret
            exact ⟨rfl, And.left (by assumption)⟩
end Lx
end Go.Proofs.YtjgaghapjlmcpaaDoor

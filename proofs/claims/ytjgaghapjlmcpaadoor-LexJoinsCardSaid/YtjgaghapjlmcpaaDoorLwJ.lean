/- LexJoins: the walk. -/
import Derived.Test.YtjgaghapjlmcpaaDoorLwH
import Derived.Deep.RegionHeld3
import Derived.Deep.DeepCutAuto
namespace Go.Proofs.YtjgaghapjlmcpaaDoor
open Go.RowKit Wire Txt
set_option linter.unusedVariables false
set_option linter.unusedSimpArgs false
namespace Lx

/-- A list of tokens in memory, told by where it lies. -/
theorem has_open {w : World} {v : Value} {l : List Tk} (h : Has w v l) (h0 : 0 < l.length) : ∃ g o c, v = .slice (some ⟨g, o, none⟩) l.length c ∧ l.length ≤ c ∧ g < w.heap.size ∧ Row w w.heap.size (some ⟨g, o, none⟩) (tks l) := by
  obtain ⟨A, c, rfl, hc, hr⟩ := h.is
  obtain ⟨t, ht⟩ : ∃ t, l[0]? = some t := ⟨_, List.getElem?_eq_getElem h0⟩
  obtain ⟨g, o, rfl, hg, _⟩ := row_tk hr ht
  exact ⟨g, o, c, rfl, hc, hg, hr⟩
theorem has_take {w : World} {A : Option Addr} {l : List Tk} {k c : Nat} (hr : Row w w.heap.size A (tks l)) (hk : k ≤ l.length) (hc : k ≤ c) : Has w (.slice A k c) (l.take k) :=
  ⟨A, c, by rw [List.length_take, Nat.min_eq_left hk], by rw [List.length_take, Nat.min_eq_left hk]; exact hc, row_take hr k⟩
theorem has_drop {w : World} {g o : Nat} {l : List Tk} {k n c : Nat} (hr : Row w w.heap.size (some ⟨g, o, none⟩) (tks l)) (hn : n = l.length - k) (hc : n ≤ c) : Has w (.slice (some ⟨g, o + k * 4, none⟩) n c) (l.drop k) :=
  ⟨_, c, by rw [List.length_drop, hn], by rw [List.length_drop, ← hn]; exact hc, row_drop hr k⟩

theorem has_row {w : World} {A : Option Addr} {n c : Nat} {l : List Tk} (h : Has w (.slice A n c) l) : n = l.length ∧ n ≤ c ∧ Row w w.heap.size A (tks l) := by
  obtain ⟨A', c', e, h1, h2⟩ := h.is
  injection e with e1 e2 e3
  subst e1 e2 e3
  exact ⟨rfl, h1, h2⟩

abbrev FBox (W : World) (f L : Nat) (w : World) : Prop := Below W.heap.size W w ∧ w.cell? ⟨f, 0, none⟩ = some (.int .i64 3) ∧ w.cell? ⟨f, 1, none⟩ = some (.string ⟨#[]⟩) ∧ w.cell? ⟨f, 2, none⟩ = some (.int .i64 0) ∧ w.cell? ⟨f, 3, none⟩ = some (.int .i64 L)
theorem FBox.keep {W w w1 : World} {f L : Nat} (hf : f < W.heap.size) (h : FBox W f L w) (b : Below w.heap.size w w1) : FBox W f L w1 := by
  have hl : f < w.heap.size := Nat.lt_of_lt_of_le hf h.1.size
  exact ⟨next_below h.1 b, (b.cell (p := ⟨f, 0, none⟩) hl).trans h.2.1, (b.cell (p := ⟨f, 1, none⟩) hl).trans h.2.2.1, (b.cell (p := ⟨f, 2, none⟩) hl).trans h.2.2.2.1, (b.cell (p := ⟨f, 3, none⟩) hl).trans h.2.2.2.2⟩

theorem joins_end {W W5 w : World} (h : Below W.heap.size W W5) (b : Below W5.heap.size W5 w) : Below W.heap.size W w := next_below h b

/-- What the sources with an LF between them give. -/
theorem joins_bad {a b : List UInt8} {x : List Tk} {er k : Nat} (ha : lexP a 1 = .ok x) (hb : lexP b 1 = .bad er k) : ∃ init L, x = init ++ [fin L] ∧ lexP (a ++ 10 :: b) 1 = .bad er (k + L) := by
  obtain ⟨init, L, rfl, hL⟩ := lexP_last _ _ _ ha
  refine ⟨init, L, rfl, ?_⟩
  rw [lexP_lf b a 1 init L ha, Nat.add_comm L 1, lexP_shift, hb]
  rfl
theorem joins_ok {a b : List UInt8} {x y : List Tk} (ha : lexP a 1 = .ok x) (hb : lexP b 1 = .ok y) : ∃ init L, x = init ++ [fin L] ∧ lexP (a ++ 10 :: b) 1 = .ok (init ++ ⟨3, [], 0, L⟩ :: y.map (up L)) ∧ 1 ≤ y.length := by
  obtain ⟨init, L, rfl, hL⟩ := lexP_last _ _ _ ha
  obtain ⟨i2, L2, rfl, _⟩ := lexP_last _ _ _ hb
  refine ⟨init, L, rfl, ?_, by simp⟩
  rw [lexP_lf b a 1 init L ha, Nat.add_comm L 1, lexP_shift, hb]
  rfl

theorem lexP_errline : ∀ a line, ∀ e k, lexP a line = .bad e k → k ≤ line + a.length := by
  refine lexP_ind (fun line e k h => ?_) (fun c r line hw ih e k h => ?_) (fun r line ih e k h => ?_) (fun c r line e hw h35 ht e' k h => ?_) (fun c r line kind text n rest hw h35 ht ih e k h => ?_)
  · rw [lexP_nil] at h
    cases h
  · rw [lexP_white hw] at h
    have := ih e k h
    simp only [List.length_cons]
    omega
  · rw [lexP_note] at h
    have := ih e k h
    have := drop_len no10 r
    simp only [List.length_cons]
    omega
  · rw [lexP_bad hw h35 ht] at h
    cases h
    omega
  · rw [lexP_got hw h35 ht] at h
    cases hr : lexP rest (nxt kind line) with
    | ok l => rw [hr] at h; cases h
    | bad e2 k2 =>
      rw [hr] at h
      cases h
      have := ih e k hr
      have := tok_len ht
      have hn : nxt kind line ≤ line + 1 := by unfold nxt; split <;> omega
      simp only [List.length_cons]
      omega

set_option maxRecDepth 8000 in
set_option maxHeartbeats 4000000 in
theorem joins_law (a b : ByteArray) (W : World) :
    Calls Tryd.prog 5 #[.string a, .string b] W fun e w' => e = .returned (.bool true) ∧ Below W.heap.size W w' := by
  by_cases ha : a.size ≤ 5000
  case neg =>
    have g1 : (5000 : Int) < (a.size : Int) := by omega
    go_enter Tryd.func5, Tryd.ntmps5
    go_wp2_with (go_at_call 8; refine (small_any _).mono ?_; rintro e w0 ⟨rfl, b0⟩; have B0 := Lib.hid b0; clear b0)
    go_ret
    exact ⟨rfl, B0.out⟩
  by_cases hb : b.size ≤ 5000
  case neg =>
    have g0 : ¬ (5000 : Int) < (a.size : Int) := by omega
    have g1 : (5000 : Int) < (b.size : Int) := by omega
    go_enter Tryd.func5, Tryd.ntmps5
    go_wp2_with (go_at_call 8; refine (small_any _).mono ?_; rintro e w0 ⟨rfl, b0⟩; have B0 := Lib.hid b0; clear b0)
    go_ret
    exact ⟨rfl, B0.out⟩
  have g0 : ¬ (5000 : Int) < (a.size : Int) := by omega
  have g1 : ¬ (5000 : Int) < (b.size : Int) := by omega
  have hpa : ∀ w, Calls Tryd.prog 9 #[.string a] w (LPost w (lexP (bl a) 1)) := fun w => by
    have := lex_any (bl a) w (by rw [bl_len]; omega)
    rw [str_bl, lexAll_small (by rw [bl_len]; omega)] at this
    exact this
  have hpb : ∀ w, Calls Tryd.prog 9 #[.string b] w (LPost w (lexP (bl b) 1)) := fun w => by
    have := lex_any (bl b) w (by rw [bl_len]; omega)
    rw [str_bl, lexAll_small (by rw [bl_len]; omega)] at this
    exact this
  have hcat : bl (a ++ ⟨#[10]⟩ ++ b) = bl a ++ 10 :: bl b := by
    rw [bl_cat, bl_cat, show bl ⟨#[10]⟩ = [10] from rfl]
    simp only [List.append_assoc, List.singleton_append]
  have hpc : ∀ w, Calls Tryd.prog 9 #[.string (a ++ ⟨#[10]⟩ ++ b)] w (LPost w (lexP (bl a ++ 10 :: bl b) 1)) := fun w => by
    have hl : (bl (a ++ ⟨#[10]⟩ ++ b)).length ≤ 20000 := by
      rw [hcat]
      simp only [List.length_append, List.length_cons, bl_len]
      omega
    have := lex_any (bl (a ++ ⟨#[10]⟩ ++ b)) w (by omega)
    rw [str_bl, lexAll_small hl, hcat] at this
    exact this
  cases hx : lexP (bl a) 1 with
  | bad er k =>
    rw [hx] at hpa
    have HA := Lib.hid hpa
    obtain ⟨er2, k2, l2, hform, _, _⟩ := lpost_form (bl b)
    have HB : Hid (∀ w, Calls Tryd.prog 9 #[.string b] w fun e w' => Below w.heap.size w w' ∧ ∃ v, e = .returned (.tuple #[v, .int .i64 er2, .int .i64 k2]) ∧ Has w' v l2) := Lib.hid fun w => (lex_any (bl b) w (by rw [bl_len]; omega)).mono (hform w)
    have her := (lexP_err _ _ _ _ hx).1
    clear hpa hpb hpc hcat hx hform
    rcases her with rfl | rfl
    · go_enter Tryd.func5, Tryd.ntmps5
      go_wp2_with (first
        | (go_at_call 9; have bp := B1.out; refine (HB.out _).mono ?_; rintro e w2 ⟨b2, v2, rfl, x2⟩; have B2 := Lib.hid (next_below bp b2); clear b2 bp)
        | (go_at_call 9; have bp := B0.out; refine (HA.out _).mono ?_; rintro e w1 ⟨b1, rfl⟩; have B1 := Lib.hid (next_below bp b1); clear b1 bp)
        | (go_at_call 8; refine (small_any _).mono ?_; rintro e w0 ⟨rfl, b0⟩; have B0 := Lib.hid b0; clear b0))
      go_ret
      exact ⟨rfl, B2.out⟩
    · go_enter Tryd.func5, Tryd.ntmps5
      go_wp2_with (first
        | (go_at_call 9; have bp := B1.out; refine (HB.out _).mono ?_; rintro e w2 ⟨b2, v2, rfl, x2⟩; have B2 := Lib.hid (next_below bp b2); clear b2 bp)
        | (go_at_call 9; have bp := B0.out; refine (HA.out _).mono ?_; rintro e w1 ⟨b1, rfl⟩; have B1 := Lib.hid (next_below bp b1); clear b1 bp)
        | (go_at_call 8; refine (small_any _).mono ?_; rintro e w0 ⟨rfl, b0⟩; have B0 := Lib.hid b0; clear b0))
      go_ret
      exact ⟨rfl, B2.out⟩
  | ok x =>
    obtain ⟨hxs, hxl⟩ := lexP_short (by rw [bl_len]; omega) (by omega) hx
    cases hy : lexP (bl b) 1 with
    | bad er k =>
      obtain ⟨init, L, rfl, hz⟩ := joins_bad hx hy
      rw [hx] at hpa
      rw [hy] at hpb
      rw [hz] at hpc
      have HA := Lib.hid hpa
      have HB := Lib.hid hpb
      have HC := Lib.hid hpc
      have her := (lexP_err _ _ _ _ hy).1
      have hml : (init ++ [fin L]).length = init.length + 1 := by simp
      have hme : (init ++ [fin L])[init.length]? = some (fin L) := by simp
      have hxs1 := hxs.1
      have hL : L ≤ 1000000 := hxl (fin L) (by simp)
      have hk : k ≤ 1000000 := by have := lexP_errline _ _ _ _ hy; rw [bl_len] at this; omega
      clear hpa hpb hpc hcat hx hy hz hxs hxl
      generalize init.length = m at hml hme
      generalize init ++ [fin L] = x at hml hme HA hxs1
      rw [hml] at hxs1
      rcases her with rfl | rfl
      · go_enter Tryd.func5, Tryd.ntmps5
        go_upto_region 9 with (first
          | (go_at_call 9; have bp := B2.out; refine (HC.out _).mono ?_; rintro e w3 ⟨b3, rfl⟩; have B3 := Lib.hid (next_below bp b3); have B13 := Lib.hid (next_below B12.out b3); have X3 := Lib.hid (X2.out.keep b3); clear b3 bp)
          | (go_at_call 9; have bp := B1.out; refine (HB.out _).mono ?_; rintro e w2 ⟨b2, rfl⟩; have B2 := Lib.hid (next_below bp b2); have B12 := Lib.hid b2; have X2 := Lib.hid (X1.out.keep b2); clear b2 bp)
          | (go_at_call 9; have bp := B0.out; refine (HA.out _).mono ?_; rintro e w1 ⟨b1, v1, rfl, x1⟩; have B1 := Lib.hid (next_below bp b1); have X1 := Lib.hid x1; clear b1 bp x1; obtain ⟨gx, ox, cx, rfl, hcx, hgx, hrx⟩ := has_open X1.out (by rw [hml]; omega); rw [hml] at hcx)
          | (go_at_call 8; refine (small_any _).mono ?_; rintro e w0 ⟨rfl, b0⟩; have B0 := Lib.hid b0; clear b0))
        have hrx3 := hrx.lift (B13.out)
        obtain ⟨b', o', e1, _, _, _, _, j3⟩ := row_tk hrx3 hme
        cases e1
        have j3' : w3.cell? ⟨gx, ox + m * 4 + 3, none⟩ = some (.int .i64 L) := j3
        clear j3 hrx hrx3
        go_wp2_with fail
        go_ret
        exact ⟨rfl, B3.out⟩
      · go_enter Tryd.func5, Tryd.ntmps5
        go_upto_region 9 with (first
          | (go_at_call 9; have bp := B2.out; refine (HC.out _).mono ?_; rintro e w3 ⟨b3, rfl⟩; have B3 := Lib.hid (next_below bp b3); have B13 := Lib.hid (next_below B12.out b3); have X3 := Lib.hid (X2.out.keep b3); clear b3 bp)
          | (go_at_call 9; have bp := B1.out; refine (HB.out _).mono ?_; rintro e w2 ⟨b2, rfl⟩; have B2 := Lib.hid (next_below bp b2); have B12 := Lib.hid b2; have X2 := Lib.hid (X1.out.keep b2); clear b2 bp)
          | (go_at_call 9; have bp := B0.out; refine (HA.out _).mono ?_; rintro e w1 ⟨b1, v1, rfl, x1⟩; have B1 := Lib.hid (next_below bp b1); have X1 := Lib.hid x1; clear b1 bp x1; obtain ⟨gx, ox, cx, rfl, hcx, hgx, hrx⟩ := has_open X1.out (by rw [hml]; omega); rw [hml] at hcx)
          | (go_at_call 8; refine (small_any _).mono ?_; rintro e w0 ⟨rfl, b0⟩; have B0 := Lib.hid b0; clear b0))
        have hrx3 := hrx.lift (B13.out)
        obtain ⟨b', o', e1, _, _, _, _, j3⟩ := row_tk hrx3 hme
        cases e1
        have j3' : w3.cell? ⟨gx, ox + m * 4 + 3, none⟩ = some (.int .i64 L) := j3
        clear j3 hrx hrx3
        go_wp2_with fail
        go_ret
        exact ⟨rfl, B3.out⟩
    | ok y =>
      obtain ⟨hys, hyl⟩ := lexP_short (by rw [bl_len]; omega) (by omega) hy
      obtain ⟨init, L, rfl, hz, hy1⟩ := joins_ok hx hy
      rw [hx] at hpa
      rw [hy] at hpb
      rw [hz] at hpc
      have HA := Lib.hid hpa
      have HB := Lib.hid hpb
      have HC := Lib.hid hpc
      have hml : (init ++ [fin L]).length = init.length + 1 := by simp
      have hme : (init ++ [fin L])[init.length]? = some (fin L) := by simp
      have hzl : (init ++ ⟨3, [], 0, L⟩ :: y.map (up L)).length = init.length + 1 + y.length := by simp; omega
      have hzm : (init ++ ⟨3, [], 0, L⟩ :: y.map (up L))[init.length]? = some ⟨3, [], 0, L⟩ := by simp
      have hxt : (init ++ [fin L]).take init.length = init := by simp
      have hzt : (init ++ ⟨3, [], 0, L⟩ :: y.map (up L)).take init.length = init := by simp
      have hzd : (init ++ ⟨3, [], 0, L⟩ :: y.map (up L)).drop (init.length + 1) = y.map (up L) := by simp
      have hxs1 := hxs.1
      have hys1 := hys.1
      have hL : L ≤ 1000000 := hxl (fin L) (by simp)
      have hil : ∀ t ∈ init, t.line ≤ 1000000 := fun t ht => hxl t (by simp [ht])
      have HS1 : Hid (∀ va vb w, Has w va init → Has w vb init → Calls Tryd.prog 11 #[va, vb, .int .i64 0] w fun e w' => e = .returned (.bool true) ∧ Below w.heap.size w w') := Lib.hid fun va vb w ha hb => by
        have := same9_any va vb init init 0 w ha hb (by rw [hml] at hxs1; omega) (by rw [hml] at hxs1; omega) (by omega) hil
        rw [up_zero, decide_eq_true rfl] at this
        exact this
      have HS2 : Hid (∀ va vb w, Has w va (y.map (up L)) → Has w vb y → Calls Tryd.prog 11 #[va, vb, .int .i64 L] w fun e w' => e = .returned (.bool true) ∧ Below w.heap.size w w') := Lib.hid fun va vb w ha hb => by
        have := same9_any va vb (y.map (up L)) y L w ha hb (by rw [List.length_map]; omega) (by omega) hL hyl
        rw [decide_eq_true rfl] at this
        exact this
      have HN1 : ∀ w, (binOp .eql 31 (.agg #[.int .i64 3, .string ⟨#[]⟩, .int .i64 0, .int .i64 L]) (.agg #[.int .i64 3, .string ⟨#[]⟩, .int .i64 0, .int .i64 L])).run Tryd.prog w = .ok (.bool true) w := fun w => by
        have := eql_tk ⟨3, [], 0, L⟩ ⟨3, [], 0, L⟩ w
        rw [decide_eq_true rfl] at this
        exact this
      have HXT := Lib.hid hxt
      have HZT := Lib.hid hzt
      have HZD := Lib.hid hzd
      rw [hml] at hxs1
      clear hpa hpb hpc hcat hx hy hz hxs hxl hys hyl hil hxt hzt hzd
      generalize y.map (up L) = yu at HS2 HZD hzl hzm HZT HC
      generalize hm : init.length = m at hml hme hzl hzm HXT HZT HZD hxs1
      generalize init ++ [fin L] = x at hml hme HA HXT
      generalize init ++ ⟨3, [], 0, L⟩ :: yu = Z at hzl hzm HC HZT HZD
      have HM := Lib.hid hm
      clear hm
      go_enter Tryd.func5, Tryd.ntmps5
      go_upto_region 9 with (first
        | (go_at_call 9; have bp := B2.out; refine (HC.out _).mono ?_; rintro e w3 ⟨b3, v3, rfl, z3⟩; have B3 := Lib.hid (next_below bp b3); have X3 := Lib.hid (X2.out.keep b3); have Y3 := Lib.hid (Y2.out.keep b3); have Z3 := Lib.hid z3; clear b3 bp z3)
        | (go_at_call 9; have bp := B1.out; refine (HB.out _).mono ?_; rintro e w2 ⟨b2, v2, rfl, y2⟩; have B2 := Lib.hid (next_below bp b2); have X2 := Lib.hid (X1.out.keep b2); have Y2 := Lib.hid y2; clear b2 bp y2; obtain ⟨gy, oy, cy, rfl, hcy, _⟩ := has_open Y2.out hy1)
        | (go_at_call 9; have bp := B0.out; refine (HA.out _).mono ?_; rintro e w1 ⟨b1, v1, rfl, x1⟩; have B1 := Lib.hid (next_below bp b1); have X1 := Lib.hid x1; clear b1 bp x1; obtain ⟨gx, ox, cx, rfl, hcx, _⟩ := has_open X1.out (by rw [hml]; omega); rw [hml] at X1 ⊢)
        | (go_at_call 8; refine (small_any _).mono ?_; rintro e w0 ⟨rfl, b0⟩; have B0 := Lib.hid b0; clear b0))
      obtain ⟨gz, oz, cz, rfl, hcz, hgz, hrz⟩ := has_open Z3.out (by rw [hzl]; omega)
      rw [hzl] at hcz ⊢
      have hrx := (has_row X3.out).2.2
      obtain ⟨b', o', e1, hgx, _, _, _, j3⟩ := row_tk hrx hme
      cases e1
      obtain ⟨b', o', e1, _, z0, z1, z2, z3⟩ := row_tk hrz hzm
      cases e1
      have j3' : w3.cell? ⟨gx, ox + m * 4 + 3, none⟩ = some (.int .i64 L) := j3
      have z0' : w3.cell? ⟨gz, oz + m * 4, none⟩ = some (.int .i64 3) := z0
      have z1' : w3.cell? ⟨gz, oz + m * 4 + 1, none⟩ = some (.string ⟨#[]⟩) := z1
      have z2' : w3.cell? ⟨gz, oz + m * 4 + 2, none⟩ = some (.int .i64 0) := z2
      have z3' : w3.cell? ⟨gz, oz + m * 4 + 3, none⟩ = some (.int .i64 L) := z3
      clear j3 z0 z1 z2 z3
      have hcx := (has_row X3.out).2.1
      have hcy := (has_row Y3.out).2.1
      have HHX := Lib.hid hrx
      have HHZ := Lib.hid hrz
      clear hrx hrz
      go_upto_region 15 with (fail)
      have HX3r := Lib.hid (fun k (hk : k ≤ x.length) (hk2 : k ≤ cx) w' (b : Below w3.heap.size w3 w') => (has_take HHX.out hk hk2).keep b)
      have HZ3r := Lib.hid (fun k (hk : k ≤ Z.length) (hk2 : k ≤ cz) w' (b : Below w3.heap.size w3 w') => (has_take HHZ.out hk hk2).keep b)
      have HZ3d := Lib.hid (fun n c (hn : n = Z.length - (m + 1)) (hc : n ≤ c) w' (b : Below w3.heap.size w3 w') => (has_drop (k := m + 1) HHZ.out hn hc).keep b)
      have HY3r := Lib.hid (fun w' (b : Below w3.heap.size w3 w') => Y3.out.keep b)
      have hf0 := Blk.fresh w3 31 #[.int .i64 3, .string ⟨#[]⟩, .int .i64 0, .int .i64 L]
      have hba : Below w3.heap.size w3 (w3.alloc (.cells #[.int .i64 3, .string ⟨#[]⟩, .int .i64 0, .int .i64 L] 31)) := (Below.refl _ _).alloc (Nat.le_refl _) _
      have HB5 := Lib.hid (next_below B3.out hba)
      generalize w3.alloc (.cells #[.int .i64 3, .string ⟨#[]⟩, .int .i64 0, .int .i64 L] 31) = W5 at hf0 hba HB5 ⊢
      have s0 := hf0.at 0
      have s1 := hf0.at 1
      have s2 := hf0.at 2
      have s3 := hf0.at 3
      have HBA := Lib.hid hba
      have hflt := hf0.inside
      have HFB : Hid (FBox W5 w3.heap.size L W5.drew) := Lib.hid ⟨(Below.refl _ _).drew, s0, s1, s2, s3⟩
      have HFL := Lib.hid hflt
      clear s0 s1 s2 s3 hf0 hba hflt z0' z1' z2' z3' j3' hgx hgz
      have HSA : Hid (∀ w', FBox W5 w3.heap.size L w' → Calls Tryd.prog 11 #[.slice (some ⟨gz, oz, none⟩) m cz, .slice (some ⟨gx, ox, none⟩) m cx, .int .i64 0] w' fun e w'' => e = .returned (.bool true) ∧ Below w'.heap.size w' w'') := Lib.hid fun w' fb => by
        have h1 := HZ3r.out m (by rw [hzl]; omega) (by omega) w' (next_below HBA.out fb.1)
        have h2 := HX3r.out m (by rw [hml]; omega) (by omega) w' (next_below HBA.out fb.1)
        rw [HZT.out] at h1
        rw [HXT.out] at h2
        exact HS1.out _ _ _ h1 h2
      have HSB : Hid (∀ w', FBox W5 w3.heap.size L w' → Calls Tryd.prog 11 #[.slice (some ⟨gz, oz + (m + 1) * 4, none⟩) y.length (cz - (m + 1)), .slice (some ⟨gy, oy, none⟩) y.length cy, .int .i64 L] w' fun e w'' => e = .returned (.bool true) ∧ Below w'.heap.size w' w'') := Lib.hid fun w' fb => by
        have h1 := HZ3d.out y.length (cz - (m + 1)) (by rw [hzl]; omega) (by omega) w' (next_below HBA.out fb.1)
        have h2 := HY3r.out w' (next_below HBA.out fb.1)
        rw [HZD.out] at h1
        exact HS2.out _ _ _ h1 h2
      clear HZ3r HX3r HZ3d HY3r HZT HXT HZD HS1 HS2 HHX HHZ X3 Y3 Z3 HBA hzm hme
      generalize w3.heap.size = F at HFB HFL HSA HSB ⊢
      have hw1 : IntKind.i64.wrap ((m : Int) + 1 - 1) = (m : Int) := by rw [IntWalk.i64_in _ (by omega)]; omega
      have hw2 : IntKind.i64.wrap (m : Int) = (m : Int) := IntWalk.i64_in _ (by omega)
      have hb1 : (0 : Int) ≤ (m : Int) ∧ (m : Int) ≤ (cz : Int) ∧ (m : Int) ≤ (cx : Int) ∧ (m : Int) + 1 ≤ (m : Int) + 1 + (y.length : Int) ∧ (m : Int) + 1 + (y.length : Int) ≤ (cz : Int) ∧ (m : Int) + 1 ≤ (cz : Int) ∧ (0 : Int) ≤ (m : Int) + 1 := by omega
      have hb2 : ¬ cz = m + 1 := by omega
      go_region_held3 (fun w' => Below W5.heap.size W5 w' ∧ w'.cell? ⟨F, 0, none⟩ = some (.int .i64 3) ∧ w'.cell? ⟨F, 1, none⟩ = some (.string ⟨#[]⟩) ∧ w'.cell? ⟨F, 2, none⟩ = some (.int .i64 0) ∧ w'.cell? ⟨F, 3, none⟩ = some (.int .i64 L)) (first | exact HFB.out | exact FBox.keep HFL.out ‹_› ‹_› | go_keep)
        (first
          | (go_at_call 11; ((with_reducible refine (HSA.out _ (by first | exact HFB.out | assumption)).mono ?_); rintro e w6 ⟨rfl, b6⟩))
          | (go_at_call 11; ((with_reducible refine (HSB.out _ (by assumption)).mono ?_); rintro e w7 ⟨rfl, b7⟩)))
      go_wp2_with fail
      go_ret
      exact ⟨rfl, joins_end HB5.out (And.left (by assumption))⟩
end Lx
end Go.Proofs.YtjgaghapjlmcpaaDoor

/- LexBack: the walk. -/
import Derived.Test.YtjgaghapjlmcpaaDoorLwH
import Derived.Deep.RegionHeld3
import Derived.Deep.DeepCutAuto
namespace Go.Proofs.YtjgaghapjlmcpaaDoor
open Go.RowKit Wire Txt
set_option linter.unusedVariables false
set_option linter.unusedSimpArgs false
namespace Lx

theorem row_open {w : World} {A : Option Addr} {n c : Nat} {l : List Tk} (h : Has w (.slice A n c) l) : n = l.length ∧ n ≤ c ∧ Row w w.heap.size A (tks l) := by
  obtain ⟨A', c', e, h1, h2⟩ := h.is
  injection e with e1 e2 e3
  subst e1 e2 e3
  exact ⟨rfl, h1, h2⟩
structure BRel (W : World) (A : Option Addr) (l : List Tk) (lv iv : Value) (w : World) (i L : Nat) : Prop where
  iv : iv = .int .i64 i
  lv : lv = .int .i64 L
  row : Row w w.heap.size A (tks l)
  le : i ≤ l.length
  line : L ≤ i + 1
  fine : Hid (i < l.length → Fine L (l.drop i))
  below : Below W.heap.size W w
theorem BRel.next {W w w1 : World} {A : Option Addr} {l : List Tk} {i L L2 : Nat} (h : BRel W A l (.int .i64 L) (.int .i64 i) w i L) (b : Below w.heap.size w w1) (hlt : i < l.length) (hL : L2 ≤ L + 1) (hf : i + 1 < l.length → Fine L2 (l.drop (i + 1))) (lv : Value) (hlv : lv = .int .i64 L2) :
    BRel W A l lv (.int .i64 ((i : Int) + 1)) w1 (i + 1) L2 :=
  ⟨rfl, hlv, h.row.lift b, hlt, by have := h.line; omega, Lib.hid hf, next_below h.below b⟩
theorem fine_at {l : List Tk} {i L : Nat} {t : Tk} (ht : l[i]? = some t) (h : Fine L (l.drop i)) : (i + 1 = l.length ∧ t = fin L) ∨ (i + 1 < l.length ∧ t.line = L ∧ t.kind < 4 ∧ (t.kind ≠ 1 → t.n = 0) ∧ (t.kind = 0 → word t.text = true) ∧ (t.kind = 1 → 0 ≤ t.n ∧ t.n ≤ 9223372036854775807 ∧ decI t.n = t.text) ∧ Fine (nxt t.kind L) (l.drop (i + 1))) := by
  obtain ⟨hi, rfl⟩ := List.getElem?_eq_some_iff.1 ht
  rw [List.drop_eq_getElem_cons hi] at h
  cases hr : l.drop (i + 1) with
  | nil =>
    rw [hr] at h
    have hl := congrArg List.length hr
    rw [List.length_drop, List.length_nil] at hl
    exact .inl ⟨by omega, h⟩
  | cons u r =>
    rw [hr] at h
    have hl := congrArg List.length hr
    rw [List.length_drop, List.length_cons] at hl
    obtain ⟨h1, h2, h3, h4, h5, h6⟩ := h
    exact .inr ⟨by omega, h1, h2, h3, h4, h5, h6⟩
abbrev DBox (W : World) (f : Nat) (x : ByteArray) (n : Int) (w : World) : Prop := Below W.heap.size W w ∧ w.cell? ⟨f, 1, none⟩ = some (.string x) ∧ w.cell? ⟨f, 2, none⟩ = some (.int .i64 n)
theorem DBox.keep {W w w1 : World} {f : Nat} {x : ByteArray} {n : Int} (hf : f < W.heap.size) (h : DBox W f x n w) (b : Below w.heap.size w w1) : DBox W f x n w1 := by
  have hl : f < w.heap.size := Nat.lt_of_lt_of_le hf h.1.size
  exact ⟨next_below h.1 b, (b.cell (p := ⟨f, 1, none⟩) hl).trans h.2.1, (b.cell (p := ⟨f, 2, none⟩) hl).trans h.2.2⟩
theorem alloc_b (w : World) (o : Obj) : Below w.heap.size w (w.alloc o) := (Below.refl _ _).alloc (Nat.le_refl _) _
theorem alloc_n {w w1 : World} {o : Obj} (b : Below (w.alloc o).heap.size (w.alloc o) w1) : Below w.heap.size w w1 := next_below (alloc_b w o) b

set_option maxRecDepth 8000 in
set_option maxHeartbeats 4000000 in
theorem back_law (s : ByteArray) (W : World) :
    Calls Tryd.prog 4 #[.string s] W fun e w' => e = .returned (.bool true) ∧ Below W.heap.size W w' := by
  by_cases hs : s.size ≤ 5000
  case neg =>
    have g1 : (5000 : Int) < (s.size : Int) := by omega
    go_enter Tryd.func4, Tryd.ntmps4
    go_wp2_with (go_at_call 8; refine (small_any _).mono ?_; rintro e w0 ⟨rfl, b0⟩; have B0 := Lib.hid b0; clear b0)
    go_ret
    exact ⟨rfl, B0.out⟩
  have g1 : ¬ (5000 : Int) < (s.size : Int) := by omega
  have hpa : ∀ w, Calls Tryd.prog 9 #[.string s] w (LPost w (lexP (bl s) 1)) := fun w => by
    have := lex_any (bl s) w (by rw [bl_len]; omega)
    rw [str_bl, lexAll_small (by rw [bl_len]; omega)] at this
    exact this
  cases hx : lexP (bl s) 1 with
  | bad er k =>
    rw [hx] at hpa
    have HA := Lib.hid hpa
    have her := (lexP_err _ _ _ _ hx).1
    have hk := (lexP_err _ _ _ _ hx).2
    clear hpa hx
    rcases her with rfl | rfl
    · go_enter Tryd.func4, Tryd.ntmps4
      go_wp2_with (first
        | (go_at_call 9; refine (HA.out _).mono ?_; rintro e w1 ⟨b1, rfl⟩; have B1 := Lib.hid (next_below B0.out b1); clear b1)
        | (go_at_call 8; refine (small_any _).mono ?_; rintro e w0 ⟨rfl, b0⟩; have B0 := Lib.hid b0; clear b0))
      go_ret
      exact ⟨by show Ending.returned (.bool (decide ((1 : Int) ≤ (k : Int)))) = _; rw [decide_eq_true (show (1 : Int) ≤ (k : Int) by omega)], B1.out⟩
    · go_enter Tryd.func4, Tryd.ntmps4
      go_wp2_with (first
        | (go_at_call 9; refine (HA.out _).mono ?_; rintro e w1 ⟨b1, rfl⟩; have B1 := Lib.hid (next_below B0.out b1); clear b1)
        | (go_at_call 8; refine (small_any _).mono ?_; rintro e w0 ⟨rfl, b0⟩; have B0 := Lib.hid b0; clear b0))
      go_ret
      exact ⟨by show Ending.returned (.bool (decide ((1 : Int) ≤ (k : Int)))) = _; rw [decide_eq_true (show (1 : Int) ≤ (k : Int) by omega)], B1.out⟩
  | ok l =>
    obtain ⟨hxs, hxl⟩ := lexP_short (by rw [bl_len]; omega) (by omega) hx
    obtain ⟨hb1, hb2, hfine⟩ := lexP_back _ _ _ hx
    rw [bl_len] at hb2
    obtain ⟨u, hu⟩ := mk_bl (wrP l)
    have hul : u.size ≤ 10000 := by rw [← bl_len, hu]; omega
    rw [hx] at hpa
    have HA := Lib.hid hpa
    have HW : Hid (∀ v w, Has w v l → Calls Tryd.prog 12 #[v] w fun e w' => e = .returned (.string u) ∧ Below w.heap.size w w') := Lib.hid fun v w hv => by
      have := write_any v l w hv hxs
      rw [← hu, str_bl] at this
      exact this
    have HC : Hid (∀ w, Calls Tryd.prog 9 #[.string u] w (LPost w (.ok l))) := Lib.hid fun w => by
      have := lex_any (bl u) w (by rw [bl_len]; omega)
      rw [str_bl, lexAll_small (by rw [bl_len]; omega), hu, hb1] at this
      exact this
    have HS : Hid (∀ va vb w, Has w va l → Has w vb l → Calls Tryd.prog 11 #[va, vb, .int .i64 0] w fun e w' => e = .returned (.bool true) ∧ Below w.heap.size w w') := Lib.hid fun va vb w ha hb => by
      have := same9_any va vb l l 0 w ha hb (by have := hxs.1; omega) (by have := hxs.1; omega) (by omega) hxl
      rw [up_zero, decide_eq_true rfl] at this
      exact this
    have HSH := Lib.hid hxs.2
    have hxs1 := hxs.1
    have hl0 : 0 < l.length := List.length_pos_iff.2 (fine_ne hfine)
    have hl0' : ((l.length : Int) == 0) = false := beq_eq_false_iff_ne.2 (by omega)
    have HF := Lib.hid hfine
    clear hpa hx hxs hxl hb1 hb2 hu hul hfine
    go_enter Tryd.func4, Tryd.ntmps4
    go_wp2_with (first
      | (go_at_call 11; refine (HS.out _ _ _ Z3.out X3.out).mono ?_; rintro e w4 ⟨rfl, b4⟩; have B4 := Lib.hid (next_below B3.out b4); have X4 := Lib.hid (X3.out.keep b4); clear b4)
      | (go_at_call 9; have bp := B2.out; refine (HC.out _).mono ?_; rintro e w3 ⟨b3, v3, rfl, z3⟩; have B3 := Lib.hid (next_below bp b3); have X3 := Lib.hid (X2.out.keep b3); have Z3 := Lib.hid z3; clear b3 bp z3)
      | (go_at_call 12; refine (HW.out _ _ X1.out).mono ?_; rintro e w2 ⟨rfl, b2⟩; have B2 := Lib.hid (next_below B1.out b2); have X2 := Lib.hid (X1.out.keep b2); clear b2)
      | (go_at_call 9; refine (HA.out _).mono ?_; rintro e w1 ⟨b1, v1, rfl, x1⟩; have B1 := Lib.hid (next_below B0.out b1); have X1 := Lib.hid x1; clear b1 x1; obtain ⟨Ax, cx, rfl, hcx, _⟩ := X1.out.is)
      | (go_at_call 8; refine (small_any _).mono ?_; rintro e w0 ⟨rfl, b0⟩; have B0 := Lib.hid b0; clear b0))
    have hr4 := (row_open X4.out).2.2
    go_loopw [2, 10, 11, 12, 100, 101, 107, 120] (fun _ lv iv _ _ _ _ _ wr => ∃ i L, BRel W Ax l lv iv wr i L) (fun _ _ iv _ _ _ _ _ _ => l.length - (intOf iv).toNat)
    case atStart => exact ⟨0, 1, rfl, rfl, hr4, Nat.zero_le _, by omega, Lib.hid (fun _ => HF.out), B4.out⟩
    case round =>
      obtain ⟨i, L, hR⟩ := hrel
      obtain rfl := hR.iv
      obtain rfl := hR.lv
      have HR := Lib.hid hR
      have hle := hR.le
      have hline := hR.line
      clear hR hr4
      by_cases hlt : i < l.length
      · obtain ⟨t, ht⟩ : ∃ t, l[i]? = some t := ⟨_, List.getElem?_eq_getElem hlt⟩
        obtain ⟨b, o', rfl, hb, k0, k1, k2, k3⟩ := row_tk HR.out.row ht
        rcases fine_at ht (HR.out.fine.out hlt) with ⟨hi1, rfl⟩ | ⟨hi1, hf1, hf2, hf3, hf4, hf5, hf6⟩
        · have q0 : wr.cell? ⟨b, o' + i * 4, none⟩ = some (.int .i64 4) := k0
          have q1 : wr.cell? ⟨b, o' + i * 4 + 1, none⟩ = some (.string ⟨#[]⟩) := k1
          have q2 : wr.cell? ⟨b, o' + i * 4 + 2, none⟩ = some (.int .i64 0) := k2
          have q3 : wr.cell? ⟨b, o' + i * 4 + 3, none⟩ = some (.int .i64 L) := k3
          have hil : ((i : Int) == (l.length : Int) - 1) = true := beq_iff_eq.2 (by omega)
          have HN : Hid (∀ o, BRel W (some ⟨b, o', none⟩) l (.int .i64 L) (.int .i64 ((i : Int) + 1)) (wr.alloc o) (i + 1) L) := Lib.hid fun o => HR.out.next (alloc_b wr o) hlt (by omega) (fun h => absurd h (by omega)) _ rfl
          clear k0 k1 k2 k3 hi1 ht
          go_wp2_with fail
          go_roundw
          case rel => exact ⟨_, _, HN.out _⟩
          case measure => simp [intOf]; omega
        · have hsh := HSH.out t (List.mem_of_getElem? ht)
          obtain ⟨kind, text, n, line⟩ := t
          obtain ⟨x, rfl⟩ := mk_bl text
          simp only at k0 k1 k2 k3 hf1 hf2 hf3 hf4 hf5 hf6 hsh
          rw [str_bl] at k1
          rw [bl_len] at hsh
          have hxs := hsh.1
          subst hf1
          have hil : ((i : Int) == (l.length : Int) - 1) = false := beq_eq_false_iff_ne.2 (by omega)
          have hk : kind = 0 ∨ kind = 1 ∨ kind = 2 ∨ kind = 3 := by omega
          clear hsh ht hf2 hi1
          rcases hk with rfl | rfl | rfl | rfl
          · have hw : word (bl x) = true := hf4 rfl
            have HWD : Hid (∀ w, Calls Tryd.prog 14 #[.string x] w fun e w' => e = .returned (.bool true) ∧ Below w.heap.size w w') := Lib.hid fun w => by
              have := word_any x w (by omega)
              rwa [hw] at this
            have HNN : Hid (∀ w1, Below wr.heap.size wr w1 → BRel W (some ⟨b, o', none⟩) l (.int .i64 line) (.int .i64 ((i : Int) + 1)) w1 (i + 1) line) := Lib.hid fun w1 b1 => HR.out.next (L2 := line) b1 hlt (by omega) (fun _ => hf6) _ rfl
            have q0 : wr.cell? ⟨b, o' + i * 4, none⟩ = some (.int .i64 0) := k0
            clear k0
            have q2 : wr.cell? ⟨b, o' + i * 4 + 2, none⟩ = some (.int .i64 0) := by rw [k2, hf3 (by decide)]
            clear k2
            clear hf3 hf4 hf5 hf6 hw
            go_wp2_with (first
              | (go_at_call 14; refine (HWD.out _).mono ?_; rintro e w5 ⟨rfl, b5⟩; have HN := Lib.hid (HNN.out _ (alloc_n b5)); clear b5))
            go_roundw
            case rel => exact ⟨_, _, HN.out⟩
            case measure => simp [intOf]; omega
          · obtain ⟨hn0, hn1, hdec⟩ := hf5 rfl
            have hxd : str (decI n) = .string x := by rw [hdec]
            have HD : Hid (∀ w, Calls Tryd.prog 16 #[.int .i64 n] w fun e w' => e = .returned (.string x) ∧ Below w.heap.size w w') := Lib.hid fun w => by
              have := decimal_any n ⟨by omega, hn1⟩ w
              rwa [hxd] at this
            have HNN : Hid (∀ w1, Below wr.heap.size wr w1 → BRel W (some ⟨b, o', none⟩) l (.int .i64 line) (.int .i64 ((i : Int) + 1)) w1 (i + 1) line) := Lib.hid fun w1 b1 => HR.out.next (L2 := line) b1 hlt (by omega) (fun _ => hf6) _ rfl
            have hnn : ¬ n < 0 := by omega
            have hnn2 : decide (n < 0) = false := decide_eq_false hnn
            have hxx : (!x.toList == x.toList) = false := by simp
            have q0 : wr.cell? ⟨b, o' + i * 4, none⟩ = some (.int .i64 1) := k0
            clear k0
            clear hf3 hf4 hf5 hf6 hdec hxd
            go_upto_region 22 with (fail)
            have hf0 := Blk.fresh wr 31 #[.int .i64 1, .string x, .int .i64 n, .int .i64 line]
            have HBA := Lib.hid (alloc_b wr (.cells #[.int .i64 1, .string x, .int .i64 n, .int .i64 line] 31))
            generalize wr.alloc (.cells #[.int .i64 1, .string x, .int .i64 n, .int .i64 line] 31) = W5 at hf0 HBA ⊢
            have HFL := Lib.hid hf0.inside
            have HFB : Hid (DBox W5 wr.heap.size x n W5.drew) := Lib.hid ⟨(Below.refl _ _).drew, hf0.at 1, hf0.at 2⟩
            clear hf0
            generalize hF : wr.heap.size = F at HFB HFL ⊢
            have HFE := Lib.hid hF
            clear hF
            go_region_held3 (fun w' => Below W5.heap.size W5 w' ∧ w'.cell? ⟨F, 1, none⟩ = some (.string x) ∧ w'.cell? ⟨F, 2, none⟩ = some (.int .i64 n)) (first | exact HFB.out | exact DBox.keep HFL.out ‹_› ‹_› | go_keep)
              (first
                | (go_at_call 16; refine (HD.out _).mono ?_; rintro e w6 ⟨rfl, b6⟩))
            have HN := Lib.hid (HNN.out _ (next_below HBA.out (And.left (by assumption))))
            go_wp2_with fail
            refine ⟨⟨_, _, HN.out⟩, ?_⟩
            simp [intOf]
            omega
          · have HN : Hid (∀ o, BRel W (some ⟨b, o', none⟩) l (.int .i64 line) (.int .i64 ((i : Int) + 1)) (wr.alloc o) (i + 1) line) := Lib.hid fun o => HR.out.next (L2 := line) (alloc_b wr o) hlt (by omega) (fun _ => hf6) _ rfl
            have q0 : wr.cell? ⟨b, o' + i * 4, none⟩ = some (.int .i64 2) := k0
            clear k0
            have q2 : wr.cell? ⟨b, o' + i * 4 + 2, none⟩ = some (.int .i64 0) := by rw [k2, hf3 (by decide)]
            clear k2
            clear hf3 hf4 hf5 hf6
            go_wp2_with fail
            go_roundw
            case rel => exact ⟨_, _, HN.out _⟩
            case measure => simp [intOf]; omega
          · have HN : Hid (∀ o, BRel W (some ⟨b, o', none⟩) l (.int .i64 ((line : Int) + 1)) (.int .i64 ((i : Int) + 1)) (wr.alloc o) (i + 1) (line + 1)) := Lib.hid fun o => HR.out.next (L2 := line + 1) (alloc_b wr o) hlt (by omega) (fun _ => hf6) _ rfl
            have q0 : wr.cell? ⟨b, o' + i * 4, none⟩ = some (.int .i64 3) := k0
            clear k0
            have q2 : wr.cell? ⟨b, o' + i * 4 + 2, none⟩ = some (.int .i64 0) := by rw [k2, hf3 (by decide)]
            clear k2
            clear hf3 hf4 hf5 hf6
            go_wp2_with fail
            go_roundw
            case rel => exact ⟨_, _, HN.out _⟩
            case measure => simp [intOf]; omega
      · obtain rfl : i = l.length := by omega
        go_wp2_with fail
        go_ret
        exact ⟨rfl, HR.out.below⟩
end Lx
end Go.Proofs.YtjgaghapjlmcpaaDoor

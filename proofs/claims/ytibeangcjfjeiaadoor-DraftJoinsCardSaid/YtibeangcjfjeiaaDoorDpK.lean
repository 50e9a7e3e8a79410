/- The parser's line. -/
import Derived.Test.YtibeangcjfjeiaaDoorDpJ
namespace Go.Proofs.YtibeangcjfjeiaaDoor
open Go.RowKit Txt Wire Lx
set_option linter.unusedVariables false
set_option maxRecDepth 100000
set_option linter.unusedSimpArgs false
namespace Drf

/-- What a line gives, with its end. -/
def lineS (d : Df) (t : Tk) (l : List Tk) : Nat × Nat ⊕ Df × List Tk :=
  if t.kind = 3 then .inr (d, l) else match lineR d t l with
    | .inl x => .inl x
    | .inr (d', []) => .inl (11, 0)
    | .inr (d', u :: r) => if u.kind = 3 then .inr (d', r) else if u.kind = 4 then .inr (d', u :: r) else .inl (11, u.line)
theorem lineR_item_is {d : Df} {t : Tk} {l : List Tk} {r : List Tk} {d' : Df} (h : lineR d t l = .inr (d', r)) (he : Ends l) : Ends r := line_ends h he
theorem parse_lineS {d : Df} {t : Tk} {l : List Tk} (h4 : t.kind ≠ 4) (he : Ends l) : parseT d (t :: l) = match lineS d t l with
    | .inl (e, L) => .bad e L
    | .inr (d', r) => parseT d' r := by
  unfold lineS
  by_cases h3 : t.kind = 3
  · rw [if_pos h3]
    exact parse_lf h3
  · rw [if_neg h3]
    cases hl : lineR d t l with
    | inl x =>
      obtain ⟨e, L⟩ := x
      exact parse_bad h3 h4 hl
    | inr x =>
      obtain ⟨d', r⟩ := x
      cases r with
      | nil => exact absurd rfl (line_ends hl he).ne
      | cons u r =>
        by_cases hu3 : u.kind = 3
        · simp only [if_pos hu3]
          rw [parse_line h3 h4 hl (by unfold stop; rw [hu3]; rfl), parse_lf hu3]
        · by_cases hu4 : u.kind = 4
          · simp only [if_neg hu3, if_pos hu4]
            exact parse_line h3 h4 hl (by unfold stop; rw [hu4]; rfl)
          · simp only [if_neg hu3, if_neg hu4]
            exact parse_more h3 h4 hl (by unfold stop; simp [hu3, hu4])
theorem lineS_ends {d d' : Df} {t : Tk} {l r : List Tk} (h : lineS d t l = .inr (d', r)) (he : Ends l) : Ends r := by
  unfold lineS at h
  by_cases h3 : t.kind = 3
  · rw [if_pos h3] at h
    cases h
    exact he
  · rw [if_neg h3] at h
    cases hl : lineR d t l with
    | inl x => rw [hl] at h; cases h
    | inr x =>
      obtain ⟨d1, r1⟩ := x
      rw [hl] at h
      have h1 := line_ends hl he
      cases r1 with
      | nil => exact absurd rfl h1.ne
      | cons u r1 =>
        by_cases hu3 : u.kind = 3
        · simp only [if_pos hu3] at h
          cases h
          exact h1.tail (by omega)
        · by_cases hu4 : u.kind = 4
          · simp only [if_neg hu3, if_pos hu4] at h
            cases h
            exact h1
          · simp only [if_neg hu3, if_neg hu4] at h
            cases h
theorem lineS_len {d d' : Df} {t : Tk} {l r : List Tk} (h : lineS d t l = .inr (d', r)) : r.length ≤ l.length := by
  unfold lineS at h
  by_cases h3 : t.kind = 3
  · rw [if_pos h3] at h
    cases h
    exact Nat.le_refl _
  · rw [if_neg h3] at h
    cases hl : lineR d t l with
    | inl x => rw [hl] at h; cases h
    | inr x =>
      obtain ⟨d1, r1⟩ := x
      rw [hl] at h
      have h1 := line_len hl
      cases r1 with
      | nil => cases h
      | cons u r1 =>
        by_cases hu3 : u.kind = 3
        · simp only [if_pos hu3] at h
          cases h
          simp only [List.length_cons] at h1
          omega
        · by_cases hu4 : u.kind = 4
          · simp only [if_neg hu3, if_pos hu4] at h
            cases h
            exact h1
          · simp only [if_neg hu3, if_neg hu4] at h
            cases h
/-- A draft that is read stays not too large. -/
theorem sml_row {d : Df} {s : List UInt8} (h : Sml d) (h1 : (d.decks.getLastD []).length < 4096) (hd : d.decks ≠ []) : Sml (d.row s) := by
  refine ⟨?_, fun ts ht => ?_, h.items⟩
  · have : (d.decks.dropLast ++ [d.decks.getLastD [] ++ [s]]).length = d.decks.length := by
      have := List.length_pos_iff.2 hd
      simp
      omega
    show (d.decks.dropLast ++ [d.decks.getLastD [] ++ [s]]).length ≤ 4
    rw [this]
    exact h.decks
  · have ht : ts ∈ d.decks.dropLast ++ [d.decks.getLastD [] ++ [s]] := ht
    rcases List.mem_append.1 ht with ht | ht
    · exact h.rows ts ((List.dropLast_sublist _).subset ht)
    · obtain rfl : ts = d.decks.getLastD [] ++ [s] := by simpa using ht
      simp only [List.length_append, List.length_singleton]
      omega
theorem sml_lineR {d d' : Df} {t : Tk} {l r : List Tk} (hs : Sml d) (h : lineR d t l = .inr (d', r)) : Sml d' := by
  unfold lineR at h
  by_cases h0 : t.kind ≠ 0
  · rw [if_pos h0] at h; cases h
  rw [if_neg h0] at h
  by_cases h1 : t.text = wDeck
  · rw [if_pos h1] at h
    by_cases h4 : 4 ≤ d.decks.length
    · rw [if_pos h4] at h; cases h
    · rw [if_neg h4] at h
      cases h
      refine ⟨by simp; omega, fun ts ht => ?_, hs.items⟩
      rcases List.mem_append.1 ht with ht | ht
      · exact hs.rows ts ht
      · obtain rfl : ts = [] := by simpa using ht
        simp
  rw [if_neg h1] at h
  by_cases h2 : t.text = wRow ∧ d.decks ≠ []
  · rw [if_pos h2] at h
    by_cases h4 : 4096 ≤ (d.decks.getLastD []).length
    · rw [if_pos h4] at h; cases h
    · rw [if_neg h4] at h
      cases hu : takeT 2 l with
      | bad L => rw [hu] at h; cases h
      | got u r1 =>
        rw [hu] at h
        by_cases h5 : 4096 < u.text.length
        · simp only [if_pos h5] at h; cases h
        · simp only [if_neg h5] at h
          cases h
          exact sml_row hs (by omega) h2.2
  rw [if_neg h2] at h
  cases hk : kindOf t.text with
  | none => rw [hk] at h; cases h
  | some k =>
    rw [hk] at h
    by_cases h5 : 5000 ≤ d.items.length
    · simp only [if_pos h5] at h; cases h
    · simp only [if_neg h5] at h
      cases hi : itemR k t.line l with
      | bad L => rw [hi] at h; cases h
      | got x r1 =>
        rw [hi] at h
        cases h
        exact ⟨hs.decks, hs.rows, by simp; omega⟩
theorem sml_lineS {d d' : Df} {t : Tk} {l r : List Tk} (hs : Sml d) (h : lineS d t l = .inr (d', r)) : Sml d' := by
  unfold lineS at h
  by_cases h3 : t.kind = 3
  · rw [if_pos h3] at h
    cases h
    exact hs
  · rw [if_neg h3] at h
    cases hl : lineR d t l with
    | inl x => rw [hl] at h; cases h
    | inr x =>
      obtain ⟨d1, r1⟩ := x
      have h1 := sml_lineR hs hl
      rw [hl] at h
      cases r1 with
      | nil => cases h
      | cons u r1 =>
        by_cases hu3 : u.kind = 3
        · simp only [if_pos hu3] at h
          cases h
          exact h1
        · by_cases hu4 : u.kind = 4
          · simp only [if_neg hu3, if_pos hu4] at h
            cases h
            exact h1
          · simp only [if_neg hu3, if_neg hu4] at h
            cases h

/-! The words. -/
theorem lookE_if (s t : ByteArray) (v : Value) (l : List (ByteArray × Value)) (w : List UInt8) (hw : bl t = w) : lookE s ((t, v) :: l) = if bl s = w then some v else lookE s l := by
  subst hw
  show (if s = t then _ else _) = _
  by_cases h : s = t
  · rw [if_pos h, if_pos (by rw [h])]
  · rw [if_neg h, if_neg (fun e => h (bl_inj e))]
theorem kindOf_at {w : List UInt8} {k : Nat} (h6 : k < 6) (hw : w = wordOf k) : kindOf w = some k := by
  rw [hw]
  exact (form_word k h6).2.1
theorem kindOf_none {w : List UInt8} (h : ∀ k, k < 6 → w ≠ wordOf k) : kindOf w = none := by
  unfold kindOf
  rw [List.find?_eq_none]
  intro k hk
  have := h k (List.mem_range.1 hk)
  simpa using fun e => this e.symm
theorem kindOf_is {w : List UInt8} {k : Nat} (h : kindOf w = some k) : w = wordOf k := by
  unfold kindOf at h
  have := List.find?_some h
  exact (beq_iff_eq.1 this).symm
theorem look_deck {s : ByteArray} (b q : Nat) (ks : Nat → Nat) (h : bl s = wDeck) : lookE s (entsL b q ks 6) = some (.func (.func 65) #[ptr b] #[]) := by
  show lookE s ((⟨#[100, 101, 99, 107]⟩, _) :: _) = _
  rw [lookE_if _ _ _ _ wDeck rfl, if_pos h]
theorem look_row {s : ByteArray} (b q : Nat) (ks : Nat → Nat) (h : bl s = wRow) : lookE s (entsL b q ks 6) = some (.func (.func 66) #[ptr b] #[]) := by
  show lookE s ((⟨#[100, 101, 99, 107]⟩, _) :: (⟨#[114, 111, 119]⟩, _) :: _) = _
  rw [lookE_if _ _ _ _ wDeck rfl, if_neg (by rw [h]; decide)]
  show lookE s ((⟨#[114, 111, 119]⟩, _) :: _) = _
  rw [lookE_if _ _ _ _ wRow rfl, if_pos h]
theorem look_kinds (b q : Nat) (ks : Nat → Nat) (s : ByteArray) : ∀ (l : List Nat), lookE s (l.map fun k => (wordS k, Value.func (.func 67) #[] #[ptr q, ptr (ks k)])) = (l.find? fun k => wordOf k == bl s).map fun k => Value.func (.func 67) #[] #[ptr q, ptr (ks k)]
  | [] => rfl
  | k :: l => by
    rw [List.map_cons, lookE_if _ _ _ _ (wordOf k) rfl]
    by_cases h : bl s = wordOf k
    · rw [if_pos h, List.find?_cons_of_pos (by simpa using h.symm)]
      rfl
    · rw [if_neg h, List.find?_cons_of_neg (by simpa using fun e => h e.symm)]
      exact look_kinds b q ks s l
theorem look_other {s : ByteArray} (b q : Nat) (ks : Nat → Nat) (h1 : bl s ≠ wDeck) (h2 : bl s ≠ wRow) : lookE s (entsL b q ks 6) = (kindOf (bl s)).map fun k => Value.func (.func 67) #[] #[ptr q, ptr (ks k)] := by
  show lookE s ((⟨#[100, 101, 99, 107]⟩, _) :: (⟨#[114, 111, 119]⟩, _) :: ((List.range 6).map fun k => (wordS k, Value.func (.func 67) #[] #[ptr q, ptr (ks k)]))) = _
  rw [lookE_if _ _ _ _ wDeck rfl, if_neg h1, lookE_if _ _ _ _ wRow rfl, if_neg h2, look_kinds b q ks s]
  rfl

theorem PS.hd {W w : World} {b : Nat} {t : Tk} {l : List Tk} {d : Df} (h : PS W w b (t :: l) d) : ∃ g o c, g < b ∧ b < w.heap.size ∧ Hd w b g o (l.length + 1) c t := by
  obtain ⟨_, _, _, _, hr, _⟩ := h
  exact hr.hd
theorem ps_take {W w : World} {b : Nat} {t : Tk} {l : List Tk} {d : Df} (h : PS W w b (t :: l) d) (hl : 0 < l.length) (hn : l.length ≤ 1000000000) :
    Calls Tryd.prog 69 #[ptr b] w fun e w' => e = .returned t.val ∧ PS W w' b l d := by
  obtain ⟨h0, h1, dv, iv, hr, vs, us, lab, ho⟩ := h
  refine (ptake_any hr hl hn).mono ?_
  rintro e w' ⟨rfl, r, g⟩
  exact ⟨rfl, ps_of h0 h1 ho (chg_b g) r⟩
theorem zero_func (w : World) : (zeroValue 103).run Tryd.prog w = .ok .nilFunc w := by kernel_rfl
/-- The map, and what its functions have caught, behind whatever the parser has done. -/
theorem LinR.later {W0 W w : World} {b M q : Nat} {ks : Nat → Nat} (h : LinR W0 W b M q ks 6) (hb : b < W0.heap.size) (g : W.grownBy w (some b)) : MapAt w M (entsL b q ks 6) ∧ Blk w q 79 #[ptr b] ∧ ∀ k, k < 6 → Blk w (ks k) 3 #[.int .i64 k] :=
  ⟨h.map.keep (g.block M h.map.lt (fun e => by have := h.new; cases e; omega)), h.box.past g (fun e => by have := h.boxn; cases e; omega), fun k hk => (h.each k hk).1.past g (fun e => by have := (h.each k hk).2; rw [Option.some.inj e] at this; omega)⟩

set_option maxHeartbeats 4000000 in
theorem line_any {W0 W w : World} {b M q : Nat} {ks : Nat → Nat} {t : Tk} {l : List Tk} {d : Df} (h : PS W w b (t :: l) d) (hs : Sml d) (h4 : t.kind ≠ 4) (he : Ends l) (hll : l.length ≤ 900000000) (hL : LinR W0 W b M q ks 6) (hb0 : b < W0.heap.size) (hv : VD W) (hf : VF W) (hgd : 1 < b) (hgf : 0 < b) :
    Calls Tryd.prog 47 #[ptr b, .map (some M)] w (LPost W b (lineS d t l)) := by
  obtain ⟨g, o, c, hg, hbw, hh⟩ := h.hd
  obtain ⟨q0, q1, q2, q3, q4⟩ := hh
  have hgw : g < w.heap.size := by omega
  have hr1 : (0 : Int) < (l.length : Int) + 1 := by omega
  have hl0 := List.length_pos_iff.2 he.ne
  have hq := Blk.fresh w 42 #[.int .i64 t.kind, str t.text, .int .i64 t.n, .int .i64 t.line]
  have HA : Hid (∀ o, PS W (w.alloc o) b (t :: l) d) := Lib.hid fun o => h.new (below_more w o)
  have hvf : ∀ w', W.grownBy w' (some b) → VD w' ∧ VF w' := fun w' hg => ⟨hv.below (grown_below hg (Nat.le_refl b) (by have := h.old; omega)) hgd, hf.below (grown_below hg (Nat.le_refl b) (by have := h.old; omega)) hgf⟩
  have HH := Lib.hid h
  have HE := Lib.hid he
  have HS := Lib.hid hs
  have HL := Lib.hid hL
  have HLL := Lib.hid hll
  by_cases h3 : t.kind = 3
  · have hx : lineS d t l = .inr (d, l) := by unfold lineS; rw [if_pos h3]
    rw [hx]
    have HT : Hid (∀ o, Calls Tryd.prog 69 #[ptr b] (w.alloc o) fun e w' => e = .returned t.val ∧ PS W w' b l d) := Lib.hid fun o => ps_take (HA.out o) hl0 (by omega)
    have hk3 : ((t.kind : Int) != 3) = false := by rw [h3]; rfl
    have hk33 : ((t.kind : Int) == 3) = true := by rw [h3]; rfl
    clear h hs he hL hll hv hf hvf h3 h4 hx hq
    go_enter Tryd.func47, Tryd.ntmps47
    go_wp2_with (go_at_call 69; go_must (
      refine (HT.out _).mono ?_; rintro e w1 ⟨rfl, p1⟩
      have P1 := Lib.hid p1
      clear p1))
    go_ret
    exact lpost_inr rfl P1.out
  have hk3 : ((t.kind : Int) != 3) = true := bne_iff_ne.2 (by omega)
  obtain ⟨s, hs0⟩ : ∃ s : ByteArray, s = ⟨t.text.toArray⟩ := ⟨_, rfl⟩
  have hts : bl s = t.text := by rw [hs0]
  have hlook : ∀ o, (Instr.lookup 82 (.map (some M)) (.string s) true).run Tryd.prog (w.alloc o) = .ok (.tuple #[(lookE s (entsL b q ks 6)).getD .nilFunc, .bool (lookE s (entsL b q ks 6)).isSome]) (w.alloc o) := fun o =>
    MapAt.look ((hL.later hb0 (h.new (below_more w o)).grown).1) Tryd.underlying82 Tryd.underlying9 (zero_func _) s
  by_cases h0 : t.kind = 0
  case neg =>
    have hk0 : ((t.kind : Int) != 0) = true := bne_iff_ne.2 (by omega)
    have hx : lineS d t l = .inl (11, t.line) := by unfold lineS; rw [if_neg h3]; unfold lineR; rw [if_pos h0]
    rw [hx]
    generalize (lookE s (entsL b q ks 6)).getD .nilFunc = v at hlook
    generalize (lookE s (entsL b q ks 6)).isSome = ok at hlook
    rw [hs0] at hlook
    clear h hs he hL hll hv hf hvf h3 h4 hx hq h0 hs0 hts
    go_enter Tryd.func47, Tryd.ntmps47
    go_wp2_with fail
    go_ret
    exact lpost_inl rfl (.inr rfl) (HA.out _) rfl
  have hk0 : ((t.kind : Int) != 0) = false := by rw [h0]; rfl
  by_cases hd : bl s = wDeck
  · rw [look_deck b q ks hd] at hlook
    replace hlook : ∀ o, (Instr.lookup 82 (.map (some M)) (.string s) true).run Tryd.prog (w.alloc o) = .ok (.tuple #[.func (.func 65) #[ptr b] #[], .bool true]) (w.alloc o) := hlook
    rw [hs0] at hlook
    have HC : Hid (∀ o, Calls Tryd.prog 65 #[ptr b] (w.alloc o) (LPost W b (lineR d t l))) := Lib.hid fun o => read_deck (HA.out o) hs he hll h0 (by rw [← hts, hd])
    cases hl : lineR d t l with
    | inl x =>
      obtain ⟨er, L⟩ := x
      have hx : lineS d t l = .inl (er, L) := by unfold lineS; rw [if_neg h3, hl]
      rw [hx]
      rw [hl] at HC
      clear h hs he hL hll hv hf hvf h3 h4 hx hq h0 hl hs0 hd hts
      go_enter Tryd.func47, Tryd.ntmps47
      go_wp2_with (go_at_call 65; go_must (
        refine (HC.out _).mono ?_; rintro e w1 ⟨rfl, h2, h1⟩
        have hne : (((er : Nat) : Int) != 0) = true := by rcases h2 with rfl | rfl <;> rfl
        have H1 := Lib.hid h1
        have H2 := Lib.hid h2
        clear h1 h2))
      go_ret
      exact ⟨rfl, H2.out, H1.out⟩
    | inr x =>
      obtain ⟨d', r⟩ := x
      have her := line_ends hl he
      have hrl := line_len hl
      obtain ⟨u, r, rfl⟩ := List.exists_cons_of_ne_nil her.ne
      rw [List.length_cons] at hrl
      have hrr : r.length ≤ 900000000 := by omega
      have hru : (0 : Int) < (r.length : Int) + 1 := by omega
      rw [hl] at HC
      by_cases hu3 : u.kind = 3
      · have hx : lineS d t l = .inr (d', r) := by unfold lineS; rw [if_neg h3, hl]; simp only [if_pos hu3]
        rw [hx]
        have HR0 := Lib.hid (List.length_pos_iff.2 (her.tail (by omega)).ne)
        have HRR := Lib.hid hrr
        have hku3 : ((u.kind : Int) == 3) = true := by rw [hu3]; rfl
        clear h hs he hL hll hv hf hvf h3 h4 hx hq h0 hl her hrl hrr hu3 hs0 hd hts
        go_enter Tryd.func47, Tryd.ntmps47
        go_wp2_with (first
          | (go_at_call 65; go_must (
             refine (HC.out _).mono ?_; rintro e w1 ⟨rfl, h1⟩
             obtain ⟨g1, o1, c1, hg1, hb1, hh1⟩ := h1.hd
             obtain ⟨k0, k1, k2, k3, k4⟩ := hh1
             have HT := Lib.hid (ps_take h1 HR0.out (Nat.le_trans HRR.out (by omega)))
             clear h1))
          | (go_at_call 69; go_must (
             refine HT.out.mono ?_; rintro e w2 ⟨rfl, p2⟩
             have P2 := Lib.hid p2
             clear p2)))
        go_ret
        exact lpost_inr rfl P2.out
      have hku3 : ((u.kind : Int) == 3) = false := beq_eq_false_iff_ne.2 (by omega)
      by_cases hu4 : u.kind = 4
      · have hx : lineS d t l = .inr (d', u :: r) := by unfold lineS; rw [if_neg h3, hl]; simp only [if_neg hu3, if_pos hu4]
        rw [hx]
        have hku4 : ((u.kind : Int) == 4) = true := by rw [hu4]; rfl
        clear h hs he hL hll hv hf hvf h3 h4 hx hq h0 hl her hrl hrr hu3 hu4 hs0 hd hts
        go_enter Tryd.func47, Tryd.ntmps47
        go_wp2_with (go_at_call 65; go_must (
          refine (HC.out _).mono ?_; rintro e w1 ⟨rfl, h1⟩
          obtain ⟨g1, o1, c1, hg1, hb1, hh1⟩ := h1.hd
          obtain ⟨k0, k1, k2, k3, k4⟩ := hh1
          have H1 := Lib.hid h1
          clear h1))
        go_ret
        exact lpost_inr rfl H1.out
      · have hx : lineS d t l = .inl (11, u.line) := by unfold lineS; rw [if_neg h3, hl]; simp only [if_neg hu3, if_neg hu4]
        rw [hx]
        have hku4 : ((u.kind : Int) == 4) = false := beq_eq_false_iff_ne.2 (by omega)
        clear h hs he hL hll hv hf hvf h3 h4 hx hq h0 hl her hrl hrr hu3 hu4 hs0 hd hts
        go_enter Tryd.func47, Tryd.ntmps47
        go_wp2_with (go_at_call 65; go_must (
          refine (HC.out _).mono ?_; rintro e w1 ⟨rfl, h1⟩
          obtain ⟨g1, o1, c1, hg1, hb1, hh1⟩ := h1.hd
          obtain ⟨k0, k1, k2, k3, k4⟩ := hh1
          have H1 := Lib.hid h1
          clear h1))
        go_ret
        exact lpost_inl rfl (.inr rfl) H1.out rfl
  by_cases hw : bl s = wRow
  · rw [look_row b q ks hw] at hlook
    replace hlook : ∀ o, (Instr.lookup 82 (.map (some M)) (.string s) true).run Tryd.prog (w.alloc o) = .ok (.tuple #[.func (.func 66) #[ptr b] #[], .bool true]) (w.alloc o) := hlook
    rw [hs0] at hlook
    have HC : Hid (∀ o, Calls Tryd.prog 66 #[ptr b] (w.alloc o) (LPost W b (lineR d t l))) := Lib.hid fun o => read_row (HA.out o) hs he hll h0 (by rw [← hts, hw])
    cases hl : lineR d t l with
    | inl x =>
      obtain ⟨er, L⟩ := x
      have hx : lineS d t l = .inl (er, L) := by unfold lineS; rw [if_neg h3, hl]
      rw [hx]
      rw [hl] at HC
      clear h hs he hL hll hv hf hvf h3 h4 hx hq h0 hl hs0 hd hw hts
      go_enter Tryd.func47, Tryd.ntmps47
      go_wp2_with (go_at_call 66; go_must (
        refine (HC.out _).mono ?_; rintro e w1 ⟨rfl, h2, h1⟩
        have hne : (((er : Nat) : Int) != 0) = true := by rcases h2 with rfl | rfl <;> rfl
        have H1 := Lib.hid h1
        have H2 := Lib.hid h2
        clear h1 h2))
      go_ret
      exact ⟨rfl, H2.out, H1.out⟩
    | inr x =>
      obtain ⟨d', r⟩ := x
      have her := line_ends hl he
      have hrl := line_len hl
      obtain ⟨u, r, rfl⟩ := List.exists_cons_of_ne_nil her.ne
      rw [List.length_cons] at hrl
      have hrr : r.length ≤ 900000000 := by omega
      have hru : (0 : Int) < (r.length : Int) + 1 := by omega
      rw [hl] at HC
      by_cases hu3 : u.kind = 3
      · have hx : lineS d t l = .inr (d', r) := by unfold lineS; rw [if_neg h3, hl]; simp only [if_pos hu3]
        rw [hx]
        have HR0 := Lib.hid (List.length_pos_iff.2 (her.tail (by omega)).ne)
        have HRR := Lib.hid hrr
        have hku3 : ((u.kind : Int) == 3) = true := by rw [hu3]; rfl
        clear h hs he hL hll hv hf hvf h3 h4 hx hq h0 hl her hrl hrr hu3 hs0 hd hw hts
        go_enter Tryd.func47, Tryd.ntmps47
        go_wp2_with (first
          | (go_at_call 66; go_must (
             refine (HC.out _).mono ?_; rintro e w1 ⟨rfl, h1⟩
             obtain ⟨g1, o1, c1, hg1, hb1, hh1⟩ := h1.hd
             obtain ⟨k0, k1, k2, k3, k4⟩ := hh1
             have HT := Lib.hid (ps_take h1 HR0.out (Nat.le_trans HRR.out (by omega)))
             clear h1))
          | (go_at_call 69; go_must (
             refine HT.out.mono ?_; rintro e w2 ⟨rfl, p2⟩
             have P2 := Lib.hid p2
             clear p2)))
        go_ret
        exact lpost_inr rfl P2.out
      have hku3 : ((u.kind : Int) == 3) = false := beq_eq_false_iff_ne.2 (by omega)
      by_cases hu4 : u.kind = 4
      · have hx : lineS d t l = .inr (d', u :: r) := by unfold lineS; rw [if_neg h3, hl]; simp only [if_neg hu3, if_pos hu4]
        rw [hx]
        have hku4 : ((u.kind : Int) == 4) = true := by rw [hu4]; rfl
        clear h hs he hL hll hv hf hvf h3 h4 hx hq h0 hl her hrl hrr hu3 hu4 hs0 hd hw hts
        go_enter Tryd.func47, Tryd.ntmps47
        go_wp2_with (go_at_call 66; go_must (
          refine (HC.out _).mono ?_; rintro e w1 ⟨rfl, h1⟩
          obtain ⟨g1, o1, c1, hg1, hb1, hh1⟩ := h1.hd
          obtain ⟨k0, k1, k2, k3, k4⟩ := hh1
          have H1 := Lib.hid h1
          clear h1))
        go_ret
        exact lpost_inr rfl H1.out
      · have hx : lineS d t l = .inl (11, u.line) := by unfold lineS; rw [if_neg h3, hl]; simp only [if_neg hu3, if_neg hu4]
        rw [hx]
        have hku4 : ((u.kind : Int) == 4) = false := beq_eq_false_iff_ne.2 (by omega)
        clear h hs he hL hll hv hf hvf h3 h4 hx hq h0 hl her hrl hrr hu3 hu4 hs0 hd hw hts
        go_enter Tryd.func47, Tryd.ntmps47
        go_wp2_with (go_at_call 66; go_must (
          refine (HC.out _).mono ?_; rintro e w1 ⟨rfl, h1⟩
          obtain ⟨g1, o1, c1, hg1, hb1, hh1⟩ := h1.hd
          obtain ⟨k0, k1, k2, k3, k4⟩ := hh1
          have H1 := Lib.hid h1
          clear h1))
        go_ret
        exact lpost_inl rfl (.inr rfl) H1.out rfl
  rw [look_other b q ks hd hw] at hlook
  cases hkd : kindOf (bl s) with
  | none =>
    rw [hkd] at hlook
    replace hlook : ∀ o, (Instr.lookup 82 (.map (some M)) (.string s) true).run Tryd.prog (w.alloc o) = .ok (.tuple #[.nilFunc, .bool false]) (w.alloc o) := hlook
    rw [hs0] at hlook
    have hx : lineS d t l = .inl (11, t.line) := by
      unfold lineS
      rw [if_neg h3, lineR_none h0 (by rw [← hts]; exact hd) (fun h => hw (by rw [hts]; exact h.1)) (by rw [← hts]; exact hkd)]
    rw [hx]
    clear h hs he hL hll hv hf hvf h3 h4 hx hq h0 hd hw hkd hts hs0
    go_enter Tryd.func47, Tryd.ntmps47
    go_wp2_with fail
    go_ret
    exact lpost_inl rfl (.inr rfl) (HA.out _) rfl
  | some k =>
    rw [hkd] at hlook
    replace hlook : ∀ o, (Instr.lookup 82 (.map (some M)) (.string s) true).run Tryd.prog (w.alloc o) = .ok (.tuple #[.func (.func 67) #[] #[ptr q, ptr (ks k)], .bool true]) (w.alloc o) := hlook
    rw [hs0] at hlook
    have HC : Hid (∀ o, Calls Tryd.prog 67 #[ptr q, ptr (ks k)] (w.alloc o) (LPost W b (lineR d t l))) := Lib.hid fun o => by
      have hp := HA.out o
      obtain ⟨_, m2, m3⟩ := hL.later hb0 hp.grown
      obtain ⟨v1, v2⟩ := hvf _ hp.grown
      refine closure_any (m2.at 0) ((m3 k (kindOf_lt hkd)).at 0) ((read_item hp hs he hll v1 v2 hgd hgf h0 (by rw [← hts]; exact hkd) (by rw [← hts]; exact hd) (by rw [← hts]; exact hw)).mono ?_)
      intro e w' h
      exact lpost_int h
    cases hl : lineR d t l with
    | inl x =>
      obtain ⟨er, L⟩ := x
      have hx : lineS d t l = .inl (er, L) := by unfold lineS; rw [if_neg h3, hl]
      rw [hx]
      rw [hl] at HC
      clear h hs he hL hll hv hf hvf h3 h4 hx hq h0 hl hs0 hd hw hts hkd
      go_enter Tryd.func47, Tryd.ntmps47
      go_wp2_with (go_at_call 67; go_must (
        refine (HC.out _).mono ?_; rintro e w1 ⟨rfl, h2, h1⟩
        have hne : (((er : Nat) : Int) != 0) = true := by rcases h2 with rfl | rfl <;> rfl
        have H1 := Lib.hid h1
        have H2 := Lib.hid h2
        clear h1 h2))
      go_ret
      exact ⟨rfl, H2.out, H1.out⟩
    | inr x =>
      obtain ⟨d', r⟩ := x
      have her := line_ends hl he
      have hrl := line_len hl
      obtain ⟨u, r, rfl⟩ := List.exists_cons_of_ne_nil her.ne
      rw [List.length_cons] at hrl
      have hrr : r.length ≤ 900000000 := by omega
      have hru : (0 : Int) < (r.length : Int) + 1 := by omega
      rw [hl] at HC
      by_cases hu3 : u.kind = 3
      · have hx : lineS d t l = .inr (d', r) := by unfold lineS; rw [if_neg h3, hl]; simp only [if_pos hu3]
        rw [hx]
        have HR0 := Lib.hid (List.length_pos_iff.2 (her.tail (by omega)).ne)
        have HRR := Lib.hid hrr
        have hku3 : ((u.kind : Int) == 3) = true := by rw [hu3]; rfl
        clear h hs he hL hll hv hf hvf h3 h4 hx hq h0 hl her hrl hrr hu3 hs0 hd hw hts hkd
        go_enter Tryd.func47, Tryd.ntmps47
        go_wp2_with (first
          | (go_at_call 67; go_must (
             refine (HC.out _).mono ?_; rintro e w1 ⟨rfl, h1⟩
             obtain ⟨g1, o1, c1, hg1, hb1, hh1⟩ := h1.hd
             obtain ⟨k0, k1, k2, k3, k4⟩ := hh1
             have HT := Lib.hid (ps_take h1 HR0.out (Nat.le_trans HRR.out (by omega)))
             clear h1))
          | (go_at_call 69; go_must (
             refine HT.out.mono ?_; rintro e w2 ⟨rfl, p2⟩
             have P2 := Lib.hid p2
             clear p2)))
        go_ret
        exact lpost_inr rfl P2.out
      have hku3 : ((u.kind : Int) == 3) = false := beq_eq_false_iff_ne.2 (by omega)
      by_cases hu4 : u.kind = 4
      · have hx : lineS d t l = .inr (d', u :: r) := by unfold lineS; rw [if_neg h3, hl]; simp only [if_neg hu3, if_pos hu4]
        rw [hx]
        have hku4 : ((u.kind : Int) == 4) = true := by rw [hu4]; rfl
        clear h hs he hL hll hv hf hvf h3 h4 hx hq h0 hl her hrl hrr hu3 hu4 hs0 hd hw hts hkd
        go_enter Tryd.func47, Tryd.ntmps47
        go_wp2_with (go_at_call 67; go_must (
          refine (HC.out _).mono ?_; rintro e w1 ⟨rfl, h1⟩
          obtain ⟨g1, o1, c1, hg1, hb1, hh1⟩ := h1.hd
          obtain ⟨k0, k1, k2, k3, k4⟩ := hh1
          have H1 := Lib.hid h1
          clear h1))
        go_ret
        exact lpost_inr rfl H1.out
      · have hx : lineS d t l = .inl (11, u.line) := by unfold lineS; rw [if_neg h3, hl]; simp only [if_neg hu3, if_neg hu4]
        rw [hx]
        have hku4 : ((u.kind : Int) == 4) = false := beq_eq_false_iff_ne.2 (by omega)
        clear h hs he hL hll hv hf hvf h3 h4 hx hq h0 hl her hrl hrr hu3 hu4 hs0 hd hw hts hkd
        go_enter Tryd.func47, Tryd.ntmps47
        go_wp2_with (go_at_call 67; go_must (
          refine (HC.out _).mono ?_; rintro e w1 ⟨rfl, h1⟩
          obtain ⟨g1, o1, c1, hg1, hb1, hh1⟩ := h1.hd
          obtain ⟨k0, k1, k2, k3, k4⟩ := hh1
          have H1 := Lib.hid h1
          clear h1))
        go_ret
        exact lpost_inl rfl (.inr rfl) H1.out rfl
end Drf
end Go.Proofs.YtibeangcjfjeiaaDoor

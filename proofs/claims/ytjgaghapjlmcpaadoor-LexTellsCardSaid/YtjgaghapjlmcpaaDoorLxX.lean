/- The reference's word. -/
import Derived.Test.YtjgaghapjlmcpaaDoorLxW
import Derived.Test.YtjgaghapjlmcpaaDoorRint
namespace Go.Proofs.YtjgaghapjlmcpaaDoor
open Go.RowKit Wire Txt
set_option linter.unusedVariables false
set_option linter.unusedSimpArgs false
namespace Lx

theorem dec_lead : ∀ (k n : Nat), n ≤ k → 1 ≤ n → n < 10 ^ 20 → ∃ c r, dec n = c :: r ∧ c ≠ 48
  | 0, n, h, h1, _ => by omega
  | k + 1, n, h, h1, hb => by
    by_cases hn : n < 10
    · refine ⟨dig n, [], dec_small hn, ?_⟩
      intro e
      have := dig_val hn
      rw [e] at this
      have e2 : (48 : UInt8).toNat = 48 := rfl
      omega
    · obtain ⟨c, r, e, hc⟩ := dec_lead k (n / 10) (by omega) (by omega) (by omega)
      rw [dec_big (by omega) hb, e]
      exact ⟨c, r ++ [dig (n % 10)], rfl, hc⟩
theorem int_lead {x : UInt8} {r : List UInt8} : intB (48 :: x :: r) = false := by
  cases h : intB (48 :: x :: r) with
  | false => rfl
  | true =>
    obtain ⟨z, hz, e⟩ := (intB_iff _).1 h
    unfold Fits at hz
    by_cases h0 : 0 ≤ z
    · obtain ⟨n, rfl⟩ := Int.eq_ofNat_of_zero_le h0
      rw [decI_pos] at e
      by_cases hn : n = 0
      · subst hn
        have e2 : dec 0 = [48] := by decide +kernel
        rw [e2] at e
        cases e
      · obtain ⟨c, s, e2, hc⟩ := dec_lead n n (Nat.le_refl _) (by omega) (by omega)
        rw [e2] at e
        cases e
        exact absurd rfl hc
    · obtain ⟨m, hm⟩ := Int.eq_ofNat_of_zero_le (show 0 ≤ -z by omega)
      obtain rfl : z = -(m : Int) := by omega
      rw [decI_neg m (by omega)] at e
      cases e
theorem int_digits {c : UInt8} {r : List UInt8} (hc : (isL c || isD c) = true) (h : intB (c :: r) = true) : (c :: r).all isD = true := by
  obtain ⟨z, hz, e⟩ := (intB_iff _).1 h
  unfold Fits at hz
  by_cases h0 : 0 ≤ z
  · obtain ⟨n, rfl⟩ := Int.eq_ofNat_of_zero_le h0
    rw [decI_pos] at e
    rw [← e, List.all_eq_true]
    intro d hd
    exact (isD_of (dec_digits (n := n) (by omega) d hd)).1
  · obtain ⟨m, hm⟩ := Int.eq_ofNat_of_zero_le (show 0 ≤ -z by omega)
    obtain rfl : z = -(m : Int) := by omega
    rw [decI_neg m (by omega)] at e
    cases e
    exact absurd hc (by decide)

/-- The reference's way of telling words from numbers. -/
theorem wordT_ref {c : UInt8} {r : List UInt8} (rest : List UInt8) (hc : (isL c || isD c) = true) : wordT (c :: r) rest =
    if (c :: r).all isD = false then (if word (c :: r) = true then .got 0 (c :: r) 0 rest else .bad 11)
    else if 1 < (c :: r).length ∧ c = 48 then .bad 11
    else if intB (c :: r) = true then .got 1 (c :: r) (intV (c :: r)) rest else .bad 3 := by
  unfold wordT
  cases hall : (c :: r).all isD with
  | false =>
    rw [if_pos rfl]
    have hi : intB (c :: r) = false := by
      cases h : intB (c :: r) with
      | false => rfl
      | true => rw [int_digits hc h] at hall; cases hall
    rw [hi]
    simp
  | true =>
    rw [if_neg (show ¬ true = false by decide)]
    have hd : isD c = true := by
      rw [List.all_cons, Bool.and_eq_true] at hall
      exact hall.1
    have hw : word (c :: r) = false := by
      cases h : word (c :: r) with
      | false => rfl
      | true =>
        obtain ⟨d, s, e, hl, _⟩ := word_head h
        cases e
        have h3 : 48 ≤ c.toNat ∧ c.toNat ≤ 57 := by simpa [isD] using hd
        rw [(isD_of h3).2] at hl
        cases hl
    rw [hw, if_neg Bool.false_ne_true]
    by_cases h48 : c = 48
    · subst h48
      cases r with
      | nil =>
        have h0 : intB [48] = true := by decide +kernel
        rw [h0, if_pos rfl, if_neg (show ¬ (1 < [(48 : UInt8)].length ∧ (48 : UInt8) = 48) by simp), if_pos rfl]
      | cons x r =>
        rw [int_lead, if_neg Bool.false_ne_true, if_pos (show 1 < (48 :: x :: r).length ∧ (48 : UInt8) = 48 from ⟨by simp, rfl⟩)]
        rfl
    · rw [if_neg (show ¬ (1 < (c :: r).length ∧ c = 48) from fun e => h48 e.2)]
      split
      · rfl
      · rw [if_pos (show ((c :: r).head? != some 48 && true) = true by simp [h48])]

/-- What the reference's reading of one token answers. -/
def QOut (w : World) (T : Tr) (e : Ending) (w' : World) : Prop := Below w.heap.size w w' ∧
  match T with
  | .bad er => e = .returned (.tuple #[zeroTk, .int .i64 er])
  | .got kind text n _ => e = .returned (.tuple #[Tk.val ⟨kind, text, n, 0⟩, .int .i64 0])
theorem qout_got {w w' : World} {T : Tr} {k : Nat} {x rest : List UInt8} {n : Int} (hT : T = .got k x n rest) (b : Below w.heap.size w w') : QOut w T (.returned (.tuple #[Tk.val ⟨k, x, n, 0⟩, .int .i64 0])) w' := by
  subst hT
  exact ⟨b, rfl⟩
theorem qout_bad {w w' : World} {T : Tr} {er : Nat} (hT : T = .bad er) (b : Below w.heap.size w w') : QOut w T (.returned (.tuple #[zeroTk, .int .i64 er])) w' := by
  subst hT
  exact ⟨b, rfl⟩
theorem b_poke4 {w w1 : World} (h : Below w.heap.size w w1) {r : Nat} (hr : w.heap.size ≤ r) (u0 u1 u2 u3 : Value) : Below w.heap.size w ((((w1.setCell ⟨r, 0, none⟩ u0).setCell ⟨r, 1, none⟩ u1).setCell ⟨r, 2, none⟩ u2).setCell ⟨r, 3, none⟩ u3) :=
  (((h.setCell (p := ⟨r, 0, none⟩) hr u0).setCell (p := ⟨r, 1, none⟩) hr u1).setCell (p := ⟨r, 2, none⟩) hr u2).setCell (p := ⟨r, 3, none⟩) hr u3
theorem all_to {s : ByteArray} {k : Nat} (h : k < s.size) : ((bl s).take (k + 1)).all isD = (((bl s).take k).all isD && isD s[k]) := by
  rw [take_at h, List.all_append]
  simp

set_option maxHeartbeats 2000000 in
theorem rwordT_any (s : ByteArray) (w : World) (hs : s.size ≤ 1000000000) (rest : List UInt8) (hc : ∃ c r, bl s = c :: r ∧ (isL c || isD c) = true) :
    Calls Tryd.prog 41 #[.string s] w (QOut w (wordT (bl s) rest)) := by
  obtain ⟨c, r, hb, hc⟩ := hc
  have h0 : 0 < s.size := by rw [← bl_len, hb]; simp
  have hs0 : s[0] = c := get_of hb 0 c rfl h0
  have hT : wordT (bl s) rest = if (bl s).all isD = false then (if word (bl s) = true then .got 0 (bl s) 0 rest else .bad 11)
    else if 1 < s.size ∧ c = 48 then .bad 11
    else if intB (bl s) = true then .got 1 (bl s) (intV (bl s)) rest else .bad 3 := by
    rw [← bl_len, hb]
    exact wordT_ref rest hc
  rw [hT]
  have HW := Lib.hid (fun w => rword_any s w hs)
  have HI : Hid (∀ w, Calls Tryd.prog 51 #[.string s] w fun e w' => e = .returned (.tuple #[.int .i64 (intV (bl s)), .bool (intB (bl s))]) ∧ Below w.heap.size w w') := Lib.hid (fun w => rint_any s hs w)
  have HV : Hid (((bl s).take s.size).all isD = (bl s).all isD) := Lib.hid (by rw [← bl_len, List.take_length])
  have HXS : Hid (str (bl s) = .string s) := Lib.hid rfl
  have HC := Lib.hid hs0
  generalize word (bl s) = bw at HW ⊢
  generalize intB (bl s) = bi at HI ⊢
  generalize intV (bl s) = zi at HI ⊢
  generalize (bl s).all isD = ba at HV ⊢
  obtain ⟨lx, hlx⟩ : ∃ lx, lx = bl s := ⟨_, rfl⟩
  rw [← hlx] at HXS ⊢
  generalize hTT : (if ba = false then _ else _ : Tr) = T
  have HTT := Lib.hid hTT
  clear hTT hT hlx hb hs0 hc
  go_enter Tryd.func41, Tryd.ntmps41
  go_wp2_with fail
  have hr := Blk.fresh w 31 #[.int .i64 0, .string ⟨#[]⟩, .int .i64 0, .int .i64 0]
  have hbel : Below w.heap.size w (w.alloc (.cells #[.int .i64 0, .string ⟨#[]⟩, .int .i64 0, .int .i64 0] 31)) := (Below.refl _ _).alloc (Nat.le_refl _) _
  generalize w.alloc (.cells #[.int .i64 0, .string ⟨#[]⟩, .int .i64 0, .int .i64 0] 31) = W1 at hr hbel ⊢
  have HB := Lib.hid hbel
  have HR := Lib.hid hr
  clear hr hbel
  go_loopw [4, 5] (fun dv iv wr => (∃ k : Nat, iv = .int .i64 k ∧ k ≤ s.size ∧ dv = .bool (((bl s).take k).all isD)) ∧ W1 = wr) (fun _ iv _ => s.size - (intOf iv).toNat)
  case atStart => exact ⟨⟨0, rfl, Nat.zero_le _, rfl⟩, rfl⟩
  case round =>
    obtain ⟨⟨k, rfl, hk, rfl⟩, rfl⟩ := hrel
    by_cases hlt : k < s.size
    · have HA := Lib.hid (all_to hlt)
      have HD := Lib.hid (fun w => digit9_any s[k] w)
      generalize ((bl s).take k).all isD = a at HA ⊢
      cases a with
      | false =>
        go_wp2_with (go_at_call 40; refine (HD.out _).mono ?_; rintro e w1 ⟨rfl, rfl⟩)
        go_roundw
        case rel => exact ⟨⟨k + 1, by simp, hlt, by rw [HA.out]; rfl⟩, trivial⟩
        case measure => simp [intOf]; omega
      | true =>
        go_wp2_with (go_at_call 40; refine (HD.out _).mono ?_; rintro e w1 ⟨rfl, rfl⟩)
        go_roundw
        case rel => exact ⟨⟨k + 1, by simp, hlt, by rw [HA.out]; rfl⟩, trivial⟩
        case measure => simp [intOf]; omega
    · obtain rfl : k = s.size := by omega
      rw [HV.out]
      clear HV
      cases ba with
      | false =>
        have r0 := HR.out
        have t0 := r0.at 0
        have t1 := r0.at 1
        have t2 := r0.at 2
        have t3 := r0.at 3
        have f0 := r0.thaw 0
        have f1 := r0.thaw 1
        have f2 := r0.thaw 2
        have f3 := r0.thaw 3
        clear r0
        cases bw with
        | true =>
          have HWT : Hid (T = Tr.got 0 lx 0 rest) := Lib.hid (by rw [← HTT.out]; rfl)
          clear HTT
          go_wp2_with (go_at_call 15; refine (HW.out _).mono ?_; rintro e w4 ⟨rfl, rfl⟩)
          exact bodyPost_ret (v := .tuple #[Tk.val ⟨0, lx, 0, 0⟩, .int .i64 0]) (by rw [← HXS.out] at *; simp [results, Tryd.results41, go_sem, t0, t1, t2, t3]) rfl (qout_got HWT.out (b_poke4 HB.out (Nat.le_refl _) _ _ _ _))
        | false =>
          have HWT : Hid (T = Tr.bad 11) := Lib.hid (by rw [← HTT.out]; rfl)
          clear HTT
          go_wp2_with (go_at_call 15; refine (HW.out _).mono ?_; rintro e w4 ⟨rfl, rfl⟩)
          exact bodyPost_ret (v := .tuple #[zeroTk, .int .i64 11]) (by simp [results, Tryd.results41, go_sem, t0, t1, t2, t3]) rfl (qout_bad HWT.out (b_poke4 HB.out (Nat.le_refl _) _ _ _ _))
      | true =>
        by_cases hz : 1 < s.size ∧ c = 48
        · have HWT : Hid (T = Tr.bad 11) := Lib.hid (by rw [← HTT.out, if_neg (show ¬ true = false by decide), if_pos hz])
          have g1 : (1 : Int) < (s.size : Int) := by omega
          have g2 : ((s[0].toNat : Int) == 48) = true := byte_eq (k := 48) (by omega) (by rw [HC.out, hz.2]; rfl)
          clear HTT hz
          have r0 := HR.out
          have t0 := r0.at 0
          have t1 := r0.at 1
          have t2 := r0.at 2
          have t3 := r0.at 3
          have f0 := r0.thaw 0
          have f1 := r0.thaw 1
          have f2 := r0.thaw 2
          have f3 := r0.thaw 3
          clear r0
          go_wp2_with fail
          exact bodyPost_ret (v := .tuple #[zeroTk, .int .i64 11]) (by simp [results, Tryd.results41, go_sem, t0, t1, t2, t3]) rfl (qout_bad HWT.out (b_poke4 HB.out (Nat.le_refl _) _ _ _ _))
        · have hT2 : (if bi = true then Tr.got 1 lx zi rest else Tr.bad 3) = T := by rw [← HTT.out, if_neg (show ¬ true = false by decide), if_neg hz]
          have hg : ¬ (1 : Int) < (s.size : Int) ∨ ((1 : Int) < (s.size : Int) ∧ ((s[0].toNat : Int) == 48) = false) := by
            by_cases h1 : 1 < s.size
            · exact .inr ⟨by omega, byte_ne (k := 48) (by omega) (by rw [HC.out]; exact fun e => hz ⟨h1, e⟩)⟩
            · exact .inl (by omega)
          clear HTT hz
          have HT2 := Lib.hid hT2
          clear hT2
          rcases hg with g1 | ⟨g1, g2⟩
          · cases bi with
            | true =>
              have HWT : Hid (T = Tr.got 1 lx zi rest) := Lib.hid (by rw [← HT2.out]; rfl)
              clear HT2
              go_wp2_with (first
                | (go_at_call 51; refine (HI.out _).mono ?_; rintro e w5 ⟨rfl, b5⟩
                   have r5 := HR.out.under b5 HR.out.inside
                   have B5 := Lib.hid (HB.out.trans (b5.mono HB.out.size))
                   have t0 := r5.at 0
                   have t1 := r5.at 1
                   have t2 := r5.at 2
                   have t3 := r5.at 3
                   have f0 := r5.thaw 0
                   have f1 := r5.thaw 1
                   have f2 := r5.thaw 2
                   have f3 := r5.thaw 3
                   clear b5 r5))
              exact bodyPost_ret (v := .tuple #[Tk.val ⟨1, lx, zi, 0⟩, .int .i64 0]) (by rw [← HXS.out] at *; simp [results, Tryd.results41, go_sem, t0, t1, t2, t3]) rfl (qout_got HWT.out (b_poke4 B5.out (Nat.le_refl _) _ _ _ _))
            | false =>
              have HWT : Hid (T = Tr.bad 3) := Lib.hid (by rw [← HT2.out]; rfl)
              clear HT2
              go_wp2_with (first
                | (go_at_call 51; refine (HI.out _).mono ?_; rintro e w5 ⟨rfl, b5⟩
                   have r5 := HR.out.under b5 HR.out.inside
                   have B5 := Lib.hid (HB.out.trans (b5.mono HB.out.size))
                   have t0 := r5.at 0
                   have t1 := r5.at 1
                   have t2 := r5.at 2
                   have t3 := r5.at 3
                   have f0 := r5.thaw 0
                   have f1 := r5.thaw 1
                   have f2 := r5.thaw 2
                   have f3 := r5.thaw 3
                   clear b5 r5))
              exact bodyPost_ret (v := .tuple #[zeroTk, .int .i64 3]) (by simp [results, Tryd.results41, go_sem, t0, t1, t2, t3]) rfl (qout_bad HWT.out (b_poke4 B5.out (Nat.le_refl _) _ _ _ _))
          · cases bi with
            | true =>
              have HWT : Hid (T = Tr.got 1 lx zi rest) := Lib.hid (by rw [← HT2.out]; rfl)
              clear HT2
              go_wp2_with (first
                | (go_at_call 51; refine (HI.out _).mono ?_; rintro e w5 ⟨rfl, b5⟩
                   have r5 := HR.out.under b5 HR.out.inside
                   have B5 := Lib.hid (HB.out.trans (b5.mono HB.out.size))
                   have t0 := r5.at 0
                   have t1 := r5.at 1
                   have t2 := r5.at 2
                   have t3 := r5.at 3
                   have f0 := r5.thaw 0
                   have f1 := r5.thaw 1
                   have f2 := r5.thaw 2
                   have f3 := r5.thaw 3
                   clear b5 r5))
              exact bodyPost_ret (v := .tuple #[Tk.val ⟨1, lx, zi, 0⟩, .int .i64 0]) (by rw [← HXS.out] at *; simp [results, Tryd.results41, go_sem, t0, t1, t2, t3]) rfl (qout_got HWT.out (b_poke4 B5.out (Nat.le_refl _) _ _ _ _))
            | false =>
              have HWT : Hid (T = Tr.bad 3) := Lib.hid (by rw [← HT2.out]; rfl)
              clear HT2
              go_wp2_with (first
                | (go_at_call 51; refine (HI.out _).mono ?_; rintro e w5 ⟨rfl, b5⟩
                   have r5 := HR.out.under b5 HR.out.inside
                   have B5 := Lib.hid (HB.out.trans (b5.mono HB.out.size))
                   have t0 := r5.at 0
                   have t1 := r5.at 1
                   have t2 := r5.at 2
                   have t3 := r5.at 3
                   have f0 := r5.thaw 0
                   have f1 := r5.thaw 1
                   have f2 := r5.thaw 2
                   have f3 := r5.thaw 3
                   clear b5 r5))
              exact bodyPost_ret (v := .tuple #[zeroTk, .int .i64 3]) (by simp [results, Tryd.results41, go_sem, t0, t1, t2, t3]) rfl (qout_bad HWT.out (b_poke4 B5.out (Nat.le_refl _) _ _ _ _))
end Lx
end Go.Proofs.YtjgaghapjlmcpaaDoor

import Derived.Test.YtjgaghapjlmcpaaDoorRnum
import Derived.Test.YtjgaghapjlmcpaaDoorIntw
namespace Go.Proofs.YtjgaghapjlmcpaaDoor
open Go.RowKit Wire
set_option linter.unusedVariables false
set_option linter.unusedSimpArgs false
namespace Txt

theorem bv_digit {c : UInt8} (h : 48 ≤ c.toNat ∧ c.toNat ≤ 57) : bv c = (c.toNat : Int) - 48 := by
  rw [bv_dig h]
  omega

/-- What the reference's loop has calculated: the negative. -/
def Neg1 (s : ByteArray) (k : Nat) (n : Int) : Prop := Fits n ∧ Mod n (-valZ 0 (((bl s).take k).drop (if (bl s).head? = some 45 then 1 else 0)))

theorem Neg1.start (s : ByteArray) : Neg1 s 0 0 := by
  refine ⟨by unfold Fits; omega, ?_⟩
  rw [List.take_zero, List.drop_nil]
  exact Mod.refl _
theorem Neg1.sign {s : ByteArray} {n : Int} (h : Neg1 s 0 n) (h0 : 0 < s.size) (hc : s[0] = 45) : Neg1 s 1 n := by
  refine ⟨h.1, ?_⟩
  have h2 := h.2
  have hd : (bl s).head? = some 45 := by
    have := drop_at h0
    rw [List.drop_zero] at this
    rw [this, hc]
    rfl
  rw [hd] at h2 ⊢
  rw [List.drop_eq_nil_of_le (by rw [List.length_take]; simp; omega)]
  rw [List.take_zero, List.drop_nil] at h2
  exact h2
theorem Neg1.step {s : ByteArray} {k : Nat} {n : Int} (h : Neg1 s k n) (hk : k < s.size) (hf : k = 0 → s[k] ≠ 45) (hd : 48 ≤ s[k].toNat ∧ s[k].toNat ≤ 57) : Neg1 s (k + 1) (wrap64 (wrap64 (n * 10) - ((s[k].toNat : Int) - 48))) := by
  refine ⟨wrap_fits _, ?_⟩
  have h2 := h.2
  have hle : (if (bl s).head? = some 45 then 1 else 0) ≤ k := by
    split
    · rename_i e
      rcases Nat.eq_zero_or_pos k with rfl | h
      · exfalso
        have := drop_at hk
        rw [List.drop_zero] at this
        rw [this] at e
        exact hf rfl (Option.some.inj e)
      · exact h
    · exact Nat.zero_le _
  rw [take_at hk, List.drop_append_of_le_length (by rw [List.length_take, bl_len]; omega), valZ_snoc, bv_digit hd]
  have h3 := Mod.ten h2
  rw [Int.neg_mul] at h3
  rw [Int.neg_add]
  exact Mod.wrap (Mod.sub (Mod.wrap h3) (Mod.refl _))
theorem Neg1.sum_neg {s : ByteArray} {n : Int} (h : Neg1 s s.size n) (h0 : 0 < s.size) (hc : s[0] = 45) : Sum1 (bl s) n := by
  refine ⟨h.1, ?_⟩
  have h2 := h.2
  have hb : bl s = 45 :: (bl s).drop 1 := by
    have := drop_at h0
    rw [List.drop_zero, hc] at this
    exact this
  rw [List.take_of_length_le (by rw [bl_len]; exact Nat.le_refl _)] at h2
  rw [hb] at h2 ⊢
  exact h2
theorem Neg1.sum_pos {s : ByteArray} {n : Int} (h : Neg1 s s.size n) (h0 : 0 < s.size) (hc : s[0] ≠ 45) : Sum1 (bl s) (wrap64 (-n)) := by
  refine ⟨wrap_fits _, ?_⟩
  have h2 := h.2
  have hb : bl s = s[0] :: (bl s).drop 1 := by
    have := drop_at h0
    rw [List.drop_zero] at this
    exact this
  have hh : (bl s).head? ≠ some 45 := by
    rw [hb]
    exact fun e => hc (Option.some.inj e)
  rw [List.take_of_length_le (by rw [bl_len]; exact Nat.le_refl _), if_neg hh, List.drop_zero] at h2
  rw [hb] at h2 ⊢
  show if s[0] = 45 then _ else _
  rw [if_neg hc]
  have h3 := Mod.neg h2
  rw [Int.neg_neg] at h3
  exact Mod.wrap h3

theorem decF_down : ∀ (k n : Nat), k ≤ 20 → n < 10 ^ (k + 1) → decF 20 n = decF k n := by
  intro k n hk hn
  have step : ∀ d, k + d ≤ 20 → decF (k + d) n = decF k n := by
    intro d
    induction d with
    | zero => intro _; rfl
    | succ d ih =>
      intro h
      rw [← ih (by omega)]
      exact decF_succ (k + d) n (Nat.lt_of_lt_of_le hn (Nat.pow_le_pow_right (by omega) (by omega)))
  have := step (20 - k) (by omega)
  rwa [show k + (20 - k) = 20 from by omega] at this
/-- A string that holds another byte, or is too long, is no decimal. -/
theorem no_dec_len {l : List UInt8} (h : l = [] ∨ 20 < l.length) : intB l = false ∧ intV l = 0 := by
  refine int_no l fun z hz e => ?_
  subst e
  unfold Fits at hz
  rcases h with h | h
  · by_cases h0 : 0 ≤ z
    · obtain ⟨n, rfl⟩ := Int.eq_ofNat_of_zero_le h0
      rw [decI_pos] at h
      have := dec_pos n
      rw [h] at this
      simp at this
    · obtain ⟨m, hm⟩ := Int.eq_ofNat_of_zero_le (show 0 ≤ -z by omega)
      obtain rfl : z = -(m : Int) := by omega
      rw [decI_neg m (by omega)] at h
      cases h
  · have h19 : ∀ k n, n < 10 ^ (k + 1) → (decF 20 n).length ≤ k + 1 ∨ 20 < k := by
      intro k n hn
      by_cases hk : 20 < k
      · exact .inr hk
      · left
        have : decF 20 n = decF k n := decF_down k n (by omega) hn
        rw [this]
        exact decF_len k n
    by_cases h0 : 0 ≤ z
    · obtain ⟨n, rfl⟩ := Int.eq_ofNat_of_zero_le h0
      rw [decI_pos] at h
      have := h19 18 n (by omega)
      unfold dec at h
      omega
    · obtain ⟨m, hm⟩ := Int.eq_ofNat_of_zero_le (show 0 ≤ -z by omega)
      obtain rfl : z = -(m : Int) := by omega
      rw [decI_neg m (by omega), List.length_cons] at h
      have := h19 18 m (by omega)
      unfold dec at h
      omega
theorem no_dec_byte {s : ByteArray} {k : Nat} (hk : k < s.size) (hf : k = 0 → s[k] ≠ 45) (hd : ¬ (48 ≤ s[k].toNat ∧ s[k].toNat ≤ 57)) : intB (bl s) = false ∧ intV (bl s) = 0 := by
  refine int_no _ fun z hz e => ?_
  unfold Fits at hz
  have hg := bl_get hk
  rw [← e] at hg
  by_cases h0 : 0 ≤ z
  · obtain ⟨n, rfl⟩ := Int.eq_ofNat_of_zero_le h0
    rw [decI_pos] at hg
    exact hd ((dec_told n (by omega)).2 _ (List.mem_of_getElem? hg))
  · obtain ⟨m, hm⟩ := Int.eq_ofNat_of_zero_le (show 0 ≤ -z by omega)
    obtain rfl : z = -(m : Int) := by omega
    rw [decI_neg m (by omega)] at hg
    cases k with
    | zero => exact hf rfl (Option.some.inj hg).symm
    | succ k => exact hd ((dec_told m (by omega)).2 _ (List.mem_of_getElem? hg))

theorem size_ne {n : Nat} (h : 0 < n) : ((n : Int) == 0) = false := beq_eq_false_iff_ne.2 (by omega)

set_option maxHeartbeats 1000000 in
theorem rint_none (s : ByteArray) (hs : s.size ≤ 1000000000) (h : s.size = 0 ∨ 20 < s.size) (w : World) :
    Calls Tryd.prog 51 #[.string s] w fun e w' => e = .returned (intR (bl s)) ∧ Below w.heap.size w w' := by
  have HN := Lib.hid (no_dec_len (l := bl s) (by rw [bl_len]; rcases h with h | h; exact .inl (List.eq_nil_of_length_eq_zero (by rw [bl_len]; exact h)); exact .inr h))
  rcases h with h | h
  · have q1 : ((s.size : Int) == 0) = true := by rw [h]; rfl
    clear h
    go_enter Tryd.func51, Tryd.ntmps51
    go_wp2_with fail
    go_ret2
    exact ⟨intR_no HN.out, Below.refl _ _⟩
  · have q1 : ((s.size : Int) == 0) = false := size_ne (by omega)
    go_enter Tryd.func51, Tryd.ntmps51
    go_wp2_with fail
    go_ret2
    exact ⟨intR_no HN.out, Below.refl _ _⟩

structure RIntRel (s : ByteArray) (nv iv : Value) (n : Int) (k : Nat) : Prop where
  nv : nv = .int .i64 n
  iv : iv = .int .i64 k
  le : k ≤ s.size
  told : Neg1 s k n

set_option maxHeartbeats 2000000 in
theorem rint_some (s : ByteArray) (h0 : 0 < s.size) (h20 : s.size ≤ 20) (w : World) :
    Calls Tryd.prog 51 #[.string s] w fun e w' => e = .returned (intR (bl s)) ∧ Below w.heap.size w w' := by
  have q1 : ((s.size : Int) == 0) = false := size_ne h0
  go_enter Tryd.func51, Tryd.ntmps51
  go_wp2_with fail
  go_loopw [4, 5] (fun nv iv wr => (∃ n k, RIntRel s nv iv n k) ∧ w = wr) (fun _ iv _ => s.size - (intOf iv).toNat)
  case atStart => exact ⟨⟨0, 0, rfl, rfl, Nat.zero_le _, Neg1.start s⟩, rfl⟩
  case round =>
    obtain ⟨⟨n, k, ⟨rfl, rfl, hk, htold⟩⟩, rfl⟩ := hrel
    have hf1 := htold.1.1
    have hf2 := htold.1.2
    have HT := Lib.hid htold
    clear htold
    by_cases hlt : k < s.size
    · by_cases hsg : k = 0 ∧ s[0] = 45
      · obtain ⟨rfl, hc⟩ := hsg
        have hb : ((s[0].toNat : Int) == 45) = true := by rw [hc]; rfl
        have HS := Lib.hid (HT.out.sign h0 hc)
        clear hc
        go_wp2_with fail
        go_roundw
        case rel => exact ⟨⟨n, 1, ⟨rfl, rfl, h0, HS.out⟩⟩, trivial⟩
        case measure => simp [intOf]; omega
      · have hfst : k = 0 → s[k] ≠ 45 := fun e => by subst e; exact fun e2 => hsg ⟨rfl, e2⟩
        have hk0 : ((k : Int) == 0) = false ∨ (((k : Int) == 0) = true ∧ ((s[0].toNat : Int) == 45) = false) := by
          rcases Nat.eq_zero_or_pos k with e | e
          · subst e
            exact .inr ⟨rfl, byte_ne (k := 45) (by omega) (hfst rfl)⟩
          · left
            simp
            omega
        have HF := Lib.hid hfst
        clear hsg hfst
        by_cases hd : 48 ≤ s[k].toNat ∧ s[k].toNat ≤ 57
        · have HS := Lib.hid (HT.out.step hlt HF.out hd)
          have h1 : (48 : Int) ≤ (s[k].toNat : Int) := by omega
          have h2 : (s[k].toNat : Int) ≤ 57 := by omega
          clear hd
          rcases hk0 with q2 | ⟨q2, q3⟩
          all_goals
            go_wp2_with fail
            go_roundw
            case rel => exact ⟨⟨_, k + 1, ⟨rfl, by simp, hlt, HS.out⟩⟩, trivial⟩
            case measure => simp [intOf]; omega
        · have HB := Lib.hid (no_dec_byte hlt HF.out hd)
          by_cases h1 : (48 : Int) ≤ (s[k].toNat : Int)
          · have h2 : (57 : Int) < (s[k].toNat : Int) := by omega
            clear hd
            rcases hk0 with q2 | ⟨q2, q3⟩
            all_goals
              go_wp2_with fail
              go_ret2
              exact ⟨intR_no HB.out, Below.refl _ _⟩
          · clear hd
            rcases hk0 with q2 | ⟨q2, q3⟩
            all_goals
              go_wp2_with fail
              go_ret2
              exact ⟨intR_no HB.out, Below.refl _ _⟩
    · obtain rfl : s.size = k := by omega
      by_cases hc : s[0] = 45
      · have hb : ((s[0].toNat : Int) != 45) = false := by rw [hc]; rfl
        have HS := Lib.hid (HT.out.sum_neg h0 hc)
        clear hc
        go_wp2_with (go_at_call 59; refine (rdecimal_any n ⟨hf1, hf2⟩ _).mono ?_; rintro e w' ⟨rfl, hb⟩)
        · go_ret2
          exact ⟨intR_no (HS.out.no (str_ne ‹_›)), hb⟩
        · go_ret2
          exact ⟨intR_yes (HS.out.yes (str_eq ‹_›)), hb⟩
      · have hb : ((s[0].toNat : Int) != 45) = true := by rw [bne, show ((s[0].toNat : Int) == 45) = false from byte_ne (k := 45) (by omega) hc]; rfl
        have HS := Lib.hid (HT.out.sum_pos h0 hc)
        clear hc
        go_wp2_with (go_at_call 59; refine (rdecimal_any (wrap64 (-n)) (wrap_fits _) _).mono ?_; rintro e w' ⟨rfl, hb⟩)
        · go_ret2
          exact ⟨intR_no (HS.out.no (str_ne ‹_›)), hb⟩
        · go_ret2
          exact ⟨intR_yes (HS.out.yes (str_eq ‹_›)), hb⟩

theorem rint_any (s : ByteArray) (hs : s.size ≤ 1000000000) (w : World) :
    Calls Tryd.prog 51 #[.string s] w fun e w' => e = .returned (intR (bl s)) ∧ Below w.heap.size w w' := by
  by_cases h0 : 0 < s.size
  · by_cases h20 : s.size ≤ 20
    · exact rint_some s h0 h20 w
    · exact rint_none s hs (.inr (by omega)) w
  · exact rint_none s hs (.inl (by omega)) w
end Txt
end Go.Proofs.YtjgaghapjlmcpaaDoor

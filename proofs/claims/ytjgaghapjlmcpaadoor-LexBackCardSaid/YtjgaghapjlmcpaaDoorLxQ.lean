/- Package lex: textSize, Word. -/
import Derived.Test.YtjgaghapjlmcpaaDoorLxP
namespace Go.Proofs.YtjgaghapjlmcpaaDoor
open Go.RowKit Wire Txt
set_option linter.unusedVariables false
set_option linter.unusedSimpArgs false
namespace Lx

/-- Where a text ends that is read from i on. -/
def tsz (n i : Nat) : Option Nat → Nat
  | none => n
  | some k => i + k
theorem clo_close (c : UInt8) (r : List UInt8) (odd : Bool) (h : c = 34) (ho : odd = false) : clo odd (c :: r) = some 1 := by
  unfold clo
  rw [if_pos ⟨h, ho⟩]
theorem clo_next (c : UInt8) (r : List UInt8) (odd : Bool) (h : ¬ (c = 34 ∧ odd = false)) (n i : Nat) : tsz n i (clo odd (c :: r)) = tsz n (i + 1) (clo (c == 92 && !odd) r) := by
  conv => lhs; unfold clo
  rw [if_neg h]
  cases clo (c == 92 && !odd) r with
  | none => rfl
  | some k =>
    show i + (k + 1) = i + 1 + k
    omega

set_option maxHeartbeats 1000000 in
theorem textSize_any (s : ByteArray) (w : World) (hs : s.size ≤ 1000000000) (h0 : 0 < s.size) :
    Calls Tryd.prog 37 #[.string s] w fun e w' => e = .returned (.int .i64 (tsz s.size 1 (clo false ((bl s).drop 1)))) ∧ w' = w := by
  generalize hz : tsz s.size 1 (clo false ((bl s).drop 1)) = z
  have HZ := Lib.hid hz
  clear hz
  go_enter Tryd.func37, Tryd.ntmps37
  go_wp2_with fail
  go_loopw [3, 4] (fun ov iv wr => (∃ (i : Nat) (o : Bool), ov = .bool o ∧ iv = .int .i64 i ∧ i ≤ s.size ∧ Hid (tsz s.size i (clo o ((bl s).drop i)) = z)) ∧ w = wr) (fun _ iv _ => s.size - (intOf iv).toNat)
  case atStart => exact ⟨⟨1, false, rfl, rfl, h0, HZ⟩, rfl⟩
  case round =>
    obtain ⟨⟨i, o, rfl, rfl, hi, HN⟩, rfl⟩ := hrel
    by_cases hlt : i < s.size
    · have hd := drop_at hlt
      have hN := HN.out
      rw [hd] at hN
      clear HN hd
      by_cases h34 : s[i] = 34
      · have t34 : ((s[i].toNat : Int) == 34) = true := byte_eq (k := 34) (by omega) h34
        have t92 : ((s[i].toNat : Int) == 92) = false := byte_ne (k := 92) (by omega) (by rw [h34]; decide)
        cases o with
        | false =>
          rw [clo_close _ _ _ h34 rfl] at hN
          have HN : Hid (i + 1 = z) := Lib.hid hN
          clear hN h34
          go_wp2_with fail
          go_ret
          exact ⟨by rw [← HN.out]; rfl, rfl⟩
        | true =>
          rw [clo_next _ _ _ (by simp), show (s[i] == 92 && !true) = false by simp] at hN
          have HN := Lib.hid hN
          clear hN h34
          go_wp2_with fail
          go_roundw
          case rel => exact ⟨⟨i + 1, false, rfl, by simp, hlt, HN⟩, trivial⟩
          case measure => simp [intOf]; omega
      · have t34 : ((s[i].toNat : Int) == 34) = false := byte_ne (k := 34) (by omega) h34
        rw [clo_next _ _ _ (fun e => h34 e.1)] at hN
        clear h34
        by_cases h92 : s[i] = 92
        · have t92 : ((s[i].toNat : Int) == 92) = true := byte_eq (k := 92) (by omega) h92
          rw [show (s[i] == 92 && !o) = !o by simp [h92]] at hN
          have HN := Lib.hid hN
          clear hN h92
          cases o with
          | false =>
            go_wp2_with fail
            go_roundw
            case rel => exact ⟨⟨i + 1, true, rfl, by simp, hlt, HN⟩, trivial⟩
            case measure => simp [intOf]; omega
          | true =>
            go_wp2_with fail
            go_roundw
            case rel => exact ⟨⟨i + 1, false, rfl, by simp, hlt, HN⟩, trivial⟩
            case measure => simp [intOf]; omega
        · have t92 : ((s[i].toNat : Int) == 92) = false := byte_ne (k := 92) (by omega) h92
          rw [show (s[i] == 92 && !o) = false by simp [h92]] at hN
          have HN := Lib.hid hN
          clear hN h92
          go_wp2_with fail
          go_roundw
          case rel => exact ⟨⟨i + 1, false, rfl, by simp, hlt, HN⟩, trivial⟩
          case measure => simp [intOf]; omega
    · obtain rfl : i = s.size := by omega
      rw [drop_end (Nat.le_refl _)] at HN
      have HN : Hid (s.size = z) := Lib.hid (by have := HN.out; unfold clo tsz at this; exact this)
      go_wp2_with fail
      go_ret
      exact ⟨by rw [← HN.out]; rfl, rfl⟩

set_option maxHeartbeats 1000000 in
theorem word_any (s : ByteArray) (w : World) (hs : s.size ≤ 1000000000) :
    Calls Tryd.prog 14 #[.string s] w fun e w' => e = .returned (.bool (word (bl s))) ∧ Below w.heap.size w w' := by
  by_cases h0 : 0 < s.size
  · have hl := not_empty h0
    have hl2 := not_empty2 h0
    have HF := Lib.hid (hasFirst_any s[0] w)
    have HT := Lib.hid (trimLater_any s w)
    have hall : ((bl s).dropWhile isP).isEmpty = (bl s).all isP := by
      induction bl s with
      | nil => rfl
      | cons c r ih =>
        cases hc : isP c with
        | true => rw [List.dropWhile_cons_of_pos hc, List.all_cons, hc, ih]; rfl
        | false => rw [List.dropWhile_cons_of_neg (by rw [hc]; decide), List.all_cons, hc]; rfl
    have hw : word (bl s) = (decide (s.size ≤ 20) && isL s[0] && ((bl s).dropWhile isP).isEmpty) := by
      rw [hall]
      have hd := drop_at h0
      rw [List.drop_zero] at hd
      have hlen := bl_len s
      unfold word
      rw [hlen]
      rw [hd]
      simp [show 1 ≤ s.size from h0]
    obtain ⟨d, hd⟩ := mk_bl ((bl s).dropWhile isP)
    have he : d.toList.isEmpty = ((bl s).dropWhile isP).isEmpty := by rw [ByteArray.toList_eq]; exact congrArg List.isEmpty hd
    rw [hw, ← he]
    rw [← hd, str_bl] at HT
    clear hw he hd hall
    by_cases h20 : s.size ≤ 20
    · have t20 : decide ((s.size : Int) ≤ 20) = true := decide_eq_true (by omega)
      have u20 : decide (s.size ≤ 20) = true := decide_eq_true h20
      rw [u20]
      clear h20 u20
      cases hL : isL s[0] with
      | true =>
        rw [hL] at HF
        clear hL
        go_enter Tryd.func14, Tryd.ntmps14
        go_wp2_with (first
          | (go_at_call 22; refine HF.out.mono ?_; rintro e w1 ⟨rfl, rfl⟩)
          | (go_at_call 29; refine HT.out.mono ?_; rintro e w1 ⟨rfl, b1⟩))
        go_ret
        exact ⟨rfl, b1⟩
      | false =>
        rw [hL] at HF
        clear hL
        go_enter Tryd.func14, Tryd.ntmps14
        go_wp2_with (first
          | (go_at_call 22; refine HF.out.mono ?_; rintro e w1 ⟨rfl, rfl⟩)
          | (go_at_call 29; refine HT.out.mono ?_; rintro e w1 ⟨rfl, b1⟩))
        go_ret
        exact ⟨rfl, Below.refl _ _⟩
    · have t20 : decide ((s.size : Int) ≤ 20) = false := decide_eq_false (by omega)
      have u20 : decide (s.size ≤ 20) = false := decide_eq_false h20
      rw [u20]
      clear h20 u20
      go_enter Tryd.func14, Tryd.ntmps14
      go_wp2_with fail
      go_ret
      exact ⟨rfl, Below.refl _ _⟩
  · have hl := is_empty h0
    obtain rfl : s = ByteArray.empty := bl_inj (by rw [ByteArray.toList_eq] at hl; exact hl)
    clear hl h0
    go_enter Tryd.func14, Tryd.ntmps14
    go_wp2_with fail
    go_ret
    exact ⟨rfl, Below.refl _ _⟩
end Lx
end Go.Proofs.YtjgaghapjlmcpaaDoor

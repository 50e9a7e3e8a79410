import Derived.Test.YtpmmbbaigfjhnaaBase
import Derived.Test.YtpmmbbaigfjhnaaPat
import Derived.Deep.QuietTactic
import Derived.BigQuiet
import Derived.Deep.Draws
namespace Go.Proofs.Ytpmmbbaigfjhnaa
open Go.RowKit Wire
set_option linter.unusedVariables false
set_option linter.unusedSimpArgs false
namespace Txt

/-- z is the place of the last ] of l, or -1. -/
def LastAt (l : List UInt8) (z : Int) : Prop := -1 ≤ z ∧ z < l.length ∧ (0 ≤ z → l[z.toNat]? = some 93) ∧ ∀ j : Nat, z < j → l[j]? ≠ some 93

theorem last_more {s : ByteArray} {k : Nat} (h : k < s.size) (hc : s[k] ≠ 93) (hn : ∀ j : Nat, k + 1 ≤ j → (bl s)[j]? ≠ some 93) : ∀ j : Nat, k ≤ j → (bl s)[j]? ≠ some 93 := by
  intro j hj
  by_cases e : j = k
  · subst e
    rw [bl_get h]
    exact fun e => hc (Option.some.inj e)
  · exact hn j (by omega)

set_option maxHeartbeats 400000 in
theorem last_any (s : ByteArray) (hs : s.size ≤ 1000000000) (w : World) :
    Calls Try.prog 36 #[.string s] w fun e w' => ∃ z : Int, e = .returned (.int .i64 z) ∧ LastAt (bl s) z ∧ w = w' := by
  go_enter Try.func36, Try.ntmps36
  go_wp2_with fail
  go_loopw [3] (fun iv wr => (∃ k : Nat, iv = .int .i64 ((k : Int) - 1) ∧ k ≤ s.size ∧ Hid (∀ j : Nat, k ≤ j → (bl s)[j]? ≠ some 93)) ∧ w = wr) (fun iv _ => (intOf iv + 1).toNat)
  case atStart => exact ⟨⟨s.size, rfl, Nat.le_refl _, Lib.hid (fun j hj => by rw [List.getElem?_eq_none (by rw [bl_len]; exact hj)]; simp)⟩, rfl⟩
  case round =>
    obtain ⟨⟨k, rfl, hk, HN⟩, rfl⟩ := hrel
    cases k with
    | zero =>
      go_wp2_with fail
      go_ret
      exact ⟨-1, rfl, ⟨by omega, by omega, fun h => absurd h (by omega), fun j hj => HN.out j (by omega)⟩, rfl⟩
    | succ k =>
      have hlt : k < s.size := by omega
      by_cases hc : s[k] = 93
      · have ht : ((s[k].toNat : Int) != 93) = false := by rw [hc]; rfl
        have HC := Lib.hid hc
        clear hc
        go_wp2_with fail
        go_ret
        refine ⟨(k : Int), by simp, ⟨by omega, by rw [bl_len]; omega, fun _ => ?_, fun j hj => HN.out j (by omega)⟩, rfl⟩
        rw [Int.toNat_natCast, bl_get hlt, HC.out]
      · have ht : ((s[k].toNat : Int) != 93) = true := by rw [bne, show ((s[k].toNat : Int) == 93) = false from byte_ne (k := 93) (by omega) hc]; rfl
        have HK := Lib.hid (last_more hlt hc HN.out)
        clear hc
        go_wp2_with fail
        go_roundw
        case rel => exact ⟨⟨k, rfl, by omega, HK⟩, trivial⟩
        case measure => simp [intOf]

theorem drew_more (w : World) (q r : Nat) : (w.drewN q).drewN r = w.drewN (q + r) := by
  simp [World.drewN, Nat.add_assoc]
theorem below_drewN (w : World) (q : Nat) : Below w.heap.size w (w.drewN q) := ⟨rfl, rfl, rfl, Nat.le_refl _, fun _ _ => rfl⟩

theorem inS_one (a c : UInt8) : ∀ r : List UInt8, (∀ d r', r ≠ 45 :: d :: r') → inS (a :: r) c = (a == c || inS r c)
  | [], _ => by simp [inS]
  | [b], _ => by simp [inS]
  | d :: b :: r, h => by
    rw [inS, if_neg]
    rintro rfl
    exact h b r rfl
theorem inS_range (a d c : UInt8) (r : List UInt8) : inS (a :: 45 :: d :: r) c = ((decide (a ≤ c) && decide (c ≤ d)) || inS r c) := by
  rw [inS, if_pos rfl]

theorem in_range {s : ByteArray} {k : Nat} {c : UInt8} (h : k + 2 < s.size) (hd : s[k + 1] = 45) : inS ((bl s).drop k) c = ((decide (s[k].toNat ≤ c.toNat) && decide (c.toNat ≤ s[k + 2].toNat)) || inS ((bl s).drop (k + 3)) c) := by
  rw [drop_at (by omega : k < s.size), drop_at (by omega : k + 1 < s.size), drop_at h, hd, inS_range]
  simp only [UInt8.le_iff_toNat_le]
theorem in_one {s : ByteArray} {k : Nat} {c : UInt8} (h : k < s.size) (hd : ∀ h : k + 2 < s.size, s[k + 1] ≠ 45) : inS ((bl s).drop k) c = ((decide (s[k].toNat ≤ c.toNat) && decide (c.toNat ≤ s[k].toNat)) || inS ((bl s).drop (k + 1)) c) := by
  rw [drop_at h]
  have e : inS (s[k] :: (bl s).drop (k + 1)) c = (s[k] == c || inS ((bl s).drop (k + 1)) c) := by
    refine inS_one _ _ _ fun d r e => ?_
    have h2 : k + 2 < s.size := by
      have := congrArg List.length e
      rw [List.length_drop, bl_len] at this
      simp at this
      omega
    rw [drop_at (by omega : k + 1 < s.size)] at e
    exact hd h2 (List.cons.inj e).1
  rw [e]
  congr 1
  rw [Bool.eq_iff_iff, beq_iff_eq, Bool.and_eq_true, decide_eq_true_eq, decide_eq_true_eq]
  exact ⟨fun h => by rw [h]; omega, fun h => UInt8.toNat_inj.1 (by omega)⟩

theorem in_more {s : ByteArray} {c : UInt8} {x y : Prop} [Decidable x] [Decidable y] {j k : Nat} (h : inS (bl s) c = inS ((bl s).drop k) c) (g : inS ((bl s).drop k) c = ((decide x && decide y) || inS ((bl s).drop j) c)) (hn : ¬ x ∨ ¬ y) : inS (bl s) c = inS ((bl s).drop j) c := by
  rw [h, g]
  rcases hn with hn | hn <;> simp [hn]
theorem in_yes {s : ByteArray} {c : UInt8} {x y : Prop} [Decidable x] [Decidable y] {j k : Nat} (h : inS (bl s) c = inS ((bl s).drop k) c) (g : inS ((bl s).drop k) c = ((decide x && decide y) || inS ((bl s).drop j) c)) (hx : x) (hy : y) : inS (bl s) c = true := by
  rw [h, g]
  simp [hx, hy]

set_option maxHeartbeats 1000000 in
theorem inSet_any (s : ByteArray) (hs : s.size ≤ 1000000000) (c : UInt8) (w : World) :
    Calls Try.prog 44 #[.string s, .int .u8 c.toNat] w fun e w' => e = .returned (.bool (inS (bl s) c)) ∧ ∃ q, w' = w.drewN q := by
  go_enter Try.func44, Try.ntmps44
  go_wp2_with fail
  go_loopw [5] (fun iv wr => (∃ k : Nat, iv = .int .i64 k ∧ k ≤ s.size ∧ Hid (inS (bl s) c = inS ((bl s).drop k) c)) ∧ ∃ q, wr = w.drewN q) (fun iv _ => s.size - (intOf iv).toNat)
  case atStart => exact ⟨⟨0, rfl, Nat.zero_le _, Lib.hid rfl⟩, 0, rfl⟩
  case round =>
    obtain ⟨⟨k, rfl, hk, HN⟩, q, rfl⟩ := hrel
    by_cases hlt : k < s.size
    · have hi1 : (0 : Int) ≤ (k : Int) := by omega
      have hi2 : (k : Int) < (s.size : Int) := by omega
      by_cases h2 : k + 2 < s.size
      · by_cases hd : s[k + 1] = 45
        · have ht : ((s[k + 1].toNat : Int) == 45) = true := by rw [hd]; rfl
          have HR := Lib.hid (in_range (c := c) h2 hd)
          clear hd
          go_wp2_with fail
          go_quiet (fail)
          go_wp2_with fail
          · go_ret
            exact ⟨congrArg (fun b => Ending.returned (.bool b)) (in_yes HN.out HR.out ‹_› ‹_›).symm, _, rfl⟩
          · go_roundw
            case rel => exact ⟨⟨k + 3, by simp; omega, by omega, Lib.hid (in_more HN.out HR.out (.inr ‹_›))⟩, _, rfl⟩
            case measure => simp [intOf]; omega
          · go_roundw
            case rel => exact ⟨⟨k + 3, by simp; omega, by omega, Lib.hid (in_more HN.out HR.out (.inl ‹_›))⟩, _, rfl⟩
            case measure => simp [intOf]; omega
        · have ht : ((s[k + 1].toNat : Int) == 45) = false := byte_ne (k := 45) (by omega) hd
          have HR := Lib.hid (in_one (c := c) hlt (fun _ => hd))
          clear hd
          go_wp2_with fail
          go_quiet (fail)
          go_wp2_with fail
          · go_ret
            exact ⟨congrArg (fun b => Ending.returned (.bool b)) (in_yes HN.out HR.out ‹_› ‹_›).symm, _, rfl⟩
          · go_roundw
            case rel => exact ⟨⟨k + 1, by simp, by omega, Lib.hid (in_more HN.out HR.out (.inr ‹_›))⟩, _, rfl⟩
            case measure => simp [intOf]; omega
          · go_roundw
            case rel => exact ⟨⟨k + 1, by simp, by omega, Lib.hid (in_more HN.out HR.out (.inl ‹_›))⟩, _, rfl⟩
            case measure => simp [intOf]; omega
      · have HR := Lib.hid (in_one (c := c) hlt (fun h => absurd h h2))
        go_wp2_with fail
        go_quiet (fail)
        go_wp2_with fail
        · go_ret
          exact ⟨congrArg (fun b => Ending.returned (.bool b)) (in_yes HN.out HR.out ‹_› ‹_›).symm, _, rfl⟩
        · go_roundw
          case rel => exact ⟨⟨k + 1, by simp, by omega, Lib.hid (in_more HN.out HR.out (.inr ‹_›))⟩, _, rfl⟩
          case measure => simp [intOf]; omega
        · go_roundw
          case rel => exact ⟨⟨k + 1, by simp, by omega, Lib.hid (in_more HN.out HR.out (.inl ‹_›))⟩, _, rfl⟩
          case measure => simp [intOf]; omega
    · obtain rfl : k = s.size := by omega
      have HE : Hid (inS (bl s) c = false) := by
        show _ = _
        rw [HN.out, drop_end (Nat.le_refl _)]
        rfl
      go_wp2_with fail
      go_ret
      exact ⟨by rw [HE.out]; rfl, q, rfl⟩
end Txt
end Go.Proofs.Ytpmmbbaigfjhnaa

import Derived.Test.YtjgaghapjlmcpaaDoorDecm
namespace Go.Proofs.YtjgaghapjlmcpaaDoor
open Go.RowKit Wire
set_option linter.unusedVariables false
set_option linter.unusedSimpArgs false
namespace Txt

/-- What the loop has calculated for the digits l. -/
def Sofar (sign : Int) (l : List UInt8) (n : Int) : Prop := Fits n ∧ Mod n (sign * valZ 0 l)

theorem bv_mod (c : UInt8) : ((c.toNat : Int) - 48) % 256 = bv c := by
  unfold bv
  simp [IntKind.wrap, IntKind.bits, IntKind.signed]

theorem Sofar.plus {s : ByteArray} {k : Nat} {n : Int} (h : Sofar 1 ((bl s).take k) n) (hk : k < s.size) :
    Sofar 1 ((bl s).take (k + 1)) (wrap64 (wrap64 (n * 10) + ((s[k].toNat : Int) - 48) % 256)) := by
  refine ⟨wrap_fits _, ?_⟩
  rw [take_at hk, valZ_snoc, bv_mod, Int.one_mul]
  have h2 := h.2
  rw [Int.one_mul] at h2
  exact Mod.wrap (Mod.add (Mod.wrap (Mod.ten h2)) (Mod.refl _))

theorem Sofar.minus {s : ByteArray} {k : Nat} {n : Int} (h : Sofar (-1) ((bl s).take k) n) (hk : k < s.size) :
    Sofar (-1) ((bl s).take (k + 1)) (wrap64 (wrap64 (n * 10) + -(((s[k].toNat : Int) - 48) % 256))) := by
  refine ⟨wrap_fits _, ?_⟩
  rw [take_at hk, valZ_snoc, bv_mod, Int.neg_mul, Int.one_mul, Int.neg_add]
  have h2 := h.2
  rw [Int.neg_mul, Int.one_mul] at h2
  have h3 := Mod.ten h2
  rw [Int.neg_mul] at h3
  exact Mod.wrap (Mod.add (Mod.wrap h3) (Mod.refl _))

structure IntRel (sign : Int) (s : ByteArray) (nv iv : Value) (n : Int) (k : Nat) : Prop where
  nv : nv = .int .i64 n
  iv : iv = .int .i64 k
  le : k ≤ s.size
  told : Sofar sign ((bl s).take k) n

theorem head_of {s : ByteArray} {c : UInt8} {r : List UInt8} (hb : bl s = c :: r) (h0 : 0 < s.size) : s[0] = c := by
  have := drop_at h0
  rw [List.drop_zero, hb] at this
  exact ((List.cons.inj this).1).symm

theorem Sofar.sum {s : ByteArray} {n : Int} (h : Sofar 1 ((bl s).take s.size) n) (h45 : ∀ h : 0 < s.size, s[0] ≠ 45) : Sum1 (bl s) n := by
  rw [List.take_of_length_le (by rw [bl_len]; exact Nat.le_refl _)] at h
  refine ⟨h.1, ?_⟩
  have h2 := h.2
  rw [Int.one_mul] at h2
  cases hb : bl s with
  | nil => rw [hb] at h2; exact h2
  | cons c r =>
    have h0 : 0 < s.size := by rw [← bl_len, hb]; simp
    simp only
    rw [if_neg (by rw [← head_of hb h0]; exact h45 h0), ← hb]
    exact h2

theorem Sofar.neg {s d : ByteArray} {n : Int} (h : Sofar (-1) ((bl d).take d.size) n) (hb : bl s = 45 :: bl d) : Sum1 (bl s) n := by
  rw [List.take_of_length_le (by rw [bl_len]; exact Nat.le_refl _)] at h
  refine ⟨h.1, ?_⟩
  have h2 := h.2
  rw [Int.neg_mul, Int.one_mul] at h2
  rw [hb]
  exact h2

abbrev intR (l : List UInt8) : Value := .tuple #[.int .i64 (intV l), .bool (intB l)]
theorem intR_yes {l : List UInt8} {n : Int} (h : intB l = true ∧ intV l = n) : Ending.returned (.tuple #[.int .i64 n, .bool true]) = .returned (intR l) := by rw [intR, h.1, h.2]
theorem intR_no {l : List UInt8} (h : intB l = false ∧ intV l = 0) : Ending.returned (.tuple #[.int .i64 0, .bool false]) = .returned (intR l) := by rw [intR, h.1, h.2]

set_option maxHeartbeats 400000 in
theorem int_plain (s : ByteArray) (hs : s.size ≤ 281474976710656) (w : World) (h0 : 0 < s.size) (h45 : s[0] ≠ 45) :
    Calls Tryd.prog 38 #[.string s] w fun e w' => e = .returned (intR (bl s)) ∧ Below w.heap.size w w' := by
  have hne : ((s[0].toNat : Int) == 45) = false := byte_ne (k := 45) (by omega) h45
  have hl := not_empty h0
  have HH := Lib.hid h45
  clear h45
  go_enter Tryd.func38, Tryd.ntmps38
  go_wp2_with fail
  go_loopw [6, 20] (fun nv iv wr => (∃ n k, IntRel 1 s nv iv n k) ∧ w = wr) (fun _ iv _ => s.size - (intOf iv).toNat)
  case atStart => exact ⟨⟨0, 0, rfl, rfl, Nat.zero_le _, by unfold Fits; omega, by simp [valZ]; exact Mod.refl _⟩, rfl⟩
  case round =>
    obtain ⟨⟨n, k, ⟨rfl, rfl, hk, htold⟩⟩, rfl⟩ := hrel
    have hf := htold.1
    have hf1 := hf.1
    have hf2 := hf.2
    have HT := Lib.hid htold
    clear htold hf
    by_cases hlt : k < s.size
    · go_wp2_with fail
      go_roundw
      case rel =>
        exact ⟨⟨_, k + 1, ⟨rfl, by simp, hlt, HT.out.plus hlt⟩⟩, trivial⟩
      case measure => simp [intOf]; omega
    · obtain rfl : s.size = k := by omega
      have HS := Lib.hid (HT.out.sum (fun _ => HH.out))
      go_wp2_with (go_at_call 16; refine (decimal_any n ⟨hf1, hf2⟩ _).mono ?_; rintro e w' ⟨rfl, hb⟩)
      · go_ret2
        exact ⟨intR_no (HS.out.no (str_ne ‹_›)), hb⟩
      · go_ret2
        exact ⟨intR_yes (HS.out.yes (str_eq ‹_›)), hb⟩

theorem int_none : intB [] = false ∧ intV [] = 0 := by decide

set_option maxHeartbeats 400000 in
theorem int_empty (s : ByteArray) (w : World) (h0 : ¬ 0 < s.size) :
    Calls Tryd.prog 38 #[.string s] w fun e w' => e = .returned (intR (bl s)) ∧ Below w.heap.size w w' := by
  have hl := is_empty h0
  obtain rfl : s = ByteArray.empty := bl_inj (by rw [ByteArray.toList_eq] at hl; exact hl)
  clear hl h0
  go_enter Tryd.func38, Tryd.ntmps38
  go_wp2_with fail
  go_loopw [6, 20] (fun nv iv wr => (nv = .int .i64 0 ∧ iv = .int .i64 0) ∧ w = wr) (fun _ iv _ => 0)
  case atStart => exact ⟨⟨rfl, rfl⟩, rfl⟩
  case round =>
    obtain ⟨⟨rfl, rfl⟩, rfl⟩ := hrel
    go_wp2_with (go_at_call 16; refine (decimal_any 0 (by unfold Fits; omega) _).mono ?_; rintro e w' ⟨rfl, hb⟩)
    go_ret2
    exact ⟨intR_no int_none, hb⟩

set_option maxHeartbeats 400000 in
theorem int_minus (s : ByteArray) (hs : s.size ≤ 281474976710656) (w : World) (h0 : 0 < s.size) (h45 : s[0] = 45) :
    Calls Tryd.prog 38 #[.string s] w fun e w' => e = .returned (intR (bl s)) ∧ Below w.heap.size w w' := by
  have hne : ((s[0].toNat : Int) == 45) = true := byte_eq (k := 45) (by omega) h45
  have hl := not_empty h0
  have hl2 := not_empty2 h0
  obtain ⟨hc1, hc2⟩ := cut_one h0
  rw [h45] at hc1
  obtain ⟨d, hd⟩ : ∃ d, d = s.extract 1 s.size := ⟨_, rfl⟩
  rw [← hd] at hc1 hc2
  have HD := Lib.hid hd
  have HB := Lib.hid hc1
  have HZ := Lib.hid hc2
  clear h45 hd hc1 hc2
  go_enter Tryd.func38, Tryd.ntmps38
  go_wp2_with fail
  rw [← HD.out]
  go_loopw [6, 20] (fun nv iv wr => (∃ n k, IntRel (-1) d nv iv n k) ∧ w = wr) (fun _ iv _ => d.size - (intOf iv).toNat)
  case atStart => exact ⟨⟨0, 0, rfl, rfl, Nat.zero_le _, by unfold Fits; omega, by simp [valZ]; exact Mod.refl _⟩, rfl⟩
  case round =>
    obtain ⟨⟨n, k, ⟨rfl, rfl, hk, htold⟩⟩, rfl⟩ := hrel
    have hf := htold.1
    have hf1 := hf.1
    have hf2 := hf.2
    have HT := Lib.hid htold
    clear htold hf
    by_cases hlt : k < d.size
    · have hlt2 : k < s.size - 1 := by have := HZ.out; omega
      go_wp2_with fail
      go_roundw
      case rel =>
        exact ⟨⟨_, k + 1, ⟨rfl, by simp, hlt, HT.out.minus hlt⟩⟩, trivial⟩
      case measure => simp [intOf]; omega
    · obtain rfl : d.size = k := by omega
      have hlt2 : ¬ d.size < s.size - 1 := by have := HZ.out; omega
      have HS := Lib.hid (HT.out.neg HB.out)
      go_wp2_with (go_at_call 16; refine (decimal_any n ⟨hf1, hf2⟩ _).mono ?_; rintro e w' ⟨rfl, hb⟩)
      · go_ret2
        exact ⟨intR_no (HS.out.no (str_ne ‹_›)), hb⟩
      · go_ret2
        exact ⟨intR_yes (HS.out.yes (str_eq ‹_›)), hb⟩

theorem int_any (s : ByteArray) (hs : s.size ≤ 281474976710656) (w : World) :
    Calls Tryd.prog 38 #[.string s] w fun e w' => e = .returned (intR (bl s)) ∧ Below w.heap.size w w' := by
  by_cases h0 : 0 < s.size
  · by_cases h45 : s[0] = 45
    · exact int_minus s hs w h0 h45
    · exact int_plain s hs w h0 h45
  · exact int_empty s w h0
end Txt
end Go.Proofs.YtjgaghapjlmcpaaDoor

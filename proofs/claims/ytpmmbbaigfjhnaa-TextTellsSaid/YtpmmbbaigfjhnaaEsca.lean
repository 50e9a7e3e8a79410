import Derived.Test.YtpmmbbaigfjhnaaQuot
import Derived.Test.YtpmmbbaigfjhnaaPat
namespace Go.Proofs.Ytpmmbbaigfjhnaa
open Go.RowKit Wire
set_option linter.unusedVariables false
set_option linter.unusedSimpArgs false
namespace Txt

theorem esc_snoc {s : ByteArray} {k : Nat} (h : k < s.size) : esc ((bl s).take (k + 1)) = esc ((bl s).take k) ++ escB s[k] := by
  unfold esc
  rw [take_at h, List.flatMap_append]
  simp
theorem escB_len (c : UInt8) : (escB c).length ≤ 2 := by
  unfold escB
  split <;> simp
theorem esc_len (l : List UInt8) : (esc l).length ≤ 2 * l.length := by
  induction l with
  | nil => simp [esc]
  | cons c l ih =>
    have := escB_len c
    unfold esc at ih ⊢
    rw [List.flatMap_cons, List.length_append, List.length_cons]
    omega
theorem esc_room (s : ByteArray) (k : Nat) : (esc ((bl s).take k)).length ≤ 2 * s.size := by
  have h1 := esc_len ((bl s).take k)
  have h2 := List.length_take_le' k (bl s)
  have h3 := bl_len s
  omega

structure EscRel (W : World) (s : ByteArray) (ov iv : Value) (w : World) (k : Nat) : Prop where
  iv : iv = .int .i64 k
  le : k ≤ s.size
  own : Grow w W.heap.size 1 ov (esc ((bl s).take k)).length (byteCells ⟨(esc ((bl s).take k)).toArray⟩)
  below : Below W.heap.size W w

set_option maxHeartbeats 1000000 in
theorem escape_any (s : ByteArray) (hs : s.size ≤ 1000000000) (w : World) :
    Calls Try.prog 30 #[.string s] w fun e w' => e = .returned (str (esc (bl s))) ∧ Below w.heap.size w w' := by
  obtain ⟨i0, hi0, hi1, hi2, hi3⟩ := info_parts info_byte
  go_enter Try.func30, Try.ntmps30
  go_wp2_with fail
  go_loopw [3, 7] (fun ov iv wr => ∃ k, EscRel w s ov iv wr k) (fun _ iv _ => s.size - (intOf iv).toNat)
  case atStart => exact ⟨0, rfl, Nat.zero_le _, Grow.nil _ _ _, Below.refl _ _⟩
  case round =>
    obtain ⟨k, ⟨rfl, hk, hown, hbel⟩⟩ := hrel
    have hr := esc_room s k
    by_cases hlt : k < s.size
    · have HN := Lib.hid (esc_snoc hlt)
      have HB := Lib.hid (room (n := (esc ((bl s).take k)).length) (m := 1) (by omega))
      have HB2 := Lib.hid (room (n := (esc ((bl s).take k)).length + 1) (m := 1) (by omega))
      generalize esc ((bl s).take k) = u at *
      have HO := Lib.hid hown
      by_cases hsp : s[k] = 42 ∨ s[k] = 63 ∨ s[k] = 91 ∨ s[k] = 92
      · have HE : Hid (escB s[k] = [92, s[k]]) := by show _ = _; unfold escB; rw [if_pos hsp]
        have ht : ((s[k].toNat : Int) == 42) = true ∨ (((s[k].toNat : Int) == 42) = false ∧ ((s[k].toNat : Int) == 63) = true) ∨ (((s[k].toNat : Int) == 42) = false ∧ ((s[k].toNat : Int) == 63) = false ∧ ((s[k].toNat : Int) == 91) = true) ∨ (((s[k].toNat : Int) == 42) = false ∧ ((s[k].toNat : Int) == 63) = false ∧ ((s[k].toNat : Int) == 91) = false ∧ ((s[k].toNat : Int) == 92) = true) := by
          rcases hsp with h | h | h | h <;> rw [h] <;> decide
        clear hsp hr
        rcases ht with t1 | ⟨t1, t2⟩ | ⟨t1, t2, t3⟩ | ⟨t1, t2, t3, t4⟩
        all_goals
          go_wp2_with (first
            | (at_builtin; refine wpList_append_src _ rfl (.tmp 18) (.tmp 19) _ _ rfl w.heap.size 5 i0 _ 1 1 Try.underlying39 hi0 hi1 hi2 hi3 rfl (by omega) _ _ _ rfl (hown.alloc _) _ 1 [.int .u8 92] rfl (Src.ofSlice _ Try.underlying39 ⟨wr.heap.size, 0, none⟩ 1 1 [.int .u8 92] rfl (new_cells wr _ [.int .u8 92]) (by simp [Value.oneCell'])) HB.out.1 HB.out.2 (Nat.le_trans hbel.size (by simp)) ?_; intro v4 w4 hown4 hg4 _; have hz4 : w.heap.size ≤ w4.heap.size := Nat.le_trans (Nat.le_trans hbel.size (by simp)) hg4.size)
            | (at_builtin; refine wpList_append_src _ rfl (.tmp 21) (.tmp 25) _ _ rfl w.heap.size 5 i0 _ 1 1 Try.underlying39 hi0 hi1 hi2 hi3 rfl (by omega) _ _ _ rfl (hown4.alloc _) _ 1 [.int .u8 s[k].toNat] rfl (Src.ofSlice _ Try.underlying39 ⟨w4.heap.size, 0, none⟩ 1 1 [.int .u8 s[k].toNat] rfl (new_cells w4 _ [.int .u8 s[k].toNat]) (by simp [Value.oneCell'])) HB2.out.1 HB2.out.2 (Nat.le_trans hz4 (by simp)) ?_; intro v5 w5 hown5 hg5 _))
          have HS : Hid (EscRel w s v5 (.int .i64 ((k : Int) + 1)) w5 (k + 1)) := by
            refine ⟨by simp, hlt, ?_, ?_⟩
            · rw [HN.out, HE.out]
              have e : byteCells ⟨(u ++ [92, s[k]]).toArray⟩ = byteCells ⟨u.toArray⟩ ++ [.int .u8 92] ++ [.int .u8 s[k].toNat] := by simp [byteCells]
              rw [e, List.length_append]
              exact hown5
            · refine Below.grown (Below.alloc (Below.grown (Below.alloc hbel hbel.size _) hg4 (Nat.le_trans hbel.size (by simp)) fun g hg => (hown.block g hg).1) hz4 _) hg5 (Nat.le_trans hz4 (by simp)) fun g hg => (hown4.block g hg).1
          go_roundw
          case rel => exact ⟨k + 1, HS.out⟩
          case measure => simp [intOf]; omega
      · have HE : Hid (escB s[k] = [s[k]]) := by show _ = _; unfold escB; rw [if_neg hsp]
        have t1 : ((s[k].toNat : Int) == 42) = false := byte_ne (k := 42) (by omega) (fun e => hsp (.inl e))
        have t2 : ((s[k].toNat : Int) == 63) = false := byte_ne (k := 63) (by omega) (fun e => hsp (.inr (.inl e)))
        have t3 : ((s[k].toNat : Int) == 91) = false := byte_ne (k := 91) (by omega) (fun e => hsp (.inr (.inr (.inl e))))
        have t4 : ((s[k].toNat : Int) == 92) = false := byte_ne (k := 92) (by omega) (fun e => hsp (.inr (.inr (.inr e))))
        clear hsp hr
        go_wp2_with (at_builtin; refine wpList_append_src _ rfl (.tmp 21) (.tmp 25) _ _ rfl w.heap.size 5 i0 _ 1 1 Try.underlying39 hi0 hi1 hi2 hi3 rfl (by omega) _ _ _ rfl (hown.alloc _) _ 1 [.int .u8 s[k].toNat] rfl (Src.ofSlice _ Try.underlying39 ⟨wr.heap.size, 0, none⟩ 1 1 [.int .u8 s[k].toNat] rfl (new_cells wr _ [.int .u8 s[k].toNat]) (by simp [Value.oneCell'])) HB.out.1 HB.out.2 (Nat.le_trans hbel.size (by simp)) ?_; intro v5 w5 hown5 hg5 _)
        have HS : Hid (EscRel w s v5 (.int .i64 ((k : Int) + 1)) w5 (k + 1)) := by
          refine ⟨by simp, hlt, ?_, ?_⟩
          · rw [HN.out, HE.out]
            have e : byteCells ⟨(u ++ [s[k]]).toArray⟩ = byteCells ⟨u.toArray⟩ ++ [.int .u8 s[k].toNat] := by simp [byteCells]
            rw [e, List.length_append]
            exact hown5
          · exact Below.grown (Below.alloc hbel hbel.size _) hg5 (Nat.le_trans hbel.size (by simp)) fun g hg => (hown.block g hg).1
        go_roundw
        case rel => exact ⟨k + 1, HS.out⟩
        case measure => simp [intOf]; omega
    · obtain rfl : s.size = k := by omega
      have hT : (bl s).take s.size = bl s := List.take_of_length_le (by rw [bl_len]; exact Nat.le_refl _)
      rw [hT] at hown
      have hrun := run_string_own (P := Try.prog) wr 39 9 5 w.heap.size _ (esc (bl s)) hown Try.underlying39 Try.underlying5 Try.underlying9
      clear hown hT hr
      go_wp2_with fail
      go_ret
      exact ⟨rfl, hbel⟩
end Txt
end Go.Proofs.Ytpmmbbaigfjhnaa

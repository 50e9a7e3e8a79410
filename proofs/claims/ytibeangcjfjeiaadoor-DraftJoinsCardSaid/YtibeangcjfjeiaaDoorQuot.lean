import Derived.Test.YtibeangcjfjeiaaDoorMgH
import Derived.Test.YtibeangcjfjeiaaDoorMgD
import Derived.Deep.RegionHeld3
import Derived.Deep.AppendLies
namespace Go.Proofs.YtibeangcjfjeiaaDoor
open Go.RowKit Wire
set_option linter.unusedVariables false
set_option maxRecDepth 100000
set_option linter.unusedSimpArgs false
namespace Txt

/-- What an append of some bytes leaves. -/
def Grown (w : World) (B : Nat) (l : List UInt8) (e : Ending) (w' : World) : Prop :=
  ∃ v', e = .returned v' ∧ Grow w' B 1 v' l.length (byteCells ⟨l.toArray⟩) ∧ Below B w w'

theorem Grown.of {w w1 w' : World} {B n : Nat} {v v' : Value} {l x : List UInt8} {xs : List Value} (hown : Grow w B 1 v l.length (byteCells ⟨l.toArray⟩)) (hB : B ≤ w.heap.size) (h1 : Below w.heap.size w w1)
    (hg : Grow w' B 1 v' (l.length + n) (byteCells ⟨l.toArray⟩ ++ xs)) (hgr : w1.grownBy w' v.ownBlock) (hx : xs = byteCells ⟨x.toArray⟩) (hn : n = x.length) : Grown w B (l ++ x) (.returned v') w' := by
  subst hx hn
  refine ⟨v', rfl, ?_, (h1.mono hB).grown hgr (Nat.le_trans hB h1.size) fun g hv => (hown.block g hv).1⟩
  rw [bytes_append] at hg
  rw [List.length_append]
  exact hg

theorem room {n m : Nat} (h : n + m ≤ 140737488355328) : n + m ≤ maxLen ∧ (n + m) * 1 ≤ 140737488355328 := ⟨small_max (by omega), by omega⟩

theorem cells_one (c : UInt8) : [Value.int .u8 c.toNat] = byteCells ⟨[c].toArray⟩ := rfl

set_option maxHeartbeats 400000 in
theorem appendQuoted_plain (v : Value) (l : List UInt8) (c : UInt8) (B : Nat) (w : World) (hown : Grow w B 1 v l.length (byteCells ⟨l.toArray⟩)) (hB : B ≤ w.heap.size) (hl : l.length ≤ 1099511627776)
    (h34 : ((c.toNat : Int) == 34) = false) (h92 : ((c.toNat : Int) == 92) = false) (h10 : ((c.toNat : Int) == 10) = false) (h32 : 32 ≤ c.toNat) (h126 : c.toNat ≤ 126) :
    Calls Tryd.prog 53 #[v, .int .u8 c.toNat] w (Grown w B (l ++ [c])) := by
  obtain ⟨i0, hi0, hi1, hi2, hi3⟩ := info_parts info_byte
  have HB := Lib.hid (room (n := l.length) (m := 1) (by omega))
  obtain ⟨A, cp, rfl⟩ := hown.slice
  go_enter Tryd.func53, Tryd.ntmps53
  go_wp2_with (at_builtin; refine wpList_append_src _ rfl (.tmp 38) (.tmp 40) _ _ rfl B 5 i0 _ 1 1 Tryd.underlying59 hi0 hi1 hi2 hi3 rfl (by omega) _ _ _ rfl (hown.alloc _) _ 1 [.int .u8 c.toNat] rfl (Src.ofSlice _ Tryd.underlying59 ⟨w.heap.size, 0, none⟩ 1 1 [.int .u8 c.toNat] rfl (new_cells w _ [.int .u8 c.toNat]) (by simp [Value.oneCell'])) HB.out.1 HB.out.2 (Nat.le_trans hB (by simp)) ?_; intro v4 w4 hown4 hg4 _)
  go_ret
  exact Grown.of hown hB ((Below.refl _ _).alloc (Nat.le_refl _) _) hown4 hg4 rfl rfl

abbrev hexS : ByteArray := ⟨#[48, 49, 50, 51, 52, 53, 54, 55, 56, 57, 97, 98, 99, 100, 101, 102]⟩
theorem hex_at (n : Nat) (h : n < 16) (z : Int) (hz : z = n) (w : World) : Sem.run Tryd.prog (Instr.index 9 (.string hexS) (.int .u8 z)) w = .ok (.int .u8 (hx n).toNat) w := by
  subst hz
  have h0 : Sem.run Tryd.prog (Instr.index 9 (.string hexS) (.int .u8 ((0 : Nat) : Int))) w = .ok (.int .u8 (hx 0).toNat) w := by kernel_rfl
  have h1 : Sem.run Tryd.prog (Instr.index 9 (.string hexS) (.int .u8 ((1 : Nat) : Int))) w = .ok (.int .u8 (hx 1).toNat) w := by kernel_rfl
  have h2 : Sem.run Tryd.prog (Instr.index 9 (.string hexS) (.int .u8 ((2 : Nat) : Int))) w = .ok (.int .u8 (hx 2).toNat) w := by kernel_rfl
  have h3 : Sem.run Tryd.prog (Instr.index 9 (.string hexS) (.int .u8 ((3 : Nat) : Int))) w = .ok (.int .u8 (hx 3).toNat) w := by kernel_rfl
  have h4 : Sem.run Tryd.prog (Instr.index 9 (.string hexS) (.int .u8 ((4 : Nat) : Int))) w = .ok (.int .u8 (hx 4).toNat) w := by kernel_rfl
  have h5 : Sem.run Tryd.prog (Instr.index 9 (.string hexS) (.int .u8 ((5 : Nat) : Int))) w = .ok (.int .u8 (hx 5).toNat) w := by kernel_rfl
  have h6 : Sem.run Tryd.prog (Instr.index 9 (.string hexS) (.int .u8 ((6 : Nat) : Int))) w = .ok (.int .u8 (hx 6).toNat) w := by kernel_rfl
  have h7 : Sem.run Tryd.prog (Instr.index 9 (.string hexS) (.int .u8 ((7 : Nat) : Int))) w = .ok (.int .u8 (hx 7).toNat) w := by kernel_rfl
  have h8 : Sem.run Tryd.prog (Instr.index 9 (.string hexS) (.int .u8 ((8 : Nat) : Int))) w = .ok (.int .u8 (hx 8).toNat) w := by kernel_rfl
  have h9 : Sem.run Tryd.prog (Instr.index 9 (.string hexS) (.int .u8 ((9 : Nat) : Int))) w = .ok (.int .u8 (hx 9).toNat) w := by kernel_rfl
  have h10 : Sem.run Tryd.prog (Instr.index 9 (.string hexS) (.int .u8 ((10 : Nat) : Int))) w = .ok (.int .u8 (hx 10).toNat) w := by kernel_rfl
  have h11 : Sem.run Tryd.prog (Instr.index 9 (.string hexS) (.int .u8 ((11 : Nat) : Int))) w = .ok (.int .u8 (hx 11).toNat) w := by kernel_rfl
  have h12 : Sem.run Tryd.prog (Instr.index 9 (.string hexS) (.int .u8 ((12 : Nat) : Int))) w = .ok (.int .u8 (hx 12).toNat) w := by kernel_rfl
  have h13 : Sem.run Tryd.prog (Instr.index 9 (.string hexS) (.int .u8 ((13 : Nat) : Int))) w = .ok (.int .u8 (hx 13).toNat) w := by kernel_rfl
  have h14 : Sem.run Tryd.prog (Instr.index 9 (.string hexS) (.int .u8 ((14 : Nat) : Int))) w = .ok (.int .u8 (hx 14).toNat) w := by kernel_rfl
  have h15 : Sem.run Tryd.prog (Instr.index 9 (.string hexS) (.int .u8 ((15 : Nat) : Int))) w = .ok (.int .u8 (hx 15).toNat) w := by kernel_rfl
  have hn : n = 0 ∨ n = 1 ∨ n = 2 ∨ n = 3 ∨ n = 4 ∨ n = 5 ∨ n = 6 ∨ n = 7 ∨ n = 8 ∨ n = 9 ∨ n = 10 ∨ n = 11 ∨ n = 12 ∨ n = 13 ∨ n = 14 ∨ n = 15 := by omega
  clear h
  rcases hn with rfl | rfl | rfl | rfl | rfl | rfl | rfl | rfl | rfl | rfl | rfl | rfl | rfl | rfl | rfl | rfl
  · exact h0
  · exact h1
  · exact h2
  · exact h3
  · exact h4
  · exact h5
  · exact h6
  · exact h7
  · exact h8
  · exact h9
  · exact h10
  · exact h11
  · exact h12
  · exact h13
  · exact h14
  · exact h15
theorem and_15 : ∀ n : Nat, n < 256 → bits BinOp.and IntKind.u8 (n : Int) 15 = ((n % 16 : Nat) : Int) := by decide +kernel
theorem hex_hi (c : UInt8) (w : World) : Sem.run Tryd.prog (Instr.index 9 (.string hexS) (.int .u8 ((c.toNat : Int) / 16))) w = .ok (.int .u8 (hx (c.toNat / 16)).toNat) w :=
  hex_at _ (by have := UInt8.toNat_lt c; omega) _ (by omega) w
theorem hex_lo (c : UInt8) (w : World) : Sem.run Tryd.prog (Instr.index 9 (.string hexS) (.int .u8 (bits BinOp.and IntKind.u8 (c.toNat : Int) 15))) w = .ok (.int .u8 (hx (c.toNat % 16)).toNat) w :=
  hex_at _ (Nat.mod_lt _ (by omega)) _ (and_15 _ (UInt8.toNat_lt c)) w

set_option maxHeartbeats 400000 in
theorem appendQuoted_hex (v : Value) (l : List UInt8) (c : UInt8) (B : Nat) (w : World) (hown : Grow w B 1 v l.length (byteCells ⟨l.toArray⟩)) (hB : B ≤ w.heap.size) (hl : l.length ≤ 1099511627776)
    (h34 : ((c.toNat : Int) == 34) = false) (h92 : ((c.toNat : Int) == 92) = false) (h10 : ((c.toNat : Int) == 10) = false) (h32 : c.toNat < 32) :
    Calls Tryd.prog 53 #[v, .int .u8 c.toNat] w (Grown w B (l ++ [92, 120, hx (c.toNat / 16), hx (c.toNat % 16)])) := by
  obtain ⟨i0, hi0, hi1, hi2, hi3⟩ := info_parts info_byte
  have HB := Lib.hid (room (n := l.length) (m := 4) (by omega))
  obtain ⟨A, cp, rfl⟩ := hown.slice
  go_enter Tryd.func53, Tryd.ntmps53
  go_wp2_with fail
  have hh1 := hex_hi c
  have hh2 := hex_lo c
  go_region_held3 (fun w' => True) (trivial)
    (first
      | (refine step_append_src _ (by rfl) (.tmp 29) (.tmp 36) _ _ (by rfl) B 5 i0 _ 1 1 Tryd.underlying59 hi0 hi1 hi2 hi3 rfl (by omega) _ _ _ (by rfl) ((hown.alloc _).drew) _ 4 [.int .u8 92, .int .u8 120, .int .u8 (hx (c.toNat / 16)).toNat, .int .u8 (hx (c.toNat % 16)).toNat] (by rfl) (Src.ofSlice _ Tryd.underlying59 ⟨w.heap.size, 0, none⟩ 4 4 _ rfl (new_cells w _ _) (by simp [Value.oneCell'])) HB.out.1 HB.out.2 (Nat.le_trans hB (by simp)) ?_; intro v4 w4 hown4 hg4 _))
  all_goals
    go_wp2_with fail
    go_ret
    exact Grown.of hown hB (((Below.refl _ _).alloc (Nat.le_refl _) _).drew) hown4 hg4 rfl rfl

set_option maxHeartbeats 400000 in
theorem appendQuoted_hex2 (v : Value) (l : List UInt8) (c : UInt8) (B : Nat) (w : World) (hown : Grow w B 1 v l.length (byteCells ⟨l.toArray⟩)) (hB : B ≤ w.heap.size) (hl : l.length ≤ 1099511627776)
    (h34 : ((c.toNat : Int) == 34) = false) (h92 : ((c.toNat : Int) == 92) = false) (h10 : ((c.toNat : Int) == 10) = false) (h32 : 32 ≤ c.toNat) (h126 : 126 < c.toNat) :
    Calls Tryd.prog 53 #[v, .int .u8 c.toNat] w (Grown w B (l ++ [92, 120, hx (c.toNat / 16), hx (c.toNat % 16)])) := by
  obtain ⟨i0, hi0, hi1, hi2, hi3⟩ := info_parts info_byte
  have HB := Lib.hid (room (n := l.length) (m := 4) (by omega))
  obtain ⟨A, cp, rfl⟩ := hown.slice
  go_enter Tryd.func53, Tryd.ntmps53
  go_wp2_with fail
  have hh1 := hex_hi c
  have hh2 := hex_lo c
  go_region_held3 (fun w' => True) (trivial)
    (first
      | (refine step_append_src _ (by rfl) (.tmp 29) (.tmp 36) _ _ (by rfl) B 5 i0 _ 1 1 Tryd.underlying59 hi0 hi1 hi2 hi3 rfl (by omega) _ _ _ (by rfl) ((hown.alloc _).drew) _ 4 [.int .u8 92, .int .u8 120, .int .u8 (hx (c.toNat / 16)).toNat, .int .u8 (hx (c.toNat % 16)).toNat] (by rfl) (Src.ofSlice _ Tryd.underlying59 ⟨w.heap.size, 0, none⟩ 4 4 _ rfl (new_cells w _ _) (by simp [Value.oneCell'])) HB.out.1 HB.out.2 (Nat.le_trans hB (by simp)) ?_; intro v4 w4 hown4 hg4 _))
  all_goals
    go_wp2_with fail
    go_ret
    exact Grown.of hown hB (((Below.refl _ _).alloc (Nat.le_refl _) _).drew) hown4 hg4 rfl rfl

set_option maxHeartbeats 400000 in
theorem appendQuoted_two (v : Value) (l : List UInt8) (c : UInt8) (B : Nat) (w : World) (hown : Grow w B 1 v l.length (byteCells ⟨l.toArray⟩)) (hB : B ≤ w.heap.size) (hl : l.length ≤ 1099511627776)
    (h : ((c.toNat : Int) == 34) = true ∨ (((c.toNat : Int) == 34) = false ∧ ((c.toNat : Int) == 92) = true)) :
    Calls Tryd.prog 53 #[v, .int .u8 c.toNat] w (Grown w B (l ++ [92, c])) := by
  obtain ⟨i0, hi0, hi1, hi2, hi3⟩ := info_parts info_byte
  have HB := Lib.hid (room (n := l.length) (m := 2) (by omega))
  obtain ⟨A, cp, rfl⟩ := hown.slice
  rcases h with h34 | ⟨h34, h92⟩
  all_goals
    go_enter Tryd.func53, Tryd.ntmps53
    go_wp2_with (at_builtin; refine wpList_append_src _ rfl (.tmp 12) (.tmp 14) _ _ rfl B 5 i0 _ 1 1 Tryd.underlying59 hi0 hi1 hi2 hi3 rfl (by omega) _ _ _ rfl (hown.alloc _) _ 2 [.int .u8 92, .int .u8 c.toNat] rfl (Src.ofSlice _ Tryd.underlying59 ⟨w.heap.size, 0, none⟩ 2 2 [.int .u8 92, .int .u8 c.toNat] rfl (new_cells w _ [.int .u8 92, .int .u8 c.toNat]) (by simp [Value.oneCell'])) HB.out.1 HB.out.2 (Nat.le_trans hB (by simp)) ?_; intro v4 w4 hown4 hg4 _)
    go_ret
    exact Grown.of hown hB ((Below.refl _ _).alloc (Nat.le_refl _) _) hown4 hg4 rfl rfl

set_option maxHeartbeats 400000 in
theorem appendQuoted_lf (v : Value) (l : List UInt8) (c : UInt8) (B : Nat) (w : World) (hown : Grow w B 1 v l.length (byteCells ⟨l.toArray⟩)) (hB : B ≤ w.heap.size) (hl : l.length ≤ 1099511627776)
    (h34 : ((c.toNat : Int) == 34) = false) (h92 : ((c.toNat : Int) == 92) = false) (h10 : ((c.toNat : Int) == 10) = true) :
    Calls Tryd.prog 53 #[v, .int .u8 c.toNat] w (Grown w B (l ++ [92, 110])) := by
  obtain ⟨i0, hi0, hi1, hi2, hi3⟩ := info_parts info_byte
  have HB := Lib.hid (room (n := l.length) (m := 2) (by omega))
  obtain ⟨A, cp, rfl⟩ := hown.slice
  go_enter Tryd.func53, Tryd.ntmps53
  go_wp2_with (at_builtin; refine wpList_append_src _ rfl (.tmp 19) (.tmp 20) _ _ rfl B 5 i0 _ 1 1 Tryd.underlying59 hi0 hi1 hi2 hi3 rfl (by omega) _ _ _ rfl (hown.alloc _) _ 2 [.int .u8 92, .int .u8 110] rfl (Src.ofSlice _ Tryd.underlying59 ⟨w.heap.size, 0, none⟩ 2 2 [.int .u8 92, .int .u8 110] rfl (new_cells w _ [.int .u8 92, .int .u8 110]) (by simp [Value.oneCell'])) HB.out.1 HB.out.2 (Nat.le_trans hB (by simp)) ?_; intro v4 w4 hown4 hg4 _)
  go_ret
  exact Grown.of hown hB ((Below.refl _ _).alloc (Nat.le_refl _) _) hown4 hg4 rfl rfl

theorem appendQuoted_any (v : Value) (l : List UInt8) (c : UInt8) (B : Nat) (w : World) (hown : Grow w B 1 v l.length (byteCells ⟨l.toArray⟩)) (hB : B ≤ w.heap.size) (hl : l.length ≤ 1099511627776) :
    Calls Tryd.prog 53 #[v, .int .u8 c.toNat] w (Grown w B (l ++ encB c)) := by
  unfold encB
  by_cases h34 : c = 34
  · rw [if_pos (.inl h34)]
    exact appendQuoted_two v l c B w hown hB hl (.inl (byte_eq (k := 34) (by omega) h34))
  · by_cases h92 : c = 92
    · rw [if_pos (.inr h92)]
      exact appendQuoted_two v l c B w hown hB hl (.inr ⟨byte_ne (k := 34) (by omega) h34, byte_eq (k := 92) (by omega) h92⟩)
    · rw [if_neg (by rintro (h | h); exact h34 h; exact h92 h)]
      have g34 := byte_ne (k := 34) (by omega) h34
      have g92 := byte_ne (k := 92) (by omega) h92
      by_cases h10 : c = 10
      · rw [if_pos h10]
        exact appendQuoted_lf v l c B w hown hB hl g34 g92 (byte_eq (k := 10) (by omega) h10)
      · rw [if_neg h10]
        have g10 := byte_ne (k := 10) (by omega) h10
        split
        · rename_i h
          by_cases h32 : c.toNat < 32
          · exact appendQuoted_hex v l c B w hown hB hl g34 g92 g10 h32
          · exact appendQuoted_hex2 v l c B w hown hB hl g34 g92 g10 (by omega) (by omega)
        · exact appendQuoted_plain v l c B w hown hB hl g34 g92 g10 (by omega) (by omega)

structure QuoRel (W : World) (s : ByteArray) (ov iv : Value) (w : World) (k : Nat) : Prop where
  iv : iv = .int .i64 k
  le : k ≤ s.size
  own : Grow w W.heap.size 1 ov (34 :: ((bl s).take k).flatMap encB).length (byteCells ⟨(34 :: ((bl s).take k).flatMap encB).toArray⟩)
  below : Below W.heap.size W w

theorem quo_snoc {s : ByteArray} {k : Nat} (h : k < s.size) : 34 :: ((bl s).take (k + 1)).flatMap encB = (34 :: ((bl s).take k).flatMap encB) ++ encB s[k] := by
  rw [take_at h, List.flatMap_append]
  simp
theorem quo_room (s : ByteArray) (k : Nat) : (34 :: ((bl s).take k).flatMap encB).length ≤ 4 * s.size + 1 := by
  have h1 := flat_len ((bl s).take k)
  have h2 := List.length_take_le k (bl s)
  have h3 := List.length_take_le' k (bl s)
  have h4 := bl_len s
  simp only [List.length_cons]
  omega

theorem quo_done (s : ByteArray) : (34 :: ((bl s).take s.size).flatMap encB) ++ [34] = quo (bl s) := by
  rw [List.take_of_length_le (by rw [bl_len]; exact Nat.le_refl _)]
  rfl

/-- The end of a text that has grown. -/
theorem grown_end {W wr w4 : World} {ov v4 : Value} {l t x : List UInt8} {xs : List Value} {n : Nat} (hown : Grow wr W.heap.size 1 ov l.length (byteCells ⟨l.toArray⟩)) (hbel : Below W.heap.size W wr)
    {o : Obj} (hown4 : Grow w4 W.heap.size 1 v4 (l.length + n) (byteCells ⟨l.toArray⟩ ++ xs)) (hg4 : (wr.alloc o).grownBy w4 ov.ownBlock) (hx : xs = byteCells ⟨x.toArray⟩) (hn : n = x.length) (ht : l ++ x = t) :
    Sem.run Tryd.prog (convert 59 9 v4) w4 = .ok (str t) w4 ∧ Below W.heap.size W w4 := by
  subst hx hn ht
  refine ⟨run_string_own w4 _ _ 5 W.heap.size v4 _ ?_ Tryd.underlying59 Tryd.underlying5 Tryd.underlying9, (hbel.alloc hbel.size _).grown hg4 (Nat.le_trans hbel.size (by simp)) fun g hg => (hown.block g hg).1⟩
  rw [← bytes_append, List.length_append]
  exact hown4

set_option maxHeartbeats 400000 in
theorem quote_any (s : ByteArray) (hs : s.size ≤ 100000000000) (w : World) :
    Calls Tryd.prog 29 #[.string s] w fun e w' => e = .returned (str (quo (bl s))) ∧ Below w.heap.size w w' := by
  obtain ⟨i0, hi0, hi1, hi2, hi3⟩ := info_parts info_byte
  go_enter Tryd.func29, Tryd.ntmps29
  go_wp2_with fail
  go_loopw [3, 8] (fun ov iv wr => ∃ k, QuoRel w s ov iv wr k) (fun _ iv _ => s.size - (intOf iv).toNat)
  case atStart => exact ⟨0, rfl, Nat.zero_le _, Grow.fresh w _ [.int .u8 34] (by simp), (Below.refl _ _).alloc (Nat.le_refl _) _⟩
  case round =>
    obtain ⟨k, ⟨rfl, hk, hown, hbel⟩⟩ := hrel
    have hr := quo_room s k
    have HO := Lib.hid hown
    have HR := Lib.hid hr
    by_cases hlt : k < s.size
    · have HQ := Lib.hid (quo_snoc hlt)
      have HC := Lib.hid (appendQuoted_any _ _ s[k] w.heap.size wr hown hbel.size (by have := HR.out; omega))
      clear hown hr
      go_wp2_with (go_at_call 53; refine HC.out.mono ?_; rintro e w3 ⟨v3, rfl, hown3, hb3⟩)
      have HS : Hid (QuoRel w s v3 (.int .i64 ((k : Int) + 1)) w3 (k + 1)) := ⟨by simp, hlt, by rw [HQ.out]; exact hown3, hbel.trans hb3⟩
      go_roundw
      case rel => exact ⟨k + 1, HS.out⟩
      case measure => simp [intOf]; omega
    · obtain rfl : s.size = k := by omega
      have HB := Lib.hid (room (n := (34 :: ((bl s).take s.size).flatMap encB).length) (m := 1) (by omega))
      have HD := Lib.hid (quo_done s)
      clear hr
      go_wp2_with (at_builtin; refine wpList_append_src _ rfl (.tmp 17) (.tmp 18) _ _ rfl w.heap.size 5 i0 _ 1 1 Tryd.underlying59 hi0 hi1 hi2 hi3 rfl (by omega) _ _ _ rfl (hown.alloc _) _ 1 [.int .u8 34] rfl (Src.ofSlice _ Tryd.underlying59 ⟨wr.heap.size, 0, none⟩ 1 1 [.int .u8 34] rfl (new_cells wr _ [.int .u8 34]) (by simp [Value.oneCell'])) HB.out.1 HB.out.2 (Nat.le_trans hbel.size (by simp)) ?_; intro v4 w4 hown4 hg4 _; have hend := grown_end (x := [34]) hown hbel hown4 hg4 rfl rfl HD.out; have hrun := hend.1; have HE := Lib.hid hend.2; clear hend)
      go_ret
      exact ⟨rfl, HE.out⟩
end Txt
end Go.Proofs.YtibeangcjfjeiaaDoor

import Derived.Test.YtibeangcjfjeiaaDoorQuot
import Derived.Deep.QuietTactic
import Derived.BigQuiet
import Derived.Deep.Draws
namespace Go.Proofs.YtibeangcjfjeiaaDoor
open Go.RowKit Wire
set_option linter.unusedVariables false
set_option maxRecDepth 100000
set_option linter.unusedSimpArgs false
namespace Txt

theorem hex_iat (n : Nat) (h : n < 16) (w : World) : Sem.run Tryd.prog (Instr.index 9 (.string hexS) (.int .i64 (n : Int))) w = .ok (.int .u8 (hx n).toNat) w := by
  have h0 : Sem.run Tryd.prog (Instr.index 9 (.string hexS) (.int .i64 ((0 : Nat) : Int))) w = .ok (.int .u8 (hx 0).toNat) w := by kernel_rfl
  have h1 : Sem.run Tryd.prog (Instr.index 9 (.string hexS) (.int .i64 ((1 : Nat) : Int))) w = .ok (.int .u8 (hx 1).toNat) w := by kernel_rfl
  have h2 : Sem.run Tryd.prog (Instr.index 9 (.string hexS) (.int .i64 ((2 : Nat) : Int))) w = .ok (.int .u8 (hx 2).toNat) w := by kernel_rfl
  have h3 : Sem.run Tryd.prog (Instr.index 9 (.string hexS) (.int .i64 ((3 : Nat) : Int))) w = .ok (.int .u8 (hx 3).toNat) w := by kernel_rfl
  have h4 : Sem.run Tryd.prog (Instr.index 9 (.string hexS) (.int .i64 ((4 : Nat) : Int))) w = .ok (.int .u8 (hx 4).toNat) w := by kernel_rfl
  have h5 : Sem.run Tryd.prog (Instr.index 9 (.string hexS) (.int .i64 ((5 : Nat) : Int))) w = .ok (.int .u8 (hx 5).toNat) w := by kernel_rfl
  have h6 : Sem.run Tryd.prog (Instr.index 9 (.string hexS) (.int .i64 ((6 : Nat) : Int))) w = .ok (.int .u8 (hx 6).toNat) w := by kernel_rfl
  have h7 : Sem.run Tryd.prog (Instr.index 9 (.string hexS) (.int .i64 ((7 : Nat) : Int))) w = .ok (.int .u8 (hx 7).toNat) w := by kernel_rfl
  have h8 : Sem.run Tryd.prog (Instr.index 9 (.string hexS) (.int .i64 ((8 : Nat) : Int))) w = .ok (.int .u8 (hx 8).toNat) w := by kernel_rfl
  have h9 : Sem.run Tryd.prog (Instr.index 9 (.string hexS) (.int .i64 ((9 : Nat) : Int))) w = .ok (.int .u8 (hx 9).toNat) w := by kernel_rfl
  have h10 : Sem.run Tryd.prog (Instr.index 9 (.string hexS) (.int .i64 ((10 : Nat) : Int))) w = .ok (.int .u8 (hx 10).toNat) w := by kernel_rfl
  have h11 : Sem.run Tryd.prog (Instr.index 9 (.string hexS) (.int .i64 ((11 : Nat) : Int))) w = .ok (.int .u8 (hx 11).toNat) w := by kernel_rfl
  have h12 : Sem.run Tryd.prog (Instr.index 9 (.string hexS) (.int .i64 ((12 : Nat) : Int))) w = .ok (.int .u8 (hx 12).toNat) w := by kernel_rfl
  have h13 : Sem.run Tryd.prog (Instr.index 9 (.string hexS) (.int .i64 ((13 : Nat) : Int))) w = .ok (.int .u8 (hx 13).toNat) w := by kernel_rfl
  have h14 : Sem.run Tryd.prog (Instr.index 9 (.string hexS) (.int .i64 ((14 : Nat) : Int))) w = .ok (.int .u8 (hx 14).toNat) w := by kernel_rfl
  have h15 : Sem.run Tryd.prog (Instr.index 9 (.string hexS) (.int .i64 ((15 : Nat) : Int))) w = .ok (.int .u8 (hx 15).toNat) w := by kernel_rfl
  have hn : n = 0 ∨ n = 1 ∨ n = 2 ∨ n = 3 ∨ n = 4 ∨ n = 5 ∨ n = 6 ∨ n = 7 ∨ n = 8 ∨ n = 9 ∨ n = 10 ∨ n = 11 ∨ n = 12 ∨ n = 13 ∨ n = 14 ∨ n = 15 := by omega
  clear h
  rcases hn with rfl | rfl | rfl | rfl | rfl | rfl | rfl | rfl | rfl | rfl | rfl | rfl | rfl | rfl | rfl | rfl
  · exact h0
  · exact h1
  · exact h2
  · exact h3
  · exact h4
  · exact h5
  · exact h6
  · exact h7
  · exact h8
  · exact h9
  · exact h10
  · exact h11
  · exact h12
  · exact h13
  · exact h14
  · exact h15
theorem dgN_hx : ∀ k, k < 16 → dgN (hx k) = k := by decide +kernel
theorem dgN_none (c : UInt8) (h : ∀ j, j < 16 → hx j ≠ c) : dgN c = 0 := by
  unfold dgN
  rw [if_neg]
  intro hc
  obtain ⟨j, hj, e⟩ := List.mem_iff_getElem.1 (List.contains_iff_mem.1 hc)
  have hj' : j < 16 := by simpa [hexes] using hj
  refine h j hj' ?_
  unfold hx
  rw [List.getD_eq_getElem?_getD, List.getElem?_eq_getElem hj]
  exact e

theorem hex_more {k : Nat} {c : UInt8} (h : ∀ j, j < k → hx j ≠ c) (hk : hx k ≠ c) : ∀ j, j < k + 1 → hx j ≠ c := by
  intro j hj
  by_cases e : j = k
  · subst e
    exact hk
  · exact h j (by omega)

set_option maxHeartbeats 400000 in
theorem digit_any (c : UInt8) (w : World) :
    Calls Tryd.prog 92 #[.int .u8 c.toNat] w fun e w' => e = .returned (.int .u8 (dgN c)) ∧ w' = w := by
  go_enter Tryd.func92, Tryd.ntmps92
  go_wp2_with fail
  go_loopw [4] (fun iv wr => (∃ k : Nat, iv = .int .i64 k ∧ k ≤ 16 ∧ Hid (∀ j, j < k → hx j ≠ c)) ∧ w = wr) (fun iv _ => 16 - (intOf iv).toNat)
  case atStart => exact ⟨⟨0, rfl, by omega, Lib.hid (fun j hj => absurd hj (by omega))⟩, rfl⟩
  case round =>
    obtain ⟨⟨k, rfl, hk, HN⟩, rfl⟩ := hrel
    by_cases hlt : k < 16
    · have hi := hex_iat k hlt
      by_cases hc : hx k = c
      · have ht : (((hx k).toNat : Int) == (c.toNat : Int)) = true := by rw [hc]; simp
        have HK := Lib.hid (dgN_hx k hlt)
        have HC := Lib.hid hc
        clear hc
        go_wp2_with fail
        go_ret
        exact ⟨by rw [← HC.out, HK.out]; rfl, rfl⟩
      · have ht : (((hx k).toNat : Int) == (c.toNat : Int)) = false := beq_eq_false_iff_ne.2 fun e => hc (UInt8.toNat_inj.1 (by omega))
        have HC := Lib.hid hc
        clear hc
        go_wp2_with fail
        go_roundw
        case rel => exact ⟨⟨k + 1, by simp, hlt, Lib.hid (hex_more HN.out HC.out)⟩, trivial⟩
        case measure => simp [intOf]; omega
    · obtain rfl : k = 16 := by omega
      have HK := Lib.hid (dgN_none c HN.out)
      go_wp2_with fail
      go_ret
      exact ⟨by rw [HK.out]; rfl, rfl⟩

theorem or_hex : ∀ a, a < 16 → ∀ b, b < 16 → bits BinOp.or IntKind.u8 ((a : Nat) * 16 : Int) (b : Nat) = ((16 * a + b : Nat) : Int) := by decide +kernel

/-- What quotedByte answers. -/
abbrev dqV (c : UInt8) (r : List UInt8) : Value := .tuple #[.int .u8 (dq c r).1.toNat, .int .i64 ((dq c r).2 : Nat)]

theorem size_of_cons {s : ByteArray} {c : UInt8} {r : List UInt8} (h : bl s = c :: r) : s.size = r.length + 1 := by
  rw [← bl_len, h]
  rfl
theorem get_of {s : ByteArray} {l : List UInt8} (h : bl s = l) (k : Nat) (c : UInt8) (hc : l[k]? = some c) (hk : k < s.size) : s[k] = c := by
  subst h
  rw [bl_get hk] at hc
  exact Option.some.inj hc

theorem quoted_plain (s : ByteArray) (hs : s.size ≤ 281474976710656) (c : UInt8) (r : List UInt8) (h : bl s = c :: r) (hc : c ≠ 92) (w : World) :
    Calls Tryd.prog 83 #[.string s] w fun e w' => e = .returned (dqV c r) ∧ Below w.heap.size w w' := by
  have hz := size_of_cons h
  have h0 : 0 < s.size := by omega
  have e0 := get_of h 0 c rfl h0
  have ht : ((s[0].toNat : Int) != 92) = true := by rw [e0, bne, show ((c.toNat : Int) == 92) = false from byte_ne (k := 92) (by omega) hc]; rfl
  have HE : Hid (dqV c r = .tuple #[.int .u8 s[0].toNat, .int .i64 1]) := by show _ = _; unfold dqV dq; rw [if_neg hc, e0]; rfl
  clear h e0 hz
  go_enter Tryd.func83, Tryd.ntmps83
  go_wp2_with fail
  go_ret2
  exact ⟨by rw [HE.out]; rfl, Below.refl _ _⟩

theorem quoted_lone (s : ByteArray) (h : bl s = [92]) (w : World) :
    Calls Tryd.prog 83 #[.string s] w fun e w' => e = .returned (dqV 92 []) ∧ Below w.heap.size w w' := by
  have hz := size_of_cons h
  have h0 : 0 < s.size := by omega
  have e0 := get_of h 0 92 rfl h0
  have ht : ((s[0].toNat : Int) != 92) = false := by rw [e0]; rfl
  have ht2 : ((s.size : Int) == 1) = true := by rw [hz]; rfl
  have HE : Hid (dqV 92 [] = .tuple #[.int .u8 s[0].toNat, .int .i64 1]) := by show _ = _; rw [e0]; rfl
  clear h e0 hz
  go_enter Tryd.func83, Tryd.ntmps83
  go_wp2_with fail
  go_ret2
  exact ⟨by rw [HE.out]; rfl, Below.refl _ _⟩

theorem quoted_n (s : ByteArray) (hs : s.size ≤ 281474976710656) (r : List UInt8) (h : bl s = 92 :: 110 :: r) (w : World) :
    Calls Tryd.prog 83 #[.string s] w fun e w' => e = .returned (dqV 92 (110 :: r)) ∧ Below w.heap.size w w' := by
  have hz := size_of_cons h
  simp only [List.length_cons] at hz
  have h0 : 0 < s.size := by omega
  have h1 : 1 < s.size := by omega
  have e0 := get_of h 0 92 rfl h0
  have e1 := get_of h 1 110 rfl h1
  have ht : ((s[0].toNat : Int) != 92) = false := by rw [e0]; rfl
  have ht2 : ((s.size : Int) == 1) = false := by simp; omega
  have ht3 : ((s[1].toNat : Int) == 110) = true := by rw [e1]; rfl
  clear h e0 e1 hz
  go_enter Tryd.func83, Tryd.ntmps83
  go_wp2_with fail
  go_ret2
  exact ⟨rfl, Below.refl _ _⟩

theorem quoted_other (s : ByteArray) (hs : s.size ≤ 281474976710656) (d : UInt8) (r : List UInt8) (h : bl s = 92 :: d :: r) (hn : d ≠ 110) (hx : d ≠ 120) (w : World) :
    Calls Tryd.prog 83 #[.string s] w fun e w' => e = .returned (dqV 92 (d :: r)) ∧ Below w.heap.size w w' := by
  have hz := size_of_cons h
  simp only [List.length_cons] at hz
  have h0 : 0 < s.size := by omega
  have h1 : 1 < s.size := by omega
  have e0 := get_of h 0 92 rfl h0
  have e1 := get_of h 1 d rfl h1
  have ht : ((s[0].toNat : Int) != 92) = false := by rw [e0]; rfl
  have ht2 : ((s.size : Int) == 1) = false := by simp; omega
  have ht3 : ((s[1].toNat : Int) == 110) = false := by rw [e1]; exact byte_ne (k := 110) (by omega) hn
  have ht4 : ((s[1].toNat : Int) == 120) = false := by rw [e1]; exact byte_ne (k := 120) (by omega) hx
  have HE : Hid (dqV 92 (d :: r) = .tuple #[.int .u8 s[1].toNat, .int .i64 2]) := by show _ = _; unfold dqV dq; rw [if_pos rfl]; simp only; rw [if_neg hn, if_neg hx, e1]; rfl
  clear h e0 e1 hz
  go_enter Tryd.func83, Tryd.ntmps83
  go_wp2_with fail
  go_ret2
  exact ⟨by rw [HE.out]; rfl, Below.refl _ _⟩

theorem quoted_short (s : ByteArray) (r : List UInt8) (h : bl s = 92 :: 120 :: r) (hr : r.length < 2) (w : World) :
    Calls Tryd.prog 83 #[.string s] w fun e w' => e = .returned (dqV 92 (120 :: r)) ∧ Below w.heap.size w w' := by
  have hz := size_of_cons h
  simp only [List.length_cons] at hz
  have h0 : 0 < s.size := by omega
  have h1 : 1 < s.size := by omega
  have h4 : s.size < 4 := by omega
  have e0 := get_of h 0 92 rfl h0
  have e1 := get_of h 1 120 rfl h1
  have ht : ((s[0].toNat : Int) != 92) = false := by rw [e0]; rfl
  have ht2 : ((s.size : Int) == 1) = false := by simp; omega
  have ht3 : ((s[1].toNat : Int) == 110) = false := by rw [e1]; rfl
  have ht4 : ((s[1].toNat : Int) == 120) = true := by rw [e1]; rfl
  have HE : Hid (dqV 92 (120 :: r) = .tuple #[.int .u8 s[1].toNat, .int .i64 2]) := by
    show _ = _
    rw [e1]
    match r, hr with
    | [], _ => rfl
    | [_], _ => rfl
    | _ :: _ :: _, hr => simp at hr; omega
  clear h e0 e1 hz
  go_enter Tryd.func83, Tryd.ntmps83
  go_wp2_with fail
  go_ret2
  exact ⟨by rw [HE.out]; rfl, Below.refl _ _⟩

theorem hex_val (a b : UInt8) : ((UInt8.ofNat (16 * dgN a + dgN b)).toNat : Int) = bits BinOp.or IntKind.u8 ((dgN a : Nat) * 16 : Int) (dgN b : Nat) := by
  have ha := dgN_lt a
  have hb := dgN_lt b
  rw [or_hex _ ha _ hb, UInt8.toNat_ofNat', Nat.mod_eq_of_lt (by omega)]

set_option maxHeartbeats 400000 in
theorem quoted_hex (s : ByteArray) (hs : s.size ≤ 281474976710656) (a b : UInt8) (r : List UInt8) (h : bl s = 92 :: 120 :: a :: b :: r) (w : World) :
    Calls Tryd.prog 83 #[.string s] w fun e w' => e = .returned (dqV 92 (120 :: a :: b :: r)) ∧ Below w.heap.size w w' := by
  have hz := size_of_cons h
  simp only [List.length_cons] at hz
  have h0 : 0 < s.size := by omega
  have h1 : 1 < s.size := by omega
  have h2 : 2 < s.size := by omega
  have h3 : 3 < s.size := by omega
  have e0 := get_of h 0 92 rfl h0
  have e1 := get_of h 1 120 rfl h1
  have e2 := get_of h 2 a rfl h2
  have e3 := get_of h 3 b rfl h3
  have ht : ((s[0].toNat : Int) != 92) = false := by rw [e0]; rfl
  have ht2 : ((s.size : Int) == 1) = false := by simp; omega
  have ht3 : ((s[1].toNat : Int) == 110) = false := by rw [e1]; rfl
  have ht4 : ((s[1].toNat : Int) == 120) = true := by rw [e1]; rfl
  have h4 : ¬ s.size < 4 := by omega
  have d1 := dgN_lt s[2]
  have d2 := dgN_lt s[3]
  have HE : Hid (dqV 92 (120 :: a :: b :: r) = .tuple #[.int .u8 (bits BinOp.or IntKind.u8 ((dgN s[2] : Nat) * 16 : Int) (dgN s[3] : Nat)), .int .i64 4]) := by
    show _ = _
    rw [e2, e3, ← hex_val]
    rfl
  have q1 : (2 : Int) < (s.size : Int) := by omega
  have q2 : (3 : Int) < (s.size : Int) := by omega
  clear h e0 e1 e2 e3 hz
  go_enter Tryd.func83, Tryd.ntmps83
  go_wp2_with fail
  go_quiet ((go_at_call 92; exact Calls.quiet_of_same (digit_any _ _)))
  go_wp2_with fail
  go_ret2
  exact ⟨by rw [HE.out]; rfl, ⟨rfl, rfl, rfl, Nat.le_refl _, fun _ _ => rfl⟩⟩

theorem quotedByte_any (s : ByteArray) (hs : s.size ≤ 281474976710656) (c : UInt8) (r : List UInt8) (h : bl s = c :: r) (w : World) :
    Calls Tryd.prog 83 #[.string s] w fun e w' => e = .returned (dqV c r) ∧ Below w.heap.size w w' := by
  by_cases hc : c = 92
  · subst hc
    match r, h with
    | [], h => exact quoted_lone s h w
    | d :: r', h =>
      by_cases hn : d = 110
      · subst hn
        exact quoted_n s hs r' h w
      · by_cases hx : d = 120
        · subst hx
          match r', h with
          | [], h => exact quoted_short s [] h (by simp) w
          | [a], h => exact quoted_short s [a] h (by simp) w
          | a :: b :: r'', h => exact quoted_hex s hs a b r'' h w
        · exact quoted_other s hs d r' h hn hx w
  · exact quoted_plain s hs c r h hc w

/-- The inside up to the last byte. -/
abbrev front (s : ByteArray) : List UInt8 := (bl s).take (s.size - 1)

structure UnqRel (W : World) (s : ByteArray) (ov iv : Value) (w : World) (x : List UInt8) (k : Nat) : Prop where
  iv : iv = .int .i64 k
  one : 1 ≤ k
  le : k ≤ max 1 (s.size - 1)
  count : x.length ≤ k
  told : unqT (bl s) = x ++ unq ((front s).drop k)
  own : Grow w W.heap.size 1 ov x.length (byteCells ⟨x.toArray⟩)
  below : Below W.heap.size W w

theorem front_drop {s : ByteArray} {k : Nat} : bl (s.extract k (s.size - 1)) = (front s).drop k := by
  obtain ⟨⟨l⟩⟩ := s
  rw [show (⟨⟨l⟩⟩ : ByteArray) = ⟨l.toArray⟩ from rfl, bytes_extract]

theorem Below.quiet {w w' : World} (h : Below w.heap.size w w') {B : Nat} {v : Value} {n : Nat} {xs : List Value} (hown : Grow w B 1 v n xs) : Grow w' B 1 v n xs := hown.below h

theorem unqR_yes {l : List UInt8} (h : unqB l = true ∧ unqV l = unqT l) : Ending.returned (.tuple #[str (unqT l), .bool true]) = .returned (.tuple #[str (unqV l), .bool (unqB l)]) := by rw [h.1, h.2]
theorem unqR_no {l : List UInt8} (h : unqB l = false ∧ unqV l = []) : Ending.returned (.tuple #[str [], .bool false]) = .returned (.tuple #[str (unqV l), .bool (unqB l)]) := by rw [h.1, h.2]

set_option maxHeartbeats 1000000 in
theorem unquote_any (s : ByteArray) (hs : s.size ≤ 1000000000) (w : World) :
    Calls Tryd.prog 62 #[.string s] w fun e w' => e = .returned (.tuple #[str (unqV (bl s)), .bool (unqB (bl s))]) ∧ Below w.heap.size w w' := by
  obtain ⟨i0, hi0, hi1, hi2, hi3⟩ := info_parts info_byte
  have HL := Lib.hid (unqV_len (bl s))
  go_enter Tryd.func62, Tryd.ntmps62
  go_wp2_with fail
  go_loopw [4, 5] (fun ov iv wr => ∃ x k, UnqRel w s ov iv wr x k) (fun _ iv _ => s.size - (intOf iv).toNat)
  case atStart =>
    refine ⟨[], 1, rfl, Nat.le_refl _, Nat.le_max_left _ _, by simp, ?_, Grow.nil _ _ _, Below.refl _ _⟩
    unfold unqT inner
    rw [bl_len]
    rfl
  case round =>
    obtain ⟨x, k, ⟨rfl, hone, hle, hcount, htold, hown, hbel⟩⟩ := hrel
    have HT := Lib.hid htold
    have HO := Lib.hid hown
    have HM := Lib.hid hle
    clear htold hle
    by_cases hlt : k + 1 < s.size
    · have hks : k ≤ s.size - 1 := by omega
      have hlt' : (k : Int) < (s.size : Int) - 1 := by omega
      obtain ⟨c, r, hcr⟩ : ∃ c r, bl (s.extract k (s.size - 1)) = c :: r := by
        rw [front_drop]
        cases hd : (front s).drop k with
        | nil =>
          have := congrArg List.length hd
          rw [List.length_drop, List.length_take, bl_len] at this
          simp at this
          omega
        | cons c r => exact ⟨c, r, rfl⟩
      have hsz := size_of_cons hcr
      rw [ByteArray.size_extract] at hsz
      have HQ : Hid (∀ w, Calls Tryd.prog 83 #[.string (s.extract k (s.size - 1))] w fun e w' => e = .returned (.tuple #[.int .u8 (dq c r).1.toNat, .int .i64 ((dq c r).2 : Nat)]) ∧ Below w.heap.size w w') := Lib.hid (quotedByte_any (s.extract k (s.size - 1)) (by rw [ByteArray.size_extract]; omega) c r hcr)
      have hdq := dq_size c r
      have HN : Hid (unqT (bl s) = (x ++ [(dq c r).1]) ++ unq ((front s).drop (k + (dq c r).2))) := by
        show _ = _
        rw [HT.out, ← front_drop, hcr, unq_cons, List.append_assoc, ← List.drop_drop, ← front_drop, hcr]
        rfl
      have hk2 : k + (dq c r).2 ≤ s.size - 1 := by omega
      have hd1 := hdq.1
      clear hdq
      generalize (dq c r).2 = sz at *
      generalize (dq c r).1 = d at *
      have HB := Lib.hid (room (n := x.length) (m := 1) (by omega))
      clear hcr hsz
      go_wp2_with (first
        | (go_at_call 83; refine (HQ.out _).mono ?_; rintro e w3 ⟨rfl, hb3⟩)
        | (at_builtin; refine wpList_append_src _ rfl (.tmp 24) (.tmp 26) _ _ rfl w.heap.size 5 i0 _ 1 1 Tryd.underlying59 hi0 hi1 hi2 hi3 rfl (by omega) _ _ _ rfl ((hown.below hb3).alloc _) _ 1 [.int .u8 d.toNat] rfl (Src.ofSlice _ Tryd.underlying59 ⟨w3.heap.size, 0, none⟩ 1 1 [.int .u8 d.toNat] rfl (new_cells w3 _ [.int .u8 d.toNat]) (by simp [Value.oneCell'])) HB.out.1 HB.out.2 (Nat.le_trans (Nat.le_trans hbel.size hb3.size) (by simp)) ?_; intro v4 w4 hown4 hg4 _))
      have HS : Hid (UnqRel w s v4 (.int .i64 ((k : Int) + (sz : Int))) w4 (x ++ [d]) (k + sz)) := by
        have hg := Grown.of (x := [d]) (hown.below hb3) (Nat.le_trans hbel.size hb3.size) ((Below.refl _ w3).alloc (Nat.le_refl _) _) hown4 hg4 rfl rfl
        obtain ⟨v', e, h1, h2⟩ := hg
        obtain rfl : v4 = v' := by injection e
        exact ⟨by simp, by omega, by omega, by simp; omega, HN.out, h1, (hbel.trans (hb3.mono hbel.size)).trans h2⟩
      go_roundw
      case rel => exact ⟨_, _, HS.out⟩
      case measure => simp [intOf]; omega
    · have hlt' : ¬ (k : Int) < (s.size : Int) - 1 := by omega
      have hx : unqT (bl s) = x := by
        rw [HT.out, List.drop_eq_nil_of_le (by rw [List.length_take]; omega), unq_nil, List.append_nil]
      have hxl : x.length ≤ 1000000000 := by have := HL.out; rw [hx, bl_len] at this; omega
      have hrun := run_string_own (P := Tryd.prog) wr 59 9 5 w.heap.size _ x hown Tryd.underlying59 Tryd.underlying5 Tryd.underlying9
      have HQ := Lib.hid (quote_any ⟨x.toArray⟩ (by show x.length ≤ _; omega))
      have HX := Lib.hid hx
      clear hx hown
      go_wp2_with (go_at_call 29; refine (HQ.out _).mono ?_; rintro e w3 ⟨rfl, hb3⟩)
      · go_ret2
        refine ⟨unqR_no (unq_not ?_), hbel.trans (hb3.mono hbel.size)⟩
        rw [HX.out]
        exact str_ne ‹_›
      · go_ret2
        refine ⟨?_, hbel.trans (hb3.mono hbel.size)⟩
        have hq : quo x = bl s := str_eq ‹_›
        rw [← HX.out] at hq ⊢
        exact unqR_yes (unq_is hq)
end Txt
end Go.Proofs.YtibeangcjfjeiaaDoor

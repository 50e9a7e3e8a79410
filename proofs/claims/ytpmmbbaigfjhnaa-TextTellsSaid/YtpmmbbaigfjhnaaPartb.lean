import Derived.Test.YtpmmbbaigfjhnaaPart
namespace Go.Proofs.Ytpmmbbaigfjhnaa
open Go.RowKit Wire
set_option linter.unusedVariables false
set_option linter.unusedSimpArgs false
namespace Txt

/-- A part as the program has it. -/
abbrev ptV (q : Pt) : Value := .agg #[.int .i64 (q.kind : Nat), str q.src, str q.set]

set_option maxHeartbeats 1000000 in
theorem class_any (n : Nat) (s : ByteArray) (hs : s.size ≤ 1000000000) (i st e : Nat) (h1 : i ≤ st) (h2 : st < e) (h3 : e < s.size) (he : s[e] = 93) (hn : ∀ j (h : j < s.size), st < j → j < e → s[j] ≠ 93) (w : World) :
    Calls Try.prog 43 #[.int .i64 n, .string s, .int .i64 i, .int .i64 st] w fun r w' => r = .returned (.agg #[.int .i64 n, .string (s.extract i (e + 1)), .string (s.extract st e)]) ∧ Below w.heap.size w w' := by
  have HN := Lib.hid hn
  have HE := Lib.hid he
  clear hn he
  go_enter Try.func43, Try.ntmps43
  go_wp2_with fail
  go_loopw [9] (fun iv wr => (∃ k : Nat, iv = .int .i64 k ∧ st < k ∧ k ≤ e) ∧ wr = w.alloc (.cells #[.int .i64 0, .string ByteArray.empty, .string ByteArray.empty] 49)) (fun iv _ => e - (intOf iv).toNat)
  case atStart => exact ⟨⟨st + 1, by simp, by omega, by omega⟩, rfl⟩
  case round =>
    obtain ⟨⟨k, rfl, hk1, hk2⟩, rfl⟩ := hrel
    by_cases hlt : k < e
    · have hks : k < s.size := by omega
      have ht : ((s[k].toNat : Int) != 93) = true := by rw [bne, show ((s[k].toNat : Int) == 93) = false from byte_ne (k := 93) (by omega) (HN.out k hks hk1 hlt)]; rfl
      go_wp2_with fail
      go_roundw
      case rel => exact ⟨⟨k + 1, by simp, by omega, by omega⟩, trivial⟩
      case measure => simp [intOf]; omega
    · obtain rfl : e = k := by omega
      have ht : ((s[e].toNat : Int) != 93) = false := by rw [HE.out]; rfl
      go_wp2_with fail
      have b1 : (0 : Int) ≤ (i : Int) ∧ (i : Int) ≤ (e : Int) + 1 ∧ (e : Int) + 1 ≤ (s.size : Int) := by omega
      have b2 : (0 : Int) ≤ (st : Int) ∧ (st : Int) ≤ (e : Int) ∧ (e : Int) ≤ (s.size : Int) := by omega
      go_region
      all_goals
        go_wp2_with fail
        refine bodyPost_ret (v := .agg #[.int .i64 n, .string (s.extract i (e + 1)), .string (s.extract st e)]) (by simp [results, Try.results43, go_sem]) rfl ⟨rfl, ?_⟩
        first | exact ((Below.refl _ _).alloc (Nat.le_refl _) _).drew | exact ((Below.refl _ _).drew).alloc (Nat.le_refl _) _

theorem ptV_of {s : ByteArray} {q : Pt} {k i j a b : Nat} (hk : q.kind = k) (h1 : q.src = ((bl s).take j).drop i) (h2 : q.set = ((bl s).take b).drop a) : Value.agg #[.int .i64 k, .string (s.extract i j), .string (s.extract a b)] = ptV q := by
  unfold ptV
  rw [hk, h1, h2]
  obtain ⟨⟨l⟩⟩ := s
  rw [show (⟨⟨l⟩⟩ : ByteArray) = ⟨l.toArray⟩ from rfl, bytes_extract, bytes_extract]
theorem ptV_no {s : ByteArray} {q : Pt} {k i j : Nat} (hk : q.kind = k) (h1 : q.src = ((bl s).take j).drop i) (h2 : q.set = []) : Value.agg #[.int .i64 k, .string (s.extract i j), .string ⟨#[]⟩] = ptV q := by
  unfold ptV
  rw [hk, h1, h2]
  obtain ⟨⟨l⟩⟩ := s
  rw [show (⟨⟨l⟩⟩ : ByteArray) = ⟨l.toArray⟩ from rfl, bytes_extract]

theorem cut_1 {s : ByteArray} {i : Nat} (h : i < s.size) : [s[i]] = ((bl s).take (i + 1)).drop i := by
  rw [take_at h, List.drop_append_of_le_length (by rw [List.length_take, bl_len]; omega), List.drop_eq_nil_of_le (by rw [List.length_take]; omega)]
  rfl
theorem cut_2 {s : ByteArray} {i : Nat} (h : i + 1 < s.size) : [s[i], s[i + 1]] = ((bl s).take (i + 2)).drop i := by
  rw [take_at h, List.drop_append_of_le_length (by rw [List.length_take, bl_len]; omega), ← cut_1 (by omega : i < s.size)]
  exact List.singleton_append.symm
theorem cut_cons {s : ByteArray} {i j : Nat} (h : i < s.size) (hj : i < j) : s[i] :: ((bl s).take j).drop (i + 1) = ((bl s).take j).drop i := by
  rw [List.drop_take, List.drop_take, drop_at h, show j - i = (j - (i + 1)) + 1 from by omega, List.take_succ_cons]

/-- The part that begins at i. -/
def partOf (s : ByteArray) (i : Nat) (h : i < s.size) : Pt := part s[i] ((bl s).drop (i + 1))

theorem part_itself {s : ByteArray} {i : Nat} (h : i < s.size) (h92 : s[i] = 92 → ¬ i + 1 < s.size) (h42 : s[i] ≠ 42) (h63 : s[i] ≠ 63) (h91 : s[i] = 91 → clsOf ((bl s).drop (i + 1)) = none) : partOf s i h = ⟨0, [s[i]], []⟩ := by
  unfold partOf part
  split
  · rename_i e
    rw [drop_end (by have := h92 e; omega)]
  · split
    · rename_i e
      rw [h91 e]
    · rfl

theorem close_at {s : ByteArray} {m k e : Nat} (h : close k ((bl s).drop m) = some e) : k ≤ e ∧ ∃ h : m + e < s.size, s[m + e] = 93 ∧ ∀ j (hj : j < s.size), m + k ≤ j → j < m + e → s[j] ≠ 93 := by
  have hl := close_lt h
  rw [List.length_drop, bl_len] at hl
  obtain ⟨h1, h2, h3⟩ := close_some.1 h
  refine ⟨h1, by omega, ?_, fun j hj hj1 hj2 => ?_⟩
  · rw [List.getElem?_drop, bl_get (by omega)] at h2
    exact Option.some.inj h2
  · have := h3 (j - m) (by omega) (by omega)
    rw [List.getElem?_drop, show m + (j - m) = j from by omega, bl_get hj] at this
    exact fun e => this (congrArg some e)
theorem close_no {s : ByteArray} {z : Int} (hz : LastAt (bl s) z) {m k : Nat} (h : z < ((m + k : Nat) : Int)) : close k ((bl s).drop m) = none := by
  rw [close_none]
  intro c hc
  rw [List.drop_drop] at hc
  obtain ⟨j, hj, e⟩ := List.mem_iff_getElem.1 hc
  have := hz.2.2.2 (m + k + j) (by omega)
  rw [List.length_drop] at hj
  rw [List.getElem_drop] at e
  rw [List.getElem?_eq_getElem (by omega), e] at this
  exact fun e2 => this (congrArg some e2)
theorem close_yes {s : ByteArray} {z : Int} (hz : LastAt (bl s) z) {m k : Nat} (h : ((m + k : Nat) : Int) ≤ z) : ∃ e, close k ((bl s).drop m) = some e := by
  cases hc : close k ((bl s).drop m) with
  | some e => exact ⟨e, rfl⟩
  | none =>
    have h1 := hz.2.2.1 (by omega)
    have h2 := close_none.1 hc
    exfalso
    have hlt := hz.2.1
    refine h2 93 ?_ rfl
    rw [List.drop_drop, List.mem_iff_getElem?]
    exact ⟨z.toNat - (m + k), by rw [List.getElem?_drop, show m + k + (z.toNat - (m + k)) = z.toNat from by omega]; exact h1⟩

theorem head_next {s : ByteArray} {i : Nat} : ((bl s).drop (i + 1)).head? = some 33 ↔ ∃ h : i + 1 < s.size, s[i + 1] = 33 := by
  by_cases h : i + 1 < s.size
  · rw [drop_at h]
    simp [h]
  · rw [drop_end (by omega)]
    simp [h]

theorem cls_not {s : ByteArray} {z : Int} (hz : LastAt (bl s) z) {i : Nat} (h : z < ((i + 2 : Nat) : Int)) : clsOf ((bl s).drop (i + 1)) = none := by
  unfold clsOf
  rw [close_no hz (k := 2) (by omega), close_no hz (k := 1) (by omega)]
  simp
theorem cls_none {s : ByteArray} {z : Int} (hz : LastAt (bl s) z) {i : Nat} (h : ((i + 3 : Nat) : Int) ≤ z) (h33 : ∃ h : i + 1 < s.size, s[i + 1] = 33) :
    ∃ e, close 2 ((bl s).drop (i + 1)) = some e ∧ clsOf ((bl s).drop (i + 1)) = some ⟨5, 91 :: ((bl s).drop (i + 1)).take (e + 1), (((bl s).drop (i + 1)).take e).drop 1⟩ := by
  obtain ⟨e, he⟩ := close_yes hz (m := i + 1) (k := 2) (by omega)
  refine ⟨e, he, ?_⟩
  unfold clsOf
  rw [if_pos (head_next.2 h33), he]
theorem cls_one {s : ByteArray} {z : Int} (hz : LastAt (bl s) z) {i : Nat} (h : ((i + 2 : Nat) : Int) ≤ z) (h33 : z < ((i + 3 : Nat) : Int) ∨ ∀ h : i + 1 < s.size, s[i + 1] ≠ 33) :
    ∃ e, close 1 ((bl s).drop (i + 1)) = some e ∧ clsOf ((bl s).drop (i + 1)) = some ⟨4, 91 :: ((bl s).drop (i + 1)).take (e + 1), ((bl s).drop (i + 1)).take e⟩ := by
  obtain ⟨e, he⟩ := close_yes hz (m := i + 1) (k := 1) (by omega)
  refine ⟨e, he, ?_⟩
  have hn : (if ((bl s).drop (i + 1)).head? = some 33 then close 2 ((bl s).drop (i + 1)) else none) = none := by
    rcases h33 with h | h
    · rw [close_no hz (k := 2) (by omega)]
      simp
    · rw [if_neg]
      rw [head_next]
      rintro ⟨h1, h2⟩
      exact h h1 h2
  unfold clsOf
  rw [hn, he]

theorem take_drop (s : ByteArray) (i e : Nat) : ((bl s).drop i).take e = ((bl s).take (i + e)).drop i := by
  rw [List.drop_take, show i + e - i = e from by omega]

theorem part_escaped {s : ByteArray} {i : Nat} (h : i + 1 < s.size) (h92 : s[i] = 92) : partOf s i (by omega) = ⟨1, [s[i], s[i + 1]], []⟩ := by
  unfold partOf part
  rw [if_pos h92, drop_at h]
theorem part_star {s : ByteArray} {i : Nat} (h : i < s.size) (h42 : s[i] = 42) : partOf s i h = ⟨2, [s[i]], []⟩ := by
  unfold partOf part
  rw [if_neg (by rw [h42]; decide), if_pos h42]
theorem part_any {s : ByteArray} {i : Nat} (h : i < s.size) (h63 : s[i] = 63) : partOf s i h = ⟨3, [s[i]], []⟩ := by
  unfold partOf part
  rw [if_neg (by rw [h63]; decide), if_neg (by rw [h63]; decide), if_pos h63]
theorem part_cls {s : ByteArray} {i : Nat} (h : i < s.size) (h91 : s[i] = 91) {q : Pt} (hq : clsOf ((bl s).drop (i + 1)) = some q) : partOf s i h = q := by
  unfold partOf part
  rw [if_neg (by rw [h91]; decide), if_neg (by rw [h91]; decide), if_neg (by rw [h91]; decide), if_pos h91, hq]

abbrev PartPost (w : World) (q : Pt) (r : Ending) (w' : World) : Prop := r = .returned (ptV q) ∧ Below w.heap.size w w'

set_option maxHeartbeats 1000000 in
theorem partAt_itself (s : ByteArray) (hs : s.size ≤ 1000000000) (i : Nat) (h : i < s.size) (z : Int) (hz1 : -1 ≤ z) (hz2 : z < s.size) (w : World)
    (h92 : ((s[i].toNat : Int) == 92) = false) (h42 : ((s[i].toNat : Int) == 42) = false) (h63 : ((s[i].toNat : Int) == 63) = false) (h91 : ((s[i].toNat : Int) == 91) = false) (q : Pt) (hq : Value.agg #[.int .i64 (0 : Nat), .string (s.extract i (i + 1)), .string ⟨#[]⟩] = ptV q) :
    Calls Try.prog 37 #[.string s, .int .i64 i, .int .i64 z] w (PartPost w q) := by
  have HV := Lib.hid hq
  clear hq
  go_enter Try.func37, Try.ntmps37
  go_wp2_with fail
  refine bodyPost_ret (v := .agg #[.int .i64 0, .string (s.extract i (i + 1)), .string ⟨#[]⟩]) (by simp [results, Try.results37, go_sem]) rfl ⟨congrArg Ending.returned HV.out, ?_⟩
  exact (Below.refl _ _).alloc (Nat.le_refl _) _

set_option maxHeartbeats 1000000 in
theorem partAt_lone (s : ByteArray) (hs : s.size ≤ 1000000000) (i : Nat) (h : i < s.size) (z : Int) (hz1 : -1 ≤ z) (hz2 : z < s.size) (w : World)
    (h92 : ((s[i].toNat : Int) == 92) = true) (hl : i + 1 = s.size) (q : Pt) (hq : Value.agg #[.int .i64 (0 : Nat), .string (s.extract i s.size), .string ⟨#[]⟩] = ptV q) :
    Calls Try.prog 37 #[.string s, .int .i64 i, .int .i64 z] w (PartPost w q) := by
  have HV := Lib.hid hq
  clear hq
  have hl2 : ¬ (i : Int) + 1 < (s.size : Int) := by omega
  go_enter Try.func37, Try.ntmps37
  go_wp2_with fail
  refine bodyPost_ret (v := .agg #[.int .i64 0, .string (s.extract i s.size), .string ⟨#[]⟩]) (by simp [results, Try.results37, go_sem]) rfl ⟨congrArg Ending.returned HV.out, ?_⟩
  exact (Below.refl _ _).alloc (Nat.le_refl _) _

set_option maxHeartbeats 1000000 in
theorem partAt_escaped (s : ByteArray) (hs : s.size ≤ 1000000000) (i : Nat) (h : i < s.size) (z : Int) (hz1 : -1 ≤ z) (hz2 : z < s.size) (w : World)
    (h92 : ((s[i].toNat : Int) == 92) = true) (hl : i + 1 < s.size) (q : Pt) (hq : Value.agg #[.int .i64 (1 : Nat), .string (s.extract i (i + 2)), .string ⟨#[]⟩] = ptV q) :
    Calls Try.prog 37 #[.string s, .int .i64 i, .int .i64 z] w (PartPost w q) := by
  have HV := Lib.hid hq
  clear hq
  have hl2 : (i : Int) + 1 < (s.size : Int) := by omega
  go_enter Try.func37, Try.ntmps37
  go_wp2_with fail
  refine bodyPost_ret (v := .agg #[.int .i64 1, .string (s.extract i (i + 2)), .string ⟨#[]⟩]) (by simp [results, Try.results37, go_sem]) rfl ⟨congrArg Ending.returned HV.out, ?_⟩
  exact (Below.refl _ _).alloc (Nat.le_refl _) _

set_option maxHeartbeats 1000000 in
theorem partAt_star (s : ByteArray) (hs : s.size ≤ 1000000000) (i : Nat) (h : i < s.size) (z : Int) (hz1 : -1 ≤ z) (hz2 : z < s.size) (w : World)
    (h92 : ((s[i].toNat : Int) == 92) = false) (h42 : ((s[i].toNat : Int) == 42) = true) (q : Pt) (hq : Value.agg #[.int .i64 (2 : Nat), .string (s.extract i (i + 1)), .string ⟨#[]⟩] = ptV q) :
    Calls Try.prog 37 #[.string s, .int .i64 i, .int .i64 z] w (PartPost w q) := by
  have HV := Lib.hid hq
  clear hq
  go_enter Try.func37, Try.ntmps37
  go_wp2_with fail
  refine bodyPost_ret (v := .agg #[.int .i64 2, .string (s.extract i (i + 1)), .string ⟨#[]⟩]) (by simp [results, Try.results37, go_sem]) rfl ⟨congrArg Ending.returned HV.out, ?_⟩
  exact (Below.refl _ _).alloc (Nat.le_refl _) _

set_option maxHeartbeats 1000000 in
theorem partAt_any' (s : ByteArray) (hs : s.size ≤ 1000000000) (i : Nat) (h : i < s.size) (z : Int) (hz1 : -1 ≤ z) (hz2 : z < s.size) (w : World)
    (h92 : ((s[i].toNat : Int) == 92) = false) (h42 : ((s[i].toNat : Int) == 42) = false) (h63 : ((s[i].toNat : Int) == 63) = true) (q : Pt) (hq : Value.agg #[.int .i64 (3 : Nat), .string (s.extract i (i + 1)), .string ⟨#[]⟩] = ptV q) :
    Calls Try.prog 37 #[.string s, .int .i64 i, .int .i64 z] w (PartPost w q) := by
  have HV := Lib.hid hq
  clear hq
  go_enter Try.func37, Try.ntmps37
  go_wp2_with fail
  refine bodyPost_ret (v := .agg #[.int .i64 3, .string (s.extract i (i + 1)), .string ⟨#[]⟩]) (by simp [results, Try.results37, go_sem]) rfl ⟨congrArg Ending.returned HV.out, ?_⟩
  exact (Below.refl _ _).alloc (Nat.le_refl _) _

set_option maxHeartbeats 1000000 in
theorem partAt_open (s : ByteArray) (hs : s.size ≤ 1000000000) (i : Nat) (h : i < s.size) (z : Int) (hz1 : -1 ≤ z) (hz2 : z < s.size) (w : World)
    (h92 : ((s[i].toNat : Int) == 92) = false) (h42 : ((s[i].toNat : Int) == 42) = false) (h63 : ((s[i].toNat : Int) == 63) = false) (h91 : ((s[i].toNat : Int) == 91) = true) (hz3 : z < (i : Int) + 2) (q : Pt) (hq : Value.agg #[.int .i64 (0 : Nat), .string (s.extract i (i + 1)), .string ⟨#[]⟩] = ptV q) :
    Calls Try.prog 37 #[.string s, .int .i64 i, .int .i64 z] w (PartPost w q) := by
  have HV := Lib.hid hq
  clear hq
  go_enter Try.func37, Try.ntmps37
  go_wp2_with fail
  refine bodyPost_ret (v := .agg #[.int .i64 0, .string (s.extract i (i + 1)), .string ⟨#[]⟩]) (by simp [results, Try.results37, go_sem]) rfl ⟨congrArg Ending.returned HV.out, ?_⟩
  exact (Below.refl _ _).alloc (Nat.le_refl _) _

set_option maxHeartbeats 1000000 in
theorem partAt_none (s : ByteArray) (hs : s.size ≤ 1000000000) (i : Nat) (h : i < s.size) (z : Int) (hz1 : -1 ≤ z) (hz2 : z < s.size) (w : World)
    (h92 : ((s[i].toNat : Int) == 92) = false) (h42 : ((s[i].toNat : Int) == 42) = false) (h63 : ((s[i].toNat : Int) == 63) = false) (h91 : ((s[i].toNat : Int) == 91) = true) (hz3 : (i : Int) + 3 ≤ z) (h33 : i + 1 < s.size) (h34 : ((s[i + 1].toNat : Int) == 33) = true) (e : Nat) (he1 : i + 2 < e) (he2 : e < s.size) (he : s[e] = 93) (hn : ∀ j (h : j < s.size), i + 2 < j → j < e → s[j] ≠ 93)
    (q : Pt) (hq : Value.agg #[.int .i64 (5 : Nat), .string (s.extract i (e + 1)), .string (s.extract (i + 2) e)] = ptV q) :
    Calls Try.prog 37 #[.string s, .int .i64 i, .int .i64 z] w (PartPost w q) := by
  have HV := Lib.hid hq
  have HC := Lib.hid (class_any 5 s hs i (i + 2) e (by omega) he1 he2 he hn)
  clear hq hn he
  go_enter Try.func37, Try.ntmps37
  go_wp2_with (go_at_call 43; refine (HC.out _).mono ?_; rintro r w3 ⟨rfl, hb3⟩; have K := (Blk.fresh w 49 _).under hb3 (by simp); have k0 := K.at 0; have k1 := K.at 1; have k2 := K.at 2; have f0 := K.thaw 0; have f1 := K.thaw 1; have f2 := K.thaw 2; have hb4 := Lib.hid hb3; clear K hb3)
  refine bodyPost_ret (v := .agg #[.int .i64 5, .string (s.extract i (e + 1)), .string (s.extract (i + 2) e)]) (by simp [results, Try.results37, go_sem, k0, k1, k2, f0, f1, f2]) rfl ⟨congrArg Ending.returned HV.out, ?_⟩
  exact ((((((Below.refl _ w).alloc (Nat.le_refl _) _).trans (hb4.out.mono (by simp))).setCell (p := ⟨w.heap.size, 0, none⟩) (Nat.le_refl _) _).setCell (p := ⟨w.heap.size, 1, none⟩) (Nat.le_refl _) _).setCell (p := ⟨w.heap.size, 2, none⟩) (Nat.le_refl _) _)

set_option maxHeartbeats 1000000 in
theorem partAt_one (s : ByteArray) (hs : s.size ≤ 1000000000) (i : Nat) (h : i < s.size) (z : Int) (hz1 : -1 ≤ z) (hz2 : z < s.size) (w : World)
    (h92 : ((s[i].toNat : Int) == 92) = false) (h42 : ((s[i].toNat : Int) == 42) = false) (h63 : ((s[i].toNat : Int) == 63) = false) (h91 : ((s[i].toNat : Int) == 91) = true) (hz3 : (i : Int) + 3 ≤ z) (h33 : i + 1 < s.size) (h34 : ((s[i + 1].toNat : Int) == 33) = false) (e : Nat) (he1 : i + 1 < e) (he2 : e < s.size) (he : s[e] = 93) (hn : ∀ j (h : j < s.size), i + 1 < j → j < e → s[j] ≠ 93)
    (q : Pt) (hq : Value.agg #[.int .i64 (4 : Nat), .string (s.extract i (e + 1)), .string (s.extract (i + 1) e)] = ptV q) :
    Calls Try.prog 37 #[.string s, .int .i64 i, .int .i64 z] w (PartPost w q) := by
  have HV := Lib.hid hq
  have HC := Lib.hid (class_any 4 s hs i (i + 1) e (by omega) he1 he2 he hn)
  clear hq hn he
  go_enter Try.func37, Try.ntmps37
  go_wp2_with (go_at_call 43; refine (HC.out _).mono ?_; rintro r w3 ⟨rfl, hb3⟩; have K := (Blk.fresh w 49 _).under hb3 (by simp); have k0 := K.at 0; have k1 := K.at 1; have k2 := K.at 2; have f0 := K.thaw 0; have f1 := K.thaw 1; have f2 := K.thaw 2; have hb4 := Lib.hid hb3; clear K hb3)
  refine bodyPost_ret (v := .agg #[.int .i64 4, .string (s.extract i (e + 1)), .string (s.extract (i + 1) e)]) (by simp [results, Try.results37, go_sem, k0, k1, k2, f0, f1, f2]) rfl ⟨congrArg Ending.returned HV.out, ?_⟩
  exact ((((((Below.refl _ w).alloc (Nat.le_refl _) _).trans (hb4.out.mono (by simp))).setCell (p := ⟨w.heap.size, 0, none⟩) (Nat.le_refl _) _).setCell (p := ⟨w.heap.size, 1, none⟩) (Nat.le_refl _) _).setCell (p := ⟨w.heap.size, 2, none⟩) (Nat.le_refl _) _)

set_option maxHeartbeats 1000000 in
theorem partAt_one2 (s : ByteArray) (hs : s.size ≤ 1000000000) (i : Nat) (h : i < s.size) (z : Int) (hz1 : -1 ≤ z) (hz2 : z < s.size) (w : World)
    (h92 : ((s[i].toNat : Int) == 92) = false) (h42 : ((s[i].toNat : Int) == 42) = false) (h63 : ((s[i].toNat : Int) == 63) = false) (h91 : ((s[i].toNat : Int) == 91) = true) (hz3 : ¬ (i : Int) + 3 ≤ z) (hz4 : (i : Int) + 2 ≤ z) (e : Nat) (he1 : i + 1 < e) (he2 : e < s.size) (he : s[e] = 93) (hn : ∀ j (h : j < s.size), i + 1 < j → j < e → s[j] ≠ 93)
    (q : Pt) (hq : Value.agg #[.int .i64 (4 : Nat), .string (s.extract i (e + 1)), .string (s.extract (i + 1) e)] = ptV q) :
    Calls Try.prog 37 #[.string s, .int .i64 i, .int .i64 z] w (PartPost w q) := by
  have HV := Lib.hid hq
  have HC := Lib.hid (class_any 4 s hs i (i + 1) e (by omega) he1 he2 he hn)
  clear hq hn he
  go_enter Try.func37, Try.ntmps37
  go_wp2_with (go_at_call 43; refine (HC.out _).mono ?_; rintro r w3 ⟨rfl, hb3⟩; have K := (Blk.fresh w 49 _).under hb3 (by simp); have k0 := K.at 0; have k1 := K.at 1; have k2 := K.at 2; have f0 := K.thaw 0; have f1 := K.thaw 1; have f2 := K.thaw 2; have hb4 := Lib.hid hb3; clear K hb3)
  refine bodyPost_ret (v := .agg #[.int .i64 4, .string (s.extract i (e + 1)), .string (s.extract (i + 1) e)]) (by simp [results, Try.results37, go_sem, k0, k1, k2, f0, f1, f2]) rfl ⟨congrArg Ending.returned HV.out, ?_⟩
  exact ((((((Below.refl _ w).alloc (Nat.le_refl _) _).trans (hb4.out.mono (by simp))).setCell (p := ⟨w.heap.size, 0, none⟩) (Nat.le_refl _) _).setCell (p := ⟨w.heap.size, 1, none⟩) (Nat.le_refl _) _).setCell (p := ⟨w.heap.size, 2, none⟩) (Nat.le_refl _) _)


theorem cut_cls {s : ByteArray} {i e : Nat} (h : i < s.size) (h91 : s[i] = 91) : 91 :: ((bl s).drop (i + 1)).take (e + 1) = ((bl s).take (i + 1 + e + 1)).drop i := by
  rw [take_drop, show i + 1 + (e + 1) = i + 1 + e + 1 from by omega, ← h91]
  exact cut_cons h (by omega)

theorem partAt_any (s : ByteArray) (hs : s.size ≤ 1000000000) (i : Nat) (h : i < s.size) (z : Int) (hz : LastAt (bl s) z) (w : World) :
    Calls Try.prog 37 #[.string s, .int .i64 i, .int .i64 z] w (PartPost w (partOf s i h)) := by
  have hz1 := hz.1
  have hz2 : z < s.size := by have := hz.2.1; rwa [bl_len] at this
  have plain0 : partOf s i h = ⟨0, [s[i]], []⟩ → Value.agg #[.int .i64 (0 : Nat), .string (s.extract i (i + 1)), .string ⟨#[]⟩] = ptV (partOf s i h) := fun hp => by
    rw [hp]
    exact ptV_no rfl (cut_1 h) rfl
  by_cases c92 : s[i] = 92
  · have g92 := byte_eq (k := 92) (by omega) c92
    by_cases hl : i + 1 < s.size
    · refine partAt_escaped s hs i h z hz1 hz2 w g92 hl _ ?_
      rw [part_escaped hl c92]
      exact ptV_no rfl (cut_2 hl) rfl
    · refine partAt_lone s hs i h z hz1 hz2 w g92 (by omega) _ ?_
      have := plain0 (part_itself h (fun _ => hl) (by rw [c92]; decide) (by rw [c92]; decide) (fun e => by rw [c92] at e; exact absurd e (by decide)))
      rwa [show i + 1 = s.size from by omega] at this
  · have g92 := byte_ne (k := 92) (by omega) c92
    by_cases c42 : s[i] = 42
    · refine partAt_star s hs i h z hz1 hz2 w g92 (byte_eq (k := 42) (by omega) c42) _ ?_
      rw [part_star h c42]
      exact ptV_no rfl (cut_1 h) rfl
    · have g42 := byte_ne (k := 42) (by omega) c42
      by_cases c63 : s[i] = 63
      · refine partAt_any' s hs i h z hz1 hz2 w g92 g42 (byte_eq (k := 63) (by omega) c63) _ ?_
        rw [part_any h c63]
        exact ptV_no rfl (cut_1 h) rfl
      · have g63 := byte_ne (k := 63) (by omega) c63
        by_cases c91 : s[i] = 91
        · have g91 := byte_eq (k := 91) (by omega) c91
          by_cases hz3 : ((i + 3 : Nat) : Int) ≤ z
          · by_cases c33 : s[i + 1]'(by omega) = 33
            · obtain ⟨e, he, hc⟩ := cls_none hz hz3 ⟨by omega, c33⟩
              obtain ⟨he1, he2, he3, he4⟩ := close_at he
              refine partAt_none s hs i h z hz1 hz2 w g92 g42 g63 g91 (by omega) (by omega) (byte_eq (k := 33) (by omega) c33) (i + 1 + e) (by omega) he2 he3 (fun j hj hj1 hj2 => he4 j hj (by omega) hj2) _ ?_
              rw [part_cls h c91 hc]
              refine ptV_of rfl (cut_cls h c91) ?_
              show (((bl s).drop (i + 1)).take e).drop 1 = _
              rw [take_drop, List.drop_drop]
            · obtain ⟨e, he, hc⟩ := cls_one (i := i) hz (by omega) (.inr fun _ => c33)
              obtain ⟨he1, he2, he3, he4⟩ := close_at he
              refine partAt_one s hs i h z hz1 hz2 w g92 g42 g63 g91 (by omega) (by omega) (byte_ne (k := 33) (by omega) c33) (i + 1 + e) (by omega) he2 he3 (fun j hj hj1 hj2 => he4 j hj (by omega) hj2) _ ?_
              rw [part_cls h c91 hc]
              refine ptV_of rfl (cut_cls h c91) ?_
              exact take_drop s (i + 1) e
          · by_cases hz4 : ((i + 2 : Nat) : Int) ≤ z
            · obtain ⟨e, he, hc⟩ := cls_one (i := i) hz hz4 (.inl (by omega))
              obtain ⟨he1, he2, he3, he4⟩ := close_at he
              refine partAt_one2 s hs i h z hz1 hz2 w g92 g42 g63 g91 (by omega) (by omega) (i + 1 + e) (by omega) he2 he3 (fun j hj hj1 hj2 => he4 j hj (by omega) hj2) _ ?_
              rw [part_cls h c91 hc]
              refine ptV_of rfl (cut_cls h c91) ?_
              exact take_drop s (i + 1) e
            · refine partAt_open s hs i h z hz1 hz2 w g92 g42 g63 g91 (by omega) _ (plain0 (part_itself h (fun e => absurd e c92) c42 c63 fun _ => cls_not hz (by omega)))
        · exact partAt_itself s hs i h z hz1 hz2 w g92 g42 g63 (byte_ne (k := 91) (by omega) c91) _ (plain0 (part_itself h (fun e => absurd e c92) c42 c63 fun e => absurd e c91))
end Txt
end Go.Proofs.Ytpmmbbaigfjhnaa

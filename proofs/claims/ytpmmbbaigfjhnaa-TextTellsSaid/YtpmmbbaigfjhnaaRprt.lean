import Derived.Test.YtpmmbbaigfjhnaaRfit
namespace Go.Proofs.Ytpmmbbaigfjhnaa
open Go.RowKit Wire
set_option linter.unusedVariables false
set_option linter.unusedSimpArgs false
namespace Txt

theorem info_rpart : (Try.prog.info? 56).map (fun i => (i.zero, i.size, i.bytes)) = some (some (.agg #[.int .i64 0, .int .u8 0, .string ⟨#[]⟩, .bool false, .string ⟨#[]⟩]), 5, 56) := by kernel_rfl

structure RpRel (W : World) (s : ByteArray) (ov iv : Value) (w : World) (i : Nat) (qs : List Pt) : Prop where
  iv : iv = .int .i64 i
  le : i ≤ s.size
  count : qs.length ≤ i
  told : parse (bl s) = qs ++ parse ((bl s).drop i)
  own : Grow w W.heap.size 5 ov qs.length (qs.flatMap refC)
  below : Below W.heap.size W w

theorem parse_step {s : ByteArray} {i : Nat} {qs : List Pt} (h : i < s.size) (ht : parse (bl s) = qs ++ parse ((bl s).drop i)) :
    parse (bl s) = (qs ++ [partOf s i h]) ++ parse ((bl s).drop (i + (partOf s i h).src.length)) := by
  have hd : (bl s).drop i = s[i] :: (bl s).drop (i + 1) := drop_at h
  rw [ht, List.append_assoc, ← List.drop_drop, hd, parse_cons]
  rfl

theorem RpRel.step {W wr wm w4 : World} {s : ByteArray} {i : Nat} {qs : List Pt} {ov v4 iv4 : Value} (h : i < s.size) (hc : qs.length ≤ i) (ht : parse (bl s) = qs ++ parse ((bl s).drop i))
    (hown : Grow wr W.heap.size 5 ov qs.length (qs.flatMap refC)) (hb : Below W.heap.size W wr) (q : Pt) (hq : partOf s i h = q) (cs : List Value) (hcs : refC q = cs)
    (hm : Below wr.heap.size wr wm) (hown4 : Grow w4 W.heap.size 5 v4 (qs.length + 1) (qs.flatMap refC ++ cs)) (hg4 : wm.grownBy w4 ov.ownBlock) (hiv : iv4 = .int .i64 (i + q.src.length : Nat)) :
    RpRel W s v4 iv4 w4 (i + q.src.length) (qs ++ [q]) := by
  subst hq hcs
  have hs := src_pos s i h
  refine ⟨hiv, by omega, by simp; omega, parse_step h ht, ?_, hb.trans ((hm.mono hb.size).grown hg4 (Nat.le_trans hb.size hm.size) fun g hv => (hown.block g hv).1)⟩
  rw [List.length_append, List.flatMap_append]
  exact hown4

theorem room5 {n : Nat} (h : n ≤ 1000000000) : n + 1 ≤ maxLen ∧ (n + 1) * 56 ≤ 140737488355328 := ⟨small_max (by omega), by omega⟩

theorem refC_no {s : ByteArray} {q : Pt} {k i j : Nat} {b : UInt8} {x : Bool} (h1 : q.src = ((bl s).take j).drop i) (h2 : q.set = []) (hk : rkind q = k) (hb : rbyte q = b) (hx : (q.kind == 5) = x) : refC q = [.int .i64 k, .int .u8 b.toNat, .string ⟨#[]⟩, .bool x, .string (s.extract i j)] := by
  unfold refC
  rw [hk, h1, h2, hb, hx]
  obtain ⟨⟨l⟩⟩ := s
  rw [show (⟨⟨l⟩⟩ : ByteArray) = ⟨l.toArray⟩ from rfl, bytes_extract]
theorem refC_of {s : ByteArray} {q : Pt} {k i j a b : Nat} {c : UInt8} {x : Bool} (h1 : q.src = ((bl s).take j).drop i) (h2 : q.set = ((bl s).take b).drop a) (hk : rkind q = k) (hb : rbyte q = c) (hx : (q.kind == 5) = x) : refC q = [.int .i64 k, .int .u8 c.toNat, .string (s.extract a b), .bool x, .string (s.extract i j)] := by
  unfold refC
  rw [hk, h1, h2, hb, hx]
  obtain ⟨⟨l⟩⟩ := s
  rw [show (⟨⟨l⟩⟩ : ByteArray) = ⟨l.toArray⟩ from rfl, bytes_extract, bytes_extract]

theorem new_cells2 (w : World) (o : Obj) (t : TypeId) (xs : List Value) : ∀ j u, xs[j]? = some u → ((w.alloc o).alloc (.cells xs.toArray t)).drew.cell? ((⟨w.heap.size + 1, 0, none⟩ : Addr).add j) = some u := by
  intro j u hu
  have h := new_cells (w.alloc o) t xs j u hu
  rw [show (w.alloc o).heap.size = w.heap.size + 1 from by simp] at h
  exact h

theorem at_idx (s : ByteArray) (j : Nat) (h : j < s.size) (z : Int) (hz : z = j) (w : World) : Sem.run Try.prog (Instr.index 9 (.string s) (.int .i64 z)) w = .ok (.int .u8 s[j].toNat) w := by
  subst hz
  have hu : Try.prog.underlying 9 = some .string := Try.underlying9
  refine (run_index_string w 9 s .i64 (j : Int) hu).trans ?_
  rw [dif_pos (by omega)]
  rfl

theorem rp_cell {w w' : World} {o : Obj} {t : TypeId} {xs : Array Value} {B n : Nat} {ov : Value} {ys : List Value} (hown : Grow w B 5 ov n ys) (hg : (((w.alloc (.cells xs t)).alloc o).drew).grownBy w' ov.ownBlock) : w'.cell? ⟨w.heap.size, 4, none⟩ = xs[4]? := by
  have hb : Blk (((w.alloc (.cells xs t)).alloc o).drew) w.heap.size t xs := Blk.kept (Blk.fresh w t xs) o
  refine (hb.past hg fun e => ?_).at 4
  have := (hown.block _ e.symm).2
  omega
theorem rp_below {w : World} (o o' : Obj) : Below w.heap.size w (((w.alloc o).alloc o').drew) := (((Below.refl _ w).alloc (Nat.le_refl _) _).alloc (by simp) _).drew
theorem rp_cell2 {w w' : World} {o : Obj} {t : TypeId} {xs : Array Value} {B n : Nat} {ov : Value} {ys : List Value} (hown : Grow w B 5 ov n ys) (hg : (((w.alloc (.cells xs t)).alloc o).drew.drew).grownBy w' ov.ownBlock) : w'.cell? ⟨w.heap.size, 4, none⟩ = xs[4]? := by
  have hb : Blk (((w.alloc (.cells xs t)).alloc o).drew.drew) w.heap.size t xs := Blk.kept (Blk.fresh w t xs) o
  refine (hb.past hg fun e => ?_).at 4
  have := (hown.block _ e.symm).2
  omega
theorem rp_below2 {w : World} (o o' : Obj) : Below w.heap.size w (((w.alloc o).alloc o').drew.drew) := (((Below.refl _ w).alloc (Nat.le_refl _) _).alloc (by simp) _).drew.drew
theorem new_cells3 (w : World) (o : Obj) (t : TypeId) (xs : List Value) : ∀ j u, xs[j]? = some u → ((w.alloc o).alloc (.cells xs.toArray t)).drew.drew.cell? ((⟨w.heap.size + 1, 0, none⟩ : Addr).add j) = some u := new_cells2 w o t xs

theorem clz_cases (s : ByteArray) (f : Nat) : (clz s f = -1 ∧ close 1 ((bl s).drop f) = none) ∨ ∃ en : Nat, clz s f = (en : Int) ∧ f + 1 ≤ en ∧ en < s.size ∧ close 1 ((bl s).drop f) = some (en - f) := by
  cases h : close 1 ((bl s).drop f) with
  | none => exact .inl ⟨by unfold clz; rw [h], rfl⟩
  | some e =>
    have hl := close_lt h
    rw [List.length_drop, bl_len] at hl
    exact .inr ⟨f + e, by unfold clz; rw [h], by omega, by omega, by rw [show f + e - f = e from by omega]⟩
abbrev barred (s : ByteArray) (i : Nat) : Option Nat := if ((bl s).drop (i + 1)).head? = some 33 then close 2 ((bl s).drop (i + 1)) else none
theorem close_two {s : ByteArray} {i : Nat} (h : i + 1 < s.size) : close 2 ((bl s).drop (i + 1)) = (close 1 ((bl s).drop (i + 2))).map (· + 1) := by
  rw [drop_at h]
  rfl
theorem barred_no {s : ByteArray} {i : Nat} (h : ¬ ∃ h : i + 1 < s.size, s[i + 1] = 33) : barred s i = none := if_neg fun e => h (head_next.1 e)
theorem barred_none {s : ByteArray} {i : Nat} (h : i + 1 < s.size) (n : close 1 ((bl s).drop (i + 2)) = none) : barred s i = none := by
  unfold barred
  split
  · rw [close_two h, n]
    rfl
  · rfl
theorem cls_0 {s : ByteArray} {i : Nat} (hb : barred s i = none) (n : close 1 ((bl s).drop (i + 1)) = none) : clsOf ((bl s).drop (i + 1)) = none := by
  unfold clsOf
  rw [show (if ((bl s).drop (i + 1)).head? = some 33 then close 2 ((bl s).drop (i + 1)) else none) = none from hb, n]
theorem cls_4 {s : ByteArray} {i en : Nat} (h : i < s.size) (h91 : s[i] = 91) (hb : barred s i = none) (hn : i + 2 ≤ en) (he : en < s.size) (n : close 1 ((bl s).drop (i + 1)) = some (en - (i + 1))) :
    ∃ q, partOf s i h = q ∧ refC q = [.int .i64 3, .int .u8 0, .string (s.extract (i + 1) en), .bool false, .string (s.extract i (en + 1))] ∧ q.src.length = en + 1 - i := by
  have hc : clsOf ((bl s).drop (i + 1)) = some ⟨4, 91 :: ((bl s).drop (i + 1)).take (en - (i + 1) + 1), ((bl s).drop (i + 1)).take (en - (i + 1))⟩ := by
    unfold clsOf
    rw [show (if ((bl s).drop (i + 1)).head? = some 33 then close 2 ((bl s).drop (i + 1)) else none) = none from hb, n]
  refine ⟨_, part_cls h h91 hc, ?_, ?_⟩
  · refine refC_of (k := 3) (c := 0) (x := false) ?_ ?_ rfl rfl rfl
    · rw [← show i + 1 + (en - (i + 1)) + 1 = en + 1 from by omega]
      exact cut_cls h h91
    · show ((bl s).drop (i + 1)).take (en - (i + 1)) = _
      rw [take_drop, show i + 1 + (en - (i + 1)) = en from by omega]
  · simp [bl_len]
    omega
theorem cls_5 {s : ByteArray} {i en : Nat} (h : i < s.size) (h91 : s[i] = 91) (h1 : i + 1 < s.size) (h33 : s[i + 1] = 33) (hn : i + 3 ≤ en) (he : en < s.size) (n : close 1 ((bl s).drop (i + 2)) = some (en - (i + 2))) :
    ∃ q, partOf s i h = q ∧ refC q = [.int .i64 3, .int .u8 0, .string (s.extract (i + 2) en), .bool true, .string (s.extract i (en + 1))] ∧ q.src.length = en + 1 - i := by
  have hc : clsOf ((bl s).drop (i + 1)) = some ⟨5, 91 :: ((bl s).drop (i + 1)).take (en - (i + 1) + 1), (((bl s).drop (i + 1)).take (en - (i + 1))).drop 1⟩ := by
    unfold clsOf
    rw [if_pos (head_next.2 ⟨h1, h33⟩), close_two h1, n, show en - (i + 1) = en - (i + 2) + 1 from by omega]
    rfl
  refine ⟨_, part_cls h h91 hc, ?_, ?_⟩
  · refine refC_of (k := 3) (c := 0) (x := true) ?_ ?_ rfl rfl rfl
    · rw [← show i + 1 + (en - (i + 1)) + 1 = en + 1 from by omega]
      exact cut_cls h h91
    · show (((bl s).drop (i + 1)).take (en - (i + 1))).drop 1 = _
      rw [take_drop, show i + 1 + (en - (i + 1)) = en from by omega, List.drop_drop]
  · simp [bl_len]
    omega
theorem closing_at (s : ByteArray) (hs : s.size ≤ 1000000000) (f : Nat) (hf : f ≤ s.size) (z y : Int) (hy : y = f) (hz : clz s f = z) (w : World) :
    Calls Try.prog 45 #[.string s, .int .i64 y] w fun e w' => e = .returned (.int .i64 z) ∧ w' = w := by
  subst hy hz
  exact closing_any s hs f hf w

set_option maxRecDepth 8000 in
set_option maxHeartbeats 4000000 in
theorem rparts_any (s : ByteArray) (hs : s.size ≤ 1000000000) (w : World) :
    Calls Try.prog 39 #[.string s] w fun e w' => ∃ v, e = .returned v ∧ Grow w' w.heap.size 5 v (parse (bl s)).length ((parse (bl s)).flatMap refC) ∧ Below w.heap.size w w' := by
  obtain ⟨i0, hi0, hi1, hi2, hi3⟩ := info_parts info_rpart
  go_enter Try.func39, Try.ntmps39
  go_wp2_with fail
  go_loopw [3, 4] (fun ov iv wr => ∃ i qs, RpRel w s ov iv wr i qs) (fun _ iv _ => s.size - (intOf iv).toNat)
  case atStart => exact ⟨0, [], rfl, Nat.zero_le _, Nat.le_refl _, rfl, Grow.nil _ _ _, Below.refl _ _⟩
  case round =>
    obtain ⟨i, qs, ⟨rfl, hle, hcount, htold, hown, hbel⟩⟩ := hrel
    have HT := Lib.hid htold
    clear htold
    by_cases h : i < s.size
    · have b1 : (0 : Int) ≤ (i : Int) ∧ (i : Int) ≤ (i : Int) + 1 ∧ (i : Int) + 1 ≤ (s.size : Int) := by omega
      have HB := Lib.hid (room5 (n := qs.length) (by omega))
      have hB0 := hbel.size
      by_cases c92 : s[i] = 92
      · have g92 : ((s[i].toNat : Int) == 92) = true := byte_eq (k := 92) (by omega) c92
        by_cases hl : i + 1 < s.size
        · have hl2 : (i : Int) + 1 < (s.size : Int) := by omega
          have b2 : (0 : Int) ≤ (i : Int) ∧ (i : Int) ≤ (i : Int) + 2 ∧ (i : Int) + 2 ≤ (s.size : Int) := by omega
          have q1 : ∀ w, Sem.run Try.prog (Instr.index 9 (.string s) (.int .i64 ((i : Int) + 1))) w = .ok (.int .u8 s[i + 1].toNat) w := fun w => at_idx s (i + 1) hl _ (by omega) w
          have HQ := Lib.hid (part_escaped hl c92)
          have HC := Lib.hid (refC_no (q := ⟨1, [s[i], s[i + 1]], []⟩) (k := 0) (b := s[i + 1]) (x := false) (cut_2 hl) rfl rfl rfl rfl)
          clear c92
          go_wp2_with fail
          go_region
          all_goals
            go_wp2_with fail
            go_region
            all_goals
              go_wp2_with (at_builtin; refine wpList_append_src _ rfl (.tmp 101) (.tmp 103) _ _ rfl w.heap.size 56 i0 _ 5 56 Try.underlying52 hi0 hi1 hi2 hi3 rfl (by omega) _ _ _ rfl (((hown.alloc _).alloc _).drew.drew) _ 1 [.int .i64 0, .int .u8 s[i + 1].toNat, .string ⟨#[]⟩, .bool false, .string (s.extract i (i + 2))] rfl (Src.ofSlice _ Try.underlying52 ⟨wr.heap.size + 1, 0, none⟩ 1 1 _ rfl (new_cells3 wr _ _ _) (by simp [Value.oneCell'])) HB.out.1 HB.out.2 (by simp; omega) ?_; intro v4 w4 hown4 hg4 _; have c4 : w4.cell? ⟨wr.heap.size, 4, none⟩ = some (.string (s.extract i (i + 2))) := rp_cell2 hown hg4)
              go_roundw
              case rel => exact ⟨_, _, RpRel.step h hcount HT.out hown hbel ⟨1, [s[i], s[i + 1]], []⟩ HQ.out _ HC.out (rp_below2 _ _) hown4 hg4 (by simp [ByteArray.size_extract]; omega)⟩
              case measure => simp [intOf, ByteArray.size_extract]; omega
        · have hl2 : ¬ (i : Int) + 1 < (s.size : Int) := by omega
          have g42 : ((s[i].toNat : Int) == 42) = false := by rw [c92]; rfl
          have g63 : ((s[i].toNat : Int) == 63) = false := by rw [c92]; rfl
          have g91 : ((s[i].toNat : Int) == 91) = false := by rw [c92]; rfl
          have HQ := Lib.hid (part_itself h (fun _ => hl) (by rw [c92]; decide) (by rw [c92]; decide) (fun e => by rw [c92] at e; exact absurd e (by decide)))
          have HC := Lib.hid (refC_no (q := ⟨0, [s[i]], []⟩) (k := 0) (b := s[i]) (x := false) (cut_1 h) rfl rfl rfl rfl)
          clear c92
          go_wp2_with fail
          go_region
          all_goals
            go_wp2_with (at_builtin; refine wpList_append_src _ rfl (.tmp 101) (.tmp 103) _ _ rfl w.heap.size 56 i0 _ 5 56 Try.underlying52 hi0 hi1 hi2 hi3 rfl (by omega) _ _ _ rfl (((hown.alloc _).alloc _).drew) _ 1 [.int .i64 0, .int .u8 s[i].toNat, .string ⟨#[]⟩, .bool false, .string (s.extract i (i + 1))] rfl (Src.ofSlice _ Try.underlying52 ⟨wr.heap.size + 1, 0, none⟩ 1 1 _ rfl (new_cells2 wr _ _ _) (by simp [Value.oneCell'])) HB.out.1 HB.out.2 (by simp; omega) ?_; intro v4 w4 hown4 hg4 _; have c4 : w4.cell? ⟨wr.heap.size, 4, none⟩ = some (.string (s.extract i (i + 1))) := rp_cell hown hg4)
            go_roundw
            case rel => exact ⟨_, _, RpRel.step h hcount HT.out hown hbel ⟨0, [s[i]], []⟩ HQ.out _ HC.out (rp_below _ _) hown4 hg4 (by simp [ByteArray.size_extract]; omega)⟩
            case measure => simp [intOf, ByteArray.size_extract]; omega
      · have g92 : ((s[i].toNat : Int) == 92) = false := byte_ne (k := 92) (by omega) c92
        by_cases c42 : s[i] = 42
        · have g42 : ((s[i].toNat : Int) == 42) = true := byte_eq (k := 42) (by omega) c42
          have HQ := Lib.hid (part_star h c42)
          have HC := Lib.hid (refC_no (q := ⟨2, [s[i]], []⟩) (k := 1) (b := s[i]) (x := false) (cut_1 h) rfl rfl rfl rfl)
          clear c92 c42
          go_wp2_with fail
          go_region
          all_goals
            go_wp2_with (at_builtin; refine wpList_append_src _ rfl (.tmp 101) (.tmp 103) _ _ rfl w.heap.size 56 i0 _ 5 56 Try.underlying52 hi0 hi1 hi2 hi3 rfl (by omega) _ _ _ rfl (((hown.alloc _).alloc _).drew) _ 1 [.int .i64 1, .int .u8 s[i].toNat, .string ⟨#[]⟩, .bool false, .string (s.extract i (i + 1))] rfl (Src.ofSlice _ Try.underlying52 ⟨wr.heap.size + 1, 0, none⟩ 1 1 _ rfl (new_cells2 wr _ _ _) (by simp [Value.oneCell'])) HB.out.1 HB.out.2 (by simp; omega) ?_; intro v4 w4 hown4 hg4 _; have c4 : w4.cell? ⟨wr.heap.size, 4, none⟩ = some (.string (s.extract i (i + 1))) := rp_cell hown hg4)
            go_roundw
            case rel => exact ⟨_, _, RpRel.step h hcount HT.out hown hbel ⟨2, [s[i]], []⟩ HQ.out _ HC.out (rp_below _ _) hown4 hg4 (by simp [ByteArray.size_extract]; omega)⟩
            case measure => simp [intOf, ByteArray.size_extract]; omega
        · have g42 : ((s[i].toNat : Int) == 42) = false := byte_ne (k := 42) (by omega) c42
          by_cases c63 : s[i] = 63
          · have g63 : ((s[i].toNat : Int) == 63) = true := byte_eq (k := 63) (by omega) c63
            have HQ := Lib.hid (part_any h c63)
            have HC := Lib.hid (refC_no (q := ⟨3, [s[i]], []⟩) (k := 2) (b := s[i]) (x := false) (cut_1 h) rfl rfl rfl rfl)
            clear c92 c42 c63
            go_wp2_with fail
            go_region
            all_goals
              go_wp2_with (at_builtin; refine wpList_append_src _ rfl (.tmp 101) (.tmp 103) _ _ rfl w.heap.size 56 i0 _ 5 56 Try.underlying52 hi0 hi1 hi2 hi3 rfl (by omega) _ _ _ rfl (((hown.alloc _).alloc _).drew) _ 1 [.int .i64 2, .int .u8 s[i].toNat, .string ⟨#[]⟩, .bool false, .string (s.extract i (i + 1))] rfl (Src.ofSlice _ Try.underlying52 ⟨wr.heap.size + 1, 0, none⟩ 1 1 _ rfl (new_cells2 wr _ _ _) (by simp [Value.oneCell'])) HB.out.1 HB.out.2 (by simp; omega) ?_; intro v4 w4 hown4 hg4 _; have c4 : w4.cell? ⟨wr.heap.size, 4, none⟩ = some (.string (s.extract i (i + 1))) := rp_cell hown hg4)
              go_roundw
              case rel => exact ⟨_, _, RpRel.step h hcount HT.out hown hbel ⟨3, [s[i]], []⟩ HQ.out _ HC.out (rp_below _ _) hown4 hg4 (by simp [ByteArray.size_extract]; omega)⟩
              case measure => simp [intOf, ByteArray.size_extract]; omega
          · have g63 : ((s[i].toNat : Int) == 63) = false := byte_ne (k := 63) (by omega) c63
            by_cases c91 : s[i] = 91
            · have g91 : ((s[i].toNat : Int) == 91) = true := byte_eq (k := 91) (by omega) c91
              by_cases hn33 : ∃ h1 : i + 1 < s.size, s[i + 1] = 33
              · obtain ⟨h1, c33⟩ := hn33
                have g33 : ((s[i + 1].toNat : Int) == 33) = true := byte_eq (k := 33) (by omega) c33
                have h1' : (i : Int) + 1 < (s.size : Int) := by omega
                rcases clz_cases s (i + 2) with ⟨z1, n1⟩ | ⟨en, z1, hn1, hn2, n1⟩
                · have K1 := Lib.hid (closing_at s hs (i + 2) (by omega) (-1) ((i : Int) + 2) (by omega) z1)
                  rcases clz_cases s (i + 1) with ⟨z2, n2⟩ | ⟨en, z2, hn1, hn2, n2⟩
                  · have K2 := Lib.hid (closing_at s hs (i + 1) (by omega) (-1) ((i : Int) + 1) (by omega) z2)
                    have HQ := Lib.hid (part_itself h (fun e => absurd e c92) c42 c63 fun _ => cls_0 (barred_none h1 n1) n2)
                    have HC := Lib.hid (refC_no (q := ⟨0, [s[i]], []⟩) (k := 0) (b := s[i]) (x := false) (cut_1 h) rfl rfl rfl rfl)
                    clear c92 c42 c63 c91
                    clear z1 z2 n1 n2 c33
                    go_wp2_with fail
                    go_region
                    all_goals
                      go_wp2_with (first | (go_at_call 45; with_reducible refine (K1.out _).mono ?_; rintro e w3 ⟨rfl, rfl⟩) | (go_at_call 45; with_reducible refine (K2.out _).mono ?_; rintro e w3 ⟨rfl, rfl⟩) | (at_builtin; refine wpList_append_src _ rfl (.tmp 101) (.tmp 103) _ _ rfl w.heap.size 56 i0 _ 5 56 Try.underlying52 hi0 hi1 hi2 hi3 rfl (by omega) _ _ _ rfl (((hown.alloc _).alloc _).drew) _ 1 [.int .i64 0, .int .u8 s[i].toNat, .string ⟨#[]⟩, .bool false, .string (s.extract i (i + 1))] rfl (Src.ofSlice _ Try.underlying52 ⟨wr.heap.size + 1, 0, none⟩ 1 1 _ rfl (new_cells2 wr _ _ _) (by simp [Value.oneCell'])) HB.out.1 HB.out.2 (by simp; omega) ?_; intro v4 w4 hown4 hg4 _; have c4 : w4.cell? ⟨wr.heap.size, 4, none⟩ = some (.string (s.extract i (i + 1))) := rp_cell hown hg4))
                      go_roundw
                      case rel => exact ⟨_, _, RpRel.step h hcount HT.out hown hbel ⟨0, [s[i]], []⟩ HQ.out _ HC.out (rp_below _ _) hown4 hg4 (by simp [ByteArray.size_extract]; omega)⟩
                      case measure => simp [intOf, ByteArray.size_extract]; omega
                  · have K2 := Lib.hid (closing_at s hs (i + 1) (by omega) (en : Int) ((i : Int) + 1) (by omega) z2)
                    obtain ⟨q, hq, hc, hl⟩ := cls_4 h c91 (barred_none h1 n1) (by omega) hn2 n2
                    have HQ := Lib.hid hq
                    have HC := Lib.hid hc
                    have HL := Lib.hid hl
                    have b2 : (0 : Int) ≤ (i : Int) + 1 ∧ (i : Int) + 1 ≤ (en : Int) ∧ (en : Int) ≤ (s.size : Int) := by omega
                    have b3 : (0 : Int) ≤ (i : Int) ∧ (i : Int) ≤ (en : Int) + 1 ∧ (en : Int) + 1 ≤ (s.size : Int) := by omega
                    clear z1 z2 n1 n2 c33 c92 c42 c63 c91 hq hc hl
                    go_wp2_with fail
                    go_region
                    all_goals
                      go_wp2_with (first | (go_at_call 45; with_reducible refine (K1.out _).mono ?_; rintro e w3 ⟨rfl, rfl⟩) | (go_at_call 45; with_reducible refine (K2.out _).mono ?_; rintro e w3 ⟨rfl, rfl⟩))
                      go_region
                      all_goals
                        go_wp2_with (at_builtin; refine wpList_append_src _ rfl (.tmp 101) (.tmp 103) _ _ rfl w.heap.size 56 i0 _ 5 56 Try.underlying52 hi0 hi1 hi2 hi3 rfl (by omega) _ _ _ rfl (((hown.alloc _).alloc _).drew.drew) _ 1 [.int .i64 3, .int .u8 0, .string (s.extract (i + 1) en), .bool false, .string (s.extract i (en + 1))] rfl (Src.ofSlice _ Try.underlying52 ⟨wr.heap.size + 1, 0, none⟩ 1 1 _ rfl (new_cells3 wr _ _ _) (by simp [Value.oneCell'])) HB.out.1 HB.out.2 (by simp; omega) ?_; intro v4 w4 hown4 hg4 _; have c4 : w4.cell? ⟨wr.heap.size, 4, none⟩ = some (.string (s.extract i (en + 1))) := rp_cell2 hown hg4)
                        go_roundw
                        case rel => exact ⟨_, _, RpRel.step h hcount HT.out hown hbel q HQ.out _ HC.out (rp_below2 _ _) hown4 hg4 (by rw [HL.out]; simp [ByteArray.size_extract]; omega)⟩
                        case measure => simp [intOf, ByteArray.size_extract]; omega
                · have K1 := Lib.hid (closing_at s hs (i + 2) (by omega) (en : Int) ((i : Int) + 2) (by omega) z1)
                  obtain ⟨q, hq, hc, hl⟩ := cls_5 h c91 h1 c33 (by omega) hn2 n1
                  have HQ := Lib.hid hq
                  have HC := Lib.hid hc
                  have HL := Lib.hid hl
                  have b2 : (0 : Int) ≤ (i : Int) + 2 ∧ (i : Int) + 2 ≤ (en : Int) ∧ (en : Int) ≤ (s.size : Int) := by omega
                  have b3 : (0 : Int) ≤ (i : Int) ∧ (i : Int) ≤ (en : Int) + 1 ∧ (en : Int) + 1 ≤ (s.size : Int) := by omega
                  clear z1 n1 c33 c92 c42 c63 c91 hq hc hl
                  go_wp2_with fail
                  go_region
                  all_goals
                    go_wp2_with (go_at_call 45; with_reducible refine (K1.out _).mono ?_; rintro e w3 ⟨rfl, rfl⟩)
                    go_region
                    all_goals
                      go_wp2_with (at_builtin; refine wpList_append_src _ rfl (.tmp 101) (.tmp 103) _ _ rfl w.heap.size 56 i0 _ 5 56 Try.underlying52 hi0 hi1 hi2 hi3 rfl (by omega) _ _ _ rfl (((hown.alloc _).alloc _).drew.drew) _ 1 [.int .i64 3, .int .u8 0, .string (s.extract (i + 2) en), .bool true, .string (s.extract i (en + 1))] rfl (Src.ofSlice _ Try.underlying52 ⟨wr.heap.size + 1, 0, none⟩ 1 1 _ rfl (new_cells3 wr _ _ _) (by simp [Value.oneCell'])) HB.out.1 HB.out.2 (by simp; omega) ?_; intro v4 w4 hown4 hg4 _; have c4 : w4.cell? ⟨wr.heap.size, 4, none⟩ = some (.string (s.extract i (en + 1))) := rp_cell2 hown hg4)
                      go_roundw
                      case rel => exact ⟨_, _, RpRel.step h hcount HT.out hown hbel q HQ.out _ HC.out (rp_below2 _ _) hown4 hg4 (by rw [HL.out]; simp [ByteArray.size_extract]; omega)⟩
                      case measure => simp [intOf, ByteArray.size_extract]; omega
              · have HBN := barred_no hn33
                rcases clz_cases s (i + 1) with ⟨z2, n2⟩ | ⟨en, z2, hn1, hn2, n2⟩
                · have K2 := Lib.hid (closing_at s hs (i + 1) (by omega) (-1) ((i : Int) + 1) (by omega) z2)
                  have HQ := Lib.hid (part_itself h (fun e => absurd e c92) c42 c63 fun _ => cls_0 HBN n2)
                  have HC := Lib.hid (refC_no (q := ⟨0, [s[i]], []⟩) (k := 0) (b := s[i]) (x := false) (cut_1 h) rfl rfl rfl rfl)
                  clear c92 c42 c63 c91
                  clear z2 n2 HBN
                  by_cases h1 : i + 1 < s.size
                  · have g33 : ((s[i + 1].toNat : Int) == 33) = false := byte_ne (k := 33) (by omega) fun e => hn33 ⟨h1, e⟩
                    have h1' : (i : Int) + 1 < (s.size : Int) := by omega
                    clear hn33
                    go_wp2_with fail
                    go_region
                    all_goals
                      go_wp2_with (first | (go_at_call 45; with_reducible refine (K2.out _).mono ?_; rintro e w3 ⟨rfl, rfl⟩) | (at_builtin; refine wpList_append_src _ rfl (.tmp 101) (.tmp 103) _ _ rfl w.heap.size 56 i0 _ 5 56 Try.underlying52 hi0 hi1 hi2 hi3 rfl (by omega) _ _ _ rfl (((hown.alloc _).alloc _).drew) _ 1 [.int .i64 0, .int .u8 s[i].toNat, .string ⟨#[]⟩, .bool false, .string (s.extract i (i + 1))] rfl (Src.ofSlice _ Try.underlying52 ⟨wr.heap.size + 1, 0, none⟩ 1 1 _ rfl (new_cells2 wr _ _ _) (by simp [Value.oneCell'])) HB.out.1 HB.out.2 (by simp; omega) ?_; intro v4 w4 hown4 hg4 _; have c4 : w4.cell? ⟨wr.heap.size, 4, none⟩ = some (.string (s.extract i (i + 1))) := rp_cell hown hg4))
                      go_roundw
                      case rel => exact ⟨_, _, RpRel.step h hcount HT.out hown hbel ⟨0, [s[i]], []⟩ HQ.out _ HC.out (rp_below _ _) hown4 hg4 (by simp [ByteArray.size_extract]; omega)⟩
                      case measure => simp [intOf, ByteArray.size_extract]; omega
                  · have h1' : ¬ (i : Int) + 1 < (s.size : Int) := by omega
                    clear hn33
                    go_wp2_with fail
                    go_region
                    all_goals
                      go_wp2_with (first | (go_at_call 45; with_reducible refine (K2.out _).mono ?_; rintro e w3 ⟨rfl, rfl⟩) | (at_builtin; refine wpList_append_src _ rfl (.tmp 101) (.tmp 103) _ _ rfl w.heap.size 56 i0 _ 5 56 Try.underlying52 hi0 hi1 hi2 hi3 rfl (by omega) _ _ _ rfl (((hown.alloc _).alloc _).drew) _ 1 [.int .i64 0, .int .u8 s[i].toNat, .string ⟨#[]⟩, .bool false, .string (s.extract i (i + 1))] rfl (Src.ofSlice _ Try.underlying52 ⟨wr.heap.size + 1, 0, none⟩ 1 1 _ rfl (new_cells2 wr _ _ _) (by simp [Value.oneCell'])) HB.out.1 HB.out.2 (by simp; omega) ?_; intro v4 w4 hown4 hg4 _; have c4 : w4.cell? ⟨wr.heap.size, 4, none⟩ = some (.string (s.extract i (i + 1))) := rp_cell hown hg4))
                      go_roundw
                      case rel => exact ⟨_, _, RpRel.step h hcount HT.out hown hbel ⟨0, [s[i]], []⟩ HQ.out _ HC.out (rp_below _ _) hown4 hg4 (by simp [ByteArray.size_extract]; omega)⟩
                      case measure => simp [intOf, ByteArray.size_extract]; omega
                · have h1 : i + 1 < s.size := by omega
                  have g33 : ((s[i + 1].toNat : Int) == 33) = false := byte_ne (k := 33) (by omega) fun e => hn33 ⟨h1, e⟩
                  have h1' : (i : Int) + 1 < (s.size : Int) := by omega
                  have K2 := Lib.hid (closing_at s hs (i + 1) (by omega) (en : Int) ((i : Int) + 1) (by omega) z2)
                  obtain ⟨q, hq, hc, hl⟩ := cls_4 h c91 HBN (by omega) hn2 n2
                  have HQ := Lib.hid hq
                  have HC := Lib.hid hc
                  have HL := Lib.hid hl
                  have b2 : (0 : Int) ≤ (i : Int) + 1 ∧ (i : Int) + 1 ≤ (en : Int) ∧ (en : Int) ≤ (s.size : Int) := by omega
                  have b3 : (0 : Int) ≤ (i : Int) ∧ (i : Int) ≤ (en : Int) + 1 ∧ (en : Int) + 1 ≤ (s.size : Int) := by omega
                  clear z2 n2 HBN hn33 c92 c42 c63 c91 hq hc hl
                  go_wp2_with fail
                  go_region
                  all_goals
                    go_wp2_with (go_at_call 45; with_reducible refine (K2.out _).mono ?_; rintro e w3 ⟨rfl, rfl⟩)
                    go_region
                    all_goals
                      go_wp2_with (at_builtin; refine wpList_append_src _ rfl (.tmp 101) (.tmp 103) _ _ rfl w.heap.size 56 i0 _ 5 56 Try.underlying52 hi0 hi1 hi2 hi3 rfl (by omega) _ _ _ rfl (((hown.alloc _).alloc _).drew.drew) _ 1 [.int .i64 3, .int .u8 0, .string (s.extract (i + 1) en), .bool false, .string (s.extract i (en + 1))] rfl (Src.ofSlice _ Try.underlying52 ⟨wr.heap.size + 1, 0, none⟩ 1 1 _ rfl (new_cells3 wr _ _ _) (by simp [Value.oneCell'])) HB.out.1 HB.out.2 (by simp; omega) ?_; intro v4 w4 hown4 hg4 _; have c4 : w4.cell? ⟨wr.heap.size, 4, none⟩ = some (.string (s.extract i (en + 1))) := rp_cell2 hown hg4)
                      go_roundw
                      case rel => exact ⟨_, _, RpRel.step h hcount HT.out hown hbel q HQ.out _ HC.out (rp_below2 _ _) hown4 hg4 (by rw [HL.out]; simp [ByteArray.size_extract]; omega)⟩
                      case measure => simp [intOf, ByteArray.size_extract]; omega
            · have g91 : ((s[i].toNat : Int) == 91) = false := byte_ne (k := 91) (by omega) c91
              have HQ := Lib.hid (part_itself h (fun e => absurd e c92) c42 c63 fun e => absurd e c91)
              have HC := Lib.hid (refC_no (q := ⟨0, [s[i]], []⟩) (k := 0) (b := s[i]) (x := false) (cut_1 h) rfl rfl rfl rfl)
              clear c92 c42 c63 c91
              go_wp2_with fail
              go_region
              all_goals
                go_wp2_with (at_builtin; refine wpList_append_src _ rfl (.tmp 101) (.tmp 103) _ _ rfl w.heap.size 56 i0 _ 5 56 Try.underlying52 hi0 hi1 hi2 hi3 rfl (by omega) _ _ _ rfl (((hown.alloc _).alloc _).drew) _ 1 [.int .i64 0, .int .u8 s[i].toNat, .string ⟨#[]⟩, .bool false, .string (s.extract i (i + 1))] rfl (Src.ofSlice _ Try.underlying52 ⟨wr.heap.size + 1, 0, none⟩ 1 1 _ rfl (new_cells2 wr _ _ _) (by simp [Value.oneCell'])) HB.out.1 HB.out.2 (by simp; omega) ?_; intro v4 w4 hown4 hg4 _; have c4 : w4.cell? ⟨wr.heap.size, 4, none⟩ = some (.string (s.extract i (i + 1))) := rp_cell hown hg4)
                go_roundw
                case rel => exact ⟨_, _, RpRel.step h hcount HT.out hown hbel ⟨0, [s[i]], []⟩ HQ.out _ HC.out (rp_below _ _) hown4 hg4 (by simp [ByteArray.size_extract]; omega)⟩
                case measure => simp [intOf, ByteArray.size_extract]; omega
    · obtain rfl : s.size = i := by omega
      have HE : Hid (parse (bl s) = qs) := Lib.hid (by rw [HT.out, drop_end (Nat.le_refl _), parse_nil, List.append_nil])
      go_wp2_with fail
      go_ret
      rw [HE.out]
      exact ⟨_, rfl, hown, hbel⟩
end Txt
end Go.Proofs.Ytpmmbbaigfjhnaa

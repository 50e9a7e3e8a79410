import Derived.Test.YtjgaghapjlmcpaaDoorUnqt
namespace Go.Proofs.YtjgaghapjlmcpaaDoor
open Go.RowKit Wire
set_option linter.unusedVariables false
set_option linter.unusedSimpArgs false
namespace Txt

set_option maxHeartbeats 400000 in
theorem rdigit_any (c : UInt8) (w : World) :
    Calls Tryd.prog 58 #[.int .u8 c.toNat] w fun e w' => e = .returned (.int .u8 (dgN c)) ∧ w' = w := by
  go_enter Tryd.func58, Tryd.ntmps58
  go_wp2_with fail
  go_loopw [3] (fun iv wr => (∃ k : Nat, iv = .int .i64 k ∧ k ≤ 16 ∧ Hid (∀ j, j < k → hx j ≠ c)) ∧ w = wr) (fun iv _ => 16 - (intOf iv).toNat)
  case atStart => exact ⟨⟨0, rfl, by omega, Lib.hid (fun j hj => absurd hj (by omega))⟩, rfl⟩
  case round =>
    obtain ⟨⟨k, rfl, hk, HN⟩, rfl⟩ := hrel
    by_cases hlt : k < 16
    · have hi := hex_iat k hlt
      by_cases hc : hx k = c
      · have ht : (((hx k).toNat : Int) == (c.toNat : Int)) = true := by rw [hc]; simp
        have HK := Lib.hid (dgN_hx k hlt)
        have HC := Lib.hid hc
        clear hc
        go_wp2_with fail
        go_ret
        exact ⟨by rw [← HC.out, HK.out]; rfl, rfl⟩
      · have ht : (((hx k).toNat : Int) == (c.toNat : Int)) = false := beq_eq_false_iff_ne.2 fun e => hc (UInt8.toNat_inj.1 (by omega))
        have HC := Lib.hid hc
        clear hc
        go_wp2_with fail
        go_roundw
        case rel => exact ⟨⟨k + 1, by simp, hlt, Lib.hid (hex_more HN.out HC.out)⟩, trivial⟩
        case measure => simp [intOf]; omega
    · obtain rfl : k = 16 := by omega
      have HK := Lib.hid (dgN_none c HN.out)
      go_wp2_with fail
      go_ret
      exact ⟨by rw [HK.out]; rfl, rfl⟩

theorem hex_lo2 (c : UInt8) (w : World) : Sem.run Tryd.prog (Instr.index 9 (.string hexS) (.int .u8 ((c.toNat : Int) % 16))) w = .ok (.int .u8 (hx (c.toNat % 16)).toNat) w :=
  hex_at _ (Nat.mod_lt _ (by omega)) _ (by omega) w

theorem hex_hi3 (c : UInt8) (w : World) : Sem.run Tryd.prog (Instr.index 9 (.string hexS) (.int .u8 (IntKind.u8.wrap ((c.toNat : Int) / 16)))) w = .ok (.int .u8 (hx (c.toNat / 16)).toNat) w := by
  have h : IntKind.u8.wrap ((c.toNat : Int) / 16) = (c.toNat : Int) / 16 := by
    have := UInt8.toNat_lt c
    simp [IntKind.wrap, IntKind.bits, IntKind.signed]
    omega
  rw [h]
  exact hex_hi c w

theorem hex_lo3 (c : UInt8) (w : World) : Sem.run Tryd.prog (Instr.index 9 (.string hexS) (.int .u8 (IntKind.u8.wrap ((c.toNat : Int) % 16)))) w = .ok (.int .u8 (hx (c.toNat % 16)).toNat) w := by
  have h : IntKind.u8.wrap ((c.toNat : Int) % 16) = (c.toNat : Int) % 16 := by
    have := UInt8.toNat_lt c
    simp [IntKind.wrap, IntKind.bits, IntKind.signed]
    omega
  rw [h]
  exact hex_lo2 c w
theorem hex_lo4 (c : UInt8) (w : World) : Sem.run Tryd.prog (Instr.index 9 (.string hexS) (.int .u8 (IntKind.u8.wrap (Int.tmod (c.toNat : Int) 16)))) w = .ok (.int .u8 (hx (c.toNat % 16)).toNat) w := by
  rw [Int.tmod_eq_emod_of_nonneg (by omega)]
  exact hex_lo3 c w
theorem hex_lo5 (c : UInt8) (w : World) : Sem.run Tryd.prog (Instr.index 9 (.string hexS) (.int .u8 (Int.tmod (c.toNat : Int) 16))) w = .ok (.int .u8 (hx (c.toNat % 16)).toNat) w := by
  rw [Int.tmod_eq_emod_of_nonneg (by omega)]
  exact hex_lo2 c w

/-- What a byte is to the quoting functions. -/
theorem enc_cases (c : UInt8) : ((((c.toNat : Int) == 34) = true ∨ (((c.toNat : Int) == 34) = false ∧ ((c.toNat : Int) == 92) = true)) ∧ encB c = [92, c]) ∨
    (((c.toNat : Int) == 34) = false ∧ ((c.toNat : Int) == 92) = false ∧
      ((((c.toNat : Int) == 10) = true ∧ encB c = [92, 110]) ∨
       (((c.toNat : Int) == 10) = false ∧
          ((c.toNat < 32 ∨ (32 ≤ c.toNat ∧ 126 < c.toNat)) ∧ encB c = [92, 120, hx (c.toNat / 16), hx (c.toNat % 16)] ∨ (32 ≤ c.toNat ∧ c.toNat ≤ 126) ∧ encB c = [c])))) := by
  by_cases h34 : c = 34
  · exact .inl ⟨.inl (byte_eq (k := 34) (by omega) h34), by unfold encB; rw [if_pos (.inl h34)]⟩
  · by_cases h92 : c = 92
    · exact .inl ⟨.inr ⟨byte_ne (k := 34) (by omega) h34, byte_eq (k := 92) (by omega) h92⟩, by unfold encB; rw [if_pos (.inr h92)]⟩
    · refine .inr ⟨byte_ne (k := 34) (by omega) h34, byte_ne (k := 92) (by omega) h92, ?_⟩
      by_cases h10 : c = 10
      · exact .inl ⟨byte_eq (k := 10) (by omega) h10, by subst h10; rfl⟩
      · refine .inr ⟨byte_ne (k := 10) (by omega) h10, ?_⟩
        by_cases hh : c.toNat < 32 ∨ 126 < c.toNat
        · refine .inl ⟨by omega, ?_⟩
          unfold encB
          rw [if_neg (by rintro (h | h); exact h34 h; exact h92 h), if_neg h10, if_pos hh]
        · refine .inr ⟨by omega, ?_⟩
          unfold encB
          rw [if_neg (by rintro (h | h); exact h34 h; exact h92 h), if_neg h10, if_neg hh]

theorem QuoRel.of {W wr w4 : World} {s : ByteArray} {k : Nat} {u x : List UInt8} {v4 : Value} (hlt : k < s.size) (hq : 34 :: ((bl s).take (k + 1)).flatMap encB = u ++ x) (hbel : Below W.heap.size W wr) (hG : Grown wr W.heap.size (u ++ x) (.returned v4) w4) :
    QuoRel W s v4 (.int .i64 ((k : Int) + 1)) w4 (k + 1) := by
  obtain ⟨v', e, h1, h2⟩ := hG
  obtain rfl : v4 = v' := by injection e
  exact ⟨by simp, hlt, by rw [hq]; exact h1, hbel.trans h2⟩

set_option maxHeartbeats 4000000 in
theorem rquote_any (s : ByteArray) (hs : s.size ≤ 100000000000) (w : World) :
    Calls Tryd.prog 28 #[.string s] w fun e w' => e = .returned (str (quo (bl s))) ∧ Below w.heap.size w w' := by
  obtain ⟨i0, hi0, hi1, hi2, hi3⟩ := info_parts info_byte
  go_enter Tryd.func28, Tryd.ntmps28
  go_wp2_with fail
  go_loopw [3, 4] (fun ov iv wr => ∃ k, QuoRel w s ov iv wr k) (fun _ iv _ => s.size - (intOf iv).toNat)
  case atStart => exact ⟨0, rfl, Nat.zero_le _, Grow.fresh w _ [.int .u8 34] (by simp), (Below.refl _ _).alloc (Nat.le_refl _) _⟩
  case round =>
    obtain ⟨k, ⟨rfl, hk, hown, hbel⟩⟩ := hrel
    have hr := quo_room s k
    have HO := Lib.hid hown
    by_cases hlt : k < s.size
    · have HQ := Lib.hid (quo_snoc hlt)
      have hB0 := hbel.size
      have HB1 := Lib.hid (room (n := (34 :: ((bl s).take k).flatMap encB).length) (m := 1) (by omega))
      have HB2 := Lib.hid (room (n := (34 :: ((bl s).take k).flatMap encB).length) (m := 2) (by omega))
      have HB4 := Lib.hid (room (n := (34 :: ((bl s).take k).flatMap encB).length) (m := 4) (by omega))
      generalize (34 :: ((bl s).take k).flatMap encB) = u at *
      have hec := enc_cases s[k]
      obtain ⟨c, hc⟩ : ∃ c, c = s[k] := ⟨_, rfl⟩
      rw [← hc] at HQ hec
      obtain ⟨A0, n0, e0⟩ := hown.slice
      subst e0
      rcases hec with ⟨ht, he⟩ | ⟨t1, t2, ⟨t3, he⟩ | ⟨t3, ⟨ht, he⟩ | ⟨ht, he⟩⟩⟩
      · rw [he] at HQ
        clear he hr
        rw [hc] at ht HQ
        clear hc
        rcases ht with t1 | ⟨t1, t2⟩
        all_goals
          go_wp2_with (at_builtin; refine wpList_append_src _ rfl (.tmp 22) (.tmp 24) _ _ rfl w.heap.size 5 i0 _ 1 1 Tryd.underlying36 hi0 hi1 hi2 hi3 rfl (by omega) _ _ _ rfl (hown.alloc _) _ 2 [.int .u8 92, .int .u8 s[k].toNat] rfl (Src.ofSlice _ Tryd.underlying36 ⟨wr.heap.size, 0, none⟩ 2 2 [.int .u8 92, .int .u8 s[k].toNat] rfl (new_cells wr _ [.int .u8 92, .int .u8 s[k].toNat]) (by simp [Value.oneCell'])) HB2.out.1 HB2.out.2 (Nat.le_trans hB0 (by simp)) ?_; intro v4 w4 hown4 hg4 _)
          have hG := Grown.of (x := [92, s[k]]) hown hB0 ((Below.refl _ wr).alloc (Nat.le_refl _) _) hown4 hg4 rfl rfl
          have HS := Lib.hid (QuoRel.of hlt HQ.out hbel hG)
          go_roundw
          case rel => exact ⟨k + 1, HS.out⟩
          case measure => simp [intOf]; omega
      · rw [he] at HQ
        clear he hr
        rw [hc] at t1 t2 t3
        clear hc
        go_wp2_with (at_builtin; refine wpList_append_src _ rfl (.tmp 28) (.tmp 29) _ _ rfl w.heap.size 5 i0 _ 1 1 Tryd.underlying36 hi0 hi1 hi2 hi3 rfl (by omega) _ _ _ rfl (hown.alloc _) _ 2 [.int .u8 92, .int .u8 110] rfl (Src.ofSlice _ Tryd.underlying36 ⟨wr.heap.size, 0, none⟩ 2 2 [.int .u8 92, .int .u8 110] rfl (new_cells wr _ [.int .u8 92, .int .u8 110]) (by simp [Value.oneCell'])) HB2.out.1 HB2.out.2 (Nat.le_trans hB0 (by simp)) ?_; intro v4 w4 hown4 hg4 _)
        have hG := Grown.of (x := [92, 110]) hown hB0 ((Below.refl _ wr).alloc (Nat.le_refl _) _) hown4 hg4 rfl rfl
        have HS := Lib.hid (QuoRel.of hlt HQ.out hbel hG)
        go_roundw
        case rel => exact ⟨k + 1, HS.out⟩
        case measure => simp [intOf]; omega
      · rw [he] at HQ
        clear he hr
        rw [hc] at t1 t2 t3 ht HQ
        clear hc
        have hh1 := hex_hi s[k]
        have hh2 := hex_lo2 s[k]
        have hh3 := hex_hi3 s[k]
        have hh4 := hex_lo3 s[k]
        have hh5 := hex_lo4 s[k]
        have hh6 := hex_lo5 s[k]
        rcases ht with ht | ⟨ht1, ht2⟩
        all_goals
          go_wp2_with fail
          go_region_held3 (fun w' => True) (trivial)
            (first
              | (refine step_append_src _ (by rfl) (.tmp 37) (.tmp 44) _ _ (by rfl) w.heap.size 5 i0 _ 1 1 Tryd.underlying36 hi0 hi1 hi2 hi3 rfl (by omega) _ _ _ (by rfl) ((hown.alloc _).drew) _ 4 [.int .u8 92, .int .u8 120, .int .u8 (hx (s[k].toNat / 16)).toNat, .int .u8 (hx (s[k].toNat % 16)).toNat] (by rfl) (Src.ofSlice _ Tryd.underlying36 ⟨wr.heap.size, 0, none⟩ 4 4 _ rfl (new_cells wr _ _) (by simp [Value.oneCell'])) HB4.out.1 HB4.out.2 (Nat.le_trans hB0 (by simp)) ?_; intro v4 w4 hown4 hg4 _))
          all_goals
            have hG := Grown.of (x := [92, 120, hx (s[k].toNat / 16), hx (s[k].toNat % 16)]) hown hB0 (((Below.refl _ wr).alloc (Nat.le_refl _) _).drew) hown4 hg4 rfl rfl
            have HS := Lib.hid (QuoRel.of hlt HQ.out hbel hG)
            go_wp2_with fail
            go_roundw
            case rel => exact ⟨k + 1, HS.out⟩
            case measure => simp [intOf]; omega
      · rw [he] at HQ
        clear he hr
        rw [hc] at t1 t2 t3 ht HQ
        clear hc
        obtain ⟨ht1, ht2⟩ := ht
        go_wp2_with (at_builtin; refine wpList_append_src _ rfl (.tmp 46) (.tmp 48) _ _ rfl w.heap.size 5 i0 _ 1 1 Tryd.underlying36 hi0 hi1 hi2 hi3 rfl (by omega) _ _ _ rfl (hown.alloc _) _ 1 [.int .u8 s[k].toNat] rfl (Src.ofSlice _ Tryd.underlying36 ⟨wr.heap.size, 0, none⟩ 1 1 [.int .u8 s[k].toNat] rfl (new_cells wr _ [.int .u8 s[k].toNat]) (by simp [Value.oneCell'])) HB1.out.1 HB1.out.2 (Nat.le_trans hB0 (by simp)) ?_; intro v4 w4 hown4 hg4 _)
        have hG := Grown.of (x := [s[k]]) hown hB0 ((Below.refl _ wr).alloc (Nat.le_refl _) _) hown4 hg4 rfl rfl
        have HS := Lib.hid (QuoRel.of hlt HQ.out hbel hG)
        go_roundw
        case rel => exact ⟨k + 1, HS.out⟩
        case measure => simp [intOf]; omega
    · obtain rfl : s.size = k := by omega
      have HB := Lib.hid (room (n := (34 :: ((bl s).take s.size).flatMap encB).length) (m := 1) (by omega))
      have HD := Lib.hid (quo_done s)
      clear hr
      go_wp2_with (at_builtin; refine wpList_append_src _ rfl (.tmp 50) (.tmp 51) _ _ rfl w.heap.size 5 i0 _ 1 1 Tryd.underlying36 hi0 hi1 hi2 hi3 rfl (by omega) _ _ _ rfl (hown.alloc _) _ 1 [.int .u8 34] rfl (Src.ofSlice _ Tryd.underlying36 ⟨wr.heap.size, 0, none⟩ 1 1 [.int .u8 34] rfl (new_cells wr _ [.int .u8 34]) (by simp [Value.oneCell'])) HB.out.1 HB.out.2 (Nat.le_trans hbel.size (by simp)) ?_; intro v4 w4 hown4 hg4 _; have hend := grown_end (x := [34]) hown hbel hown4 hg4 rfl rfl HD.out; have hrun := hend.1; have HE := Lib.hid hend.2; clear hend)
      go_ret
      exact ⟨rfl, HE.out⟩

theorem UnqRel.of {W wr w4 : World} {s : ByteArray} {x : List UInt8} {k sz : Nat} {d : UInt8} {ov v4 : Value} {o : Obj} (hone : 1 ≤ k) (hle : k + sz ≤ s.size - 1) (hcount : x.length ≤ k)
    (hn : unqT (bl s) = (x ++ [d]) ++ unq ((front s).drop (k + sz))) (hown : Grow wr W.heap.size 1 ov x.length (byteCells ⟨x.toArray⟩)) (hbel : Below W.heap.size W wr)
    (hown4 : Grow w4 W.heap.size 1 v4 (x.length + 1) (byteCells ⟨x.toArray⟩ ++ [.int .u8 d.toNat])) (hg4 : (wr.alloc o).grownBy w4 ov.ownBlock) (hsz : 1 ≤ sz) {iv : Value} (hiv : iv = .int .i64 (k + sz : Nat)) : UnqRel W s v4 iv w4 (x ++ [d]) (k + sz) := by
  have hg := Grown.of (x := [d]) hown hbel.size ((Below.refl _ wr).alloc (Nat.le_refl _) _) hown4 hg4 rfl rfl
  obtain ⟨v', e, h1, h2⟩ := hg
  obtain rfl : v4 = v' := by injection e
  exact ⟨hiv, by omega, by omega, by simp; omega, hn, h1, hbel.trans h2⟩

/-- One step of the reference's reading. -/
theorem unq_step {s : ByteArray} {x : List UInt8} {k : Nat} {c : UInt8} {r : List UInt8} (ht : unqT (bl s) = x ++ unq ((front s).drop k)) (hcr : (front s).drop k = c :: r) :
    unqT (bl s) = (x ++ [(dq c r).1]) ++ unq ((front s).drop (k + (dq c r).2)) := by
  rw [ht, hcr, unq_cons, List.append_assoc, ← List.drop_drop, hcr]
  rfl

theorem front_at {s : ByteArray} {k : Nat} (h : k < s.size - 1) : (front s).drop k = s[k] :: (front s).drop (k + 1) := by
  have h1 : k < (front s).length := by rw [List.length_take, bl_len]; omega
  rw [List.drop_eq_getElem_cons h1]
  congr 1
  have := bl_get (s := s) (i := k) (by omega)
  rw [List.getElem_take]
  exact Option.some.inj (by rw [← List.getElem?_eq_getElem]; exact this)
theorem front_end {s : ByteArray} {k : Nat} (h : ¬ k < s.size - 1) : (front s).drop k = [] := List.drop_eq_nil_of_le (by rw [List.length_take]; omega)

theorem Below.drewN' (w : World) (B n : Nat) : Below B w (w.drewN n) := ⟨rfl, rfl, rfl, Nat.le_refl _, fun _ _ => rfl⟩

theorem idx_at (s : ByteArray) (j : Nat) (h : j < s.size) (z : Int) (hz : z = j) (w : World) : Sem.run Tryd.prog (Instr.index 9 (.string s) (.int .i64 z)) w = .ok (.int .u8 s[j].toNat) w := by
  subst hz
  have hu : Tryd.prog.underlying 9 = some .string := Tryd.underlying9
  refine (run_index_string w 9 s .i64 (j : Int) hu).trans ?_
  rw [dif_pos (by omega)]
  rfl

theorem dq_short {r : List UInt8} (h : r.length < 2) : dq 92 (120 :: r) = (120, 2) := by
  match r, h with
  | [], _ => rfl
  | [_], _ => rfl
  | _ :: _ :: _, hr => simp at hr; omega

set_option maxHeartbeats 4000000 in
theorem runquote_any (s : ByteArray) (hs : s.size ≤ 1000000000) (w : World) :
    Calls Tryd.prog 50 #[.string s] w fun e w' => e = .returned (.tuple #[str (unqV (bl s)), .bool (unqB (bl s))]) ∧ Below w.heap.size w w' := by
  obtain ⟨i0, hi0, hi1, hi2, hi3⟩ := info_parts info_byte
  have HL := Lib.hid (unqV_len (bl s))
  go_enter Tryd.func50, Tryd.ntmps50
  go_wp2_with fail
  go_loopw [4, 5] (fun ov iv wr => ∃ x k, UnqRel w s ov iv wr x k) (fun _ iv _ => s.size - (intOf iv).toNat)
  case atStart =>
    refine ⟨[], 1, rfl, Nat.le_refl _, Nat.le_max_left _ _, by simp, ?_, Grow.nil _ _ _, Below.refl _ _⟩
    unfold unqT inner
    rw [bl_len]
    rfl
  case round =>
    obtain ⟨x, k, ⟨rfl, hone, hle, hcount, htold, hown, hbel⟩⟩ := hrel
    have HT := Lib.hid htold
    have HM := Lib.hid hle
    clear htold hle
    by_cases hlt : k + 1 < s.size
    · have hk0 : k < s.size := by omega
      have hlt' : (k : Int) < (s.size : Int) - 1 := by omega
      have HB := Lib.hid (room (n := x.length) (m := 1) (by omega))
      have HA := Lib.hid (front_at (s := s) (k := k) (by omega))
      by_cases hc : s[k] = 92
      · have t1 : ((s[k].toNat : Int) == 92) = true := by rw [hc]; rfl
        by_cases hl2 : k + 2 < s.size
        · have hk1 : k + 1 < s.size := by omega
          have hl2' : (k : Int) + 1 < (s.size : Int) - 1 := by omega
          have HA1 := Lib.hid (front_at (s := s) (k := k + 1) (by omega))
          have HN0 := Lib.hid (unq_step HT.out (by rw [HA.out, HA1.out, hc]))
          by_cases hn : s[k + 1] = 110
          · have t2 : ((s[k + 1].toNat : Int) == 110) = true := by rw [hn]; rfl
            have HN := HN0
            have HD : Hid (dq 92 (s[k + 1] :: (front s).drop (k + 1 + 1)) = (10, 2)) := Lib.hid (by rw [hn]; rfl)
            rw [HD.out] at HN
            clear hc hn
            go_wp2_with (at_builtin; refine wpList_append_src _ rfl (.tmp 56) (.tmp 58) _ _ rfl w.heap.size 5 i0 _ 1 1 Tryd.underlying36 hi0 hi1 hi2 hi3 rfl (by omega) _ _ _ rfl (hown.alloc _) _ 1 [.int .u8 (10)] rfl (Src.ofSlice _ Tryd.underlying36 ⟨wr.heap.size, 0, none⟩ 1 1 [.int .u8 (10)] rfl (new_cells wr _ [.int .u8 (10)]) (by simp [Value.oneCell'])) HB.out.1 HB.out.2 (Nat.le_trans hbel.size (by simp)) ?_; intro v4 w4 hown4 hg4 _)
            go_roundw
            case rel => exact ⟨_, _, UnqRel.of (d := 10) (sz := 2) hone (by omega) hcount HN.out hown hbel hown4 hg4 (by omega) (by first | (simp; done) | (simp; omega))⟩
            case measure => simp [intOf]; omega
          · have t2 : ((s[k + 1].toNat : Int) == 110) = false := byte_ne (k := 110) (by omega) hn
            by_cases hx : s[k + 1] = 120
            · have t3 : ((s[k + 1].toNat : Int) == 120) = true := by rw [hx]; rfl
              by_cases hl4 : k + 4 < s.size
              · have hk2 : k + 2 < s.size := by omega
                have hk3 : k + 3 < s.size := by omega
                have hl4' : (k : Int) + 1 + 1 + 1 < (s.size : Int) - 1 := by omega
                have d1 := dgN_lt s[k + 2]
                have d2 := dgN_lt s[k + 3]
                have q1 : ∀ w, Sem.run Tryd.prog (Instr.index 9 (.string s) (.int .i64 ((k : Int) + 1 + 1))) w = .ok (.int .u8 s[k + 2].toNat) w := fun w => idx_at s (k + 2) hk2 _ (by omega) w
                have q2 : ∀ w, Sem.run Tryd.prog (Instr.index 9 (.string s) (.int .i64 ((k : Int) + 1 + 1 + 1))) w = .ok (.int .u8 s[k + 3].toNat) w := fun w => idx_at s (k + 3) hk3 _ (by omega) w
                have q3 : ∀ w, Sem.run Tryd.prog (Instr.index 9 (.string s) (.int .i64 ((k : Int) + 2))) w = .ok (.int .u8 s[k + 2].toNat) w := fun w => idx_at s (k + 2) hk2 _ (by omega) w
                have q4 : ∀ w, Sem.run Tryd.prog (Instr.index 9 (.string s) (.int .i64 ((k : Int) + 3))) w = .ok (.int .u8 s[k + 3].toNat) w := fun w => idx_at s (k + 3) hk3 _ (by omega) w
                have q5 : ∀ w, Sem.run Tryd.prog (Instr.index 9 (.string s) (.int .i64 ((k : Int) + 2 + 1))) w = .ok (.int .u8 s[k + 3].toNat) w := fun w => idx_at s (k + 3) hk3 _ (by omega) w
                have HD : Hid (dq 92 (s[k + 1] :: (front s).drop (k + 1 + 1)) = (UInt8.ofNat (16 * dgN s[k + 2] + dgN s[k + 3]), 4)) := Lib.hid (by rw [hx, front_at (s := s) (k := k + 1 + 1) (by omega), front_at (s := s) (k := k + 1 + 1 + 1) (by omega)]; rfl)
                have HV : Hid (((dgN s[k + 2] : Nat) * 16 : Int) + (dgN s[k + 3] : Nat) = ((UInt8.ofNat (16 * dgN s[k + 2] + dgN s[k + 3])).toNat : Int)) := Lib.hid (by rw [UInt8.toNat_ofNat', Nat.mod_eq_of_lt (by omega)]; omega)
                have HN := HN0
                rw [HD.out] at HN
                clear hc hn hx
                go_wp2_with fail
                go_quiet ((go_at_call 58; exact Calls.quiet_of_same (rdigit_any _ _)))
                go_wp2_with (at_builtin; refine wpList_append_src _ rfl (.tmp 56) (.tmp 58) _ _ rfl w.heap.size 5 i0 _ 1 1 Tryd.underlying36 hi0 hi1 hi2 hi3 rfl (by omega) _ _ _ rfl ((hown.below (Below.drewN' wr _ _)).alloc _) _ 1 [.int .u8 (((dgN s[k + 2] : Nat) * 16 : Int) + (dgN s[k + 3] : Nat))] rfl (Src.ofSlice _ Tryd.underlying36 ⟨wr.heap.size, 0, none⟩ 1 1 [.int .u8 (((dgN s[k + 2] : Nat) * 16 : Int) + (dgN s[k + 3] : Nat))] rfl (new_cells (wr.drewN _) _ [.int .u8 (((dgN s[k + 2] : Nat) * 16 : Int) + (dgN s[k + 3] : Nat))]) (by simp [Value.oneCell'])) HB.out.1 HB.out.2 (Nat.le_trans hbel.size (by simp)) ?_; intro v4 w4 hown4 hg4 _)
                go_roundw
                case rel => exact ⟨_, _, UnqRel.of (d := UInt8.ofNat (16 * dgN s[k + 2] + dgN s[k + 3])) (sz := 4) hone (by omega) hcount HN.out (hown.below (Below.drewN' wr _ _)) (hbel.trans (Below.drewN' wr _ _)) (by have := hown4; rw [HV.out] at this; exact this) hg4 (by omega) (by first | (simp; done) | (simp; omega))⟩
                case measure => simp [intOf]; omega
              · have hl4' : ¬ (k : Int) + 1 + 1 + 1 < (s.size : Int) - 1 := by omega
                have HD : Hid (dq 92 (s[k + 1] :: (front s).drop (k + 1 + 1)) = (s[k + 1], 2)) := Lib.hid (by rw [hx]; exact dq_short (by rw [List.length_drop, List.length_take, bl_len]; omega))
                have HN := HN0
                rw [HD.out] at HN
                clear hc hn hx
                go_wp2_with (at_builtin; refine wpList_append_src _ rfl (.tmp 56) (.tmp 58) _ _ rfl w.heap.size 5 i0 _ 1 1 Tryd.underlying36 hi0 hi1 hi2 hi3 rfl (by omega) _ _ _ rfl (hown.alloc _) _ 1 [.int .u8 (s[k + 1].toNat)] rfl (Src.ofSlice _ Tryd.underlying36 ⟨wr.heap.size, 0, none⟩ 1 1 [.int .u8 (s[k + 1].toNat)] rfl (new_cells wr _ [.int .u8 (s[k + 1].toNat)]) (by simp [Value.oneCell'])) HB.out.1 HB.out.2 (Nat.le_trans hbel.size (by simp)) ?_; intro v4 w4 hown4 hg4 _)
                go_roundw
                case rel => exact ⟨_, _, UnqRel.of (d := s[k + 1]) (sz := 2) hone (by omega) hcount HN.out hown hbel hown4 hg4 (by omega) (by first | (simp; done) | (simp; omega))⟩
                case measure => simp [intOf]; omega
            · have t3 : ((s[k + 1].toNat : Int) == 120) = false := byte_ne (k := 120) (by omega) hx
              have HD : Hid (dq 92 (s[k + 1] :: (front s).drop (k + 1 + 1)) = (s[k + 1], 2)) := Lib.hid (by unfold dq; rw [if_pos rfl]; simp only; rw [if_neg hn, if_neg hx])
              have HN := HN0
              rw [HD.out] at HN
              clear hc hn hx
              go_wp2_with (at_builtin; refine wpList_append_src _ rfl (.tmp 56) (.tmp 58) _ _ rfl w.heap.size 5 i0 _ 1 1 Tryd.underlying36 hi0 hi1 hi2 hi3 rfl (by omega) _ _ _ rfl (hown.alloc _) _ 1 [.int .u8 (s[k + 1].toNat)] rfl (Src.ofSlice _ Tryd.underlying36 ⟨wr.heap.size, 0, none⟩ 1 1 [.int .u8 (s[k + 1].toNat)] rfl (new_cells wr _ [.int .u8 (s[k + 1].toNat)]) (by simp [Value.oneCell'])) HB.out.1 HB.out.2 (Nat.le_trans hbel.size (by simp)) ?_; intro v4 w4 hown4 hg4 _)
              go_roundw
              case rel => exact ⟨_, _, UnqRel.of (d := s[k + 1]) (sz := 2) hone (by omega) hcount HN.out hown hbel hown4 hg4 (by omega) (by first | (simp; done) | (simp; omega))⟩
              case measure => simp [intOf]; omega
        · have hl2' : ¬ (k : Int) + 1 < (s.size : Int) - 1 := by omega
          have HN := Lib.hid (unq_step HT.out HA.out)
          have HD : Hid (dq s[k] ((front s).drop (k + 1)) = (s[k], 1)) := Lib.hid (by rw [front_end (by omega), hc]; rfl)
          rw [HD.out] at HN
          clear hc
          go_wp2_with (at_builtin; refine wpList_append_src _ rfl (.tmp 56) (.tmp 58) _ _ rfl w.heap.size 5 i0 _ 1 1 Tryd.underlying36 hi0 hi1 hi2 hi3 rfl (by omega) _ _ _ rfl (hown.alloc _) _ 1 [.int .u8 (s[k].toNat)] rfl (Src.ofSlice _ Tryd.underlying36 ⟨wr.heap.size, 0, none⟩ 1 1 [.int .u8 (s[k].toNat)] rfl (new_cells wr _ [.int .u8 (s[k].toNat)]) (by simp [Value.oneCell'])) HB.out.1 HB.out.2 (Nat.le_trans hbel.size (by simp)) ?_; intro v4 w4 hown4 hg4 _)
          go_roundw
          case rel => exact ⟨_, _, UnqRel.of (d := s[k]) (sz := 1) hone (by omega) hcount HN.out hown hbel hown4 hg4 (by omega) (by first | (simp; done) | (simp; omega))⟩
          case measure => simp [intOf]; omega
      · have t1 : ((s[k].toNat : Int) == 92) = false := byte_ne (k := 92) (by omega) hc
        have HN := Lib.hid (unq_step HT.out HA.out)
        have HD : Hid (dq s[k] ((front s).drop (k + 1)) = (s[k], 1)) := Lib.hid (by unfold dq; rw [if_neg hc])
        rw [HD.out] at HN
        clear hc
        go_wp2_with (at_builtin; refine wpList_append_src _ rfl (.tmp 56) (.tmp 58) _ _ rfl w.heap.size 5 i0 _ 1 1 Tryd.underlying36 hi0 hi1 hi2 hi3 rfl (by omega) _ _ _ rfl (hown.alloc _) _ 1 [.int .u8 (s[k].toNat)] rfl (Src.ofSlice _ Tryd.underlying36 ⟨wr.heap.size, 0, none⟩ 1 1 [.int .u8 (s[k].toNat)] rfl (new_cells wr _ [.int .u8 (s[k].toNat)]) (by simp [Value.oneCell'])) HB.out.1 HB.out.2 (Nat.le_trans hbel.size (by simp)) ?_; intro v4 w4 hown4 hg4 _)
        go_roundw
        case rel => exact ⟨_, _, UnqRel.of (d := s[k]) (sz := 1) hone (by omega) hcount HN.out hown hbel hown4 hg4 (by omega) (by first | (simp; done) | (simp; omega))⟩
        case measure => simp [intOf]; omega
    · have hlt' : ¬ (k : Int) < (s.size : Int) - 1 := by omega
      have hx : unqT (bl s) = x := by
        rw [HT.out, List.drop_eq_nil_of_le (by rw [List.length_take]; omega), unq_nil, List.append_nil]
      have hxl : x.length ≤ 1000000000 := by have := HL.out; rw [hx, bl_len] at this; omega
      have hrun := run_string_own (P := Tryd.prog) wr 36 9 5 w.heap.size _ x hown Tryd.underlying36 Tryd.underlying5 Tryd.underlying9
      have HQ := Lib.hid (rquote_any ⟨x.toArray⟩ (by show x.length ≤ _; omega))
      have HX := Lib.hid hx
      have HO := Lib.hid hown
      clear hx
      go_wp2_with (go_at_call 28; refine (HQ.out _).mono ?_; rintro e w3 ⟨rfl, hb3⟩; have hrun3 := run_string_own (P := Tryd.prog) w3 36 9 5 w.heap.size _ x (HO.out.below hb3) Tryd.underlying36 Tryd.underlying5 Tryd.underlying9)
      · go_ret2
        refine ⟨unqR_no (unq_not ?_), hbel.trans (hb3.mono hbel.size)⟩
        rw [HX.out]
        exact str_ne ‹_›
      · go_ret2
        refine ⟨?_, hbel.trans (hb3.mono hbel.size)⟩
        have hq : quo x = bl s := str_eq ‹_›
        rw [← HX.out] at hq ⊢
        exact unqR_yes (unq_is hq)
end Txt
end Go.Proofs.YtjgaghapjlmcpaaDoor

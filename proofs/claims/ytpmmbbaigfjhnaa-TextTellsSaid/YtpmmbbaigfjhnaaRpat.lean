import Derived.Test.YtpmmbbaigfjhnaaRpla
namespace Go.Proofs.Ytpmmbbaigfjhnaa
open Go.RowKit Wire
set_option linter.unusedVariables false
set_option linter.unusedSimpArgs false
namespace Txt

/-- Whether parts match the first j bytes. -/
abbrev R (ps : List Pt) (s : ByteArray) (j : Nat) : Bool := mt ps ((bl s).take j)

theorem R_nil {s : ByteArray} {j : Nat} (hj : j ≤ s.size) : R [] s j = (j == 0) := by
  show ((bl s).take j).isEmpty = _
  cases j with
  | zero => rfl
  | succ j =>
    cases h : (bl s).take (j + 1) with
    | nil =>
      have := congrArg List.length h
      rw [List.length_take, bl_len, List.length_nil] at this
      omega
    | cons c r => rfl
theorem star_true {q : Pt} (h : q.kind = 2) (t : List UInt8) : mt [q] t = true := (mt_star h [] t).2 ⟨t.length, Nat.le_refl _, by simp [mt]⟩
theorem R_star {s : ByteArray} {q : Pt} (h : q.kind = 2) (pre : List Pt) {k : Nat} (hk : k ≤ s.size) : R (pre ++ [q]) s k = true ↔ ∃ j, j ≤ k ∧ R pre s j = true := by
  unfold R
  rw [mt_append]
  have hl : ((bl s).take k).length = k := by rw [List.length_take, bl_len]; omega
  constructor
  · rintro ⟨j, hj, h1, _⟩
    rw [List.take_take, Nat.min_eq_left (by omega)] at h1
    exact ⟨j, by omega, h1⟩
  · rintro ⟨j, hj, h1⟩
    exact ⟨j, by omega, by rw [List.take_take, Nat.min_eq_left hj]; exact h1, star_true h _⟩
theorem R_star0 {s : ByteArray} {q : Pt} (h : q.kind = 2) (pre : List Pt) : R (pre ++ [q]) s 0 = R pre s 0 := by
  rw [Bool.eq_iff_iff, R_star h pre (Nat.zero_le _)]
  constructor
  · rintro ⟨j, hj, h1⟩
    obtain rfl : j = 0 := by omega
    exact h1
  · exact fun h1 => ⟨0, Nat.le_refl _, h1⟩
theorem R_star1 {s : ByteArray} {q : Pt} (h : q.kind = 2) (pre : List Pt) {k : Nat} (hk : k < s.size) : R (pre ++ [q]) s (k + 1) = (R pre s (k + 1) || R (pre ++ [q]) s k) := by
  rw [Bool.eq_iff_iff, Bool.or_eq_true, R_star h pre hk, R_star h pre (Nat.le_of_lt hk)]
  constructor
  · rintro ⟨j, hj, h1⟩
    by_cases e : j = k + 1
    · subst e
      exact .inl h1
    · exact .inr ⟨j, by omega, h1⟩
  · rintro (h1 | ⟨j, hj, h1⟩)
    · exact ⟨k + 1, Nat.le_refl _, h1⟩
    · exact ⟨j, by omega, h1⟩
theorem one_len {q : Pt} (h : q.kind ≠ 2) : ∀ t : List UInt8, mt [q] t = true → t.length = 1
  | [], h1 => by rw [mt_end h] at h1; cases h1
  | [_], _ => rfl
  | c :: d :: r, h1 => by
    rw [mt_one h, Bool.and_eq_true] at h1
    exact absurd h1.2 (by simp [mt])
theorem R_one0 {s : ByteArray} {q : Pt} (h : q.kind ≠ 2) (pre : List Pt) : R (pre ++ [q]) s 0 = false := by
  rw [Bool.eq_false_iff]
  intro h1
  obtain ⟨j, _, _, h2⟩ := (mt_append _ _ _).1 h1
  have := one_len h _ h2
  simp at this
theorem R_one1 {s : ByteArray} {q : Pt} (h : q.kind ≠ 2) (pre : List Pt) {k : Nat} (hk : k < s.size) : R (pre ++ [q]) s (k + 1) = (R pre s k && fit q s[k]) := by
  rw [Bool.eq_iff_iff, Bool.and_eq_true]
  have hl : ((bl s).take (k + 1)).length = k + 1 := by rw [List.length_take, bl_len]; omega
  have hd : ((bl s).take (k + 1)).drop k = [s[k]] := (cut_1 hk).symm
  constructor
  · intro h1
    obtain ⟨j, hj, h1, h2⟩ := (mt_append _ _ _).1 h1
    have h3 := one_len h _ h2
    rw [List.length_drop, hl] at h3
    obtain rfl : j = k := by omega
    rw [List.take_take, Nat.min_eq_left (by omega)] at h1
    rw [hd, mt_one h, Bool.and_eq_true] at h2
    exact ⟨h1, h2.1⟩
  · rintro ⟨h1, h2⟩
    refine (mt_append _ _ _).2 ⟨k, by omega, ?_, ?_⟩
    · rw [List.take_take, Nat.min_eq_left (by omega)]
      exact h1
    · rw [hd, mt_one h, h2]
      rfl

/-- A row of n + 1 bools. -/
def BRow (w : World) (g n : Nat) (f : Nat → Bool) : Prop := ∃ cs, Blk w g 4 cs ∧ cs.size = n + 1 ∧ ∀ j, j ≤ n → cs[j]? = some (.bool (f j))
section
variable {w w' : World} {g n : Nat} {f : Nat → Bool}
theorem BRow.at (h : BRow w g n f) {j : Nat} (hj : j ≤ n) : w.cell? ⟨g, j, none⟩ = some (.bool (f j)) := by
  obtain ⟨cs, h1, _, h3⟩ := h
  rw [h1.at, h3 j hj]
theorem BRow.thaw (h : BRow w g n f) (j : Nat) : w.frozen? ⟨g, j, none⟩ = false := by
  obtain ⟨cs, h1, _, h3⟩ := h
  exact h1.thaw j
theorem BRow.inside (h : BRow w g n f) : g < w.heap.size := by
  obtain ⟨cs, h1, _, h3⟩ := h
  exact h1.inside
theorem BRow.put (h : BRow w g n f) (k : Nat) (b : Bool) : BRow (w.setCell ⟨g, k, none⟩ (.bool b)) g n (fun j => if j = k then b else f j) := by
  obtain ⟨cs, h1, h2, h3⟩ := h
  refine ⟨_, h1.put k (.bool b), by simp [h2], fun j hj => ?_⟩
  by_cases e : j = k
  · subst e
    have h4 : j < cs.size := by omega
    simp [Array.getElem?_setIfInBounds, h4]
  · have h5 : ¬ k = j := fun h => e h.symm
    simp [Array.getElem?_setIfInBounds, h5, e, h3 j hj]
theorem BRow.keep (h : BRow w g n f) (hk : w'.heap[g]? = w.heap[g]?) : BRow w' g n f := by
  obtain ⟨cs, h1, h2, h3⟩ := h
  exact ⟨cs, hk.trans h1, h2, h3⟩
theorem BRow.as {f' : Nat → Bool} (h : BRow w g n f) (e : ∀ j, j ≤ n → f j = f' j) : BRow w g n f' := by
  obtain ⟨cs, h1, h2, h3⟩ := h
  exact ⟨cs, h1, h2, fun j hj => by rw [← e j hj]; exact h3 j hj⟩
theorem BRow.fresh (w : World) (n : Nat) : BRow (w.alloc (.cells (Array.replicate (n + 1) (.bool false)) 4)) w.heap.size n (fun _ => false) :=
  ⟨_, Blk.fresh w _ _, by simp, fun j hj => by rw [Array.getElem?_replicate, if_pos (by omega)]⟩
end

theorem made_bool (N j : Nat) (h : j < N) : (madeCells (Value.bool false).cells N)[j]? = some (.bool false) := by
  unfold madeCells
  have h2 : (Value.bool false).cells = #[.bool false] := rfl
  rw [h2]
  simp [h, Nat.mod_one]
theorem info_bool : (Try.prog.info? 4).map (fun i => (i.zero, i.size, i.bytes)) = some (some (.bool false), 1, 1) := by kernel_rfl
theorem wpList_make_bools (w : World) {ops : Array Oper} {rest : List Oper} {o : Oper} {a : Act} {Q : Exit → Act → World → Prop}
    (hg : o.guard = none) (l c : Operand) (hop : o.op = Op.makeSlice 54 l c) (n : Nat) (L C : Int) (hl : a.eval l = .int .i64 L) (hc : a.eval c = .int .i64 C) (hL : L = (n : Int) + 1) (hC : C = (n : Int) + 1) (hn : n ≤ 1000000000)
    (hK : ∀ w', BRow w' w.heap.size n (fun _ => false) → Below w.heap.size w w' → wpList Try.prog ops Q rest (a.put o.dst (.slice (some ⟨w.heap.size, 0, none⟩) (n + 1) (n + 1))) w') :
    wpList Try.prog ops Q (o :: rest) a w := by
  refine wpList_plain hg fun K hK' => ?_
  obtain ⟨i0, hi0, hi1, hi2, hi3⟩ := info_parts info_bool
  have hrun := run_make (P := Try.prog) w 54 4 i0 (.bool false) Try.underlying54 hi0 hi1 .i64 .i64 ((n : Int) + 1) ((n : Int) + 1) (by omega) (by omega) (by rw [hi3]; omega) (by omega)
  have e : ((n : Int) + 1).toNat = n + 1 := by omega
  rw [e, hi2, Nat.mul_one] at hrun
  subst hL
  subst hC
  have hb : BRow (w.alloc (.cells (madeCells (Value.bool false).cells (n + 1)) 4)) w.heap.size n (fun _ => false) := ⟨_, Blk.fresh w _ _, size_madeCells _ _, fun j hj => made_bool _ _ (by omega)⟩
  unfold Oper.wp
  simp [execOp, hop, hl, hc, hrun, Result.andThen]
  exact hK' _ _ (hK _ hb ((Below.refl _ w).alloc (Nat.le_refl _) _))

structure PRel (W : World) (s : ByteArray) (ps : List Pt) (g gc gn i k : Nat) (w : World) : Prop where
  lain : Lain w ps g
  can : BRow w gc s.size (R (ps.take i) s)
  next : BRow w gn s.size (fun j => if j < k then R (ps.take (i + 1)) s j else false)
  below : Below W.heap.size W w
  new : W.heap.size ≤ gn
  one : g ≠ gn
  two : gc ≠ gn
  here : g < w.heap.size

section
variable {W w w' : World} {s : ByteArray} {ps : List Pt} {g gc gn i k : Nat}
theorem PRel.under (h : PRel W s ps g gc gn i k w) (hb : Below w.heap.size w w') : PRel W s ps g gc gn i k w' :=
  ⟨h.lain.keep hb.size (hb.block g h.here), h.can.keep (hb.block gc h.can.inside), h.next.keep (hb.block gn h.next.inside), h.below.trans (hb.mono h.below.size), h.new, h.one, h.two, Nat.lt_of_lt_of_le h.here hb.size⟩
theorem PRel.skip (h : PRel W s ps g gc gn i 0 w) (h0 : R (ps.take (i + 1)) s 0 = false) : PRel W s ps g gc gn i 1 w :=
  ⟨h.lain, h.can, h.next.as fun j hj => by
    by_cases e : j = 0
    · subst e
      simp [h0]
    · rw [if_neg (by omega), if_neg (by omega)], h.below, h.new, h.one, h.two, h.here⟩
theorem PRel.store (h : PRel W s ps g gc gn i k w) (hk : k ≤ s.size) {b : Bool} (hb : R (ps.take (i + 1)) s k = b) : PRel W s ps g gc gn i (k + 1) (w.setCell ⟨gn, k, none⟩ (.bool b)) := by
  refine ⟨h.lain.keep (by simp) (Below.heap_setCell w _ _ g h.one), h.can.keep (Below.heap_setCell w _ _ gc h.two), (h.next.put k b).as fun j hj => ?_, h.below.setCell h.new _, h.new, h.one, h.two, by simpa using h.here⟩
  by_cases e : j = k
  · subst e
    rw [if_pos rfl, if_pos (by omega), hb]
  · rw [if_neg e]
    by_cases e2 : j < k
    · rw [if_pos e2, if_pos (by omega)]
    · rw [if_neg e2, if_neg (by omega)]
end

set_option maxRecDepth 8000 in
set_option maxHeartbeats 2000000 in
theorem rpattern_any (p s : ByteArray) (hp : p.size ≤ 1000000) (hs : s.size ≤ 1000000) (w : World) :
    Calls Try.prog 25 #[.string p, .string s] w fun e w' => e = .returned (.bool (mt (parse (bl p)) (bl s))) ∧ Below w.heap.size w w' := by
  have HP := Lib.hid (rparts_any p (by omega))
  have HM : Hid (mt (parse (bl p)) (bl s) = R (parse (bl p)) s s.size) := Lib.hid (by unfold R; rw [List.take_of_length_le (by rw [bl_len]; exact Nat.le_refl _)])
  have HL := Lib.hid (parse_len p)
  have HG : Hid (∀ k (h : k < (parse (bl p)).length), Nice p.size (parse (bl p))[k]) := Lib.hid fun k h => nice_at h
  generalize mt (parse (bl p)) (bl s) = m at *
  generalize parse (bl p) = ps at *
  go_enter Try.func25, Try.ntmps25
  go_wp2_with (first
    | (go_at_call 39; refine (HP.out _).mono ?_; rintro e w1 ⟨v, rfl, hown, hb⟩)
    | (at_make; refine wpList_make_bools _ rfl _ _ rfl s.size _ _ rfl rfl (by omega) (by omega) (by omega) ?_; intro w2 hr2 hb2; have c2 := hr2.at (j := 0) (Nat.zero_le _); have t2 := hr2.thaw 0))
  rcases Lain.of hown with ⟨h1, h2⟩ | ⟨g, c, h2, h3, h4, h5⟩
  · subst h1 h2
    clear hown
    have hz : Hid (m = (s.size == 0)) := Lib.hid (by rw [HM.out]; exact R_nil (Nat.le_refl _))
    have hB : Below w.heap.size w (w2.setCell ⟨w1.heap.size, 0, none⟩ (.bool true)) := (hb.trans (hb2.mono hb.size)).setCell hb.size _
    have h6 : Hid (BRow (w2.setCell ⟨w1.heap.size, 0, none⟩ (.bool true)) w1.heap.size s.size (fun j => if j = 0 then true else false)) := Lib.hid (hr2.put 0 true)
    clear hr2 hb2 c2 t2
    go_loopw [6, 7, 8, 9] (fun cv iv nv kv wr => cv = .slice (some ⟨w1.heap.size, 0, none⟩) (s.size + 1) (s.size + 1) ∧ iv = .int .i64 0 ∧ w2.setCell ⟨w1.heap.size, 0, none⟩ (.bool true) = wr) (fun _ _ _ _ _ => 0)
    case atStart => exact ⟨rfl, rfl, rfl⟩
    case round =>
      obtain ⟨rfl, rfl, hw⟩ := hrel
      rw [hw] at hB h6
      have c6 := h6.out.at (Nat.le_refl s.size)
      by_cases h0 : s.size = 0
      · rw [if_pos h0] at c6
        have HE : Hid (m = true) := Lib.hid (by rw [hz.out, h0]; rfl)
        clear h0
        go_wp2_with fail
        go_ret
        exact ⟨by rw [HE.out]; rfl, hB⟩
      · rw [if_neg h0] at c6
        have HE : Hid (m = false) := Lib.hid (by rw [hz.out]; simpa using h0)
        clear h0
        go_wp2_with fail
        go_ret
        exact ⟨by rw [HE.out]; rfl, hB⟩
  · subst h2
    have hlen := HL.out
    have H5 := Lib.hid h5
    clear hown h5
    go_loopw [6, 7, 8, 9] (fun cv iv nv kv wr => ∃ i gc, cv = .slice (some ⟨gc, 0, none⟩) (s.size + 1) (s.size + 1) ∧ iv = .int .i64 (i : Nat) ∧ i ≤ ps.length ∧ Lain wr ps g ∧ BRow wr gc s.size (R (ps.take i) s) ∧ Below w.heap.size w wr ∧ g < wr.heap.size) (fun _ iv _ _ _ => ps.length - (intOf iv).toNat)
    case atStart =>
      refine ⟨0, w1.heap.size, rfl, rfl, Nat.zero_le _, ?_, ?_, ?_, ?_⟩
      · exact (H5.out.keep hb2.size (hb2.block g h4)).keep (by simp) (Below.heap_setCell _ _ _ g (by show g ≠ w1.heap.size; omega))
      · exact (hr2.put 0 true).as fun j hj => by
          show _ = R [] s j
          rw [R_nil hj]
          cases j <;> rfl
      · exact (hb.trans (hb2.mono hb.size)).setCell hb.size _
      · have := hb2.size
        simp
        omega
    case round =>
      obtain ⟨i, gc, rfl, rfl, hi, hL, hC, hB, hg⟩ := hrel
      by_cases hlt : i < ps.length
      · have HL1 := Lib.hid hL
        have HC1 := Lib.hid hC
        clear hL hC
        have hgc := HC1.out.inside
        have hNice := HG.out i hlt
        have htk : ps.take (i + 1) = ps.take i ++ [ps[i]] := List.take_succ_eq_append_getElem hlt
        go_wp2_with (at_make; refine wpList_make_bools _ rfl _ _ rfl s.size _ _ rfl rfl (by omega) (by omega) (by omega) ?_; intro w3 hr3 hb3)
        go_loopw [9] (fun kv wx => ∃ k : Nat, kv = .int .i64 k ∧ k ≤ s.size + 1 ∧ PRel w s ps g gc wr.heap.size i k wx) (fun kv _ => s.size + 1 - (intOf kv).toNat)
        case atStart =>
          exact ⟨0, rfl, Nat.zero_le _, HL1.out.keep hb3.size (hb3.block g hg), HC1.out.keep (hb3.block gc hgc), hr3.as fun j _ => by rw [if_neg (by omega)], hB.trans (hb3.mono hB.size), hB.size, by omega, by omega, Nat.lt_of_lt_of_le hg hb3.size⟩
        case round =>
          rename_i wx _
          obtain ⟨k, rfl, hk, hP⟩ := hrel
          have HP := Lib.hid hP
          by_cases hk2 : k ≤ s.size
          · have c0 := hP.lain.at0 i hlt
            by_cases hq : ps[i].kind = 2
            · have hr : rkind ps[i] = 1 := by unfold rkind; rw [hq]; rfl
              rw [hr] at c0
              cases k with
              | zero =>
                have HS := Lib.hid (R_star0 (s := s) hq (ps.take i))
                rw [← htk] at HS
                have c6 := hP.can.at (j := 0) (Nat.zero_le _)
                have cN := hP.next.at (j := 0) (Nat.zero_le _)
                have tN := hP.next.thaw 0
                clear hP hNice htk hq hr
                generalize R (ps.take i) s 0 = a at *
                cases a with
                | true =>
                  go_wp2_with fail
                  go_roundw
                  case rel => exact ⟨1, rfl, by omega, HP.out.store (by omega) HS.out⟩
                  case measure => simp [intOf]
                | false =>
                  go_wp2_with fail
                  go_roundw
                  case rel => exact ⟨1, rfl, by omega, HP.out.store (by omega) HS.out⟩
                  case measure => simp [intOf]
              | succ k =>
                have HS := Lib.hid (R_star1 (s := s) (k := k) hq (ps.take i) (by omega))
                rw [← htk] at HS
                have c6 := hP.can.at (j := k + 1) hk2
                have cN := hP.next.at (j := k + 1) hk2
                have cN1 := hP.next.at (j := k) (by omega)
                have tN := hP.next.thaw (k + 1)
                rw [if_pos (by omega)] at cN1
                clear hP hNice htk hq hr
                generalize R (ps.take i) s (k + 1) = a at *
                generalize R (ps.take (i + 1)) s k = b at *
                have hk3 : k + 1 < s.size + 1 := by omega
                cases a with
                | true =>
                  go_wp2_with fail
                  go_roundw
                  case rel => exact ⟨k + 1 + 1, by simp, by omega, HP.out.store (by omega) HS.out⟩
                  case measure => simp [intOf]; omega
                | false =>
                  cases b with
                  | true =>
                    go_wp2_with fail
                    go_roundw
                    case rel => exact ⟨k + 1 + 1, by simp, by omega, HP.out.store (by omega) HS.out⟩
                    case measure => simp [intOf]; omega
                  | false =>
                    go_wp2_with fail
                    go_roundw
                    case rel => exact ⟨k + 1 + 1, by simp, by omega, HP.out.store (by omega) HS.out⟩
                    case measure => simp [intOf]; omega
            · have ht : ((rkind ps[i] : Int) == 1) = false := by
                unfold rkind
                rw [if_neg hq]
                split
                · rfl
                · split <;> rfl
              cases k with
              | zero =>
                have HS := Lib.hid (R_one0 (s := s) hq (ps.take i))
                rw [← htk] at HS
                clear hP hNice htk hq
                generalize rkind ps[i] = rk at *
                go_wp2_with fail
                go_roundw
                case rel => exact ⟨1, rfl, by omega, HP.out.skip HS.out⟩
                case measure => simp [intOf]
              | succ k =>
                have hks : k < s.size := by omega
                have HS := Lib.hid (R_one1 (s := s) (k := k) hq (ps.take i) hks)
                rw [← htk] at HS
                have c6 := hP.can.at (j := k) (by omega)
                have cN := hP.next.at (j := k + 1) hk2
                have tN := hP.next.thaw (k + 1)
                have c1 := hP.lain.at1 i hlt
                have c2 := hP.lain.at2 i hlt
                have c3 := hP.lain.at3 i hlt
                have c4 := hP.lain.at4 i hlt
                have HF := Lib.hid (fits_any ps[i] hq hNice.kind hNice.pos (by have := hNice.set; omega) s[k])
                clear hP hNice htk hq
                generalize R (ps.take i) s k = a at *
                have hk3 : k + 1 < s.size + 1 := by omega
                have hk4 : k < s.size + 1 := by omega
                have v1 : IntKind.i64.wrap (k : Int) = (k : Int) := by rw [IntKind.wrap_i64]; omega
                have v2 : IntKind.i64.wrap ((k : Int) + 1) = (k : Int) + 1 := by rw [IntKind.wrap_i64]; omega
                have v3 : IntKind.i64.wrap (i : Int) = (i : Int) := by rw [IntKind.wrap_i64]; omega
                have v4 : (0 : Int) ≤ (k : Int) ∧ (k : Int) < (s.size : Int) + 1 := by omega
                have v5 : (0 : Int) ≤ (k : Int) + 1 ∧ (k : Int) + 1 < (s.size : Int) + 1 := by omega
                have v6 : (0 : Int) ≤ (i : Int) ∧ (i : Int) < (ps.length : Int) := by omega
                cases a with
                | false =>
                  go_wp2_with fail
                  go_region
                  all_goals
                    go_wp2_with fail
                    go_roundw
                    case rel => exact ⟨k + 1 + 1, by simp, by omega, (HP.out.store (by omega) HS.out).under ((Below.refl _ _).drew)⟩
                    case measure => simp [intOf]; omega
                | true =>
                  go_wp2_with fail
                  go_region_with (go_at_call 40; refine (HF.out _).mono ?_; rintro e w4 ⟨rfl, b4⟩; have HP4 := (HP.out.under ((Below.refl _ _).drew)).under b4; have d1 := HP4.next.at (j := k + 1) hk2; have d2 := HP4.next.thaw (k + 1); have HQ4 := Lib.hid HP4; clear HP4)
                  all_goals
                    go_wp2_with fail
                    go_roundw
                    case rel => exact ⟨k + 1 + 1, by simp, by omega, HQ4.out.store (by omega) HS.out⟩
                    case measure => simp [intOf]; omega
          · obtain rfl : k = s.size + 1 := by omega
            go_wp2_with fail
            go_roundw
            case rel => exact ⟨i + 1, _, rfl, by simp, hlt, HP.out.lain, HP.out.next.as fun j hj => by rw [if_pos (by omega)], HP.out.below, HP.out.here⟩
            case measure => simp [intOf]; omega
      · have hT : ps.take i = ps := List.take_of_length_le (by omega)
        rw [hT] at hC
        have c6 := hC.at (Nat.le_refl s.size)
        rw [← HM.out] at c6
        clear hC hL
        go_wp2_with fail
        go_ret
        exact ⟨rfl, hB⟩
end Txt
end Go.Proofs.Ytpmmbbaigfjhnaa

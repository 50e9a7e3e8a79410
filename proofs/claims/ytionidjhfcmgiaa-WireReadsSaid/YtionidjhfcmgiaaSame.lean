import Derived.Test.YtionidjhfcmgiaaEqual
import Derived.Test.YtionidjhfcmgiaaCode
import Derived.Deep.QuietTactic
import Derived.BigQuiet
namespace Go.Proofs.Ytionidjhfcmgiaa
open Go.RowKit
set_option linter.unusedVariables false
set_option linter.unusedSimpArgs false
namespace Wire

theorem below_drewN (w : World) (q : Nat) : Below w.heap.size w (w.drewN q) := ⟨rfl, rfl, rfl, Nat.le_refl _, fun _ _ => rfl⟩

structure SameRel (W : World) (n : Nat) (iv : Value) (w : World) (i : Nat) : Prop where
  iv : iv = .int .i64 i
  le : i ≤ n
  same : ∃ q, w = W.drewN q

set_option maxHeartbeats 1000000 in
theorem sameNums_any (A A' : Option Addr) (c c' : Nat) (zs : List Int) (hn : zs.length ≤ 9223372036854775807) (w : World) (h1 : Row w w.heap.size A (zs.map (Value.int .i64))) (h2 : Row w w.heap.size A' (zs.map (Value.int .i64))) :
    Calls Try.prog 30 #[.slice A zs.length c, .slice A' zs.length c'] w fun e w' => e = .returned (.bool true) ∧ Below w.heap.size w w' := by
  have H1 := Lib.hid h1
  have H2 := Lib.hid h2
  clear h1 h2
  go_enter Try.func30, Try.ntmps30
  go_wp2_with fail
  go_loopw [5] (fun iv wr => ∃ i, SameRel w zs.length iv wr i) (fun iv _ => zs.length - (intOf iv).toNat)
  case atStart => exact ⟨0, rfl, Nat.zero_le _, 0, rfl⟩
  case round =>
    obtain ⟨i, ⟨rfl, hi, q, rfl⟩⟩ := hrel
    by_cases hlt : i < zs.length
    · obtain ⟨b, o, rfl, _, hc1⟩ := H1.out i (.int .i64 zs[i]) (by rw [List.getElem?_map, List.getElem?_eq_getElem hlt]; rfl)
      obtain ⟨b', o', rfl, _, hc2⟩ := H2.out i (.int .i64 zs[i]) (by rw [List.getElem?_map, List.getElem?_eq_getElem hlt]; rfl)
      generalize zs[i] = z at *
      go_wp2_with fail
      go_quiet (fail)
      go_wp2_with fail
      go_roundw
      case rel => exact ⟨i + 1, by simp, hlt, _, rfl⟩
      case measure => simp [intOf]; omega
    · obtain rfl : zs.length = i := by omega
      go_wp2_with fail
      go_ret
      exact ⟨rfl, below_drewN w q⟩

set_option maxHeartbeats 1000000 in
theorem sameTexts_any (A A' : Option Addr) (c c' : Nat) (zs : List ByteArray) (hn : zs.length ≤ 9223372036854775807) (w : World) (h1 : Row w w.heap.size A (zs.map Value.string)) (h2 : Row w w.heap.size A' (zs.map Value.string)) :
    Calls Try.prog 33 #[.slice A zs.length c, .slice A' zs.length c'] w fun e w' => e = .returned (.bool true) ∧ Below w.heap.size w w' := by
  have H1 := Lib.hid h1
  have H2 := Lib.hid h2
  clear h1 h2
  go_enter Try.func33, Try.ntmps33
  go_wp2_with fail
  go_loopw [5] (fun iv wr => ∃ i, SameRel w zs.length iv wr i) (fun iv _ => zs.length - (intOf iv).toNat)
  case atStart => exact ⟨0, rfl, Nat.zero_le _, 0, rfl⟩
  case round =>
    obtain ⟨i, ⟨rfl, hi, q, rfl⟩⟩ := hrel
    by_cases hlt : i < zs.length
    · obtain ⟨b, o, rfl, _, hc1⟩ := H1.out i (.string zs[i]) (by rw [List.getElem?_map, List.getElem?_eq_getElem hlt]; rfl)
      obtain ⟨b', o', rfl, _, hc2⟩ := H2.out i (.string zs[i]) (by rw [List.getElem?_map, List.getElem?_eq_getElem hlt]; rfl)
      generalize zs[i] = z at *
      go_wp2_with fail
      go_quiet (fail)
      go_wp2_with fail
      go_roundw
      case rel => exact ⟨i + 1, by simp, hlt, _, rfl⟩
      case measure => simp [intOf]; omega
    · obtain rfl : zs.length = i := by omega
      go_wp2_with fail
      go_ret
      exact ⟨rfl, below_drewN w q⟩

/-- A cell of the box that holds what is compared. -/
abbrev Cell (b j : Nat) (u : Value) (w' : World) : Prop := b < w'.heap.size ∧ w'.cell? ⟨b, j, none⟩ = some u
theorem Cell.drew {b j : Nat} {u : Value} {w : World} (h : Cell b j u w) : Cell b j u w.drew := h
theorem Cell.grown {b j g : Nat} {u : Value} {w w' : World} (h : Cell b j u w) (hne : b ≠ g) (hb : w.grownBy w' (some g)) : Cell b j u w' :=
  ⟨Nat.lt_of_lt_of_le h.1 hb.size, (World.cell?_of_block (a := ⟨b, j, none⟩) (hb.block b h.1 (fun e => hne (Option.some.inj e)))).trans h.2⟩
theorem Cell.below {b j : Nat} {u : Value} {w w' : World} (h : Cell b j u w) (hb : Below w.heap.size w w') : Cell b j u w' :=
  ⟨Nat.lt_of_lt_of_le h.1 hb.size, (hb.cell (p := ⟨b, j, none⟩) h.1).trans h.2⟩

theorem RS.drew {w : World} {g : Nat} {st : St} (h : RS w g st) : RS w.drew g st := h
theorem RS.below {w w' : World} {g : Nat} {st : St} (h : RS w g st) (hb : Below w.heap.size w w') : RS w' g st := Blk.under h hb h.inside

theorem Grow.row {w : World} {B : Nat} {v : Value} {n : Nat} {xs : List Value} (h : Grow w B 1 v n xs) : ∃ A c, v = .slice A n c ∧ Row w w.heap.size A xs := by
  rcases h.form with ⟨rfl, rfl⟩ | ⟨g, cap, rfl, _, h2, _, _, _, _, h7⟩
  · refine ⟨_, _, rfl, fun k u hu => ?_⟩
    have hx : xs = [] := List.eq_nil_of_length_eq_zero (by simpa using h.len)
    subst hx
    simp at hu
  · exact ⟨_, _, rfl, fun k u hu => ⟨g, 0, rfl, h2, by rw [Nat.zero_add]; exact h7 k u hu⟩⟩

theorem rnums_ok (g : Nat) (l : List UInt8) (w : World) (h : RS w g (some l)) (hl : l.length ≤ 1099511627776) (zs : List Int) (r : List UInt8) (hs : list int l = some (zs, r)) :
    Calls Try.prog 31 #[ptr g] w fun e w' => ∃ A c, e = .returned (.slice A zs.length c) ∧ Row w' w'.heap.size A (zs.map (Value.int .i64)) ∧ RS w' g (some r) ∧ w.grownBy w' (some g) :=
  (rnums_any g l w h hl).mono fun e w' hp => by
    rcases hp with ⟨xs, r', v, h1, rfl, h3, h4, h5⟩ | ⟨h1, _⟩
    · rw [hs] at h1
      simp only [Option.some.injEq, Prod.mk.injEq] at h1
      obtain ⟨rfl, rfl⟩ := h1
      obtain ⟨A, c, rfl, hr⟩ := h3.row
      exact ⟨A, c, rfl, hr, h4, h5⟩
    · rw [hs] at h1
      cases h1

theorem rtexts_ok (g : Nat) (l : List UInt8) (w : World) (h : RS w g (some l)) (hl : l.length ≤ 1099511627776) (ts : List (List UInt8)) (r : List UInt8) (hs : list text l = some (ts, r)) :
    Calls Try.prog 34 #[ptr g] w fun e w' => ∃ A c, e = .returned (.slice A ts.length c) ∧ Row w' w'.heap.size A (ts.map fun t => str t) ∧ RS w' g (some r) ∧ w.grownBy w' (some g) :=
  (rtexts_any g l w h hl).mono fun e w' hp => by
    rcases hp with ⟨xs, r', v, h1, rfl, h3, h4, h5⟩ | ⟨h1, _⟩
    · rw [hs] at h1
      simp only [Option.some.injEq, Prod.mk.injEq] at h1
      obtain ⟨rfl, rfl⟩ := h1
      obtain ⟨A, c, rfl, hr⟩ := h3.row
      exact ⟨A, c, rfl, hr, h4, h5⟩
    · rw [hs] at h1
      cases h1

theorem strs_back (ss : List ByteArray) : (ss.map (·.data.toList)).map (fun t => str t) = ss.map Value.string := by
  rw [List.map_map]
  apply List.map_congr_left
  intro s _
  obtain ⟨⟨l⟩⟩ := s
  rfl

theorem encOf_num {v : Val} (h : kd v.kind = 0) : encOf v = dec (numOf v.n) ++ [59] := if_pos h
theorem encOf_int {v : Val} (h : kd v.kind = 1) : encOf v = encInt v.n := by unfold encOf; rw [h]; rfl
theorem encOf_text {v : Val} (h : kd v.kind = 2) : encOf v = encText v.s := by unfold encOf; rw [h]; rfl
theorem encOf_nums {v : Val} (h : kd v.kind = 3) : encOf v = encList encInt v.l := by unfold encOf; rw [h]; rfl
theorem encOf_texts {v : Val} (h : kd v.kind = 4) : encOf v = encList encText v.t := by unfold encOf; rw [h]; rfl

theorem grown_undrew {w w' : World} {row : Option Nat} (h : w.drew.grownBy w' row) : w.grownBy w' row := ⟨h.os, h.tape, h.output, h.size, h.block⟩
theorem below_undrew {w w' : World} {B : Nat} (h : Below B w.drew w') : Below B w w' := ⟨h.os, h.tape, h.output, h.size, h.block⟩

/-- After the box and the call of kind. -/
structure Boxed (w w1 : World) (g : Nat) (st : St) (j : Nat) (u : Value) : Prop where
  cell : Cell w.heap.size j u w1
  rs : RS w1 g st
  below : Below w.heap.size w w1

set_option maxHeartbeats 2000000 in
theorem equal_num (g : Nat) (t : List UInt8) (v : Val) (A : Option Addr) (c : Nat) (A' : Option Addr) (c' : Nat) (w : World) (B : Nat) (hB : B ≤ g) (h : Came w B v A A') (hr : RS w g (some (encOf v ++ t))) (hl : (encOf v ++ t).length ≤ 1099511627776) (hd : kd v.kind = 0) :
    Calls Try.prog 43 #[ptr g, .agg #[.int .i64 v.kind, .int .i64 v.n, .string v.s, .slice A v.l.length c, .slice A' v.t.length c']] w fun e w' => e = .returned (.bool true) ∧ RS w' g (some t) ∧ w.grownBy w' (some g) := by
  have hin := hr.inside
  have hne : w.heap.size ≠ g := by omega
  have HN := Lib.hid (show num 59 (encOf v ++ t) = some (numOf v.n, t) by rw [encOf_num hd, List.append_assoc]; exact num_dec (by decide) (numOf_le h.n) t)
  have HL := Lib.hid (show (encOf v ++ t).length ≤ 4611686018427387904 by omega)
  have H := Lib.hid h
  have HR := Lib.hid hr
  have HD := Lib.hid hd
  clear h hr hd hl
  go_enter Try.func43, Try.ntmps43
  go_wp2_with (first
    | (go_at_call 23; refine (kind_any _ _ _ _ _ _ _ _ _ H.out.k 0 HD.out _).mono ?_; rintro e w1 ⟨rfl, b1⟩; have K := (Blk.fresh w _ _).under b1 (by simp); have k1 : Cell w.heap.size 1 (.int .i64 v.n) w1 := ⟨K.inside, K.at 1⟩; have q1 := Lib.hid (box_alloc b1); have R1 := Lib.hid (HR.out.below q1.out); clear K b1))
  go_region_held3 (fun w' => Cell w.heap.size 1 (.int .i64 v.n) w') (first | exact Cell.drew k1 | exact Cell.grown ‹_› hne ‹_› | assumption | go_keep)
    (first
      | (go_at_call 24; refine (rnum_ok g _ _ R1.out.drew HL.out _ _ HN.out).mono ?_; rintro e w3 ⟨rfl, h3, h4⟩)
      | (go_at_call 60; refine (number_any _ H.out.n _).mono ?_; rintro e w2 ⟨rfl, rfl⟩))
  go_wp2_with fail
  go_ret
  exact ⟨rfl, h3, grown_trans (below_none q1.out _) (grown_undrew h4)⟩

set_option maxHeartbeats 2000000 in
theorem equal_int (g : Nat) (t : List UInt8) (v : Val) (A : Option Addr) (c : Nat) (A' : Option Addr) (c' : Nat) (w : World) (B : Nat) (hB : B ≤ g) (h : Came w B v A A') (hr : RS w g (some (encOf v ++ t))) (hl : (encOf v ++ t).length ≤ 1099511627776) (hd : kd v.kind = 1) :
    Calls Try.prog 43 #[ptr g, .agg #[.int .i64 v.kind, .int .i64 v.n, .string v.s, .slice A v.l.length c, .slice A' v.t.length c']] w fun e w' => e = .returned (.bool true) ∧ RS w' g (some t) ∧ w.grownBy w' (some g) := by
  have hin := hr.inside
  have hne : w.heap.size ≠ g := by omega
  have HN := Lib.hid (show int (encOf v ++ t) = some (v.n, t) by rw [encOf_int hd]; exact int_enc h.n.1 h.n.2 t)
  have HL := Lib.hid (show (encOf v ++ t).length ≤ 4611686018427387904 by omega)
  have H := Lib.hid h
  have HR := Lib.hid hr
  have HD := Lib.hid hd
  clear h hr hd hl
  go_enter Try.func43, Try.ntmps43
  go_wp2_with (first
    | (go_at_call 23; refine (kind_any _ _ _ _ _ _ _ _ _ H.out.k 1 HD.out _).mono ?_; rintro e w1 ⟨rfl, b1⟩; have K := (Blk.fresh w _ _).under b1 (by simp); have k1 : Cell w.heap.size 1 (.int .i64 v.n) w1 := ⟨K.inside, K.at 1⟩; have q1 := Lib.hid (box_alloc b1); have R1 := Lib.hid (HR.out.below q1.out); clear K b1))
  go_region_held3 (fun w' => Cell w.heap.size 1 (.int .i64 v.n) w') (first | exact Cell.drew k1 | exact Cell.grown ‹_› hne ‹_› | assumption | go_keep)
    (first
      | (go_at_call 26; refine (rint_ok g _ _ R1.out.drew HL.out _ _ HN.out).mono ?_; rintro e w3 ⟨rfl, h3, h4⟩))
  go_wp2_with fail
  go_ret
  exact ⟨rfl, h3, grown_trans (below_none q1.out _) (grown_undrew h4)⟩

set_option maxHeartbeats 2000000 in
theorem equal_text (g : Nat) (t : List UInt8) (v : Val) (A : Option Addr) (c : Nat) (A' : Option Addr) (c' : Nat) (w : World) (B : Nat) (hB : B ≤ g) (h : Came w B v A A') (hr : RS w g (some (encOf v ++ t))) (hl : (encOf v ++ t).length ≤ 1099511627776) (hd : kd v.kind = 2) :
    Calls Try.prog 43 #[ptr g, .agg #[.int .i64 v.kind, .int .i64 v.n, .string v.s, .slice A v.l.length c, .slice A' v.t.length c']] w fun e w' => e = .returned (.bool true) ∧ RS w' g (some t) ∧ w.grownBy w' (some g) := by
  have hin := hr.inside
  have hne : w.heap.size ≠ g := by omega
  have HN := Lib.hid (show text (encOf v ++ t) = some (v.s.data.toList, t) by rw [encOf_text hd]; exact text_back (Nat.le_trans h.few.1 (by omega)) t)
  have HL := Lib.hid (show (encOf v ++ t).length ≤ 4611686018427387904 by omega)
  have H := Lib.hid h
  have HR := Lib.hid hr
  have HD := Lib.hid hd
  have HS : Hid (∀ x, x = str v.s.data.toList → x = .string v.s) := by
    rintro x rfl
    generalize v.s = s
    obtain ⟨⟨l⟩⟩ := s
    rfl
  clear h hr hd hl
  go_enter Try.func43, Try.ntmps43
  go_wp2_with (first
    | (go_at_call 23; refine (kind_any _ _ _ _ _ _ _ _ _ H.out.k 2 HD.out _).mono ?_; rintro e w1 ⟨rfl, b1⟩; have K := (Blk.fresh w _ _).under b1 (by simp); have k1 : Cell w.heap.size 2 (.string v.s) w1 := ⟨K.inside, K.at 2⟩; have q1 := Lib.hid (box_alloc b1); have R1 := Lib.hid (HR.out.below q1.out); clear K b1))
  go_region_held3 (fun w' => Cell w.heap.size 2 (.string v.s) w') (first | exact Cell.drew k1 | exact Cell.grown ‹_› hne ‹_› | assumption | go_keep)
    (first
      | (go_at_call 28; refine (rtext_ok g _ _ R1.out.drew HL.out _ _ HN.out).mono ?_; rintro e w3 ⟨he, h3, h4⟩; obtain rfl := he.trans (congrArg Ending.returned (HS.out _ rfl))))
  go_wp2_with fail
  go_ret
  exact ⟨rfl, h3, grown_trans (below_none q1.out _) (grown_undrew h4)⟩

set_option maxHeartbeats 2000000 in
theorem equal_nums (g : Nat) (t : List UInt8) (v : Val) (A : Option Addr) (c : Nat) (A' : Option Addr) (c' : Nat) (w : World) (B : Nat) (hB : B ≤ g) (h : Came w B v A A') (hr : RS w g (some (encOf v ++ t))) (hl : (encOf v ++ t).length ≤ 1099511627776) (hd : kd v.kind = 3) :
    Calls Try.prog 43 #[ptr g, .agg #[.int .i64 v.kind, .int .i64 v.n, .string v.s, .slice A v.l.length c, .slice A' v.t.length c']] w fun e w' => e = .returned (.bool true) ∧ RS w' g (some t) ∧ w.grownBy w' (some g) := by
  have hin := hr.inside
  have hne : w.heap.size ≠ g := by omega
  have HN := Lib.hid (show list int (encOf v ++ t) = some (v.l, t) by rw [encOf_nums hd]; exact list_ints (Nat.le_trans h.few.2.1 (by omega)) h.z t)
  have HL := Lib.hid hl
  have H := Lib.hid h
  have HR := Lib.hid hr
  have HD := Lib.hid hd
  clear h hr hd hl
  go_enter Try.func43, Try.ntmps43
  go_wp2_with (first
    | (go_at_call 23; refine (kind_any _ _ _ _ _ _ _ _ _ H.out.k 3 HD.out _).mono ?_; rintro e w1 ⟨rfl, b1⟩; have K := (Blk.fresh w _ _).under b1 (by simp); have k1 : Cell w.heap.size 3 (.slice A v.l.length c) w1 := ⟨K.inside, K.at 3⟩; have q1 := Lib.hid (box_alloc b1); have R1 := Lib.hid (HR.out.below q1.out); clear K b1))
  go_region_held3 (fun w' => Cell w.heap.size 3 (.slice A v.l.length c) w') (first | exact Cell.drew k1 | exact Cell.grown ‹_› hne ‹_› | exact Cell.below ‹_› ‹_› | assumption | go_keep)
    (first
      | (go_at_call 31; refine (rnums_ok g _ _ R1.out.drew HL.out _ _ HN.out).mono ?_; rintro e w3 ⟨A3, c3, rfl, r3, h3, h4⟩)
      | (go_at_call 30; refine (sameNums_any _ _ _ _ v.l (Nat.le_trans H.out.few.2.1 (by omega)) _ r3 (H.out.lift (grown_below (grown_trans (below_none q1.out _) (grown_undrew h4)) hB H.out.inB)).rowL).mono ?_; rintro e w4 ⟨rfl, h5⟩))
  go_wp2_with fail
  go_ret
  exact ⟨rfl, h3.below h5, grown_trans (grown_trans (below_none q1.out _) (grown_undrew h4)) (below_none h5 _)⟩

theorem text_small {ss : List ByteArray} (h : (ss.flatMap encText).length ≤ 20000) {s : ByteArray} (hs : s ∈ ss) : s.size ≤ 20000 := by
  obtain ⟨k, hk, rfl⟩ := List.getElem_of_mem hs
  have := texts_at ss k hk
  omega

set_option maxHeartbeats 2000000 in
theorem equal_texts (g : Nat) (t : List UInt8) (v : Val) (A : Option Addr) (c : Nat) (A' : Option Addr) (c' : Nat) (w : World) (B : Nat) (hB : B ≤ g) (h : Came w B v A A') (hr : RS w g (some (encOf v ++ t))) (hl : (encOf v ++ t).length ≤ 1099511627776) (hd : kd v.kind = 4) :
    Calls Try.prog 43 #[ptr g, .agg #[.int .i64 v.kind, .int .i64 v.n, .string v.s, .slice A v.l.length c, .slice A' v.t.length c']] w fun e w' => e = .returned (.bool true) ∧ RS w' g (some t) ∧ w.grownBy w' (some g) := by
  have hin := hr.inside
  have hne : w.heap.size ≠ g := by omega
  have HN := Lib.hid (show list text (encOf v ++ t) = some (v.t.map (·.data.toList), t) by rw [encOf_texts hd]; exact list_texts (Nat.le_trans h.few.2.2.1 (by omega)) (fun s hs => Nat.le_trans (text_small h.few.2.2.2 hs) (by omega)) t)
  have HL := Lib.hid hl
  have H := Lib.hid h
  have HR := Lib.hid hr
  have HD := Lib.hid hd
  clear h hr hd hl
  go_enter Try.func43, Try.ntmps43
  go_wp2_with (first
    | (go_at_call 23; refine (kind_any _ _ _ _ _ _ _ _ _ H.out.k 4 HD.out _).mono ?_; rintro e w1 ⟨rfl, b1⟩; have K := (Blk.fresh w _ _).under b1 (by simp); have k1 : Cell w.heap.size 4 (.slice A' v.t.length c') w1 := ⟨K.inside, K.at 4⟩; have q1 := Lib.hid (box_alloc b1); have R1 := Lib.hid (HR.out.below q1.out); clear K b1))
  go_region_held3 (fun w' => Cell w.heap.size 4 (.slice A' v.t.length c') w') (first | exact Cell.drew k1 | exact Cell.grown ‹_› hne ‹_› | exact Cell.below ‹_› ‹_› | assumption | go_keep)
    (first
      | (go_at_call 34; refine (rtexts_ok g _ _ R1.out.drew HL.out _ _ HN.out).mono ?_; rintro e w3 ⟨A3, c3, he, r3, h3, h4⟩; rw [List.length_map] at he; obtain rfl := he; rw [strs_back] at r3)
      | (go_at_call 33; refine (sameTexts_any _ _ _ _ v.t (Nat.le_trans H.out.few.2.2.1 (by omega)) _ r3 (H.out.lift (grown_below (grown_trans (below_none q1.out _) (grown_undrew h4)) hB H.out.inB)).rowT).mono ?_; rintro e w4 ⟨rfl, h5⟩))
  go_wp2_with fail
  go_ret
  exact ⟨rfl, h3.below h5, grown_trans (grown_trans (below_none q1.out _) (grown_undrew h4)) (below_none h5 _)⟩

theorem equal_any (g : Nat) (t : List UInt8) (v : Val) (A : Option Addr) (c : Nat) (A' : Option Addr) (c' : Nat) (w : World) (B : Nat) (hB : B ≤ g) (h : Came w B v A A') (hr : RS w g (some (encOf v ++ t))) (hl : (encOf v ++ t).length ≤ 1099511627776) :
    Calls Try.prog 43 #[ptr g, .agg #[.int .i64 v.kind, .int .i64 v.n, .string v.s, .slice A v.l.length c, .slice A' v.t.length c']] w fun e w' => e = .returned (.bool true) ∧ RS w' g (some t) ∧ w.grownBy w' (some g) := by
  rcases kd_range v.kind with hd | hd | hd | hd | hd
  · exact equal_num g t v A c A' c' w B hB h hr hl hd
  · exact equal_int g t v A c A' c' w B hB h hr hl hd
  · exact equal_text g t v A c A' c' w B hB h hr hl hd
  · exact equal_nums g t v A c A' c' w B hB h hr hl hd
  · exact equal_texts g t v A c A' c' w B hB h hr hl hd
end Wire
end Go.Proofs.Ytionidjhfcmgiaa

/- JournalReads: the walk. -/
import Derived.Test.YtpogoalbnbekaaaDoorJop
namespace Go.Proofs.YtpogoalbnbekaaaDoor
open Go.RowKit Wire
set_option linter.unusedVariables false
set_option linter.unusedSimpArgs false
open Txt
open Sls (strs)
namespace Dsk

/-- A number that a reader reads, and what is left. -/
def numSt (st : Wr.St) : Nat × Wr.St := match st.bind (Wr.num 59) with
  | some (n, r) => (n, some r)
  | none => (0, none)
theorem num_any (g : Nat) (st : Wr.St) (w : World) (h : Wr.RS w g st) (hl : (st.getD []).length ≤ 4611686018427387904) :
    Calls Tryd.prog 25 #[Wr.ptr g] w fun e w' => e = .returned (.int .i64 (numSt st).1) ∧ Wr.RS w' g (numSt st).2 ∧ w.grownBy w' (some g) := by
  obtain ⟨x, st', h1, h2, h3⟩ := num_step g st w h hl
  unfold numSt
  cases hb : st.bind (Wr.num 59) with
  | none =>
    rw [hb] at h1
    obtain ⟨rfl, rfl⟩ := h1
    exact h3
  | some p =>
    obtain ⟨n, r⟩ := p
    rw [hb] at h1
    obtain ⟨rfl, rfl, _⟩ := h1
    exact h3
theorem numSt_len (st : Wr.St) : ((numSt st).2.getD []).length ≤ (st.getD []).length := by
  unfold numSt
  cases st with
  | none => exact Nat.le_refl _
  | some l =>
    show ((match Wr.num 59 l with | some (n, r) => ((n, some r) : Nat × Wr.St) | none => (0, none)).2.getD []).length ≤ l.length
    cases hn : Wr.num 59 l with
    | none => exact Nat.zero_le _
    | some p =>
      obtain ⟨n, r⟩ := p
      have := congrArg List.length (Wr.num_sound hn).1
      simp only [List.length_append, List.length_cons] at this
      show r.length ≤ l.length
      omega
theorem pair_steps (v : List UInt8) : (pairOf v = if doneV (numSt (numSt (some v)).2).2 = true then some ((numSt (some v)).1, (numSt (numSt (some v)).2).1) else none) ∧ (numSt (some v)).1 ≤ 9223372036854775807 ∧ (numSt (numSt (some v)).2).1 ≤ 9223372036854775807 := by
  have e1 : numSt (some v) = match Wr.num 59 v with | some (n, r) => (n, some r) | none => (0, none) := rfl
  rw [e1]
  unfold pairOf
  cases h1 : Wr.num 59 v with
  | none => exact ⟨rfl, by show 0 ≤ _; omega, by show 0 ≤ _; omega⟩
  | some p1 =>
    obtain ⟨n1, r1⟩ := p1
    have e2 : numSt (some r1) = match Wr.num 59 r1 with | some (n, r) => (n, some r) | none => (0, none) := rfl
    dsimp only
    rw [e2]
    have l1 := (Wr.num_sound h1).2
    cases h2 : Wr.num 59 r1 with
    | none => exact ⟨rfl, l1, by show 0 ≤ _; omega⟩
    | some p2 =>
      obtain ⟨n2, r2⟩ := p2
      have l2 := (Wr.num_sound h2).2
      cases r2 with
      | nil => exact ⟨rfl, l1, l2⟩
      | cons a r => exact ⟨rfl, l1, l2⟩
theorem conv_hand (w : World) (n : Nat) (hn : n ≤ 300) :
    (convert 50 9 (.slice (some ⟨w.heap.size, 0, none⟩) 5 5)).run Tryd.prog (w.alloc (Obj.cells #[.int .u8 1, .int .u8 ((n : Int) % 256), .int .u8 ((n : Int) / 256), .int .u8 0, .int .u8 0] 5)) =
      .ok (str (hdr 1 n)) (w.alloc (Obj.cells #[.int .u8 1, .int .u8 ((n : Int) % 256), .int .u8 ((n : Int) / 256), .int .u8 0, .int .u8 0] 5)) := by
  have h := run_convert_bytes_back (P := Tryd.prog) (w.alloc (Obj.cells #[.int .u8 1, .int .u8 ((n : Int) % 256), .int .u8 ((n : Int) / 256), .int .u8 0, .int .u8 0] 5)) 50 9 5 ⟨w.heap.size, 0, none⟩ 5 (hdr 1 n) Tryd.underlying50 Tryd.underlying5 Tryd.underlying9 (fun j hj => by
    rw [hdr_len] at hj
    rw [row_add', Nat.zero_add, (Blk.fresh w _ _).at j]
    have h1 := hdr_1 1 n
    have h2 := hdr_2 1 n
    have h3 := hdr_3 1 n
    have h4 := hdr_4 1 n
    have g : ∀ i, (hi : i < (hdr 1 n).length) → (hdr 1 n)[i] = (hdr 1 n).getD i 0 := fun i hi => by rw [List.getD_eq_getElem?_getD, List.getElem?_eq_getElem hi]; rfl
    rw [g]
    rcases (by omega : j = 0 ∨ j = 1 ∨ j = 2 ∨ j = 3 ∨ j = 4) with rfl | rfl | rfl | rfl | rfl
    · rfl
    · rw [h1]; show some (Value.int .u8 ((n : Int) % 256)) = _; congr 2
    · rw [h2]; show some (Value.int .u8 ((n : Int) / 256)) = _; congr 2; omega
    · rw [h3]; show some (Value.int .u8 0) = _; congr 2; omega
    · rw [h4]; rfl)
  rw [hdr_len] at h
  exact h

set_option maxRecDepth 8000 in
set_option maxHeartbeats 4000000 in
theorem jreads_law (log : ByteArray) (bytes n : Int) (raw : ByteArray) (W : World) (ho : Off W) (hlog : log.size ≤ maxLen) (hb : Fits bytes) (hn : Fits n) (hraw : raw.size ≤ maxLen) :
    Calls Tryd.prog 5 #[.string log, .int .i64 bytes, .int .i64 n, .string raw] W fun e w' => e = .returned (.bool true) ∧ Below W.heap.size W w' := by
  have HSM := Lib.hid (jsmall_any ho)
  have HOF := Lib.hid ho
  obtain ⟨i0, hi0, hi1, hi2, hi3⟩ := info_parts info_str
  unfold maxLen at hlog hraw
  unfold Fits at hb hn
  clear ho
  go_enter Tryd.func5, Tryd.ntmps5
  by_cases h1 : 300 < log.size
  · go_wp2_with (go_at_call 7; refine HSM.out.mono ?_; rintro e w1 ⟨rfl, b1⟩; have B1 := Lib.hid b1; clear b1 HSM)
    go_ret
    exact ⟨rfl, B1.out⟩
  by_cases h2 : 300 < raw.size
  · go_wp2_with (go_at_call 7; refine HSM.out.mono ?_; rintro e w1 ⟨rfl, b1⟩; have B1 := Lib.hid b1; clear b1 HSM)
    go_ret
    exact ⟨rfl, B1.out⟩
  by_cases h3 : 400 < n
  · go_wp2_with (go_at_call 7; refine HSM.out.mono ?_; rintro e w1 ⟨rfl, b1⟩; have B1 := Lib.hid b1; clear b1 HSM)
    go_ret
    exact ⟨rfl, B1.out⟩
  have HW1 : Hid (∀ w p, Js (fun _ => False) W w p St.new none → Calls Tryd.prog 23 #[ptr p, .int .i64 7, .int .i64 0, .string log] w fun e w2 => (∃ er, e = .returned (.int .i64 er)) ∧ Js (fun _ => False) W w2 p (St.new.Write 7 0 (bl log)).1 none) := Lib.hid fun w p h => (h.write 7 0 log (small_max (by omega))).mono fun e w2 ⟨he, hj, _⟩ => ⟨⟨_, he⟩, hj⟩
  have HW2 : Hid (∀ (vs : ByteArray), vs.size ≤ 300 → ∀ w p, Js (fun _ => False) W w p (St.new.Write 7 0 (bl log)).1 none → Calls Tryd.prog 23 #[ptr p, .int .i64 8, .int .i64 64, .string vs] w fun e w2 => (∃ er, e = .returned (.int .i64 er)) ∧ Js (fun _ => False) W w2 p ((St.new.Write 7 0 (bl log)).1.Write 8 64 (bl vs)).1 none) := Lib.hid fun vs hv w p h => (h.write 8 64 vs (small_max (by omega))).mono fun e w2 ⟨he, hj, _⟩ => ⟨⟨_, he⟩, hj⟩
  by_cases hr0 : raw.size = 0
  · have HIA := Lib.hid (Wr.int_any bytes (by omega) (by omega))
    have HIB := Lib.hid (Wr.int_any n (by omega) (by omega))
    have la := Wr.encInt_len bytes
    have lb := Wr.encInt_len n
    have hss : (⟨(Wr.encInt bytes).toArray⟩ : ByteArray).size + (⟨(Wr.encInt n).toArray⟩ : ByteArray).size ≤ 46 := by rw [bytes_size, bytes_size]; omega
    unfold str at HIA HIB
    generalize (⟨(Wr.encInt bytes).toArray⟩ : ByteArray) = sa at *
    generalize (⟨(Wr.encInt n).toArray⟩ : ByteArray) = sb at *
    obtain rfl : raw = ⟨#[]⟩ := ByteArray.ext (Array.eq_empty_of_size_eq_zero hr0)
    go_upto_region 12 with (first
      | (go_at_call 7; refine HSM.out.mono ?_; rintro e w1 ⟨rfl, b1⟩; have B1 := Lib.hid b1; clear b1 HSM)
      | (go_at_call 9; refine (new_one B1.out).mono ?_; rintro e w2 ⟨p, rfl, h2⟩; have H2 := Lib.hid (Js.of h2 HOF.out); clear h2)
      | (go_at_call 22; ((with_reducible refine (HIA.out _).mono ?_); rintro e w3 ⟨rfl, b3⟩); have H3 := Lib.hid (H2.out.keep b3).1; clear b3 HIA)
      | (go_at_call 22; ((with_reducible refine (HIB.out _).mono ?_); rintro e w4 ⟨rfl, b4⟩); have H4 := Lib.hid (H3.out.keep b4).1; clear b4)
      | (go_at_call 23; ((with_reducible refine (HW1.out _ _ H4.out).mono ?_); rintro e w5 ⟨⟨er5, rfl⟩, h5⟩); have H5 := Lib.hid h5; clear h5)
      | (go_at_call 23; refine (HW2.out _ (by rw [ByteArray.size_append]; omega) _ _ H5.out).mono ?_; rintro e w6 ⟨⟨er6, rfl⟩, h6⟩; have H6 := Lib.hid h6; clear h6))
    have hvs : (sa ++ sb).size ≤ 300 := by rw [ByteArray.size_append]; omega
    generalize sa ++ sb = vs at *
    clear H2 H3 H4 H5 HIB hss la lb hr0 HW1
    have hcv := conv_hand w6 vs.size hvs
    unfold str at hcv
    have HW3 : Hid (∀ w p, Js (fun _ => False) W w p ((St.new.Write 7 0 (bl log)).1.Write 8 64 (bl vs)).1 none → Calls Tryd.prog 23 #[ptr p, .int .i64 8, .int .i64 0, .string ⟨(hdr 1 vs.size).toArray⟩] w fun e w2 => (∃ er, e = .returned (.int .i64 er)) ∧ Js (fun _ => False) W w2 p (hand 7 (bl log) (bl vs)) none) := Lib.hid fun w p h => by
      have := h.write 8 0 ⟨(hdr 1 vs.size).toArray⟩ (small_max (by rw [bytes_size, hdr_len]; omega))
      refine this.mono fun e w2 ⟨he, hj, _⟩ => ⟨⟨_, he⟩, ?_⟩
      unfold hand
      rw [bl_len]
      exact hj
    generalize (⟨(hdr 1 vs.size).toArray⟩ : ByteArray) = hx at *
    obtain ⟨_, c, ha1, ha2⟩ := hand_open (f := 7) (by omega) (bl log) (bl vs) (by rw [bl_len]; omega) (by rw [bl_len]; omega)
    obtain ⟨hp1, hp2, hp3⟩ := pair_steps (bl vs)
    have HVL : Hid (((some (bl vs) : Wr.St).getD []).length ≤ 4611686018427387904) := Lib.hid (by show (bl vs).length ≤ _; rw [bl_len]; omega)
    have hnl := numSt_len (some (bl vs))
    have HN1 : Hid (∀ w g, Wr.RS w g (some (bl vs)) → Calls Tryd.prog 25 #[Wr.ptr g] w fun e w' => e = .returned (.int .i64 (numSt (some (bl vs))).1) ∧ Wr.RS w' g (numSt (some (bl vs))).2 ∧ w.grownBy w' (some g)) := Lib.hid fun w g h => num_any g _ w h HVL.out
    have HN2 : Hid (∀ w g, Wr.RS w g (numSt (some (bl vs))).2 → Calls Tryd.prog 25 #[Wr.ptr g] w fun e w' => e = .returned (.int .i64 (numSt (numSt (some (bl vs))).2).1) ∧ Wr.RS w' g (numSt (numSt (some (bl vs))).2).2 ∧ w.grownBy w' (some g)) := Lib.hid fun w g h => num_any g _ w h (Nat.le_trans hnl HVL.out)
    clear hnl HVL
    generalize numSt (some (bl vs)) = Q1 at *
    obtain ⟨x, st1⟩ := Q1
    dsimp only at HN1 HN2 hp1 hp2 hp3
    generalize numSt st1 = Q2 at *
    obtain ⟨y, st2⟩ := Q2
    dsimp only at HN2 hp1 hp3
    have HD : Hid (∀ w g, Wr.RS w g st2 → Calls Tryd.prog 26 #[Wr.ptr g] w fun e w' => e = .returned (.bool (doneV st2)) ∧ w = w') := Lib.hid fun w g h => by
      cases st2 with
      | none => exact Wr.done_none g w h
      | some l => exact Wr.done_some g l w h
    have HAN : Hid (answer (bl log) (bl vs) = (match pairOf (bl vs) with | none => none | some (b, n) => if (bl log).length < b then none else textsOf n ((bl log).take b))) := Lib.hid rfl
    rw [hp1, bl_len] at HAN
    generalize hjo : jopn (hand 7 (bl log) (bl vs)) ((7 : Nat) : Int) = JO at *
    obtain ⟨er, oj, S7⟩ := JO
    dsimp only at ha1 ha2
    generalize answer (bl log) (bl vs) = AN at *
    generalize hand 7 (bl log) (bl vs) = S6 at *
    cases hdd : doneV st2 with
    | false =>
      rw [hdd, if_neg (by simp)] at HAN
      rw [hdd] at HD
      obtain rfl : AN = none := HAN.out
      subst ha1 ha2
      have HO := Lib.hid (fun w' p (h : Js (fun _ => False) W w' p S6 none) => h.open_none (n := 7) (by omega) hjo)
      clear hjo hdd hp1 HAN
      go_wp2_with (first
        | (go_at_call 23; refine (HW3.out _ _ (H6.out.keep ((Below.refl _ _).alloc (Nat.le_refl _) _)).1).mono ?_; rintro e w7 ⟨⟨er7, rfl⟩, h7⟩; have H7 := Lib.hid h7; clear h7 hcv)
        | (go_at_call 10; refine (HO.out _ _ H7.out).mono ?_; rintro e w8 ⟨rfl, h8, _⟩; have H8 := Lib.hid h8; clear h8)
        | (go_at_call 24; refine (Wr.open_any vs _).mono ?_; rintro e w9 ⟨rfl, h9, b9, z9⟩; have H9 : Hid (Wr.RS w9 w8.heap.size (some (bl vs))) := Lib.hid h9; have B9 := Lib.hid b9; clear h9 b9)
        | (go_at_call 25; ((with_reducible refine (HN1.out _ _ H9.out).mono ?_); rintro e w10 ⟨rfl, h10, g10⟩); have H10 := Lib.hid h10; have B10 := Lib.hid (below_grown B9.out g10 (Nat.le_refl _) (Nat.le_refl _)); clear h10 g10 H9)
        | (go_at_call 25; ((with_reducible refine (HN2.out _ _ H10.out).mono ?_); rintro e w11 ⟨rfl, h11, g11⟩); have H11 := Lib.hid h11; have B11 := Lib.hid (below_grown B10.out g11 (Nat.le_refl _) (Nat.le_refl _)); clear h11 g11)
        | (go_at_call 26; refine (HD.out _ _ H11.out).mono ?_; rintro e w12 ⟨rfl, rfl⟩))
      go_ret
      exact ⟨rfl, next_below H8.out.below B11.out⟩
    | true =>
      rw [hdd, if_pos rfl] at HAN
      rw [hdd] at HD
      by_cases hxl : log.size < x
      · obtain rfl : AN = none := by rw [HAN.out]; show (if log.size < x then _ else _) = _; rw [if_pos hxl]
        subst ha1 ha2
        have HO := Lib.hid (fun w' p (h : Js (fun _ => False) W w' p S6 none) => h.open_none (n := 7) (by omega) hjo)
        have hxi : ¬ (x : Int) ≤ log.size := by omega
        clear hjo hdd hp1 HAN
        go_wp2_with (first
          | (go_at_call 23; refine (HW3.out _ _ (H6.out.keep ((Below.refl _ _).alloc (Nat.le_refl _) _)).1).mono ?_; rintro e w7 ⟨⟨er7, rfl⟩, h7⟩; have H7 := Lib.hid h7; clear h7 hcv)
          | (go_at_call 10; refine (HO.out _ _ H7.out).mono ?_; rintro e w8 ⟨rfl, h8, _⟩; have H8 := Lib.hid h8; clear h8)
          | (go_at_call 24; refine (Wr.open_any vs _).mono ?_; rintro e w9 ⟨rfl, h9, b9, z9⟩; have H9 : Hid (Wr.RS w9 w8.heap.size (some (bl vs))) := Lib.hid h9; have B9 := Lib.hid b9; clear h9 b9)
          | (go_at_call 25; ((with_reducible refine (HN1.out _ _ H9.out).mono ?_); rintro e w10 ⟨rfl, h10, g10⟩); have H10 := Lib.hid h10; have B10 := Lib.hid (below_grown B9.out g10 (Nat.le_refl _) (Nat.le_refl _)); clear h10 g10 H9)
          | (go_at_call 25; ((with_reducible refine (HN2.out _ _ H10.out).mono ?_); rintro e w11 ⟨rfl, h11, g11⟩); have H11 := Lib.hid h11; have B11 := Lib.hid (below_grown B10.out g11 (Nat.le_refl _) (Nat.le_refl _)); clear h11 g11)
          | (go_at_call 26; refine (HD.out _ _ H11.out).mono ?_; rintro e w12 ⟨rfl, rfl⟩))
        go_ret
        exact ⟨rfl, next_below H8.out.below B11.out⟩
      · have hxi : (x : Int) ≤ log.size := by omega
        obtain ⟨ls, hls⟩ : ∃ ls, ls = log.extract 0 x := ⟨_, rfl⟩
        have hlsb : bl ls = (bl log).take x := by
          rw [hls]
          obtain ⟨⟨l⟩⟩ := log
          show bl (ByteArray.extract ⟨l.toArray⟩ 0 x) = _
          rw [bytes_extract, bl_mk]
          rfl
        have hans : AN = textsOf y (bl ls) := by rw [HAN.out, hlsb]; show (if log.size < x then _ else _) = _; rw [if_neg hxl]
        have hlsl : (bl ls).length ≤ 300 := by rw [hlsb, List.length_take, bl_len]; omega
        cases htx : textsOf y (bl ls) with
        | none =>
            obtain rfl : AN = none := by rw [hans, htx]
            subst ha1 ha2
            have HO := Lib.hid (fun w' p (h : Js (fun _ => False) W w' p S6 none) => h.open_none (n := 7) (by omega) hjo)
            clear hjo hdd hp1 HAN hlsb hans
            go_wp2_with (first
              | (go_at_call 23; refine (HW3.out _ _ (H6.out.keep ((Below.refl _ _).alloc (Nat.le_refl _) _)).1).mono ?_; rintro e w7 ⟨⟨er7, rfl⟩, h7⟩; have H7 := Lib.hid h7; clear h7 hcv)
              | (go_at_call 10; refine (HO.out _ _ H7.out).mono ?_; rintro e w8 ⟨rfl, h8, _⟩; have H8 := Lib.hid h8; clear h8)
              | (go_at_call 24; ((with_reducible refine (Wr.open_any vs _).mono ?_); rintro e w9 ⟨rfl, h9, b9, z9⟩); have H9 : Hid (Wr.RS w9 w8.heap.size (some (bl vs))) := Lib.hid h9; have B9 := Lib.hid b9; clear h9 b9)
              | (go_at_call 25; ((with_reducible refine (HN1.out _ _ H9.out).mono ?_); rintro e w10 ⟨rfl, h10, g10⟩); have H10 := Lib.hid h10; have B10 := Lib.hid (below_grown B9.out g10 (Nat.le_refl _) (Nat.le_refl _)); clear h10 g10 H9)
              | (go_at_call 25; ((with_reducible refine (HN2.out _ _ H10.out).mono ?_); rintro e w11 ⟨rfl, h11, g11⟩); have H11 := Lib.hid h11; have B11 := Lib.hid (below_grown B10.out g11 (Nat.le_refl _) (Nat.le_refl _)); clear h11 g11)
              | (go_at_call 26; refine (HD.out _ _ H11.out).mono ?_; rintro e w12 ⟨rfl, rfl⟩)
              | (go_at_call 24; rw [← hls]; refine (Wr.open_any ls _).mono ?_; rintro e w13 ⟨rfl, h13, b13, z13⟩; have H13 : Hid (Wr.RS w13 w11.heap.size (some (bl ls))) := Lib.hid h13; have B13 := Lib.hid b13; clear h13 b13))
            go_loopw [18, 20] (fun lv iv wr => ∃ i st xs, iv = .int .i64 ((i : Nat) : Int) ∧ PrsRel w11 (bl ls) y lv wr i st xs) (fun _ iv _ => y - (intOf iv).toNat)
            case atStart => exact ⟨0, some (bl ls), [], rfl, Grow.nil _ _ _, H13.out, .inl ⟨bl ls, [], rfl, rfl, rfl, by omega⟩, Nat.zero_le _, B13.out⟩
            case round =>
              obtain ⟨i, st, xs, rfl, hR⟩ := hrel
              have HR := Lib.hid hR
              have hlen := prs_len hR
              have htl := told_le hR.told
              have hcnt := hR.cnt
              obtain ⟨A, cp, rfl⟩ := hR.row.slice
              have htold := hR.told
              have hrs := hR.rs
              have HW : Hid (Below W.heap.size W wr) := Lib.hid (next_below (next_below H8.out.below B11.out) hR.below)
              clear hR H13 B13
              cases st with
              | none =>
                have HL : Hid (∀ w', Wr.RS w' w11.heap.size none → Calls Tryd.prog 27 #[Wr.ptr w11.heap.size] w' fun e w2 => e = .returned (.int .i64 0) ∧ w' = w2) := Lib.hid fun w' h => Wr.left_any _ none w' h
                have HDN := Lib.hid (fun w' h => Wr.done_none w11.heap.size w' h)
                have HRS := Lib.hid hrs
                clear htold hrs
                by_cases hlt : i < y
                all_goals
                  go_wp2_with (first
                    | (go_at_call 27; refine (HL.out _ HRS.out).mono ?_; rintro e w3 ⟨rfl, rfl⟩)
                    | (go_at_call 26; refine (HDN.out _ HRS.out).mono ?_; rintro e w3 ⟨rfl, rfl⟩))
                  go_ret
                  exact ⟨rfl, HW.out⟩
              | some r =>
                cases r with
                | nil =>
                  have HL : Hid (∀ w', Wr.RS w' w11.heap.size (some []) → Calls Tryd.prog 27 #[Wr.ptr w11.heap.size] w' fun e w2 => e = .returned (.int .i64 0) ∧ w' = w2) := Lib.hid fun w' h => Wr.left_any _ (some []) w' h
                  have HDN : Hid (∀ w', Wr.RS w' w11.heap.size (some []) → Calls Tryd.prog 26 #[Wr.ptr w11.heap.size] w' fun e w2 => e = .returned (.bool true) ∧ w' = w2) := Lib.hid fun w' h => Wr.done_some _ [] w' h
                  have HRS := Lib.hid hrs
                  by_cases hlt : i < y
                  · have hq : ((i : Int) == (y : Int)) = false := beq_eq_false_iff_ne.2 (by omega)
                    clear htold hrs
                    go_wp2_with (first
                      | (go_at_call 27; refine (HL.out _ HRS.out).mono ?_; rintro e w3 ⟨rfl, rfl⟩)
                      | (go_at_call 26; refine (HDN.out _ HRS.out).mono ?_; rintro e w3 ⟨rfl, rfl⟩))
                    go_ret
                    exact ⟨rfl, HW.out⟩
                  · obtain rfl : i = y := by omega
                    rw [told_end htold] at htx
                    cases htx
                | cons c r =>
                  by_cases hlt : i < y
                  · have HL : Hid (∀ w', Wr.RS w' w11.heap.size (some (c :: r)) → Calls Tryd.prog 27 #[Wr.ptr w11.heap.size] w' fun e w2 => e = .returned (.int .i64 (c :: r).length) ∧ w' = w2) := Lib.hid fun w' h => Wr.left_any _ (some (c :: r)) w' h
                    have h0 : (0 : Int) < ((c :: r).length : Int) := by rw [List.length_cons]; omega
                    have hl4 : ((some (c :: r) : Wr.St).getD []).length ≤ 4611686018427387904 := by have := htl.2; omega
                    have HRS := Lib.hid hrs
                    have hi1 : i + 1 ≤ maxLen := small_max (by omega)
                    have hi2 : (i + 1) * 16 ≤ 140737488355328 := by omega
                    have HB := Lib.hid (And.intro hi1 hi2)
                    clear hi1 hi2
                    cases ht : Wr.text (c :: r) with
                    | none =>
                      have HT := Lib.hid (Wr.rtext_bad w11.heap.size (some (c :: r)) wr hrs hl4 ht)
                      have HTN := Lib.hid (told_bad htold ht (xs ++ [⟨#[]⟩]))
                      unfold str at HT
                      generalize c :: r = rr at *
                      clear htold hrs ht
                      go_wp2_with (first
                        | (go_at_call 27; refine (HL.out _ HRS.out).mono ?_; rintro e w3 ⟨rfl, rfl⟩)
                        | (go_at_call 28; refine HT.out.mono ?_; rintro e w5 ⟨rfl, h5, g5⟩; have H5 := Lib.hid h5; have G5 := Lib.hid g5; have z5 := g5.size; have R5 := Lib.hid (HR.out.row.grown g5 (.inr (fun e => by have := (HR.out.row.block _ e).1; omega))); clear h5 g5)
                        | (at_builtin; refine wpList_append_src _ rfl (.tmp 117) (.tmp 120) _ _ rfl (w11.heap.size + 1) 9 i0 _ 1 16 Tryd.underlying32 hi0 hi1 hi2 hi3 rfl (by omega) _ _ _ rfl (R5.out.alloc _) _ 1 [.string ⟨#[]⟩] rfl (Src.ofSlice _ Tryd.underlying32 ⟨w5.heap.size, 0, none⟩ 1 1 [.string ⟨#[]⟩] rfl (new_cells w5 _ [.string ⟨#[]⟩]) (by simp [Value.oneCell'])) HB.out.1 HB.out.2 (by have := HR.out.rs.inside; simp; omega) ?_; intro v6 w6b hown6 hg6 hor6))
                      go_roundw
                      case rel => exact ⟨i + 1, none, _, by simp, prs_next HR.out (by omega) G5.out H5.out HTN.out hown6 hg6⟩
                      case measure => simp [intOf]; omega
                    | some q =>
                      obtain ⟨xq, r'⟩ := q
                      have HT := Lib.hid (Wr.rtext_ok w11.heap.size (some (c :: r)) wr hrs hl4 xq r' ht)
                      have HTN := Lib.hid (told_ok htold ht)
                      unfold str at HT
                      unfold mkB at HTN
                      generalize c :: r = rr at *
                      generalize (⟨xq.toArray⟩ : ByteArray) = xb at *
                      clear htold hrs ht
                      go_wp2_with (first
                        | (go_at_call 27; refine (HL.out _ HRS.out).mono ?_; rintro e w3 ⟨rfl, rfl⟩)
                        | (go_at_call 28; refine HT.out.mono ?_; rintro e w5 ⟨rfl, h5, g5⟩; have H5 := Lib.hid h5; have G5 := Lib.hid g5; have z5 := g5.size; have R5 := Lib.hid (HR.out.row.grown g5 (.inr (fun e => by have := (HR.out.row.block _ e).1; omega))); clear h5 g5)
                        | (at_builtin; refine wpList_append_src _ rfl (.tmp 117) (.tmp 120) _ _ rfl (w11.heap.size + 1) 9 i0 _ 1 16 Tryd.underlying32 hi0 hi1 hi2 hi3 rfl (by omega) _ _ _ rfl (R5.out.alloc _) _ 1 [.string xb] rfl (Src.ofSlice _ Tryd.underlying32 ⟨w5.heap.size, 0, none⟩ 1 1 [.string xb] rfl (new_cells w5 _ [.string xb]) (by simp [Value.oneCell'])) HB.out.1 HB.out.2 (by have := HR.out.rs.inside; simp; omega) ?_; intro v6 w6b hown6 hg6 hor6))
                      go_roundw
                      case rel => exact ⟨i + 1, some r', _, by simp, prs_next HR.out (by omega) G5.out H5.out HTN.out hown6 hg6⟩
                      case measure => simp [intOf]; omega
                  · have HDN : Hid (∀ w', Wr.RS w' w11.heap.size (some (c :: r)) → Calls Tryd.prog 26 #[Wr.ptr w11.heap.size] w' fun e w2 => e = .returned (.bool false) ∧ w' = w2) := Lib.hid fun w' h => Wr.done_some _ (c :: r) w' h
                    have HRS := Lib.hid hrs
                    generalize c :: r = rr at *
                    clear htold hrs
                    go_wp2_with (go_at_call 26; refine (HDN.out _ HRS.out).mono ?_; rintro e w3 ⟨rfl, rfl⟩)
                    go_ret
                    exact ⟨rfl, HW.out⟩
        | some L =>
            obtain rfl : AN = some L := by rw [hans, htx]
            subst ha1 ha2
            have HO := Lib.hid (fun w' p (h : Js (fun _ => False) W w' p S6 none) => h.open_some (n := 7) (by omega) hjo)
            clear hjo hdd hp1 HAN hlsb hans
            go_wp2_with (first
              | (go_at_call 23; refine (HW3.out _ _ (H6.out.keep ((Below.refl _ _).alloc (Nat.le_refl _) _)).1).mono ?_; rintro e w7 ⟨⟨er7, rfl⟩, h7⟩; have H7 := Lib.hid h7; clear h7 hcv)
              | (go_at_call 10; refine (HO.out _ _ H7.out).mono ?_; rintro e w8 ⟨jg, rfl, h8, _⟩; have H8 := Lib.hid h8; clear h8)
              | (go_at_call 24; ((with_reducible refine (Wr.open_any vs _).mono ?_); rintro e w9 ⟨rfl, h9, b9, z9⟩); have H9 : Hid (Wr.RS w9 w8.heap.size (some (bl vs))) := Lib.hid h9; have B9 := Lib.hid b9; clear h9 b9)
              | (go_at_call 25; ((with_reducible refine (HN1.out _ _ H9.out).mono ?_); rintro e w10 ⟨rfl, h10, g10⟩); have H10 := Lib.hid h10; have B10 := Lib.hid (below_grown B9.out g10 (Nat.le_refl _) (Nat.le_refl _)); clear h10 g10 H9)
              | (go_at_call 25; ((with_reducible refine (HN2.out _ _ H10.out).mono ?_); rintro e w11 ⟨rfl, h11, g11⟩); have H11 := Lib.hid h11; have B11 := Lib.hid (below_grown B10.out g11 (Nat.le_refl _) (Nat.le_refl _)); clear h11 g11)
              | (go_at_call 26; refine (HD.out _ _ H11.out).mono ?_; rintro e w12 ⟨rfl, rfl⟩)
              | (go_at_call 24; rw [← hls]; refine (Wr.open_any ls _).mono ?_; rintro e w13 ⟨rfl, h13, b13, z13⟩; have H13 : Hid (Wr.RS w13 w11.heap.size (some (bl ls))) := Lib.hid h13; have B13 := Lib.hid b13; clear h13 b13))
            go_loopw [18, 20] (fun lv iv wr => ∃ i st xs, iv = .int .i64 ((i : Nat) : Int) ∧ PrsRel w11 (bl ls) y lv wr i st xs) (fun _ iv _ => y - (intOf iv).toNat)
            case atStart => exact ⟨0, some (bl ls), [], rfl, Grow.nil _ _ _, H13.out, .inl ⟨bl ls, [], rfl, rfl, rfl, by omega⟩, Nat.zero_le _, B13.out⟩
            case round =>
              obtain ⟨i, st, xs, rfl, hR⟩ := hrel
              have HR := Lib.hid hR
              have hlen := prs_len hR
              have htl := told_le hR.told
              have hcnt := hR.cnt
              obtain ⟨A, cp, rfl⟩ := hR.row.slice
              have htold := hR.told
              have hrs := hR.rs
              have HW : Hid (Below W.heap.size W wr) := Lib.hid (next_below (next_below H8.out.below B11.out) hR.below)
              clear hR H13 B13
              cases st with
              | none =>
                rw [told_none htold hcnt] at htx
                cases htx
              | some r =>
                cases r with
                | nil =>
                  by_cases hlt : i < y
                  · rw [told_early htold hlt] at htx
                    cases htx
                  · obtain rfl : i = y := by omega
                    have hxs : xs = L := by
                      rw [told_end htold] at htx
                      injection htx
                    subst hxs
                    have HDN : Hid (∀ w', Wr.RS w' w11.heap.size (some []) → Calls Tryd.prog 26 #[Wr.ptr w11.heap.size] w' fun e w2 => e = .returned (.bool true) ∧ w' = w2) := Lib.hid fun w' h => Wr.done_some _ [] w' h
                    have HRS := Lib.hid hrs
                    have HAL := Lib.hid (H8.out.keep (next_below B11.out HR.out.below)).1.all
                    have HST : Hid (∀ w' A' c', Row w' w'.heap.size A' (strs xs) → Below wr.heap.size wr w' → Calls Tryd.prog 16 #[.slice A' xs.length c', .slice A xs.length cp] w' fun e w2 => e = .returned (.bool true) ∧ Below w'.heap.size w' w2) := Lib.hid fun w' A' c' h hb => by
                      obtain ⟨A2, c2, e2, hr2⟩ := Sls.Grow.row HR.out.row
                      injection e2 with e3 _ e4
                      subst e3 e4
                      have := Wr.sameTexts_all A' A c' cp xs xs (by omega) (by omega) w' h (hr2.lift hb)
                      rwa [decide_eq_true rfl] at this
                    rw [hlen] at HST HAL
                    clear htold hrs
                    go_wp2_with (first
                      | (go_at_call 26; refine (HDN.out _ HRS.out).mono ?_; rintro e w3 ⟨rfl, rfl⟩)
                      | (go_at_call 17; refine HAL.out.mono ?_; rintro e w14 ⟨v14, rfl, g14, b14⟩; obtain ⟨A14, c14, rfl, r14⟩ := Sls.Grow.row g14; have R14 := Lib.hid r14; have B14 := Lib.hid b14; clear g14 b14 r14)
                      | (go_at_call 16; refine (HST.out _ _ _ R14.out B14.out).mono ?_; rintro e w15 ⟨rfl, b15⟩; have B15 := Lib.hid b15; clear b15))
                    go_ret
                    exact ⟨rfl, next_below HW.out (next_below B14.out B15.out)⟩
                | cons c r =>
                  by_cases hlt : i < y
                  · have HL : Hid (∀ w', Wr.RS w' w11.heap.size (some (c :: r)) → Calls Tryd.prog 27 #[Wr.ptr w11.heap.size] w' fun e w2 => e = .returned (.int .i64 (c :: r).length) ∧ w' = w2) := Lib.hid fun w' h => Wr.left_any _ (some (c :: r)) w' h
                    have h0 : (0 : Int) < ((c :: r).length : Int) := by rw [List.length_cons]; omega
                    have hl4 : ((some (c :: r) : Wr.St).getD []).length ≤ 4611686018427387904 := by have := htl.2; omega
                    have HRS := Lib.hid hrs
                    have hi1 : i + 1 ≤ maxLen := small_max (by omega)
                    have hi2 : (i + 1) * 16 ≤ 140737488355328 := by omega
                    have HB := Lib.hid (And.intro hi1 hi2)
                    clear hi1 hi2
                    cases ht : Wr.text (c :: r) with
                    | none =>
                      have HT := Lib.hid (Wr.rtext_bad w11.heap.size (some (c :: r)) wr hrs hl4 ht)
                      have HTN := Lib.hid (told_bad htold ht (xs ++ [⟨#[]⟩]))
                      unfold str at HT
                      generalize c :: r = rr at *
                      clear htold hrs ht
                      go_wp2_with (first
                        | (go_at_call 27; refine (HL.out _ HRS.out).mono ?_; rintro e w3 ⟨rfl, rfl⟩)
                        | (go_at_call 28; refine HT.out.mono ?_; rintro e w5 ⟨rfl, h5, g5⟩; have H5 := Lib.hid h5; have G5 := Lib.hid g5; have z5 := g5.size; have R5 := Lib.hid (HR.out.row.grown g5 (.inr (fun e => by have := (HR.out.row.block _ e).1; omega))); clear h5 g5)
                        | (at_builtin; refine wpList_append_src _ rfl (.tmp 117) (.tmp 120) _ _ rfl (w11.heap.size + 1) 9 i0 _ 1 16 Tryd.underlying32 hi0 hi1 hi2 hi3 rfl (by omega) _ _ _ rfl (R5.out.alloc _) _ 1 [.string ⟨#[]⟩] rfl (Src.ofSlice _ Tryd.underlying32 ⟨w5.heap.size, 0, none⟩ 1 1 [.string ⟨#[]⟩] rfl (new_cells w5 _ [.string ⟨#[]⟩]) (by simp [Value.oneCell'])) HB.out.1 HB.out.2 (by have := HR.out.rs.inside; simp; omega) ?_; intro v6 w6b hown6 hg6 hor6))
                      go_roundw
                      case rel => exact ⟨i + 1, none, _, by simp, prs_next HR.out (by omega) G5.out H5.out HTN.out hown6 hg6⟩
                      case measure => simp [intOf]; omega
                    | some q =>
                      obtain ⟨xq, r'⟩ := q
                      have HT := Lib.hid (Wr.rtext_ok w11.heap.size (some (c :: r)) wr hrs hl4 xq r' ht)
                      have HTN := Lib.hid (told_ok htold ht)
                      unfold str at HT
                      unfold mkB at HTN
                      generalize c :: r = rr at *
                      generalize (⟨xq.toArray⟩ : ByteArray) = xb at *
                      clear htold hrs ht
                      go_wp2_with (first
                        | (go_at_call 27; refine (HL.out _ HRS.out).mono ?_; rintro e w3 ⟨rfl, rfl⟩)
                        | (go_at_call 28; refine HT.out.mono ?_; rintro e w5 ⟨rfl, h5, g5⟩; have H5 := Lib.hid h5; have G5 := Lib.hid g5; have z5 := g5.size; have R5 := Lib.hid (HR.out.row.grown g5 (.inr (fun e => by have := (HR.out.row.block _ e).1; omega))); clear h5 g5)
                        | (at_builtin; refine wpList_append_src _ rfl (.tmp 117) (.tmp 120) _ _ rfl (w11.heap.size + 1) 9 i0 _ 1 16 Tryd.underlying32 hi0 hi1 hi2 hi3 rfl (by omega) _ _ _ rfl (R5.out.alloc _) _ 1 [.string xb] rfl (Src.ofSlice _ Tryd.underlying32 ⟨w5.heap.size, 0, none⟩ 1 1 [.string xb] rfl (new_cells w5 _ [.string xb]) (by simp [Value.oneCell'])) HB.out.1 HB.out.2 (by have := HR.out.rs.inside; simp; omega) ?_; intro v6 w6b hown6 hg6 hor6))
                      go_roundw
                      case rel => exact ⟨i + 1, some r', _, by simp, prs_next HR.out (by omega) G5.out H5.out HTN.out hown6 hg6⟩
                      case measure => simp [intOf]; omega
                  · obtain rfl : i = y := by omega
                    rw [told_more htold] at htx
                    cases htx
  · have hem := not_empty (s := raw) (by omega)
    have hem2 := not_empty2 (s := raw) (by omega)
    go_upto_region 12 with (first
      | (go_at_call 7; refine HSM.out.mono ?_; rintro e w1 ⟨rfl, b1⟩; have B1 := Lib.hid b1; clear b1 HSM)
      | (go_at_call 9; refine (new_one B1.out).mono ?_; rintro e w2 ⟨p, rfl, h2⟩; have H2 := Lib.hid (Js.of h2 HOF.out); clear h2)
      | (go_at_call 23; ((with_reducible refine (HW1.out _ _ H2.out).mono ?_); rintro e w5 ⟨⟨er5, rfl⟩, h5⟩); have H5 := Lib.hid h5; clear h5)
      | (go_at_call 23; refine (HW2.out _ (by omega) _ _ H5.out).mono ?_; rintro e w6 ⟨⟨er6, rfl⟩, h6⟩; have H6 := Lib.hid h6; clear h6))
    have hvs : raw.size ≤ 300 := by omega
    generalize raw = vs at *
    clear H2 H5 hem hem2 hr0 HW1
    have hcv := conv_hand w6 vs.size hvs
    unfold str at hcv
    have HW3 : Hid (∀ w p, Js (fun _ => False) W w p ((St.new.Write 7 0 (bl log)).1.Write 8 64 (bl vs)).1 none → Calls Tryd.prog 23 #[ptr p, .int .i64 8, .int .i64 0, .string ⟨(hdr 1 vs.size).toArray⟩] w fun e w2 => (∃ er, e = .returned (.int .i64 er)) ∧ Js (fun _ => False) W w2 p (hand 7 (bl log) (bl vs)) none) := Lib.hid fun w p h => by
      have := h.write 8 0 ⟨(hdr 1 vs.size).toArray⟩ (small_max (by rw [bytes_size, hdr_len]; omega))
      refine this.mono fun e w2 ⟨he, hj, _⟩ => ⟨⟨_, he⟩, ?_⟩
      unfold hand
      rw [bl_len]
      exact hj
    generalize (⟨(hdr 1 vs.size).toArray⟩ : ByteArray) = hx at *
    obtain ⟨_, c, ha1, ha2⟩ := hand_open (f := 7) (by omega) (bl log) (bl vs) (by rw [bl_len]; omega) (by rw [bl_len]; omega)
    obtain ⟨hp1, hp2, hp3⟩ := pair_steps (bl vs)
    have HVL : Hid (((some (bl vs) : Wr.St).getD []).length ≤ 4611686018427387904) := Lib.hid (by show (bl vs).length ≤ _; rw [bl_len]; omega)
    have hnl := numSt_len (some (bl vs))
    have HN1 : Hid (∀ w g, Wr.RS w g (some (bl vs)) → Calls Tryd.prog 25 #[Wr.ptr g] w fun e w' => e = .returned (.int .i64 (numSt (some (bl vs))).1) ∧ Wr.RS w' g (numSt (some (bl vs))).2 ∧ w.grownBy w' (some g)) := Lib.hid fun w g h => num_any g _ w h HVL.out
    have HN2 : Hid (∀ w g, Wr.RS w g (numSt (some (bl vs))).2 → Calls Tryd.prog 25 #[Wr.ptr g] w fun e w' => e = .returned (.int .i64 (numSt (numSt (some (bl vs))).2).1) ∧ Wr.RS w' g (numSt (numSt (some (bl vs))).2).2 ∧ w.grownBy w' (some g)) := Lib.hid fun w g h => num_any g _ w h (Nat.le_trans hnl HVL.out)
    clear hnl HVL
    generalize numSt (some (bl vs)) = Q1 at *
    obtain ⟨x, st1⟩ := Q1
    dsimp only at HN1 HN2 hp1 hp2 hp3
    generalize numSt st1 = Q2 at *
    obtain ⟨y, st2⟩ := Q2
    dsimp only at HN2 hp1 hp3
    have HD : Hid (∀ w g, Wr.RS w g st2 → Calls Tryd.prog 26 #[Wr.ptr g] w fun e w' => e = .returned (.bool (doneV st2)) ∧ w = w') := Lib.hid fun w g h => by
      cases st2 with
      | none => exact Wr.done_none g w h
      | some l => exact Wr.done_some g l w h
    have HAN : Hid (answer (bl log) (bl vs) = (match pairOf (bl vs) with | none => none | some (b, n) => if (bl log).length < b then none else textsOf n ((bl log).take b))) := Lib.hid rfl
    rw [hp1, bl_len] at HAN
    generalize hjo : jopn (hand 7 (bl log) (bl vs)) ((7 : Nat) : Int) = JO at *
    obtain ⟨er, oj, S7⟩ := JO
    dsimp only at ha1 ha2
    generalize answer (bl log) (bl vs) = AN at *
    generalize hand 7 (bl log) (bl vs) = S6 at *
    cases hdd : doneV st2 with
    | false =>
      rw [hdd, if_neg (by simp)] at HAN
      rw [hdd] at HD
      obtain rfl : AN = none := HAN.out
      subst ha1 ha2
      have HO := Lib.hid (fun w' p (h : Js (fun _ => False) W w' p S6 none) => h.open_none (n := 7) (by omega) hjo)
      clear hjo hdd hp1 HAN
      go_wp2_with (first
        | (go_at_call 23; refine (HW3.out _ _ (H6.out.keep ((Below.refl _ _).alloc (Nat.le_refl _) _)).1).mono ?_; rintro e w7 ⟨⟨er7, rfl⟩, h7⟩; have H7 := Lib.hid h7; clear h7 hcv)
        | (go_at_call 10; refine (HO.out _ _ H7.out).mono ?_; rintro e w8 ⟨rfl, h8, _⟩; have H8 := Lib.hid h8; clear h8)
        | (go_at_call 24; refine (Wr.open_any vs _).mono ?_; rintro e w9 ⟨rfl, h9, b9, z9⟩; have H9 : Hid (Wr.RS w9 w8.heap.size (some (bl vs))) := Lib.hid h9; have B9 := Lib.hid b9; clear h9 b9)
        | (go_at_call 25; ((with_reducible refine (HN1.out _ _ H9.out).mono ?_); rintro e w10 ⟨rfl, h10, g10⟩); have H10 := Lib.hid h10; have B10 := Lib.hid (below_grown B9.out g10 (Nat.le_refl _) (Nat.le_refl _)); clear h10 g10 H9)
        | (go_at_call 25; ((with_reducible refine (HN2.out _ _ H10.out).mono ?_); rintro e w11 ⟨rfl, h11, g11⟩); have H11 := Lib.hid h11; have B11 := Lib.hid (below_grown B10.out g11 (Nat.le_refl _) (Nat.le_refl _)); clear h11 g11)
        | (go_at_call 26; refine (HD.out _ _ H11.out).mono ?_; rintro e w12 ⟨rfl, rfl⟩))
      go_ret
      exact ⟨rfl, next_below H8.out.below B11.out⟩
    | true =>
      rw [hdd, if_pos rfl] at HAN
      rw [hdd] at HD
      by_cases hxl : log.size < x
      · obtain rfl : AN = none := by rw [HAN.out]; show (if log.size < x then _ else _) = _; rw [if_pos hxl]
        subst ha1 ha2
        have HO := Lib.hid (fun w' p (h : Js (fun _ => False) W w' p S6 none) => h.open_none (n := 7) (by omega) hjo)
        have hxi : ¬ (x : Int) ≤ log.size := by omega
        clear hjo hdd hp1 HAN
        go_wp2_with (first
          | (go_at_call 23; refine (HW3.out _ _ (H6.out.keep ((Below.refl _ _).alloc (Nat.le_refl _) _)).1).mono ?_; rintro e w7 ⟨⟨er7, rfl⟩, h7⟩; have H7 := Lib.hid h7; clear h7 hcv)
          | (go_at_call 10; refine (HO.out _ _ H7.out).mono ?_; rintro e w8 ⟨rfl, h8, _⟩; have H8 := Lib.hid h8; clear h8)
          | (go_at_call 24; refine (Wr.open_any vs _).mono ?_; rintro e w9 ⟨rfl, h9, b9, z9⟩; have H9 : Hid (Wr.RS w9 w8.heap.size (some (bl vs))) := Lib.hid h9; have B9 := Lib.hid b9; clear h9 b9)
          | (go_at_call 25; ((with_reducible refine (HN1.out _ _ H9.out).mono ?_); rintro e w10 ⟨rfl, h10, g10⟩); have H10 := Lib.hid h10; have B10 := Lib.hid (below_grown B9.out g10 (Nat.le_refl _) (Nat.le_refl _)); clear h10 g10 H9)
          | (go_at_call 25; ((with_reducible refine (HN2.out _ _ H10.out).mono ?_); rintro e w11 ⟨rfl, h11, g11⟩); have H11 := Lib.hid h11; have B11 := Lib.hid (below_grown B10.out g11 (Nat.le_refl _) (Nat.le_refl _)); clear h11 g11)
          | (go_at_call 26; refine (HD.out _ _ H11.out).mono ?_; rintro e w12 ⟨rfl, rfl⟩))
        go_ret
        exact ⟨rfl, next_below H8.out.below B11.out⟩
      · have hxi : (x : Int) ≤ log.size := by omega
        obtain ⟨ls, hls⟩ : ∃ ls, ls = log.extract 0 x := ⟨_, rfl⟩
        have hlsb : bl ls = (bl log).take x := by
          rw [hls]
          obtain ⟨⟨l⟩⟩ := log
          show bl (ByteArray.extract ⟨l.toArray⟩ 0 x) = _
          rw [bytes_extract, bl_mk]
          rfl
        have hans : AN = textsOf y (bl ls) := by rw [HAN.out, hlsb]; show (if log.size < x then _ else _) = _; rw [if_neg hxl]
        have hlsl : (bl ls).length ≤ 300 := by rw [hlsb, List.length_take, bl_len]; omega
        cases htx : textsOf y (bl ls) with
        | none =>
            obtain rfl : AN = none := by rw [hans, htx]
            subst ha1 ha2
            have HO := Lib.hid (fun w' p (h : Js (fun _ => False) W w' p S6 none) => h.open_none (n := 7) (by omega) hjo)
            clear hjo hdd hp1 HAN hlsb hans
            go_wp2_with (first
              | (go_at_call 23; refine (HW3.out _ _ (H6.out.keep ((Below.refl _ _).alloc (Nat.le_refl _) _)).1).mono ?_; rintro e w7 ⟨⟨er7, rfl⟩, h7⟩; have H7 := Lib.hid h7; clear h7 hcv)
              | (go_at_call 10; refine (HO.out _ _ H7.out).mono ?_; rintro e w8 ⟨rfl, h8, _⟩; have H8 := Lib.hid h8; clear h8)
              | (go_at_call 24; ((with_reducible refine (Wr.open_any vs _).mono ?_); rintro e w9 ⟨rfl, h9, b9, z9⟩); have H9 : Hid (Wr.RS w9 w8.heap.size (some (bl vs))) := Lib.hid h9; have B9 := Lib.hid b9; clear h9 b9)
              | (go_at_call 25; ((with_reducible refine (HN1.out _ _ H9.out).mono ?_); rintro e w10 ⟨rfl, h10, g10⟩); have H10 := Lib.hid h10; have B10 := Lib.hid (below_grown B9.out g10 (Nat.le_refl _) (Nat.le_refl _)); clear h10 g10 H9)
              | (go_at_call 25; ((with_reducible refine (HN2.out _ _ H10.out).mono ?_); rintro e w11 ⟨rfl, h11, g11⟩); have H11 := Lib.hid h11; have B11 := Lib.hid (below_grown B10.out g11 (Nat.le_refl _) (Nat.le_refl _)); clear h11 g11)
              | (go_at_call 26; refine (HD.out _ _ H11.out).mono ?_; rintro e w12 ⟨rfl, rfl⟩)
              | (go_at_call 24; rw [← hls]; refine (Wr.open_any ls _).mono ?_; rintro e w13 ⟨rfl, h13, b13, z13⟩; have H13 : Hid (Wr.RS w13 w11.heap.size (some (bl ls))) := Lib.hid h13; have B13 := Lib.hid b13; clear h13 b13))
            go_loopw [18, 20] (fun lv iv wr => ∃ i st xs, iv = .int .i64 ((i : Nat) : Int) ∧ PrsRel w11 (bl ls) y lv wr i st xs) (fun _ iv _ => y - (intOf iv).toNat)
            case atStart => exact ⟨0, some (bl ls), [], rfl, Grow.nil _ _ _, H13.out, .inl ⟨bl ls, [], rfl, rfl, rfl, by omega⟩, Nat.zero_le _, B13.out⟩
            case round =>
              obtain ⟨i, st, xs, rfl, hR⟩ := hrel
              have HR := Lib.hid hR
              have hlen := prs_len hR
              have htl := told_le hR.told
              have hcnt := hR.cnt
              obtain ⟨A, cp, rfl⟩ := hR.row.slice
              have htold := hR.told
              have hrs := hR.rs
              have HW : Hid (Below W.heap.size W wr) := Lib.hid (next_below (next_below H8.out.below B11.out) hR.below)
              clear hR H13 B13
              cases st with
              | none =>
                have HL : Hid (∀ w', Wr.RS w' w11.heap.size none → Calls Tryd.prog 27 #[Wr.ptr w11.heap.size] w' fun e w2 => e = .returned (.int .i64 0) ∧ w' = w2) := Lib.hid fun w' h => Wr.left_any _ none w' h
                have HDN := Lib.hid (fun w' h => Wr.done_none w11.heap.size w' h)
                have HRS := Lib.hid hrs
                clear htold hrs
                by_cases hlt : i < y
                all_goals
                  go_wp2_with (first
                    | (go_at_call 27; refine (HL.out _ HRS.out).mono ?_; rintro e w3 ⟨rfl, rfl⟩)
                    | (go_at_call 26; refine (HDN.out _ HRS.out).mono ?_; rintro e w3 ⟨rfl, rfl⟩))
                  go_ret
                  exact ⟨rfl, HW.out⟩
              | some r =>
                cases r with
                | nil =>
                  have HL : Hid (∀ w', Wr.RS w' w11.heap.size (some []) → Calls Tryd.prog 27 #[Wr.ptr w11.heap.size] w' fun e w2 => e = .returned (.int .i64 0) ∧ w' = w2) := Lib.hid fun w' h => Wr.left_any _ (some []) w' h
                  have HDN : Hid (∀ w', Wr.RS w' w11.heap.size (some []) → Calls Tryd.prog 26 #[Wr.ptr w11.heap.size] w' fun e w2 => e = .returned (.bool true) ∧ w' = w2) := Lib.hid fun w' h => Wr.done_some _ [] w' h
                  have HRS := Lib.hid hrs
                  by_cases hlt : i < y
                  · have hq : ((i : Int) == (y : Int)) = false := beq_eq_false_iff_ne.2 (by omega)
                    clear htold hrs
                    go_wp2_with (first
                      | (go_at_call 27; refine (HL.out _ HRS.out).mono ?_; rintro e w3 ⟨rfl, rfl⟩)
                      | (go_at_call 26; refine (HDN.out _ HRS.out).mono ?_; rintro e w3 ⟨rfl, rfl⟩))
                    go_ret
                    exact ⟨rfl, HW.out⟩
                  · obtain rfl : i = y := by omega
                    rw [told_end htold] at htx
                    cases htx
                | cons c r =>
                  by_cases hlt : i < y
                  · have HL : Hid (∀ w', Wr.RS w' w11.heap.size (some (c :: r)) → Calls Tryd.prog 27 #[Wr.ptr w11.heap.size] w' fun e w2 => e = .returned (.int .i64 (c :: r).length) ∧ w' = w2) := Lib.hid fun w' h => Wr.left_any _ (some (c :: r)) w' h
                    have h0 : (0 : Int) < ((c :: r).length : Int) := by rw [List.length_cons]; omega
                    have hl4 : ((some (c :: r) : Wr.St).getD []).length ≤ 4611686018427387904 := by have := htl.2; omega
                    have HRS := Lib.hid hrs
                    have hi1 : i + 1 ≤ maxLen := small_max (by omega)
                    have hi2 : (i + 1) * 16 ≤ 140737488355328 := by omega
                    have HB := Lib.hid (And.intro hi1 hi2)
                    clear hi1 hi2
                    cases ht : Wr.text (c :: r) with
                    | none =>
                      have HT := Lib.hid (Wr.rtext_bad w11.heap.size (some (c :: r)) wr hrs hl4 ht)
                      have HTN := Lib.hid (told_bad htold ht (xs ++ [⟨#[]⟩]))
                      unfold str at HT
                      generalize c :: r = rr at *
                      clear htold hrs ht
                      go_wp2_with (first
                        | (go_at_call 27; refine (HL.out _ HRS.out).mono ?_; rintro e w3 ⟨rfl, rfl⟩)
                        | (go_at_call 28; refine HT.out.mono ?_; rintro e w5 ⟨rfl, h5, g5⟩; have H5 := Lib.hid h5; have G5 := Lib.hid g5; have z5 := g5.size; have R5 := Lib.hid (HR.out.row.grown g5 (.inr (fun e => by have := (HR.out.row.block _ e).1; omega))); clear h5 g5)
                        | (at_builtin; refine wpList_append_src _ rfl (.tmp 117) (.tmp 120) _ _ rfl (w11.heap.size + 1) 9 i0 _ 1 16 Tryd.underlying32 hi0 hi1 hi2 hi3 rfl (by omega) _ _ _ rfl (R5.out.alloc _) _ 1 [.string ⟨#[]⟩] rfl (Src.ofSlice _ Tryd.underlying32 ⟨w5.heap.size, 0, none⟩ 1 1 [.string ⟨#[]⟩] rfl (new_cells w5 _ [.string ⟨#[]⟩]) (by simp [Value.oneCell'])) HB.out.1 HB.out.2 (by have := HR.out.rs.inside; simp; omega) ?_; intro v6 w6b hown6 hg6 hor6))
                      go_roundw
                      case rel => exact ⟨i + 1, none, _, by simp, prs_next HR.out (by omega) G5.out H5.out HTN.out hown6 hg6⟩
                      case measure => simp [intOf]; omega
                    | some q =>
                      obtain ⟨xq, r'⟩ := q
                      have HT := Lib.hid (Wr.rtext_ok w11.heap.size (some (c :: r)) wr hrs hl4 xq r' ht)
                      have HTN := Lib.hid (told_ok htold ht)
                      unfold str at HT
                      unfold mkB at HTN
                      generalize c :: r = rr at *
                      generalize (⟨xq.toArray⟩ : ByteArray) = xb at *
                      clear htold hrs ht
                      go_wp2_with (first
                        | (go_at_call 27; refine (HL.out _ HRS.out).mono ?_; rintro e w3 ⟨rfl, rfl⟩)
                        | (go_at_call 28; refine HT.out.mono ?_; rintro e w5 ⟨rfl, h5, g5⟩; have H5 := Lib.hid h5; have G5 := Lib.hid g5; have z5 := g5.size; have R5 := Lib.hid (HR.out.row.grown g5 (.inr (fun e => by have := (HR.out.row.block _ e).1; omega))); clear h5 g5)
                        | (at_builtin; refine wpList_append_src _ rfl (.tmp 117) (.tmp 120) _ _ rfl (w11.heap.size + 1) 9 i0 _ 1 16 Tryd.underlying32 hi0 hi1 hi2 hi3 rfl (by omega) _ _ _ rfl (R5.out.alloc _) _ 1 [.string xb] rfl (Src.ofSlice _ Tryd.underlying32 ⟨w5.heap.size, 0, none⟩ 1 1 [.string xb] rfl (new_cells w5 _ [.string xb]) (by simp [Value.oneCell'])) HB.out.1 HB.out.2 (by have := HR.out.rs.inside; simp; omega) ?_; intro v6 w6b hown6 hg6 hor6))
                      go_roundw
                      case rel => exact ⟨i + 1, some r', _, by simp, prs_next HR.out (by omega) G5.out H5.out HTN.out hown6 hg6⟩
                      case measure => simp [intOf]; omega
                  · have HDN : Hid (∀ w', Wr.RS w' w11.heap.size (some (c :: r)) → Calls Tryd.prog 26 #[Wr.ptr w11.heap.size] w' fun e w2 => e = .returned (.bool false) ∧ w' = w2) := Lib.hid fun w' h => Wr.done_some _ (c :: r) w' h
                    have HRS := Lib.hid hrs
                    generalize c :: r = rr at *
                    clear htold hrs
                    go_wp2_with (go_at_call 26; refine (HDN.out _ HRS.out).mono ?_; rintro e w3 ⟨rfl, rfl⟩)
                    go_ret
                    exact ⟨rfl, HW.out⟩
        | some L =>
            obtain rfl : AN = some L := by rw [hans, htx]
            subst ha1 ha2
            have HO := Lib.hid (fun w' p (h : Js (fun _ => False) W w' p S6 none) => h.open_some (n := 7) (by omega) hjo)
            clear hjo hdd hp1 HAN hlsb hans
            go_wp2_with (first
              | (go_at_call 23; refine (HW3.out _ _ (H6.out.keep ((Below.refl _ _).alloc (Nat.le_refl _) _)).1).mono ?_; rintro e w7 ⟨⟨er7, rfl⟩, h7⟩; have H7 := Lib.hid h7; clear h7 hcv)
              | (go_at_call 10; refine (HO.out _ _ H7.out).mono ?_; rintro e w8 ⟨jg, rfl, h8, _⟩; have H8 := Lib.hid h8; clear h8)
              | (go_at_call 24; ((with_reducible refine (Wr.open_any vs _).mono ?_); rintro e w9 ⟨rfl, h9, b9, z9⟩); have H9 : Hid (Wr.RS w9 w8.heap.size (some (bl vs))) := Lib.hid h9; have B9 := Lib.hid b9; clear h9 b9)
              | (go_at_call 25; ((with_reducible refine (HN1.out _ _ H9.out).mono ?_); rintro e w10 ⟨rfl, h10, g10⟩); have H10 := Lib.hid h10; have B10 := Lib.hid (below_grown B9.out g10 (Nat.le_refl _) (Nat.le_refl _)); clear h10 g10 H9)
              | (go_at_call 25; ((with_reducible refine (HN2.out _ _ H10.out).mono ?_); rintro e w11 ⟨rfl, h11, g11⟩); have H11 := Lib.hid h11; have B11 := Lib.hid (below_grown B10.out g11 (Nat.le_refl _) (Nat.le_refl _)); clear h11 g11)
              | (go_at_call 26; refine (HD.out _ _ H11.out).mono ?_; rintro e w12 ⟨rfl, rfl⟩)
              | (go_at_call 24; rw [← hls]; refine (Wr.open_any ls _).mono ?_; rintro e w13 ⟨rfl, h13, b13, z13⟩; have H13 : Hid (Wr.RS w13 w11.heap.size (some (bl ls))) := Lib.hid h13; have B13 := Lib.hid b13; clear h13 b13))
            go_loopw [18, 20] (fun lv iv wr => ∃ i st xs, iv = .int .i64 ((i : Nat) : Int) ∧ PrsRel w11 (bl ls) y lv wr i st xs) (fun _ iv _ => y - (intOf iv).toNat)
            case atStart => exact ⟨0, some (bl ls), [], rfl, Grow.nil _ _ _, H13.out, .inl ⟨bl ls, [], rfl, rfl, rfl, by omega⟩, Nat.zero_le _, B13.out⟩
            case round =>
              obtain ⟨i, st, xs, rfl, hR⟩ := hrel
              have HR := Lib.hid hR
              have hlen := prs_len hR
              have htl := told_le hR.told
              have hcnt := hR.cnt
              obtain ⟨A, cp, rfl⟩ := hR.row.slice
              have htold := hR.told
              have hrs := hR.rs
              have HW : Hid (Below W.heap.size W wr) := Lib.hid (next_below (next_below H8.out.below B11.out) hR.below)
              clear hR H13 B13
              cases st with
              | none =>
                rw [told_none htold hcnt] at htx
                cases htx
              | some r =>
                cases r with
                | nil =>
                  by_cases hlt : i < y
                  · rw [told_early htold hlt] at htx
                    cases htx
                  · obtain rfl : i = y := by omega
                    have hxs : xs = L := by
                      rw [told_end htold] at htx
                      injection htx
                    subst hxs
                    have HDN : Hid (∀ w', Wr.RS w' w11.heap.size (some []) → Calls Tryd.prog 26 #[Wr.ptr w11.heap.size] w' fun e w2 => e = .returned (.bool true) ∧ w' = w2) := Lib.hid fun w' h => Wr.done_some _ [] w' h
                    have HRS := Lib.hid hrs
                    have HAL := Lib.hid (H8.out.keep (next_below B11.out HR.out.below)).1.all
                    have HST : Hid (∀ w' A' c', Row w' w'.heap.size A' (strs xs) → Below wr.heap.size wr w' → Calls Tryd.prog 16 #[.slice A' xs.length c', .slice A xs.length cp] w' fun e w2 => e = .returned (.bool true) ∧ Below w'.heap.size w' w2) := Lib.hid fun w' A' c' h hb => by
                      obtain ⟨A2, c2, e2, hr2⟩ := Sls.Grow.row HR.out.row
                      injection e2 with e3 _ e4
                      subst e3 e4
                      have := Wr.sameTexts_all A' A c' cp xs xs (by omega) (by omega) w' h (hr2.lift hb)
                      rwa [decide_eq_true rfl] at this
                    rw [hlen] at HST HAL
                    clear htold hrs
                    go_wp2_with (first
                      | (go_at_call 26; refine (HDN.out _ HRS.out).mono ?_; rintro e w3 ⟨rfl, rfl⟩)
                      | (go_at_call 17; refine HAL.out.mono ?_; rintro e w14 ⟨v14, rfl, g14, b14⟩; obtain ⟨A14, c14, rfl, r14⟩ := Sls.Grow.row g14; have R14 := Lib.hid r14; have B14 := Lib.hid b14; clear g14 b14 r14)
                      | (go_at_call 16; refine (HST.out _ _ _ R14.out B14.out).mono ?_; rintro e w15 ⟨rfl, b15⟩; have B15 := Lib.hid b15; clear b15))
                    go_ret
                    exact ⟨rfl, next_below HW.out (next_below B14.out B15.out)⟩
                | cons c r =>
                  by_cases hlt : i < y
                  · have HL : Hid (∀ w', Wr.RS w' w11.heap.size (some (c :: r)) → Calls Tryd.prog 27 #[Wr.ptr w11.heap.size] w' fun e w2 => e = .returned (.int .i64 (c :: r).length) ∧ w' = w2) := Lib.hid fun w' h => Wr.left_any _ (some (c :: r)) w' h
                    have h0 : (0 : Int) < ((c :: r).length : Int) := by rw [List.length_cons]; omega
                    have hl4 : ((some (c :: r) : Wr.St).getD []).length ≤ 4611686018427387904 := by have := htl.2; omega
                    have HRS := Lib.hid hrs
                    have hi1 : i + 1 ≤ maxLen := small_max (by omega)
                    have hi2 : (i + 1) * 16 ≤ 140737488355328 := by omega
                    have HB := Lib.hid (And.intro hi1 hi2)
                    clear hi1 hi2
                    cases ht : Wr.text (c :: r) with
                    | none =>
                      have HT := Lib.hid (Wr.rtext_bad w11.heap.size (some (c :: r)) wr hrs hl4 ht)
                      have HTN := Lib.hid (told_bad htold ht (xs ++ [⟨#[]⟩]))
                      unfold str at HT
                      generalize c :: r = rr at *
                      clear htold hrs ht
                      go_wp2_with (first
                        | (go_at_call 27; refine (HL.out _ HRS.out).mono ?_; rintro e w3 ⟨rfl, rfl⟩)
                        | (go_at_call 28; refine HT.out.mono ?_; rintro e w5 ⟨rfl, h5, g5⟩; have H5 := Lib.hid h5; have G5 := Lib.hid g5; have z5 := g5.size; have R5 := Lib.hid (HR.out.row.grown g5 (.inr (fun e => by have := (HR.out.row.block _ e).1; omega))); clear h5 g5)
                        | (at_builtin; refine wpList_append_src _ rfl (.tmp 117) (.tmp 120) _ _ rfl (w11.heap.size + 1) 9 i0 _ 1 16 Tryd.underlying32 hi0 hi1 hi2 hi3 rfl (by omega) _ _ _ rfl (R5.out.alloc _) _ 1 [.string ⟨#[]⟩] rfl (Src.ofSlice _ Tryd.underlying32 ⟨w5.heap.size, 0, none⟩ 1 1 [.string ⟨#[]⟩] rfl (new_cells w5 _ [.string ⟨#[]⟩]) (by simp [Value.oneCell'])) HB.out.1 HB.out.2 (by have := HR.out.rs.inside; simp; omega) ?_; intro v6 w6b hown6 hg6 hor6))
                      go_roundw
                      case rel => exact ⟨i + 1, none, _, by simp, prs_next HR.out (by omega) G5.out H5.out HTN.out hown6 hg6⟩
                      case measure => simp [intOf]; omega
                    | some q =>
                      obtain ⟨xq, r'⟩ := q
                      have HT := Lib.hid (Wr.rtext_ok w11.heap.size (some (c :: r)) wr hrs hl4 xq r' ht)
                      have HTN := Lib.hid (told_ok htold ht)
                      unfold str at HT
                      unfold mkB at HTN
                      generalize c :: r = rr at *
                      generalize (⟨xq.toArray⟩ : ByteArray) = xb at *
                      clear htold hrs ht
                      go_wp2_with (first
                        | (go_at_call 27; refine (HL.out _ HRS.out).mono ?_; rintro e w3 ⟨rfl, rfl⟩)
                        | (go_at_call 28; refine HT.out.mono ?_; rintro e w5 ⟨rfl, h5, g5⟩; have H5 := Lib.hid h5; have G5 := Lib.hid g5; have z5 := g5.size; have R5 := Lib.hid (HR.out.row.grown g5 (.inr (fun e => by have := (HR.out.row.block _ e).1; omega))); clear h5 g5)
                        | (at_builtin; refine wpList_append_src _ rfl (.tmp 117) (.tmp 120) _ _ rfl (w11.heap.size + 1) 9 i0 _ 1 16 Tryd.underlying32 hi0 hi1 hi2 hi3 rfl (by omega) _ _ _ rfl (R5.out.alloc _) _ 1 [.string xb] rfl (Src.ofSlice _ Tryd.underlying32 ⟨w5.heap.size, 0, none⟩ 1 1 [.string xb] rfl (new_cells w5 _ [.string xb]) (by simp [Value.oneCell'])) HB.out.1 HB.out.2 (by have := HR.out.rs.inside; simp; omega) ?_; intro v6 w6b hown6 hg6 hor6))
                      go_roundw
                      case rel => exact ⟨i + 1, some r', _, by simp, prs_next HR.out (by omega) G5.out H5.out HTN.out hown6 hg6⟩
                      case measure => simp [intOf]; omega
                  · obtain rfl : i = y := by omega
                    rw [told_more htold] at htx
                    cases htx
end Dsk
end Go.Proofs.YtpogoalbnbekaaaDoor

import Derived.Test.YtionidjhfcmgiaaReadsN
namespace Go.Proofs.Ytionidjhfcmgiaa
open Go.RowKit
set_option linter.unusedVariables false
set_option linter.unusedSimpArgs false
namespace Wire

structure RdRel (w : World) (g h n : Nat) (iv : Value) (wr : World) (i : Nat) (st : St) : Prop where
  iv : iv = .int .i64 i
  le : i ≤ n
  rs : RS wr g st
  qs : QS wr h st
  short : (st.getD []).length ≤ 400
  below : Below w.heap.size w wr

theorem short_num {l : List UInt8} (h : l.length ≤ 400) : ((stOf (num 59 l)).getD []).length ≤ 400 := stOf_short fun a r e => by have := num_short e; omega
theorem short_int {l : List UInt8} (h : l.length ≤ 400) : ((stOf (int l)).getD []).length ≤ 400 := stOf_short fun a r e => by have := int_short e; omega
theorem short_text {l : List UInt8} (h : l.length ≤ 400) : ((stOf (text l)).getD []).length ≤ 400 := stOf_short fun a r e => by have := text_short e; omega
theorem short_nums {l : List UInt8} (h : l.length ≤ 400) : ((stOf (list int l)).getD []).length ≤ 400 := stOf_short fun a r e => by have := (list_short (fun _ _ _ => int_short) e).1; omega
theorem short_texts {l : List UInt8} (h : l.length ≤ 400) : ((stOf (list text l)).getD []).length ≤ 400 := stOf_short fun a r e => by have := (list_short (fun _ _ _ => text_short) e).1; omega

set_option maxRecDepth 100000 in
set_option maxHeartbeats 8000000 in
theorem reads_any (l : List UInt8) (hm : l.length ≤ 9223372036854775807) (A : Option Addr) (c : Nat) (zs : List Int) (hz : ∀ z ∈ zs, Fits z) (w : World) (hrow : Row w w.heap.size A (zs.map (Value.int .i64))) :
    Calls Try.prog 4 #[str l, .slice A zs.length c] w fun e w' => e = .returned (.bool true) ∧ Below w.heap.size w w' := by
  have HZ := Lib.hid hrow
  have HF := Lib.hid hz
  clear hrow hz
  by_cases hl : l.length ≤ 400
  · by_cases hn : zs.length ≤ 20
    · go_enter Try.func4, Try.ntmps4
      go_wp2_with (first
        | (go_at_call 9; refine (small_any _).mono ?_; rintro e w1 ⟨rfl, b1⟩; have B1 := Lib.hid b1; clear b1)
        | (go_at_call 21; refine (open_any _ _).mono ?_; rintro e w2 ⟨rfl, r2, b2, z2⟩; have R2 : Hid (RS w2 w1.heap.size (some l)) := r2; have B2 := Lib.hid (next_below B1.out b2); have Z2 := Lib.hid z2; clear r2 b2 z2)
        | (go_at_call 22; refine (qopen_any _ _).mono ?_; rintro e w3 ⟨rfl, r3, b3, z3⟩; have Q3 : Hid (QS w3 w2.heap.size (some l)) := r3; have R3 := Lib.hid (R2.out.below b3); have B3 := Lib.hid (next_below B2.out b3); clear r3 b3 z3))
      have hgB : w.heap.size ≤ w1.heap.size := B1.out.size
      have hhB : w.heap.size ≤ w2.heap.size := B2.out.size
      have hgh : w1.heap.size < w2.heap.size := by have := Z2.out; omega
      clear Z2 R2 B2 B1
      generalize w1.heap.size = g at *
      generalize w2.heap.size = h at *
      have hne : g ≠ h := by omega
      have hne' : h ≠ g := by omega
      go_loopw [8] (fun iv wr => ∃ i st, RdRel w g h zs.length iv wr i st) (fun iv _ => zs.length - (intOf iv).toNat)
      case atStart => exact ⟨0, some l, rfl, Nat.zero_le _, R3.out, Q3.out, hl, B3.out⟩
      case round =>
        clear R3 Q3 B3
        obtain ⟨i, st, ⟨rfl, hi, hrs, hqs, hshort, hbel⟩⟩ := hrel
        obtain ⟨wa, rfl⟩ : ∃ wa : World, wa = wr := ⟨_, rfl⟩
        have HR := Lib.hid hrs
        have HQ := Lib.hid hqs
        have HS := Lib.hid hshort
        have HB := Lib.hid hbel
        by_cases hlt : i < zs.length
        · obtain ⟨b, o, rfl, hbz, hcz⟩ := HZ.out i (.int .i64 zs[i]) (by rw [List.getElem?_map, List.getElem?_eq_getElem hlt]; rfl)
          have hcw : wa.cell? ⟨b, o + i, none⟩ = some (.int .i64 zs[i]) := (hbel.cell (p := ⟨b, o + i, none⟩) hbz).trans hcz
          have HK : Hid (Fits zs[i]) := HF.out _ (List.getElem_mem hlt)
          clear hrs hqs hshort hbel hcz
          generalize zs[i] = k at *
          rcases kd_range k with hd | hd | hd | hd | hd
          · have HD := Lib.hid hd
            have HN := Lib.hid (short_num HS.out)
            clear hd
            go_wp2_with (first
              | (go_at_call 23; refine (kind_any _ _ _ _ _ _ _ _ _ HK.out 0 HD.out _).mono ?_; rintro e w4 ⟨rfl, b4⟩; have R4 := Lib.hid (HR.out.below b4); have Q4 := Lib.hid (HQ.out.below b4); have B4 := Lib.hid (next_below HB.out b4); clear b4)
              | (go_at_call 24; refine (rnum_all g st _ R4.out HS.out).mono ?_; rintro e w5 ⟨rfl, r5, g5⟩; have R5 := Lib.hid r5; have Q5 := Lib.hid (Q4.out.past g5 hne'); have B5 := Lib.hid (B4.out.trans (grown_below g5 hgB B4.out.size)); clear r5 g5)
              | (go_at_call 25; refine (qnum_all h st _ Q5.out HS.out).mono ?_; rintro e w6 ⟨rfl, q6, g6⟩; have Q6 := Lib.hid q6; have R6 := Lib.hid (R5.out.past g6 hne); have B6 := Lib.hid (B5.out.trans (grown_below g6 hhB B5.out.size)); clear q6 g6)
              | (go_at_call 36; refine (left_any g _ _ R6.out).mono ?_; rintro e w' ⟨rfl, rfl⟩)
              | (go_at_call 37; refine (qleft_any h _ _ Q6.out).mono ?_; rintro e w' ⟨rfl, rfl⟩)
              | (go_at_call 38; refine (done_all g _ _ R6.out).mono ?_; rintro e w' ⟨rfl, rfl⟩)
              | (go_at_call 39; refine (qdone_all h _ _ Q6.out).mono ?_; rintro e w' ⟨rfl, rfl⟩))
            go_roundw
            case rel => exact ⟨i + 1, _, by simp, hlt, R6.out, Q6.out, HN.out, B6.out⟩
            case measure => simp [intOf]; omega
          · have HD := Lib.hid hd
            have HN := Lib.hid (short_int HS.out)
            clear hd
            go_wp2_with (first
              | (go_at_call 23; refine (kind_any _ _ _ _ _ _ _ _ _ HK.out 1 HD.out _).mono ?_; rintro e w4 ⟨rfl, b4⟩; have R4 := Lib.hid (HR.out.below b4); have Q4 := Lib.hid (HQ.out.below b4); have B4 := Lib.hid (next_below HB.out b4); clear b4)
              | (go_at_call 26; refine (rint_all g st _ R4.out HS.out).mono ?_; rintro e w5 ⟨rfl, r5, g5⟩; have R5 := Lib.hid r5; have Q5 := Lib.hid (Q4.out.past g5 hne'); have B5 := Lib.hid (B4.out.trans (grown_below g5 hgB B4.out.size)); clear r5 g5)
              | (go_at_call 27; refine (qint_all h st _ Q5.out HS.out).mono ?_; rintro e w6 ⟨rfl, q6, g6⟩; have Q6 := Lib.hid q6; have R6 := Lib.hid (R5.out.past g6 hne); have B6 := Lib.hid (B5.out.trans (grown_below g6 hhB B5.out.size)); clear q6 g6)
              | (go_at_call 36; refine (left_any g _ _ R6.out).mono ?_; rintro e w' ⟨rfl, rfl⟩)
              | (go_at_call 37; refine (qleft_any h _ _ Q6.out).mono ?_; rintro e w' ⟨rfl, rfl⟩)
              | (go_at_call 38; refine (done_all g _ _ R6.out).mono ?_; rintro e w' ⟨rfl, rfl⟩)
              | (go_at_call 39; refine (qdone_all h _ _ Q6.out).mono ?_; rintro e w' ⟨rfl, rfl⟩))
            go_roundw
            case rel => exact ⟨i + 1, _, by simp, hlt, R6.out, Q6.out, HN.out, B6.out⟩
            case measure => simp [intOf]; omega
          · have HD := Lib.hid hd
            have HN := Lib.hid (short_text HS.out)
            clear hd
            go_wp2_with (first
              | (go_at_call 23; refine (kind_any _ _ _ _ _ _ _ _ _ HK.out 2 HD.out _).mono ?_; rintro e w4 ⟨rfl, b4⟩; have R4 := Lib.hid (HR.out.below b4); have Q4 := Lib.hid (HQ.out.below b4); have B4 := Lib.hid (next_below HB.out b4); clear b4)
              | (go_at_call 28; refine (rtext_all g st _ R4.out HS.out).mono ?_; rintro e w5 ⟨rfl, r5, g5⟩; have R5 := Lib.hid r5; have Q5 := Lib.hid (Q4.out.past g5 hne'); have B5 := Lib.hid (B4.out.trans (grown_below g5 hgB B4.out.size)); clear r5 g5)
              | (go_at_call 29; refine (qtext_all h st _ Q5.out HS.out).mono ?_; rintro e w6 ⟨rfl, q6, g6⟩; have Q6 := Lib.hid q6; have R6 := Lib.hid (R5.out.past g6 hne); have B6 := Lib.hid (B5.out.trans (grown_below g6 hhB B5.out.size)); clear q6 g6)
              | (go_at_call 36; refine (left_any g _ _ R6.out).mono ?_; rintro e w' ⟨rfl, rfl⟩)
              | (go_at_call 37; refine (qleft_any h _ _ Q6.out).mono ?_; rintro e w' ⟨rfl, rfl⟩)
              | (go_at_call 38; refine (done_all g _ _ R6.out).mono ?_; rintro e w' ⟨rfl, rfl⟩)
              | (go_at_call 39; refine (qdone_all h _ _ Q6.out).mono ?_; rintro e w' ⟨rfl, rfl⟩))
            go_roundw
            case rel => exact ⟨i + 1, _, by simp, hlt, R6.out, Q6.out, HN.out, B6.out⟩
            case measure => simp [intOf]; omega
          · have HD := Lib.hid hd
            have HN := Lib.hid (short_nums HS.out)
            clear hd
            go_wp2_with (first
              | (go_at_call 23; refine (kind_any _ _ _ _ _ _ _ _ _ HK.out 3 HD.out _).mono ?_; rintro e w4 ⟨rfl, b4⟩; have R4 := Lib.hid (HR.out.below b4); have Q4 := Lib.hid (HQ.out.below b4); have B4 := Lib.hid (next_below HB.out b4); clear b4)
              | (go_at_call 31; refine (rnums_all g st _ R4.out HS.out).mono ?_; rintro e w5 ⟨A1, c1, rfl, row5, up5, r5, g5⟩; have W5 := Lib.hid row5; have U5 := Lib.hid up5; have L5 : Hid (h < w4.heap.size) := Q4.out.inside; have R5 := Lib.hid r5; have Q5 := Lib.hid (Q4.out.past g5 hne'); have B5 := Lib.hid (B4.out.trans (grown_below g5 hgB B4.out.size)); clear r5 g5 row5 up5)
              | (go_at_call 32; refine (qnums_all h st _ Q5.out HS.out).mono ?_; rintro e w6 ⟨A2, c2, rfl, row6, q6, g6⟩; have W6 := Lib.hid row6; have V6 := Lib.hid (W5.out.over U5.out L5.out g6); have Q6 := Lib.hid q6; have R6 := Lib.hid (R5.out.past g6 hne); have B6 := Lib.hid (B5.out.trans (grown_below g6 hhB B5.out.size)); clear q6 g6 row6)
              | (go_at_call 30; refine (sameNums_any A1 A2 c1 c2 _ (numsV_len _) _ V6.out W6.out).mono ?_; rintro e w7 ⟨rfl, b7⟩; have Q7 := Lib.hid (Q6.out.below b7); have R7 := Lib.hid (R6.out.below b7); have B7 := Lib.hid (next_below B6.out b7); clear b7)
              | (go_at_call 36; refine (left_any g _ _ R7.out).mono ?_; rintro e w' ⟨rfl, rfl⟩)
              | (go_at_call 37; refine (qleft_any h _ _ Q7.out).mono ?_; rintro e w' ⟨rfl, rfl⟩)
              | (go_at_call 38; refine (done_all g _ _ R7.out).mono ?_; rintro e w' ⟨rfl, rfl⟩)
              | (go_at_call 39; refine (qdone_all h _ _ Q7.out).mono ?_; rintro e w' ⟨rfl, rfl⟩))
            go_roundw
            case rel => exact ⟨i + 1, _, by simp, hlt, R7.out, Q7.out, HN.out, B7.out⟩
            case measure => simp [intOf]; omega
          · have HD := Lib.hid hd
            have HN := Lib.hid (short_texts HS.out)
            clear hd
            go_wp2_with (first
              | (go_at_call 23; refine (kind_any _ _ _ _ _ _ _ _ _ HK.out 4 HD.out _).mono ?_; rintro e w4 ⟨rfl, b4⟩; have R4 := Lib.hid (HR.out.below b4); have Q4 := Lib.hid (HQ.out.below b4); have B4 := Lib.hid (next_below HB.out b4); clear b4)
              | (go_at_call 34; refine (rtexts_all g st _ R4.out HS.out).mono ?_; rintro e w5 ⟨A1, c1, rfl, row5, up5, r5, g5⟩; have W5 := Lib.hid row5; have U5 := Lib.hid up5; have L5 : Hid (h < w4.heap.size) := Q4.out.inside; have R5 := Lib.hid r5; have Q5 := Lib.hid (Q4.out.past g5 hne'); have B5 := Lib.hid (B4.out.trans (grown_below g5 hgB B4.out.size)); clear r5 g5 row5 up5)
              | (go_at_call 35; refine (qtexts_all h st _ Q5.out HS.out).mono ?_; rintro e w6 ⟨A2, c2, rfl, row6, q6, g6⟩; have W6 := Lib.hid row6; have V6 := Lib.hid (W5.out.over U5.out L5.out g6); have Q6 := Lib.hid q6; have R6 := Lib.hid (R5.out.past g6 hne); have B6 := Lib.hid (B5.out.trans (grown_below g6 hhB B5.out.size)); clear q6 g6 row6)
              | (go_at_call 33; refine (sameTexts_any A1 A2 c1 c2 _ (textsV_len _) _ V6.out W6.out).mono ?_; rintro e w7 ⟨rfl, b7⟩; have Q7 := Lib.hid (Q6.out.below b7); have R7 := Lib.hid (R6.out.below b7); have B7 := Lib.hid (next_below B6.out b7); clear b7)
              | (go_at_call 36; refine (left_any g _ _ R7.out).mono ?_; rintro e w' ⟨rfl, rfl⟩)
              | (go_at_call 37; refine (qleft_any h _ _ Q7.out).mono ?_; rintro e w' ⟨rfl, rfl⟩)
              | (go_at_call 38; refine (done_all g _ _ R7.out).mono ?_; rintro e w' ⟨rfl, rfl⟩)
              | (go_at_call 39; refine (qdone_all h _ _ Q7.out).mono ?_; rintro e w' ⟨rfl, rfl⟩))
            go_roundw
            case rel => exact ⟨i + 1, _, by simp, hlt, R7.out, Q7.out, HN.out, B7.out⟩
            case measure => simp [intOf]; omega
        · obtain rfl : i = zs.length := by omega
          clear hrs hqs hshort hbel
          go_wp2_with (first
            | (go_at_call 40; refine (rest_any g _ _ HR.out).mono ?_; rintro e w5 ⟨rfl, r5, g5⟩; have R5 := Lib.hid r5; have Q5 := Lib.hid (HQ.out.past g5 hne'); have B5 := Lib.hid (HB.out.trans (grown_below g5 hgB HB.out.size)); clear r5 g5)
            | (go_at_call 41; refine (qtail_any h _ _ Q5.out).mono ?_; rintro e w6 ⟨rfl, q6, g6⟩; have Q6 := Lib.hid q6; have R6 := Lib.hid (R5.out.past g6 hne); have B6 := Lib.hid (B5.out.trans (grown_below g6 hhB B5.out.size)); clear q6 g6)
            | (go_at_call 36; refine (left_any g _ _ R6.out).mono ?_; rintro e w' ⟨rfl, rfl⟩)
            | (go_at_call 37; refine (qleft_any h _ _ Q6.out).mono ?_; rintro e w' ⟨rfl, rfl⟩)
            | (go_at_call 38; refine (done_all g _ _ R6.out).mono ?_; rintro e w' ⟨rfl, rfl⟩)
            | (go_at_call 39; refine (qdone_all h _ _ Q6.out).mono ?_; rintro e w' ⟨rfl, rfl⟩))
          go_ret
          exact ⟨rfl, B6.out⟩
    · go_enter Try.func4, Try.ntmps4
      go_wp2_with (go_at_call 9; refine (small_any _).mono ?_; rintro e w1 ⟨rfl, b1⟩)
      go_ret
      exact ⟨rfl, b1⟩
  · go_enter Try.func4, Try.ntmps4
    go_wp2_with (go_at_call 9; refine (small_any _).mono ?_; rintro e w1 ⟨rfl, b1⟩)
    go_ret
    exact ⟨rfl, b1⟩
end Wire
end Go.Proofs.Ytionidjhfcmgiaa

import Derived.Test.YtionidjhfcmgiaaBack
import Derived.Test.YtionidjhfcmgiaaAgain
namespace Go.Proofs.Ytionidjhfcmgiaa
open Go.RowKit
set_option linter.unusedVariables false
set_option linter.unusedSimpArgs false
namespace Wire

/-- The encodings, as strings. -/
def parts (vs : List Val) : List ByteArray := vs.map fun v => bs (encOf v)

theorem parts_len (vs : List Val) : (parts vs).length = vs.length := List.length_map _
theorem parts_small {vs : List Val} (hbulk : bulks vs ≤ 400) : ∀ i, i ≤ vs.length → ((parts (vs.take i)).flatMap encText).length ≤ 30100 * i
  | 0, _ => by simp [parts]
  | i + 1, h => by
    have ih := parts_small hbulk i (by omega)
    have hbk := bulk_parts vs[i] (by have := bulk_le (vs := vs) (i := i) (by omega); simp only [bulks, List.map_cons, List.map_nil, List.sum_cons, List.sum_nil, Nat.add_zero]; omega)
    have h1 := encOf_len hbk
    have h2 := dec_len (encOf vs[i]).length
    have e : parts (vs.take (i + 1)) = parts (vs.take i) ++ [bs (encOf vs[i])] := by
      unfold parts
      rw [List.take_succ_eq_append_getElem (by omega), List.map_append]
      rfl
    have h3 : (encText (bs (encOf vs[i]))).length ≤ 30050 := by
      have h4 : (encText (bs (encOf vs[i]))).length = (dec (encOf vs[i]).length).length + ((encOf vs[i]).length + 2) := by
        show (dec (encOf vs[i]).length ++ (58 :: (encOf vs[i] ++ [44]))).length = _
        simp
      omega
    rw [e, List.flatMap_append, List.length_append]
    simp only [List.flatMap_cons, List.flatMap_nil, List.append_nil]
    omega

structure PartRel (w : World) (vs : List Val) (pv iv : Value) (wr : World) (i : Nat) : Prop where
  own : Grow wr w.heap.size 1 pv i ((parts (vs.take i)).map Value.string)
  iv : iv = .int .i64 i
  le : i ≤ vs.length
  below : Below w.heap.size w wr

theorem PartRel.step {w w1 w2 w3 : World} {vs : List Val} {pv v3 : Value} {i : Nat} {o : Obj} (hi : i < vs.length) (hown : Grow w1 w.heap.size 1 pv i ((parts (vs.take i)).map Value.string)) (hbel : Below w.heap.size w w1) (hb : Below w1.heap.size w1 w2)
    (hown3 : Grow w3 w.heap.size 1 v3 (i + 1) ((parts (vs.take i)).map Value.string ++ [str (encOf vs[i])])) (hg : (w2.alloc o).grownBy w3 pv.ownBlock) : PartRel w vs v3 (.int .i64 ((i : Int) + 1)) w3 (i + 1) := by
  refine ⟨?_, by simp, hi, ((next_below hbel hb).alloc (next_below hbel hb).size o).grown hg (Nat.le_trans (next_below hbel hb).size (by simp)) fun g hg => (hown.block g hg).1⟩
  have e : (parts (vs.take (i + 1))).map Value.string = (parts (vs.take i)).map Value.string ++ [str (encOf vs[i])] := by
    unfold parts
    rw [List.take_succ_eq_append_getElem hi, List.map_append, List.map_append]
    rfl
  rw [e]
  exact hown3

structure NestRel (w w0 : World) (n : Nat) (iv : Value) (wr : World) (i : Nat) : Prop where
  iv : iv = .int .i64 i
  le : i ≤ n
  below : Below w0.heap.size w0 wr

set_option maxRecDepth 100000 in
set_option maxHeartbeats 4000000 in
theorem nests_any (A : Option Addr) (c : Nat) (vs : List Val) (w : World) (h : Given w A vs) :
    Calls Try.prog 8 #[.slice A vs.length c] w fun e w' => e = .returned (.bool true) ∧ Below w.heap.size w w' := by
  obtain ⟨i0, hi0, hi1, hi2, hi3⟩ := info_parts info_string
  have H := Lib.hid h
  clear h
  go_enter Try.func8, Try.ntmps8
  go_wp2_with (go_at_call 9; refine (small_any _).mono ?_; rintro e w1 ⟨rfl, b1⟩)
  have B1 := Lib.hid b1
  clear b1
  have hvals : Vals w1 w1.heap.size A vs := fun i v hv => by
    obtain ⟨b, o, cs, e, hlt, ⟨A1, c1, A2, c2, e2, r1, r2⟩, hc⟩ := H.out.vals i v hv
    exact ⟨b, o, cs, e, Nat.lt_of_lt_of_le hlt B1.out.size, ⟨A1, c1, A2, c2, e2, r1.lift B1.out, r2.lift B1.out⟩, fun j u hu => (B1.out.cell (p := ⟨b, o + i * 5 + j, none⟩) hlt).trans (hc j u hu)⟩
  by_cases hf : vs.length ≤ 20 ∧ bulks vs ≤ 400
  · refine (few_yes A c vs _ hvals hf).mono ?_
    rintro e w2 ⟨rfl, b2⟩
    have B2 := Lib.hid (next_below B1.out b2)
    obtain ⟨hv20, hbulk⟩ := hf
    have HK := Lib.hid hbulk
    clear hbulk hvals b2
    go_wp2_with fail
    go_loopw [4, 5] (fun pv iv wr => ∃ i, PartRel w vs pv iv wr i) (fun _ iv _ => vs.length - (intOf iv).toNat)
    case atStart => exact ⟨0, Grow.nil _ _ _, rfl, Nat.zero_le _, B2.out⟩
    case round =>
      obtain ⟨i, ⟨hown, rfl, hi, hbel⟩⟩ := hrel
      have HBel := Lib.hid hbel
      by_cases hlt : i < vs.length
      · obtain ⟨b, o, A1, c1, A2, c2, ⟨rfl, k0, k1, k2, k3, k4, hcame⟩⟩ := H.out.here hbel HK.out hlt
        have HS : Hid (∀ {w2 w3 : World} {v3 : Value} {o : Obj}, Below wr.heap.size wr w2 → Grow w3 w.heap.size 1 v3 (i + 1) ((parts (vs.take i)).map Value.string ++ [str (encOf vs[i])]) → (w2.alloc o).grownBy w3 _ → PartRel w vs v3 (.int .i64 ((i : Int) + 1)) w3 (i + 1)) := fun a b d => PartRel.step hlt hown hbel a b d
        generalize vs[i] = v at *
        have HC := Lib.hid hcame
        clear hcame hbel
        go_wp2_with (first
          | (go_at_call 42; refine (write_any v A1 c1 A2 c2 _ _ HC.out).mono ?_; rintro e w3 ⟨rfl, b3⟩)
          | (at_builtin; refine wpList_append_src _ rfl (.tmp 22) (.tmp 28) _ _ rfl w.heap.size 9 i0 _ 1 16 Try.underlying23 hi0 hi1 hi2 hi3 rfl (by omega) _ _ _ rfl ((hown.below b3).alloc _) _ 1 [str (encOf v)] rfl (Src.ofSlice _ Try.underlying23 ⟨w3.heap.size, 0, none⟩ 1 1 [str (encOf v)] rfl (cell_one_new _ _ _) (one_text _)) (small_max (by omega)) (by omega) (Nat.le_trans (next_below HBel.out b3).size (by simp)) ?_; intro v4 w4 hown4 hg4 _))
        have HF := Lib.hid (HS.out b3 hown4 hg4)
        go_roundw
        case rel => exact ⟨i + 1, HF.out⟩
        case measure => simp [intOf]; omega
      · obtain rfl : vs.length = i := by omega
        rw [List.take_length] at hown
        obtain ⟨P, p, rfl, hrow⟩ := hown.row
        have HRow := Lib.hid hrow
        clear hown hrow hbel
        have hps := parts_small HK.out vs.length (Nat.le_refl _)
        rw [List.take_length] at hps
        have HT : Hid (Calls Try.prog 19 #[.slice P vs.length p] wr fun e w' => e = .returned (str (encList encText (parts vs))) ∧ Below wr.heap.size wr w') := by
          have := texts_any P p (parts vs) wr HRow.out (by omega) (by rw [parts_len]; omega)
          rw [parts_len] at this
          exact this
        have hS := list_len encText (parts vs)
        have hSmall : (encList encText (parts vs)).length ≤ 700000 := by omega
        have HP := Lib.hid (list_texts (ss := parts vs) (by rw [parts_len]; omega) (fun s hs => by
          obtain ⟨k, hk, rfl⟩ := List.getElem_of_mem hs
          have := texts_at (parts vs) k hk
          omega) [])
        rw [List.append_nil] at HP
        clear hps hS
        generalize encList encText (parts vs) = S at *
        have hd := dec_len S.length
        have HX : Hid (text (dec S.length ++ (58 :: (S ++ [44]))) = some (S, [])) := text_enc (by omega) []
        have HL : Hid ((dec S.length ++ (58 :: (S ++ [44]))).length ≤ 4611686018427387904) := by
          show _ ≤ _
          simp
          omega
        have HL2 : Hid (S.length ≤ 1099511627776) := Nat.le_trans hSmall (by omega)
        go_wp2_with (first
          | (go_at_call 19; refine HT.out.mono ?_; rintro e w3 ⟨rfl, b3⟩; have B3 := Lib.hid (next_below HBel.out b3); clear b3)
          | (go_at_call 15; refine (text_any ⟨S.toArray⟩ (by show S.length ≤ _; omega) _).mono ?_; rintro e w4 ⟨rfl, b4⟩; have B4 := Lib.hid (next_below B3.out b4); clear b4)
          | (go_at_call 21; refine (open_any ⟨S.toArray⟩ w6).mono ?_; rintro e w7 ⟨rfl, r7, b7, z7⟩; have R7 : RS w7 w6.heap.size (some S) := r7; have Q7 : RS w7 w4.heap.size (some []) := Q6.out.below b7; have B7 := Lib.hid (next_below B6.out b7); have G7 : Hid (w.heap.size ≤ w6.heap.size) := B6.out.size; clear r7 b7 z7)
          | (go_at_call 21; refine (open_any _ w4).mono ?_; rintro e w5 ⟨rfl, r5, b5, z5⟩; have R5 : Hid (RS w5 w4.heap.size (some (dec S.length ++ (58 :: (S ++ [44]))))) := r5; have B5 := Lib.hid (next_below B4.out b5); have G5 : Hid (w.heap.size ≤ w4.heap.size) := B4.out.size; clear r5 b5 z5)
          | (go_at_call 28; refine (rtext_ok _ _ _ R5.out HL.out S [] HX.out).mono ?_; rintro e w6 ⟨rfl, q6, g6⟩; have Q6 := Lib.hid q6; have B6 := Lib.hid (B5.out.trans (grown_below g6 G5.out B5.out.size)); clear q6 g6)
          | (go_at_call 38; (with_reducible refine (done_some _ [] _ Q7).mono ?_); rintro e w' ⟨rfl, rfl⟩)
          | (go_at_call 38; (with_reducible refine (done_some _ [] _ Q8).mono ?_); rintro e w' ⟨rfl, rfl⟩)
          | (go_at_call 34; refine (rtexts_ok _ S _ R7 HL2.out _ _ HP.out).mono ?_; rintro e w8 ⟨A8, c8, he8, row8, Q8, g8⟩; have he9 : e = .returned (.slice A8 vs.length c8) := he8.trans (by rw [List.length_map, parts_len]); obtain rfl := he9; have ROW : Hid (Row w8 w8.heap.size A8 ((parts vs).map Value.string)) := (show Row w8 w8.heap.size A8 ((parts vs).map Value.string) from strs_back (parts vs) ▸ row8); have B8 := Lib.hid (B7.out.trans (grown_below g8 G7.out B7.out.size)); clear row8 g8 he8))
        clear HX HL HL2 HP HT HRow Q7 Q8 R7 hd
        generalize w4.heap.size = g4 at *
        generalize w6.heap.size = g6 at *
        go_loopw [9] (fun iv w9 => ∃ i, NestRel w w8 vs.length iv w9 i) (fun iv _ => vs.length - (intOf iv).toNat)
        case atStart => exact ⟨0, rfl, Nat.zero_le _, Below.refl _ _⟩
        case round =>
          obtain ⟨w9, rfl⟩ : ∃ w9 : World, w9 = wr := ⟨_, rfl⟩
          obtain ⟨i, ⟨rfl, hi, hbel⟩⟩ := hrel
          have hb9 : Below w.heap.size w w9 := next_below B8.out hbel
          have HB9 := Lib.hid hb9
          by_cases hlt : i < vs.length
          · obtain ⟨b, o, A1, c1, A2, c2, ⟨rfl, k0, k1, k2, k3, k4, hcame⟩⟩ := H.out.here hb9 HK.out hlt
            obtain ⟨b', o', rfl, _, hcell⟩ := (ROW.out.below hbel) i (str (encOf vs[i])) (by
              unfold parts
              rw [List.getElem?_map, List.getElem?_map, List.getElem?_eq_getElem hlt]
              rfl)
            generalize vs[i] = v at *
            have HC := Lib.hid hcame
            have HH : Hid (Below w9.heap.size w9 w9) := Below.refl _ _
            have hel : (encOf v).length ≤ 30000 := encOf_len hcame.few
            have HB8 := Lib.hid hbel
            have hge : w.heap.size ≤ w9.heap.size := hb9.size
            clear hcame hb9 hbel
            go_wp2_with (first
              | (go_at_call 21; refine (open_any _ w9).mono ?_; rintro e w10 ⟨rfl, r10, b10, z10⟩; have R10 : Hid (RS w10 w9.heap.size (some (encOf v ++ []))) := (by rw [List.append_nil]; exact r10); have C10 := Lib.hid (HC.out.up b10); have B10 := Lib.hid b10; have HH0 : ∀ x : Addr, x.block < w9.heap.size → w10.cell? x = w9.cell? x := fun x hx => b10.cell hx; have k0' := (HH0 _ (World.block_lt_of_cell? w9 _ k0)).trans k0; have k1' := (HH0 _ (World.block_lt_of_cell? w9 _ k1)).trans k1; have k2' := (HH0 _ (World.block_lt_of_cell? w9 _ k2)).trans k2; have k3' := (HH0 _ (World.block_lt_of_cell? w9 _ k3)).trans k3; have k4' := (HH0 _ (World.block_lt_of_cell? w9 _ k4)).trans k4; clear HH0 r10 b10 z10)
              | (go_at_call 43; refine (equal_any _ [] v A1 c1 A2 c2 _ w.heap.size hge C10.out R10.out (by rw [List.append_nil]; omega)).mono ?_; rintro e w11 ⟨rfl, r11, g11⟩; have B11 := Lib.hid (B10.out.trans (grown_below g11 (Nat.le_refl _) B10.out.size)); clear g11)
              | (go_at_call 38; refine (done_some _ [] _ r11).mono ?_; rintro e w' ⟨rfl, rfl⟩))
            go_roundw
            case rel => exact ⟨i + 1, by simp, hlt, next_below HB8.out B11.out⟩
            case measure => simp [intOf]; omega
          · obtain rfl : vs.length = i := by omega
            go_wp2_with fail
            go_ret
            exact ⟨rfl, HB9.out⟩
  · refine (few_no A c vs _ hvals hf).mono ?_
    rintro e w2 ⟨rfl, b2⟩
    have B2 := Lib.hid (next_below B1.out b2)
    clear hvals b2 hf
    go_wp2_with fail
    go_ret
    exact ⟨rfl, B2.out⟩
end Wire
end Go.Proofs.Ytionidjhfcmgiaa

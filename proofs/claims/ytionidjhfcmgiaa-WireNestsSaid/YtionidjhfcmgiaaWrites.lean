import Derived.Test.YtionidjhfcmgiaaOpen
import Derived.Deep.RegionHeld3
namespace Go.Proofs.Ytionidjhfcmgiaa
open Go.RowKit
set_option linter.unusedVariables false
set_option linter.unusedSimpArgs false
namespace Wire

theorem vals_one {w : World} {v : Val} {A : Option Addr} {c : Nat} {A' : Option Addr} {c' : Nat} (h1 : Row w w.heap.size A (v.l.map (Value.int .i64))) (h2 : Row w w.heap.size A' (v.t.map Value.string)) {w1 : World} (hb : Below w.heap.size w w1) :
    Vals (w1.alloc (.cells (cellsOf v A c A' c').toArray 25)) (w1.alloc (.cells (cellsOf v A c A' c').toArray 25)).heap.size (some ⟨w1.heap.size, 0, none⟩) [v] := by
  intro i u hu
  have hi : i = 0 := by
    have := (List.getElem?_eq_some_iff.1 hu).1
    simp at this
    omega
  subst hi
  obtain rfl : v = u := by simpa using hu
  have hb' : Below w.heap.size w (w1.alloc (.cells (cellsOf v A c A' c').toArray 25)) := hb.alloc hb.size _
  refine ⟨_, _, cellsOf v A c A' c', rfl, by simp, ⟨A, c, A', c', rfl, ?_, ?_⟩, fun j x hx => ?_⟩
  · intro k x hx
    obtain ⟨b, o, e, g1, g2⟩ := (h1.below hb') k x hx
    exact ⟨b, o, e, by have := hb'.size; omega, g2⟩
  · intro k x hx
    obtain ⟨b, o, e, g1, g2⟩ := (h2.below hb') k x hx
    exact ⟨b, o, e, by have := hb'.size; omega, g2⟩
  · rw [show 0 + 0 * 5 + j = j from by omega, (Blk.fresh w1 _ _).at, List.getElem?_toArray]
    exact hx

/-- The value in its box, and nothing that was there turned: what the last statements keep. -/
abbrev Box (W w' : World) (g : Nat) (v : Val) (A : Option Addr) (c : Nat) (A' : Option Addr) (c' : Nat) : Prop :=
  Below W.heap.size W w' ∧ g < w'.heap.size ∧ w'.cell? ⟨g, 1, none⟩ = some (.int .i64 v.n) ∧ w'.cell? ⟨g, 2, none⟩ = some (.string v.s) ∧ w'.cell? ⟨g, 3, none⟩ = some (.slice A v.l.length c) ∧ w'.cell? ⟨g, 4, none⟩ = some (.slice A' v.t.length c')

theorem Box.start {W w1 : World} {g : Nat} {v : Val} {A : Option Addr} {c : Nat} {A' : Option Addr} {c' : Nat} {t : TypeId} (hb : Below W.heap.size W w1) (K : Blk w1 g t (cellsOf v A c A' c').toArray) (o : Obj) (q : Nat) :
    Box W ((w1.alloc o).drewN q) g v A c A' c' := by
  have K' : Blk ((w1.alloc o).drewN q) g t (cellsOf v A c A' c').toArray := K.kept o
  exact ⟨(hb.alloc hb.size _).trans ⟨rfl, rfl, rfl, Nat.le_refl _, fun _ _ => rfl⟩, K'.inside, K'.at 1, K'.at 2, K'.at 3, K'.at 4⟩

theorem Box.drew {W w' : World} {g : Nat} {v : Val} {A : Option Addr} {c : Nat} {A' : Option Addr} {c' : Nat} (h : Box W w' g v A c A' c') : Box W w'.drew g v A c A' c' := ⟨h.1.drew, h.2⟩

theorem Box.keep {W w' w'' : World} {g : Nat} {v : Val} {A : Option Addr} {c : Nat} {A' : Option Addr} {c' : Nat} (h : Box W w' g v A c A' c') (hb : Below w'.heap.size w' w'') : Box W w'' g v A c A' c' := by
  obtain ⟨h0, hlt, h1, h2, h3, h4⟩ := h
  have e : ∀ j, w''.cell? ⟨g, j, none⟩ = w'.cell? ⟨g, j, none⟩ := fun j => hb.cell (p := ⟨g, j, none⟩) hlt
  exact ⟨next_below h0 hb, Nat.lt_of_lt_of_le hlt hb.size, (e 1).trans h1, (e 2).trans h2, (e 3).trans h3, (e 4).trans h4⟩

theorem bulk_parts (v : Val) (h : bulks [v] ≤ 400) : v.s.size ≤ 400 ∧ v.l.length ≤ 400 ∧ v.t.length ≤ 400 ∧ (v.t.flatMap encText).length ≤ 20000 := by
  have e : bulks [v] = v.bulk := by simp [bulks]
  rw [e] at h
  unfold Val.bulk at h
  have g : ∀ ts : List ByteArray, (ts.flatMap encText).length ≤ 23 * ts.length + (ts.map (·.size)).sum := by
    intro ts
    induction ts with
    | nil => simp
    | cons t ts ih =>
      have h1 := dec_len t.size
      have h2 : t.data.toList.length = t.size := by rw [Array.length_toList]; rfl
      have h3 : (encText t).length ≤ 23 + t.size := by
        unfold encText
        simp only [List.length_append, List.length_cons, List.length_nil, h2]
        omega
      simp only [List.flatMap_cons, List.length_append, List.length_cons, List.map_cons, List.sum_cons]
      omega
  have := g v.t
  omega

theorem writes_num (n : Int) (h : -9223372036854775808 ≤ n ∧ n ≤ 9223372036854775807) : ∃ l : List UInt8, (∀ w, Calls Try.prog 11 #[.int .i64 n] w fun e w' => e = .returned (str l) ∧ Below w.heap.size w w') ∧ (∀ w, Calls Try.prog 12 #[.int .i64 n] w fun e w' => e = .returned (str l) ∧ Below w.heap.size w w') := by
  by_cases h0 : 0 ≤ n
  · obtain ⟨k, rfl⟩ := Int.eq_ofNat_of_zero_le h0
    exact ⟨_, fun w => num_any k (by omega) w, fun w => refNum_any k (by omega) w⟩
  · exact ⟨_, fun w => num_neg n (by omega) w, fun w => refNum_neg n (by omega) w⟩

set_option maxHeartbeats 1000000 in
theorem writes_any (v : Val) (A : Option Addr) (c : Nat) (A' : Option Addr) (c' : Nat) (w : World) (h1 : Row w w.heap.size A (v.l.map (Value.int .i64))) (h2 : Row w w.heap.size A' (v.t.map Value.string))
    (hn : -9223372036854775808 ≤ v.n ∧ v.n ≤ 9223372036854775807) (hl : ∀ z ∈ v.l, -9223372036854775808 ≤ z ∧ z ≤ 9223372036854775807) :
    Calls Try.prog 3 #[.agg (cellsOf v A c A' c').toArray] w fun e w' => e = .returned (.bool true) ∧ Below w.heap.size w w' := by
  have H1 := Lib.hid h1
  have H2 := Lib.hid h2
  have HN := Lib.hid hn
  have HL := Lib.hid hl
  clear h1 h2 hn hl
  unfold cellsOf
  go_enter Try.func3, Try.ntmps3
  go_wp2_with (first
    | (go_at_call 9; refine (small_any _).mono ?_; rintro e w1 ⟨rfl, b1⟩; have K := (Blk.fresh w _ _).under b1 (by simp); have k0 := K.at 0; have k1 := K.at 1; have k2 := K.at 2; have k3 := K.at 3; have k4 := K.at 4; have q1 := Lib.hid (((Below.refl _ w).alloc (Nat.le_refl _) _).trans (b1.mono (by simp))); have HK := Lib.hid K; clear K b1)
    | (go_at_call 10; refine (few_any _ 1 [v] _ (vals_one H1.out H2.out q1.out)).mono ?_; rintro e w2 ⟨b, rfl, hb, q, rfl⟩; have HB := Lib.hid hb.1; clear hb))
  · go_ret
    exact ⟨rfl, (q1.out.alloc q1.out.size _).trans ⟨rfl, rfl, rfl, Nat.le_refl _, fun _ _ => rfl⟩⟩
  · have hbt : b = true := by
      have hx : (!b) = false := by assumption
      simpa using hx
    obtain ⟨_, hbulk⟩ := HB.out hbt
    subst hbt
    obtain ⟨hs1, hs2, hs3, hs4⟩ := bulk_parts v hbulk
    have hbox : Box w ((w1.alloc (.cells (cellsOf v A c A' c').toArray 25)).drewN q) w.heap.size v A c A' c' := Box.start q1.out HK.out _ _
    clear k0 k1 k2 k3 k4 HB q1 HK hbulk
    generalize (w1.alloc (.cells (cellsOf v A c A' c').toArray 25)).drewN q = W3 at *
    obtain ⟨l1, hnum, hrnum⟩ := writes_num v.n HN.out
    have hint := int_any v.n HN.out.1 HN.out.2
    have hrint := refInt_any v.n HN.out.1 HN.out.2
    have HNum := Lib.hid hnum
    have HRnum := Lib.hid hrnum
    have HInt := Lib.hid hint
    have HRint := Lib.hid hrint
    have HS := Lib.hid hs4
    clear hnum hrnum hint hrint hs4
    go_region_held3 (fun w' => Box w w' w.heap.size v A c A' c') (first | exact Box.drew hbox | exact Box.keep ‹_› ‹_› | go_keep)
      (first
        | (go_at_call 11; refine (HNum.out _).mono ?_; rintro e wk ⟨rfl, bk⟩)
        | (go_at_call 12; refine (HRnum.out _).mono ?_; rintro e wk ⟨rfl, bk⟩)
        | (go_at_call 13; refine (HInt.out _).mono ?_; rintro e wk ⟨rfl, bk⟩)
        | (go_at_call 14; refine (HRint.out _).mono ?_; rintro e wk ⟨rfl, bk⟩)
        | (go_at_call 15; refine (text_any v.s (by omega) _).mono ?_; rintro e wk ⟨rfl, bk⟩)
        | (go_at_call 16; refine (refText_any v.s (by omega) _).mono ?_; rintro e wk ⟨rfl, bk⟩))
    go_wp2_with fail
    clear hbox HNum HRnum HInt HRint
    go_region_held3 (fun w' => Box w w' w.heap.size v A c A' c') (first | exact Box.drew ‹_› | exact Box.keep ‹_› ‹_› | go_keep)
      (first
        | (go_at_call 17; refine (nums_any A c v.l _ (H1.out.lift (And.left ‹Box w _ w.heap.size v A c A' c'›)) HL.out (by omega)).mono ?_; rintro e wk ⟨rfl, bk⟩)
        | (go_at_call 18; refine (refNums_any A c v.l _ (H1.out.lift (And.left ‹Box w _ w.heap.size v A c A' c'›)) HL.out (by omega)).mono ?_; rintro e wk ⟨rfl, bk⟩)
        | (go_at_call 19; refine (texts_any A' c' v.t _ (H2.out.lift (And.left ‹Box w _ w.heap.size v A c A' c'›)) (Nat.le_trans HS.out (by omega)) (by omega)).mono ?_; rintro e wk ⟨rfl, bk⟩)
        | (go_at_call 20; refine (refTexts_any A' c' v.t _ (H2.out.lift (And.left ‹Box w _ w.heap.size v A c A' c'›)) (Nat.le_trans HS.out (by omega)) (by omega)).mono ?_; rintro e wk ⟨rfl, bk⟩))
    go_wp2_with fail
    go_ret
    exact ⟨rfl, And.left ‹Box w _ w.heap.size v A c A' c'›⟩
end Wire
end Go.Proofs.Ytionidjhfcmgiaa

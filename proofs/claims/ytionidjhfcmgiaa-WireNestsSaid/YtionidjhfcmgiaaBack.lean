import Derived.Test.YtionidjhfcmgiaaSame
import Derived.Test.YtionidjhfcmgiaaWrites
namespace Go.Proofs.Ytionidjhfcmgiaa
open Go.RowKit
set_option linter.unusedVariables false
set_option linter.unusedSimpArgs false
namespace Wire

/-- All that the statements know of a slice of values. -/
structure Given (w : World) (A : Option Addr) (vs : List Val) : Prop where
  vals : Vals w w.heap.size A vs
  fits : ∀ v ∈ vs, Fits v.kind ∧ Fits v.n ∧ ∀ z ∈ v.l, Fits z

theorem bulk_le {vs : List Val} {i : Nat} (h : i < vs.length) : vs[i].bulk ≤ bulks vs := by
  have h1 := bulks_succ vs i h
  have h2 : bulks (vs.take (i + 1)) ≤ bulks vs := by
    conv => rhs; rw [← List.take_append_drop (i + 1) vs]
    unfold bulks
    rw [List.map_append, List.sum_append]
    omega
  omega

/-- What a round knows of the value at place i, in a later world. -/
structure Here (w w' : World) (A : Option Addr) (i : Nat) (v : Val) (b o : Nat) (A1 : Option Addr) (c1 : Nat) (A2 : Option Addr) (c2 : Nat) : Prop where
  at_ : A = some ⟨b, o, none⟩
  k0 : w'.cell? ⟨b, o + i * 5, none⟩ = some (.int .i64 v.kind)
  k1 : w'.cell? ⟨b, o + i * 5 + 1, none⟩ = some (.int .i64 v.n)
  k2 : w'.cell? ⟨b, o + i * 5 + 2, none⟩ = some (.string v.s)
  k3 : w'.cell? ⟨b, o + i * 5 + 3, none⟩ = some (.slice A1 v.l.length c1)
  k4 : w'.cell? ⟨b, o + i * 5 + 4, none⟩ = some (.slice A2 v.t.length c2)
  came : Came w' w.heap.size v A1 A2

theorem Given.here {w w' : World} {A : Option Addr} {vs : List Val} (h : Given w A vs) (hb : Below w.heap.size w w') (hbulk : bulks vs ≤ 400) {i : Nat} (hi : i < vs.length) : ∃ b o A1 c1 A2 c2, Here w w' A i vs[i] b o A1 c1 A2 c2 := by
  obtain ⟨b, o, cs, e, hlt, ⟨A1, c1, A2, c2, rfl, r1, r2⟩, hc⟩ := h.vals i vs[i] (List.getElem?_eq_getElem hi)
  obtain ⟨f1, f2, f3⟩ := h.fits vs[i] (List.getElem_mem hi)
  have g : ∀ j, w'.cell? ⟨b, o + i * 5 + j, none⟩ = w.cell? ⟨b, o + i * 5 + j, none⟩ := fun j => hb.cell (p := ⟨b, o + i * 5 + j, none⟩) hlt
  have hbk := bulk_parts vs[i] (by have := bulk_le hi; simp only [bulks, List.map_cons, List.map_nil, List.sum_cons, List.sum_nil, Nat.add_zero]; omega)
  exact ⟨b, o, A1, c1, A2, c2, e, (g 0).trans (hc 0 _ rfl), (g 1).trans (hc 1 _ rfl), (g 2).trans (hc 2 _ rfl), (g 3).trans (hc 3 _ rfl), (g 4).trans (hc 4 _ rfl), r1.below hb, r2.below hb, hb.size, f1, f2, f3, hbk⟩

def flat (vs : List Val) : List UInt8 := vs.flatMap encOf
theorem flat_succ {vs : List Val} {i : Nat} (h : i < vs.length) : flat (vs.take (i + 1)) = flat (vs.take i) ++ encOf vs[i] := by
  unfold flat
  rw [List.take_succ_eq_append_getElem h, List.flatMap_append]
  simp
theorem flat_drop {vs : List Val} {i : Nat} (h : i < vs.length) : flat (vs.drop i) = encOf vs[i] ++ flat (vs.drop (i + 1)) := by
  unfold flat
  rw [List.drop_eq_getElem_cons h, List.flatMap_cons]

theorem list_len {α : Type} (enc : α → List UInt8) (xs : List α) : (encList enc xs).length ≤ 23 + (xs.flatMap enc).length := by
  have := dec_len xs.length
  unfold encList
  simp only [List.length_append, List.length_cons, List.length_nil]
  omega

theorem encOf_len {v : Val} (h : v.s.size ≤ 400 ∧ v.l.length ≤ 400 ∧ v.t.length ≤ 400 ∧ (v.t.flatMap encText).length ≤ 20000) : (encOf v).length ≤ 30000 := by
  obtain ⟨h1, h2, h3, h4⟩ := h
  unfold encOf
  have d1 := dec_len (numOf v.n)
  have d2 := encInt_len v.n
  have d3 : (encText v.s).length ≤ 30000 := by
    have := dec_len v.s.size
    unfold encText
    simp only [List.length_append, List.length_cons, List.length_nil, size_bytes]
    omega
  have d4 := list_len encInt v.l
  have d5 := ints_len v.l
  have d6 := list_len encText v.t
  split
  · simp only [List.length_append, List.length_cons, List.length_nil]; omega
  · split
    · omega
    · split
      · omega
      · split <;> omega

theorem flat_len {vs : List Val} (hbulk : bulks vs ≤ 400) (n : Nat) : ∀ i, i ≤ vs.length → (flat (vs.take i)).length ≤ 30000 * i
  | 0, _ => by simp [flat]
  | i + 1, h => by
    have ih := flat_len hbulk n i (by omega)
    rw [flat_succ (by omega), List.length_append]
    have hbk := bulk_parts vs[i] (by have := bulk_le (vs := vs) (i := i) (by omega); simp only [bulks, List.map_cons, List.map_nil, List.sum_cons, List.sum_nil, Nat.add_zero]; omega)
    have := encOf_len hbk
    omega

theorem flat_cut (vs : List Val) (i : Nat) : (flat (vs.drop i)).length ≤ (flat vs).length := by
  conv => rhs; rw [← List.take_append_drop i vs]
  unfold flat
  rw [List.flatMap_append, List.length_append]
  omega
theorem grown_refl (w : World) (row : Option Nat) : w.grownBy w row := ⟨rfl, rfl, rfl, Nat.le_refl _, fun _ _ _ => rfl⟩

structure CatRel (w : World) (vs : List Val) (sv iv : Value) (wr : World) (i : Nat) : Prop where
  sv : sv = str (flat (vs.take i))
  iv : iv = .int .i64 i
  le : i ≤ vs.length
  below : Below w.heap.size w wr

structure EqRel (w w0 : World) (g : Nat) (vs : List Val) (t : List UInt8) (iv : Value) (wr : World) (i : Nat) : Prop where
  iv : iv = .int .i64 i
  le : i ≤ vs.length
  rs : RS wr g (some (flat (vs.drop i) ++ t))
  grown : w0.grownBy wr (some g)

set_option maxRecDepth 100000 in
set_option maxHeartbeats 4000000 in
theorem back_any (A : Option Addr) (c : Nat) (vs : List Val) (t : List UInt8) (ht : t.length ≤ 9223372036854775807) (w : World) (h : Given w A vs) :
    Calls Try.prog 5 #[.slice A vs.length c, str t] w fun e w' => e = .returned (.bool true) ∧ Below w.heap.size w w' := by
  have H := Lib.hid h
  clear h
  go_enter Try.func5, Try.ntmps5
  go_wp2_with (go_at_call 9; refine (small_any _).mono ?_; rintro e w1 ⟨rfl, b1⟩)
  have B1 := Lib.hid b1
  clear b1
  refine (few_any A c vs _ (fun i v hv => by
    obtain ⟨b, o, cs, e, hlt, ⟨A1, c1, A2, c2, e2, r1, r2⟩, hc⟩ := H.out.vals i v hv
    exact ⟨b, o, cs, e, Nat.lt_of_lt_of_le hlt B1.out.size, ⟨A1, c1, A2, c2, e2, r1.lift B1.out, r2.lift B1.out⟩, fun j u hu => (B1.out.cell (p := ⟨b, o + i * 5 + j, none⟩) hlt).trans (hc j u hu)⟩)).mono ?_
  rintro e w2 ⟨b, rfl, hb, q, rfl⟩
  have HB := Lib.hid hb.1
  have B2 : Hid (Below w.heap.size w (w1.drewN q)) := next_below B1.out (below_drewN w1 q)
  clear hb
  by_cases ht4 : t.length ≤ 400
  · cases b
    · go_wp2_with fail
      go_ret
      exact ⟨rfl, B2.out⟩
    · obtain ⟨hv20, hbulk⟩ := HB.out rfl
      go_wp2_with fail
      have HK := Lib.hid hbulk
      clear hbulk
      go_loopw [6, 7] (fun sv iv wr => ∃ i, CatRel w vs sv iv wr i) (fun _ iv _ => vs.length - (intOf iv).toNat)
      case atStart => exact ⟨0, rfl, rfl, Nat.zero_le _, B2.out⟩
      case round =>
        obtain ⟨i, ⟨rfl, rfl, hi, hbel⟩⟩ := hrel
        have HBel := Lib.hid hbel
        have hfl : (flat (vs.take i)).length ≤ 600000 := by
          have := flat_len HK.out 0 i hi
          omega
        by_cases hlt : i < vs.length
        · obtain ⟨b, o, A1, c1, A2, c2, ⟨rfl, k0, k1, k2, k3, k4, hcame⟩⟩ := H.out.here hbel HK.out hlt
          have HE := Lib.hid (flat_succ hlt)
          generalize vs[i] = v at *
          have HC := Lib.hid hcame
          have hel : (encOf v).length ≤ 30000 := encOf_len hcame.few
          clear hcame hbel
          go_wp2_with (go_at_call 42; refine (write_any v A1 c1 A2 c2 _ _ HC.out).mono ?_; rintro e w3 ⟨rfl, b3⟩)
          go_roundw
          case rel => exact ⟨i + 1, by rw [HE.out]; exact congrArg Value.string (cat_bytes _ _), by simp, hlt, next_below HBel.out b3⟩
          case measure => simp [intOf]; omega
        · obtain rfl : vs.length = i := by omega
          rw [List.take_length] at hfl ⊢
          have hcat : (⟨(flat vs).toArray⟩ : ByteArray) ++ ⟨t.toArray⟩ = ⟨(flat vs ++ t).toArray⟩ := cat_bytes _ _
          clear hbel
          go_wp2_with (go_at_call 21; refine (open_any _ _).mono ?_; rintro e w4 ⟨rfl, h4, b4, z4⟩; have H4 : Hid (RS w4 wr.heap.size (some (flat vs ++ t))) := h4; have B4 := Lib.hid (next_below HBel.out b4); clear h4 b4 z4)
          have hgB : w.heap.size ≤ wr.heap.size := HBel.out.size
          clear HBel hcat
          generalize wr.heap.size = g at *
          go_loopw [9] (fun iv w5 => ∃ i, EqRel w w4 g vs t iv w5 i) (fun iv _ => vs.length - (intOf iv).toNat)
          case atStart => exact ⟨0, rfl, Nat.zero_le _, H4.out, grown_refl _ _⟩
          case round =>
            obtain ⟨i, ⟨rfl, hi, hrs, hgr⟩⟩ := hrel
            obtain ⟨w5, rfl⟩ : ∃ w5 : World, w5 = wr := ⟨_, rfl⟩
            have HR := Lib.hid hrs
            have HG := Lib.hid hgr
            have hbel : Below w.heap.size w w5 := B4.out.trans (grown_below hgr hgB B4.out.size)
            have HBel := Lib.hid hbel
            by_cases hlt : i < vs.length
            · obtain ⟨b, o, A1, c1, A2, c2, ⟨rfl, k0, k1, k2, k3, k4, hcame⟩⟩ := H.out.here hbel HK.out hlt
              have hq := equal_any g (flat (vs.drop (i + 1)) ++ t) vs[i] A1 c1 A2 c2 w5 w.heap.size hgB hcame (by rw [← List.append_assoc, ← flat_drop hlt]; exact hrs) (by rw [← List.append_assoc, ← flat_drop hlt, List.length_append]; have := flat_cut vs i; omega)
              generalize vs[i] = v at *
              have HQ := Lib.hid hq
              clear hcame hbel hq hrs hgr
              go_wp2_with (go_at_call 43; refine HQ.out.mono ?_; rintro e w6 ⟨rfl, h6, g6⟩; have H6 := Lib.hid h6; clear h6)
              go_roundw
              case rel => exact ⟨i + 1, by simp, hlt, H6.out, grown_trans HG.out g6⟩
              case measure => simp [intOf]; omega
            · obtain rfl : vs.length = i := by omega
              have R5 : RS w5 g (some t) := by
                rw [List.drop_length] at hrs
                exact hrs
              clear hrs hbel hgr
              go_wp2_with (first
                | (go_at_call 36; refine (left_any g (some []) _ R6).mono ?_; rintro e w' ⟨rfl, rfl⟩)
                | (go_at_call 38; refine (done_some g [] _ R6).mono ?_; rintro e w' ⟨rfl, rfl⟩)
                | (go_at_call 36; refine (left_any g (some t) _ R5).mono ?_; rintro e w' ⟨rfl, rfl⟩)
                | (go_at_call 38; refine (done_some g t _ R5).mono ?_; rintro e w' ⟨rfl, rfl⟩)
                | (go_at_call 40; refine (rest_any g (some t) _ R5).mono ?_; rintro e w7 ⟨rfl, R6, g7⟩))
              go_ret
              exact ⟨rfl, HBel.out.trans (grown_below g7 hgB HBel.out.size)⟩
  · cases b
    · go_wp2_with fail
      go_ret
      exact ⟨rfl, B2.out⟩
    · go_wp2_with fail
      go_ret
      exact ⟨rfl, B2.out⟩
end Wire
end Go.Proofs.Ytionidjhfcmgiaa

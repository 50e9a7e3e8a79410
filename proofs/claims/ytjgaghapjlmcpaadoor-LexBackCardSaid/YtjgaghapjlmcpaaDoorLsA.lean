/- The statements' bad and small. -/
import Derived.Test.YtjgaghapjlmcpaaDoorLxU
namespace Go.Proofs.YtjgaghapjlmcpaaDoor
open Go.RowKit Wire Txt
set_option linter.unusedVariables false
set_option linter.unusedSimpArgs false
namespace Lx

set_option maxHeartbeats 1000000 in
theorem bad_any (s : ByteArray) (w : World) (hl : s.size ≤ 1000000) (hx : lexAll (bl s) = .bad 11 1) :
    Calls Tryd.prog 18 #[.string s] w fun e w' => e = .returned (.bool true) ∧ Below w.heap.size w w' := by
  have HL : Hid (∀ w, Calls Tryd.prog 9 #[.string s] w (LPost w (.bad 11 1))) := Lib.hid fun w => by
    have := lex_any (bl s) w (by rw [bl_len]; exact hl)
    rwa [hx] at this
  clear hx
  go_enter Tryd.func18, Tryd.ntmps18
  go_wp2_with (go_at_call 9; refine (HL.out _).mono ?_; rintro e w1 ⟨b1, rfl⟩; have B1 := Lib.hid b1; clear b1)
  go_ret
  exact ⟨rfl, B1.out⟩

/-- The cells of a token in a list that lies in memory. -/
theorem has_at {w : World} {v : Value} {l : List Tk} (h : Has w v l) : ∃ A c, v = .slice A l.length c ∧ l.length ≤ c ∧ Row w w.heap.size A (tks l) := h.is

set_option maxRecDepth 8000 in
set_option maxHeartbeats 2000000 in
theorem small_any (w : World) : Calls Tryd.prog 8 #[] w fun e w' => e = .returned (.bool true) ∧ Below w.heap.size w w' := by
  have HA : Hid (∀ w, Calls Tryd.prog 9 #[.string ⟨#[122, 111, 110, 101, 32, 99, 111, 108, 100, 45, 49, 32, 49, 50, 32, 35, 32, 99]⟩] w (LPost w (.ok [⟨0, [122, 111, 110, 101], 0, 1⟩, ⟨0, [99, 111, 108, 100, 45, 49], 0, 1⟩, ⟨1, [49, 50], 12, 1⟩, fin 1]))) := Lib.hid fun w => by
    have := lex_any [122, 111, 110, 101, 32, 99, 111, 108, 100, 45, 49, 32, 49, 50, 32, 35, 32, 99] w (by decide)
    rwa [ex_a] at this
  have HB : Hid (∀ w, Calls Tryd.prog 9 #[.string ⟨#[114, 111, 119, 32, 34, 35, 35, 46, 80, 34]⟩] w (LPost w (.ok [⟨0, [114, 111, 119], 0, 1⟩, ⟨2, [35, 35, 46, 80], 0, 1⟩, fin 1]))) := Lib.hid fun w => by
    have := lex_any [114, 111, 119, 32, 34, 35, 35, 46, 80, 34] w (by decide)
    rwa [ex_b] at this
  have H1 := Lib.hid (fun w => bad_any ⟨#[48, 49]⟩ w (by decide) ex_c)
  have H2 := Lib.hid (fun w => bad_any ⟨#[49, 97]⟩ w (by decide) ex_d)
  have H3 := Lib.hid (fun w => bad_any ⟨#[45, 49]⟩ w (by decide) ex_e)
  have H4 := Lib.hid (fun w => bad_any ⟨#[34, 97]⟩ w (by decide) ex_f)
  have H5 : Hid (∀ w, Calls Tryd.prog 14 #[.string ⟨#[97, 45, 49]⟩] w fun e w' => e = .returned (.bool true) ∧ Below w.heap.size w w') := Lib.hid fun w => by
    have := word_any ⟨#[97, 45, 49]⟩ w (by decide)
    rwa [show word (bl ⟨#[97, 45, 49]⟩) = true from ex_g.1] at this
  have H6 : Hid (∀ w, Calls Tryd.prog 14 #[.string ⟨#[45, 97]⟩] w fun e w' => e = .returned (.bool false) ∧ Below w.heap.size w w') := Lib.hid fun w => by
    have := word_any ⟨#[45, 97]⟩ w (by decide)
    rwa [show word (bl ⟨#[45, 97]⟩) = false from ex_g.2] at this
  go_enter Tryd.func8, Tryd.ntmps8
  go_upto_region 2 with (go_at_call 9; refine (HA.out _).mono ?_; rintro e w1 ⟨b1, v1, rfl, hv1⟩; have B1 := Lib.hid b1; have V1 := Lib.hid hv1; clear b1 hv1)
  go_upto_region 3 with (go_at_call 9; refine (HB.out _).mono ?_; rintro e w2 ⟨b2, v2, rfl, hv2⟩; have B2 := Lib.hid (next_below B1.out b2); have V2 := Lib.hid hv2; have V1b := Lib.hid (V1.out.keep b2); clear b2 hv2)
  obtain ⟨A, ca, rfl, hca, ra⟩ := V1b.out.is
  obtain ⟨B, cb, rfl, hcb, rb⟩ := V2.out.is
  obtain ⟨g1, o1, rfl, hg1, a00, a01, a02, a03⟩ := row_tk ra (i := 0) rfl
  obtain ⟨g1', o1', e1, _, a10, a11, a12, a13⟩ := row_tk ra (i := 1) rfl
  cases e1
  obtain ⟨g1', o1', e1, _, a20, a21, a22, a23⟩ := row_tk ra (i := 2) rfl
  cases e1
  obtain ⟨g1', o1', e1, _, a30, a31, a32, a33⟩ := row_tk ra (i := 3) rfl
  cases e1
  obtain ⟨g2, o2, rfl, hg2, b00, b01, b02, b03⟩ := row_tk rb (i := 0) rfl
  obtain ⟨g2', o2', e1, _, b10, b11, b12, b13⟩ := row_tk rb (i := 1) rfl
  cases e1
  simp only [Nat.zero_mul, Nat.add_zero, Nat.one_mul] at a00 a01 a10 a11 b00 b01 b10 b11
  have z1 : w2.cell? ⟨g1, o1 + 1, none⟩ = some (.string ⟨#[122, 111, 110, 101]⟩) := a01
  have z2 : w2.cell? ⟨g1, o1 + 4 + 1, none⟩ = some (.string ⟨#[99, 111, 108, 100, 45, 49]⟩) := a11
  have z3 : w2.cell? ⟨g1, o1 + 8 + 2, none⟩ = some (.int .i64 12) := a22
  have z4 : w2.cell? ⟨g1, o1 + 12, none⟩ = some (.int .i64 4) := a30
  have y1 : w2.cell? ⟨g2, o2 + 1, none⟩ = some (.string ⟨#[114, 111, 119]⟩) := b01
  have y2 : w2.cell? ⟨g2, o2 + 4, none⟩ = some (.int .i64 2) := b10
  have y3 : w2.cell? ⟨g2, o2 + 4 + 1, none⟩ = some (.string ⟨#[35, 35, 46, 80]⟩) := b11
  clear a00 a01 a02 a03 a10 a11 a12 a13 a20 a21 a22 a23 a30 a31 a32 a33 b00 b01 b02 b03 b10 b11 b12 b13 ra rb
  go_wp2_with (first
    | (go_at_call 14; have bp := C15.out; refine (H6.out _).mono ?_; rintro e w16 ⟨rfl, bn⟩; have C16 := Lib.hid (next_below bp bn); clear bp bn)
    | (go_at_call 14; have bp := C14.out; refine (H5.out _).mono ?_; rintro e w15 ⟨rfl, bn⟩; have C15 := Lib.hid (next_below bp bn); clear bp bn)
    | (go_at_call 18; have bp := C13.out; refine (H4.out _).mono ?_; rintro e w14 ⟨rfl, bn⟩; have C14 := Lib.hid (next_below bp bn); clear bp bn)
    | (go_at_call 18; have bp := C12.out; refine (H3.out _).mono ?_; rintro e w13 ⟨rfl, bn⟩; have C13 := Lib.hid (next_below bp bn); clear bp bn)
    | (go_at_call 18; have bp := C11.out; refine (H2.out _).mono ?_; rintro e w12 ⟨rfl, bn⟩; have C12 := Lib.hid (next_below bp bn); clear bp bn)
    | (go_at_call 18; have bp := B2.out; refine (H1.out _).mono ?_; rintro e w11 ⟨rfl, bn⟩; have C11 := Lib.hid (next_below bp bn); clear bp bn))
  go_ret
  exact ⟨rfl, C16.out⟩
end Lx
end Go.Proofs.YtjgaghapjlmcpaaDoor

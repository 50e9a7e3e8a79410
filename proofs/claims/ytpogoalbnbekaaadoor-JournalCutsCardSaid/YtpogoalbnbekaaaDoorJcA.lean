/- The journal's small functions: form, sizeOf, parse. -/
import Derived.Test.YtpogoalbnbekaaaDoorJnF
import Derived.Test.YtpogoalbnbekaaaDoorBld
import Derived.Test.YtpogoalbnbekaaaDoorSls
import Derived.Test.YtpogoalbnbekaaaDoorWrC
namespace Go.Proofs.YtpogoalbnbekaaaDoor
open Go.RowKit Wire
set_option linter.unusedVariables false
set_option linter.unusedSimpArgs false
open Txt
open Sls (strs)
namespace Dsk

theorem form_take {l : List ByteArray} {i : Nat} (h : i < l.length) : form (l.take (i + 1)) = form (l.take i) ++ Wr.encText l[i] := by
  rw [List.take_succ_eq_append_getElem h, form_append]
  congr 1
  unfold form
  rw [List.flatMap_cons, List.flatMap_nil, List.append_nil]
theorem form_take_le (l : List ByteArray) (i : Nat) : (form (l.take i)).length ≤ (form l).length := by
  have := form_append (l.take i) (l.drop i)
  rw [List.take_append_drop] at this
  rw [this, List.length_append]
  omega
theorem encText_len (s : ByteArray) : s.size ≤ (Wr.encText s).length ∧ (Wr.encText s).length ≤ s.size + 23 := by
  have h3 := Wire.dec_len s.size
  unfold Wr.encText
  rw [List.length_append, List.length_cons, List.length_append, Wr.size_bytes]
  simp only [List.length_singleton]
  omega
/-- One of a list of strings, in a later world. -/
theorem row_str {w w' : World} {A : Option Addr} {l : List ByteArray} (h : Row w w.heap.size A (strs l)) (hb : Below w.heap.size w w') {i : Nat} (hi : i < l.length) : ∃ b o, A = some ⟨b, o, none⟩ ∧ w'.cell? ⟨b, o + i, none⟩ = some (.string l[i]) := by
  obtain ⟨b, o, e, h1, h2⟩ := h i (.string l[i]) (by rw [List.getElem?_map, List.getElem?_eq_getElem hi]; rfl)
  exact ⟨b, o, e, (hb.cell (p := ⟨b, o + i, none⟩) h1).trans h2⟩
theorem text_str (s : ByteArray) (hn : s.size ≤ 281474976710656) (w : World) : Calls Tryd.prog 60 #[.string s] w fun e w' => e = .returned (str (Wr.encText s)) ∧ Below w.heap.size w w' := Wr.text_any s hn w

structure FrmRel (W : World) (l : List ByteArray) (most : Int) (iv : Value) (w : World) (i : Nat) : Prop where
  iv : iv = .int .i64 i
  le : i ≤ l.length
  bld : Bld.Is W.heap.size W.heap.size (form (l.take i)) w
  room : i = 0 ∨ ((form (l.take i)).length : Int) ≤ most
  below : Below W.heap.size W w
/-- What form returns. -/
def formV (l : List ByteArray) (most : Int) : Value := if l = [] ∨ ((form l).length : Int) ≤ most then .tuple #[str (form l), .bool true] else .tuple #[str [], .bool false]
theorem formV_no {l : List ByteArray} {most : Int} {i : Nat} (h : i < l.length) (h2 : most < ((form (l.take (i + 1))).length : Int)) : formV l most = .tuple #[str [], .bool false] := by
  have := form_take_le l (i + 1)
  unfold formV
  rw [if_neg]
  rintro (e | e)
  · subst e
    cases h
  · omega
set_option maxRecDepth 8000 in
set_option maxHeartbeats 2000000 in
theorem form_any (A : Option Addr) (c : Nat) (l : List ByteArray) (most : Int) (w : World) (hr : Row w w.heap.size A (strs l)) (hm : most ≤ 1048576) (hn : l.length ≤ 9223372036854775807) :
    Calls Tryd.prog 37 #[.slice A l.length c, .int .i64 most] w fun e w' => e = .returned (formV l most) ∧ Below w.heap.size w w' := by
  have HR := Lib.hid hr
  clear hr
  go_enter Tryd.func37, Tryd.ntmps37
  go_wp2_with fail
  go_loopw [4, 5, 8, 11] (fun _ _ _ iv wr => ∃ i, FrmRel w l most iv wr i) (fun _ _ _ iv _ => l.length - (intOf iv).toNat)
  case atStart => exact ⟨0, rfl, Nat.zero_le _, Bld.Is.fresh w, .inl rfl, (Below.refl _ w).alloc (Nat.le_refl _) _⟩
  case round =>
    obtain ⟨i, ⟨rfl, hi, hbld, hroom, hbel⟩⟩ := hrel
    have HBL := Lib.hid hbld
    have HBE := Lib.hid hbel
    have hsz := hbel.size
    have HRM := Lib.hid hroom
    by_cases hlt : i < l.length
    · obtain ⟨b, o, rfl, hc⟩ := row_str HR.out hbel hlt
      have HFT := Lib.hid (form_take hlt)
      have HNO := Lib.hid (fun h => formV_no (most := most) hlt h)
      have HEL := Lib.hid (encText_len l[i])
      clear hbld hbel hroom
      generalize l[i] = s at *
      have hfl : (form (l.take i)).length ≤ 1048576 := by
        rcases HRM.out with e | e
        · rw [e, List.take_zero]; exact Nat.zero_le _
        · omega
      by_cases hs : most < (s.size : Int)
      · have HE : Hid (formV l most = .tuple #[str [], .bool false]) := Lib.hid (HNO.out (by rw [HFT.out, List.length_append]; have := HEL.out; omega))
        clear HNO HFT
        go_wp2_with fail
        go_returns
        exact ⟨by rw [HE.out]; rfl, HBE.out⟩
      · have HT := Lib.hid (text_str s (by omega))
        have HL : Hid (∀ w', Bld.Is w.heap.size w.heap.size (form (l.take i) ++ Wr.encText s) w' → Calls Tryd.prog 61 #[Bld.ptr w.heap.size] w' fun e w2 => e = .returned (.int .i64 (form (l.take (i + 1))).length) ∧ w' = w2) := Lib.hid fun w' h => by rw [HFT.out]; exact Bld.len_any h
        have hlen : (form (l.take i)).length + (Wr.encText s).length ≤ 140737488355328 := by have := HEL.out; omega
        have HW : Hid (∀ w', Bld.Is w.heap.size w.heap.size (form (l.take i)) w' → w.heap.size ≤ w'.heap.size → Calls Tryd.prog 59 #[Bld.ptr w.heap.size, str (Wr.encText s)] w' fun e w2 => e = .returned (.tuple #[.int .i64 (Wr.encText s).length, .nilIface]) ∧ Bld.Is w.heap.size w.heap.size (form (l.take i) ++ Wr.encText s) w2 ∧ Below w.heap.size w' w2) := Lib.hid fun w' h k => Bld.write_any _ h hlen k
        clear hlen hfl HEL
        by_cases hf : most < ((form (l.take (i + 1))).length : Int)
        · have HE : Hid (formV l most = .tuple #[str [], .bool false]) := Lib.hid (HNO.out hf)
          clear HNO HFT
          go_wp2_with (first
            | (go_at_call 60; refine (HT.out _).mono ?_; rintro e w3 ⟨rfl, b3⟩; have B3 := Lib.hid b3; have h3 := b3.size; clear b3)
            | (go_at_call 59; refine (HW.out _ (HBL.out.keep B3.out) (by omega)).mono ?_; rintro e w4 ⟨rfl, h4, b4⟩; have H4 := Lib.hid h4; have B4 := Lib.hid b4; clear h4 b4)
            | (go_at_call 61; refine (HL.out _ H4.out).mono ?_; rintro e w5 ⟨rfl, rfl⟩))
          go_returns
          exact ⟨by rw [HE.out]; rfl, HBE.out.trans ((B3.out.mono hsz).trans B4.out)⟩
        · go_wp2_with (first
            | (go_at_call 60; refine (HT.out _).mono ?_; rintro e w3 ⟨rfl, b3⟩; have B3 := Lib.hid b3; have h3 := b3.size; clear b3)
            | (go_at_call 59; refine (HW.out _ (HBL.out.keep B3.out) (by omega)).mono ?_; rintro e w4 ⟨rfl, h4, b4⟩; have H4 := Lib.hid h4; have B4 := Lib.hid b4; clear h4 b4)
            | (go_at_call 61; refine (HL.out _ H4.out).mono ?_; rintro e w5 ⟨rfl, rfl⟩))
          go_roundw
          case rel => exact ⟨i + 1, by simp, hlt, by rw [HFT.out]; exact H4.out, .inr (by omega), HBE.out.trans ((B3.out.mono hsz).trans B4.out)⟩
          case measure => simp [intOf]; omega
    · obtain rfl : l.length = i := by omega
      have HS : Hid (Calls Tryd.prog 62 #[Bld.ptr w.heap.size] wr fun e w' => e = .returned (str (form l)) ∧ Below w.heap.size wr w') := Lib.hid (by rw [List.take_length] at hbld; exact Bld.string_any hbld hsz)
      have HE : Hid (formV l most = .tuple #[str (form l), .bool true]) := Lib.hid (by
        unfold formV
        rw [if_pos]
        rcases hroom with e | e
        · exact .inl (List.eq_nil_of_length_eq_zero e)
        · rw [List.take_length] at e
          exact .inr e)
      clear hbld hroom HBL HRM
      go_wp2_with (go_at_call 62; refine HS.out.mono ?_; rintro e w3 ⟨rfl, b3⟩; have B3 := Lib.hid b3; clear b3)
      go_returns
      exact ⟨by rw [HE.out]; rfl, HBE.out.trans B3.out⟩

structure SzRel (W : World) (l : List ByteArray) (nv iv : Value) (w : World) (i : Nat) : Prop where
  nv : nv = .int .i64 (form (l.take i)).length
  iv : iv = .int .i64 i
  le : i ≤ l.length
  below : Below W.heap.size W w
set_option maxRecDepth 8000 in
set_option maxHeartbeats 1000000 in
theorem sizeOf_any (A : Option Addr) (c : Nat) (l : List ByteArray) (w : World) (hr : Row w w.heap.size A (strs l)) (hm : (form l).length ≤ 1099511627776) :
    Calls Tryd.prog 39 #[.slice A l.length c] w fun e w' => e = .returned (.int .i64 (form l).length) ∧ Below w.heap.size w w' := by
  have HR := Lib.hid hr
  clear hr
  have hn := form_len l
  go_enter Tryd.func39, Tryd.ntmps39
  go_wp2_with fail
  go_loopw [3, 5, 8] (fun nv _ iv wr => ∃ i, SzRel w l nv iv wr i) (fun _ _ iv _ => l.length - (intOf iv).toNat)
  case atStart => exact ⟨0, rfl, rfl, Nat.zero_le _, Below.refl _ _⟩
  case round =>
    obtain ⟨i, ⟨rfl, rfl, hi, hbel⟩⟩ := hrel
    have HBE := Lib.hid hbel
    have hsz := hbel.size
    by_cases hlt : i < l.length
    · obtain ⟨b, o, rfl, hc⟩ := row_str HR.out hbel hlt
      have HFT := Lib.hid (form_take hlt)
      have hle := form_take_le l (i + 1)
      have hel := encText_len l[i]
      rw [HFT.out, List.length_append] at hle
      clear hbel
      generalize l[i] = s at *
      have HT := Lib.hid (text_str s (by omega))
      have hw : wrap64 (((form (l.take i)).length : Int) + ((Wr.encText s).length : Int)) = ((form (l.take i)).length : Int) + ((Wr.encText s).length : Int) := IntWalk.wrap64_in _ (by omega)
      have hz : (⟨(Wr.encText s).toArray⟩ : ByteArray).size = (Wr.encText s).length := rfl
      unfold str at HT
      go_wp2_with (go_at_call 60; refine (HT.out _).mono ?_; rintro e w3 ⟨rfl, b3⟩; have B3 := Lib.hid b3; have h3 := b3.size; clear b3)
      go_roundw
      case rel => exact ⟨i + 1, by rw [HFT.out, List.length_append]; simp, by simp, hlt, HBE.out.trans (B3.out.mono hsz)⟩
      case measure => simp [intOf]; omega
    · obtain rfl : l.length = i := by omega
      rw [List.take_length]
      go_wp2_with fail
      go_ret
      exact ⟨rfl, HBE.out⟩
end Dsk
end Go.Proofs.YtpogoalbnbekaaaDoor

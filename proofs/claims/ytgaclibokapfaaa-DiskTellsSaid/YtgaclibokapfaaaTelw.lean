/- DiskTells: the walk. -/
import Derived.Test.YtgaclibokapfaaaTel
namespace Go.Proofs.Ytgaclibokapfaaa
open Go.RowKit Wire
set_option linter.unusedVariables false
set_option linter.unusedSimpArgs false
open Txt
namespace Dsk

/-- What the region with the calls reads. -/
abbrev Seen (b o : Nat) (a : Act) (A' : Option Addr) (c' : Nat) (w : World) : Prop :=
  w.cell? ⟨b, o, none⟩ = some (.int .i64 a.what) ∧ w.cell? ⟨b, o + 1, none⟩ = some (.int .i64 a.f) ∧ w.cell? ⟨b, o + 2, none⟩ = some (.int .i64 a.n) ∧ w.cell? ⟨b, o + 3, none⟩ = some (.string a.s) ∧ w.cell? ⟨b, o + 4, none⟩ = some (.slice A' a.keep.length c')
theorem At.seen {W w : World} {A : Option Addr} {i : Nat} {a : Act} {b o : Nat} {A' : Option Addr} {c' : Nat} (h : At W w A i a b o A' c') : Seen b (o + i * 5) a A' c' w := ⟨h.k0, h.k1, h.k2, h.k3, h.k4⟩

structure TelRel (W : World) (g : Nat) (l : List Act) (pv iv : Value) (w : World) (p i : Nat) : Prop where
  pv : pv = ptr p
  iv : iv = .int .i64 i
  le : i ≤ l.length
  both : DR W w p g (playL (l.take i) St.new) (playL (l.take i) St.new)

set_option maxRecDepth 100000 in
set_option maxHeartbeats 4000000 in
theorem tells_law (A : Option Addr) (c : Nat) (l : List Act) (f at_ n : Int) (w : World) (h : Acts w A l) (hat : at_ ≤ 9223372036854775807) (hn : n ≤ 9223372036854775807) :
    Calls Try.prog 3 #[.slice A l.length c, .int .i64 f, .int .i64 at_, .int .i64 n] w fun e w' => e = .returned (.bool true) ∧ Below w.heap.size w w' := by
  have H := Lib.hid h
  clear h
  go_enter Try.func3, Try.ntmps3
  go_wp2_with (go_at_call 8; refine (small_any _).mono ?_; rintro e w1 ⟨rfl, b1⟩)
  have B1 := Lib.hid b1
  clear b1
  refine (few_any A c l H.out B1.out).mono ?_
  rintro e w2 ⟨b, rfl, hb, b2⟩
  have HB := Lib.hid hb
  have B2 := Lib.hid (next_below B1.out b2)
  clear hb b2
  cases b with
  | false =>
    go_wp2_with fail
    go_ret
    exact ⟨rfl, B2.out⟩
  | true =>
    obtain ⟨h40, hfew⟩ := HB.out rfl
    have HF := Lib.hid hfew
    clear hfew HB
    go_wp2_with fail
    refine (new_one B2.out).mono ?_
    rintro e w3 ⟨p, rfl, h3⟩
    have H3 := Lib.hid h3
    clear h3
    go_wp2_with ((go_at_call 11; refine H3.out.ref.mono ?_; rintro e w4 ⟨g, rfl, h4⟩; have H4 := Lib.hid h4; clear h4))
    go_loopw [10, 12, 13] (fun pv iv _ wr => ∃ p i, TelRel w g l pv iv wr p i) (fun _ iv _ _ => l.length - (intOf iv).toNat)
    case atStart => exact ⟨p, 0, rfl, rfl, Nat.zero_le _, H4.out⟩
    case round =>
      obtain ⟨p1, i, ⟨rfl, rfl, hi, hboth⟩⟩ := hrel
      by_cases hlt : i < l.length
      · obtain ⟨b, o, A', c', hseen⟩ := H.out.all hlt
        have HK := Lib.hid (HF.out l[i] (List.getElem_mem hlt))
        have HPL := Lib.hid (playL_succ hlt St.new)
        generalize playL (l.take i) St.new = S at *
        generalize l[i] = a at *
        obtain ⟨rfl, k0, k1, k2, k3, k4, hra, hfa⟩ := hseen wr hboth.below
        have HS := Lib.hid (fun w' (hb : Below w.heap.size w w') => (hseen w' hb).seen)
        have HD := Lib.hid (fun w' (h : DR w w' p1 g S S) => h.do_ a A' c' hfa hra (by have := HK.out.keep; omega))
        have HT := Lib.hid (fun w' (h : DR w w' p1 g (a.run S).1 S) => h.tell a A' c' hfa hra (by have := HK.out.keep; omega) (by have := HK.out.s; omega))
        unfold Act.cells at HD HT
        have HDN := Lib.hid (fun w' (h : DR w w' p1 g (a.run S).1 (a.run S).1) => h.one.down)
        have HRD := Lib.hid (fun w' (h : DR w w' p1 g (a.run S).1 (a.run S).1) => h.rdown)
        have HSZ := Lib.hid (fun w' (h : DR w w' p1 g (a.run S).1 (a.run S).1) => h.one.size f)
        have HRS := Lib.hid (fun w' (h : DR w w' p1 g (a.run S).1 (a.run S).1) => h.rsize f)
        generalize (a.run S).2 = er at *
        generalize (a.run S).1.Size f = sz at *
        generalize (a.run S).1.down = dn at *
        generalize (a.run S).1 = S1 at *
        have H0 := Lib.hid (hboth.keep ((Below.refl _ wr).drew))
        have HB0 := Lib.hid hboth
        clear hseen hra hfa hboth
        go_upto_region 11 with (fail)
        go_region_held3 (fun w' => Seen b (o + i * 5) a A' c' w') (first | exact HS.out _ (DR.below H0.out) | exact HS.out _ (DR.below (by assumption)) | go_keep)
          (first
            | (go_at_call 12; refine (HD.out _ H0.out).mono ?_; rintro e w5 ⟨rfl, h5⟩)
            | (go_at_call 13; refine (HT.out _ h5).mono ?_; rintro e w6 ⟨rfl, h6⟩)
            | (go_at_call 14; refine (HDN.out _ h6).mono ?_; rintro e w7 ⟨rfl, rfl⟩)
            | (go_at_call 15; refine (HRD.out _ h6).mono ?_; rintro e w7 ⟨rfl, rfl⟩)
            | (go_at_call 16; refine (HSZ.out _ h6).mono ?_; rintro e w7 ⟨rfl, rfl⟩)
            | (go_at_call 17; refine (HRS.out _ h6).mono ?_; rintro e w8 ⟨rfl, h8⟩))
        have H8 := Lib.hid h8
        clear h8 HD HT HDN HRD HSZ HRS H0 HB0 HS HK
        have hpos : 0 < l.length := by omega
        by_cases hmid : i = l.length / 2
        · have hq : ((i : Int) == (l.length : Int) / 2) = true := beq_iff_eq.2 (by omega)
          obtain ⟨b', o', A0, c0, hat0⟩ := H.out.all hpos
          have HK0 := Lib.hid (HF.out l[0] (List.getElem_mem hpos))
          generalize l[0] = a0 at *
          obtain ⟨e0, _, _, _, _, _, hra, hfa⟩ := hat0 w8 H8.out.below
          obtain ⟨rfl, rfl⟩ : b = b' ∧ o = o' := by
            injection e0 with e0
            injection e0 with e1 e2
            exact ⟨e1, e2⟩
          have HS0 := Lib.hid (fun w' (hb : Below w.heap.size w w') => (hat0 w' hb).seen)
          simp only [Nat.zero_mul, Nat.add_zero] at HS0
          have HD0 := Lib.hid (fun w' q (h : DC w w' p1 q g S1 S1 S1) => h.do_ a0 A0 c0 hfa hra (by have := HK0.out.keep; omega))
          unfold Act.cells at HD0
          have HSY := Lib.hid (fun w' q S0 (h : DC w w' p1 q g S0 S1 S1) => h.sync f)
          have HCP := Lib.hid H8.out.copy
          generalize (a0.run S1).2 = er0 at *
          generalize (a0.run S1).1 = S0 at *
          clear hat0 hra hfa e0
          go_wp2_with (first
            | (go_at_call 18; refine HCP.out.mono ?_; rintro e w9 ⟨q, rfl, h9⟩; obtain ⟨j0, j1, j2, j3, j4⟩ := HS0.out w9 h9.below; have H9 := Lib.hid h9; clear h9)
            | (go_at_call 12; refine (HD0.out _ _ H9.out).mono ?_; rintro e w10 ⟨rfl, h10⟩; have H10 := Lib.hid h10; clear h10)
            | (go_at_call 19; refine (HSY.out _ _ _ H10.out).mono ?_; rintro e w11 ⟨rfl, h11⟩; have H11 := Lib.hid h11.rest; clear h11))
          go_roundw
          case rel => exact ⟨q, i + 1, rfl, (by simp; omega), hlt, by rw [HPL.out]; exact H11.out⟩
          case measure => simp [intOf]; omega
        · have hq : ((i : Int) == (l.length : Int) / 2) = false := beq_eq_false_iff_ne.2 (by omega)
          go_wp2_with fail
          go_roundw
          case rel => exact ⟨p1, i + 1, rfl, by simp, hlt, by rw [HPL.out]; exact H8.out⟩
          case measure => simp [intOf]; omega
      · obtain rfl : l.length = i := by omega
        rw [List.take_length] at hboth
        generalize playL l St.new = S at *
        have HR1 := Lib.hid (hboth.read f at_ n hat hn)
        have HR2 := Lib.hid (fun w' (h : DR w w' p1 g S S) => h.rread f at_ n ⟨hat, hn⟩)
        clear hboth
        generalize S.Read f at_ n = rd at *
        unfold str at HR1 HR2
        generalize (⟨rd.1.toArray⟩ : ByteArray) = x at *
        generalize rd.2 = y at *
        go_wp2_with (first
          | (go_at_call 20; refine HR1.out.mono ?_; rintro e w5 ⟨rfl, h5⟩; have H5 := Lib.hid h5; clear h5)
          | (go_at_call 21; refine (HR2.out _ H5.out).mono ?_; rintro e w6 ⟨rfl, h6⟩; have H6 := Lib.hid h6; clear h6))
        go_ret
        exact ⟨rfl, H6.out.below⟩
end Dsk
end Go.Proofs.Ytgaclibokapfaaa

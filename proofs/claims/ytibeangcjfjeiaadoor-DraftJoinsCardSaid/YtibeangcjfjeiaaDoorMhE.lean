/- Package draft reads tokens. Package draft's Parse. The statements' bad and small. What a draft that was read is like: lines, limits, errors. DraftBlanks: the walk. -/
import Derived.Test.YtibeangcjfjeiaaDoorDpK
import Derived.Test.YtibeangcjfjeiaaDoorLxU
import Derived.Test.YtibeangcjfjeiaaDoorDpT
import Derived.Test.YtibeangcjfjeiaaDoorMgP
import Derived.Test.YtibeangcjfjeiaaDoorMgG
namespace Go.Proofs.YtibeangcjfjeiaaDoor
open Go.RowKit Txt Wire Lx
set_option linter.unusedVariables false
set_option maxRecDepth 100000
set_option linter.unusedSimpArgs false
namespace Drf

abbrev zeroDf : Value := .agg #[.slice none 0 0, .slice none 0 0]
/-- What reading a draft leaves. -/
def DPost (w : World) (R : Pr) (e : Ending) (w' : World) : Prop := Below w.heap.size w w' ∧ match R with
  | .bad er L => e = .returned (.tuple #[zeroDf, .int .i64 er, .int .i64 L])
  | .ok d => ∃ dv iv, e = .returned (.tuple #[.agg #[dv, iv], .int .i64 0, .int .i64 0]) ∧ Dr w' w.heap.size dv iv d
theorem dpost_bad {w w' : World} {er L : Nat} {e : Ending} (he : e = .returned (.tuple #[zeroDf, .int .i64 er, .int .i64 L])) (b : Below w.heap.size w w') : DPost w (.bad er L) e w' := ⟨b, he⟩
theorem dpost_ok {w w' : World} {d : Df} {e : Ending} {dv iv : Value} (he : e = .returned (.tuple #[.agg #[dv, iv], .int .i64 0, .int .i64 0])) (h : Dr w' w.heap.size dv iv d) (b : Below w.heap.size w w') : DPost w (.ok d) e w' := ⟨b, dv, iv, he, h⟩
theorem Own.lower {w : World} {H H' : Nat} {dv iv : Value} {d : Df} {vs us : List Value} {lab : Nat → Nat} (h : Own w H dv iv d vs us lab) (hH : H' ≤ H) : Own w H' dv iv d vs us lab :=
  ⟨h.dlen, h.ilen, h.decks.lower hH, h.dlab, h.items.lower hH, h.ilab, fun i v ts hv ht => ⟨(h.rows i v ts hv ht).1.lower hH, (h.rows i v ts hv ht).2⟩, fun i u x hu hx => ⟨(h.ints i u x hu hx).1.lower hH, (h.ints i u x hu hx).2⟩⟩
theorem Dr.lower {w : World} {H H' : Nat} {dv iv : Value} {d : Df} (h : Dr w H dv iv d) (hH : H' ≤ H) : Dr w H' dv iv d := by
  obtain ⟨vs, us, lab, h⟩ := h
  exact ⟨vs, us, lab, h.lower hH⟩
theorem Dr.slices {w : World} {H : Nat} {dv iv : Value} {d : Df} (h : Dr w H dv iv d) : ∃ A1 n1 m1 A2 n2 m2, dv = .slice A1 n1 m1 ∧ iv = .slice A2 n2 m2 := by
  obtain ⟨_, _, _, h⟩ := h
  obtain ⟨_, _, h1⟩ := h.decks.slice
  obtain ⟨_, _, h2⟩ := h.items.slice
  exact ⟨_, _, _, _, _, _, h1, h2⟩
def restN (w : World) (b : Nat) : Nat := match w.cell? ⟨b, 0, none⟩ with
  | some (.slice _ n _) => n
  | _ => 0
theorem PS.restN {W w : World} {b : Nat} {l : List Tk} {d : Df} (h : PS W w b l d) : restN w b = l.length := by
  obtain ⟨_, _, _, _, ⟨A, c, _, hb, _⟩, _⟩ := h
  unfold Drf.restN
  rw [show w.cell? ⟨b, 0, none⟩ = some (.slice A l.length c) from hb.at 0]
theorem row_up {w : World} {B B' : Nat} {A : Option Addr} {xs : List Value} (h : Row w B A xs) (hB : B ≤ B') : Row w B' A xs := fun k u hu => by
  obtain ⟨b, o, e, h1, h2⟩ := h k u hu
  exact ⟨b, o, e, by omega, h2⟩
/-- Between two lines. -/
structure ReR (W wr : World) (b : Nat) (R : Pr) (N : Nat) (d : Df) (l : List Tk) : Prop where
  ps : PS W wr b l d
  small : Sml d
  ends : Ends l
  rest : parseT d l = R
  short : l.length ≤ N
/-- What the return of an error reads. -/
structure ErrIn (w : World) (b g o n c line : Nat) : Prop where
  c0 : w.cell? ⟨b, 0, none⟩ = some (.slice (some ⟨g, o, none⟩) n c)
  u3 : w.cell? ⟨g, o + 3, none⟩ = some (.int .i64 line)
theorem ErrIn.drew {w : World} {b g o n c line : Nat} (h : ErrIn w b g o n c line) : ErrIn w.drew b g o n c line := ⟨h.c0, h.u3⟩
set_option maxHeartbeats 4000000 in
theorem read_any {w : World} {A : Option Addr} {c : Nat} {l : List Tk} (hr : Row w w.heap.size A (tks l)) (hc : l.length ≤ c) (he : Ends l) (hl : l.length ≤ 900000000) (hv : VD w) (hf : VF w) :
    Calls Tryd.prog 20 #[.slice A l.length c] w (DPost w (parseT ⟨[], []⟩ l)) := by
  have hgd := hv.lt
  have hgf := hf.lt
  have hw0 : Below w.heap.size w ((w.alloc (.cells #[.slice none 0 0, .slice none 0 0] 25)).alloc (.cells #[.slice A l.length c, .slice none 0 0, .slice none 0 0] 81)) := ((Below.refl _ w).alloc (Nat.le_refl _) _).alloc (by simp) _
  have hb : Blk ((w.alloc (.cells #[.slice none 0 0, .slice none 0 0] 25)).alloc (.cells #[.slice A l.length c, .slice none 0 0, .slice none 0 0] 81)) (w.heap.size + 1) 81 #[.slice A l.length c, .slice none 0 0, .slice none 0 0] := by
    have := Blk.fresh (w.alloc (.cells #[.slice none 0 0, .slice none 0 0] 25)) 81 #[.slice A l.length c, .slice none 0 0, .slice none 0 0]
    simpa using this
  have hq : Blk ((w.alloc (.cells #[.slice none 0 0, .slice none 0 0] 25)).alloc (.cells #[.slice A l.length c, .slice none 0 0, .slice none 0 0] 81)) w.heap.size 25 #[.slice none 0 0, .slice none 0 0] := (Blk.fresh w _ _).kept _
  have hs2 : ((w.alloc (.cells #[.slice none 0 0, .slice none 0 0] 25)).alloc (.cells #[.slice A l.length c, .slice none 0 0, .slice none 0 0] 81)).heap.size = w.heap.size + 2 := by simp
  have hlin := lines_any (w.heap.size + 1) _ (hf.lift hw0)
  have HF := Lib.hid (And.intro hw0 (And.intro hb (And.intro hq (And.intro hs2 hlin))))
  have HR := Lib.hid hr
  have HE := Lib.hid he
  have HV := Lib.hid hv
  have HF0 := Lib.hid hf
  have HCC := Lib.hid hc
  clear hw0 hb hq hs2 hlin hr he hv hf hc
  generalize hR : parseT ⟨[], []⟩ l = R
  have HRR := Lib.hid hR
  clear hR
  go_enter Tryd.func20, Tryd.ntmps20
  go_wp2_with (go_at_call 46; go_must (
    refine HF.out.2.2.2.2.mono ?_; rintro e w1 ⟨M, q, ks, rfl, hL⟩
    obtain ⟨hw0, hb, hq, hs2, _⟩ := HF.out
    generalize ((w.alloc (.cells #[.slice none 0 0, .slice none 0 0] 25)).alloc (.cells #[.slice A l.length c, .slice none 0 0, .slice none 0 0] 81)) = w0 at *
    have hb1 := hb.under hL.below hb.inside
    have hq1 := hq.under hL.below hq.inside
    have hps : PS w1 w1 (w.heap.size + 1) l ⟨[], []⟩ := ⟨hb1.inside, below_none (Below.refl _ _) _, _, _, ⟨A, c, HCC.out, hb1, row_up (HR.out.below (hw0.trans (hL.below.mono (by omega)))) (by omega)⟩, Dr.zero w1 w1.heap.size⟩
    have HPS := Lib.hid hps
    have HL := Lib.hid hL
    have HQ1 := Lib.hid hq1
    have HB1 : Hid (Below w.heap.size w w1) := Lib.hid (hw0.trans (hL.below.mono (by omega)))
    have HS2 := Lib.hid hs2
    clear hL hb1 hq1 hps hw0 hb hq hs2 HF))
  go_loopw [7] (fun _ wr => ∃ d l', ReR w1 wr (w.heap.size + 1) R 900000000 d l') (fun _ wr => restN wr (w.heap.size + 1))
  case atStart => exact ⟨_, l, HPS.out, ⟨Nat.zero_le _, fun ts ht => (by cases ht), Nat.zero_le _⟩, HE.out, HRR.out, hl⟩
  case round =>
    obtain ⟨d, l', hI⟩ := hrel
    have hmu := hI.ps.restN
    obtain ⟨t, l', rfl⟩ := List.exists_cons_of_ne_nil hI.ends.ne
    obtain ⟨g, o, c0, hg, hbw, hh⟩ := hI.ps.hd
    obtain ⟨q0, q1, q2, q3, q4⟩ := hh
    have hgw : g < wr.heap.size := by omega
    have hr1 : (0 : Int) < (l'.length : Int) + 1 := by omega
    have hshort := hI.short
    rw [List.length_cons] at hshort hmu
    have hgr := hI.ps.grown
    have hbr : Below w.heap.size w wr := HB1.out.trans ⟨hgr.os, hgr.tape, hgr.output, hgr.size, fun k hk => hgr.block k (by have := HB1.out.size; omega) (fun e => by have := Option.some.inj e; omega)⟩
    have hqr : Blk wr w.heap.size 25 #[.slice none 0 0, .slice none 0 0] := HQ1.out.past hgr (fun e => by have := Option.some.inj e; omega)
    have HBR := Lib.hid hbr
    have HQR := Lib.hid hqr
    have HI := Lib.hid hI
    by_cases h4 : t.kind = 4
    · have hk4 : ((t.kind : Int) != 4) = false := by rw [h4]; rfl
      have hx : R = .ok d := by rw [← hI.rest]; exact parse_end h4
      have HX := Lib.hid hx
      obtain ⟨_, _, dv, iv, ⟨A', c', _, hbb, _⟩, hdr⟩ := hI.ps
      have d1 : wr.cell? ⟨w.heap.size + 1, 1, none⟩ = some dv := hbb.at 1
      have d2 : wr.cell? ⟨w.heap.size + 1, 2, none⟩ = some iv := hbb.at 2
      have z0 := hqr.thaw 0
      have z1 := hqr.thaw 1
      have y0 : wr.cell? ⟨w.heap.size, 0, none⟩ = some (.slice none 0 0) := hqr.at 0
      have y1 : wr.cell? ⟨w.heap.size, 1, none⟩ = some (.slice none 0 0) := hqr.at 1
      have hsl : ∃ A1 n1 m1 A2 n2 m2, dv = .slice A1 n1 m1 ∧ iv = .slice A2 n2 m2 := by
        obtain ⟨_, _, _, h⟩ := hdr
        obtain ⟨_, _, h1⟩ := h.decks.slice
        obtain ⟨_, _, h2⟩ := h.items.slice
        exact ⟨_, _, _, _, _, _, h1, h2⟩
      obtain ⟨A1, n1, m1, A2, n2, m2, rfl, rfl⟩ := hsl
      have HDR := Lib.hid hdr
      have hs1w := HB1.out.size
      have hlt1 : w.heap.size < w1.heap.size := HQ1.out.inside
      clear hI hgr hbr hqr hbb hdr h4 hx
      go_wp2_with fail
      have t0 := (HQR.out.put 0 (.slice A1 n1 m1)).put 1 (.slice A2 n2 m2)
      have e0 : ((wr.setCell ⟨w.heap.size, 0, none⟩ (.slice A1 n1 m1)).setCell ⟨w.heap.size, 1, none⟩ (.slice A2 n2 m2)).cell? ⟨w.heap.size, 0, none⟩ = some (.slice A1 n1 m1) := t0.at 0
      have e1 : ((wr.setCell ⟨w.heap.size, 0, none⟩ (.slice A1 n1 m1)).setCell ⟨w.heap.size, 1, none⟩ (.slice A2 n2 m2)).cell? ⟨w.heap.size, 1, none⟩ = some (.slice A2 n2 m2) := t0.at 1
      have hc2 : Chg (fun k => k = w.heap.size) wr ((wr.setCell ⟨w.heap.size, 0, none⟩ (.slice A1 n1 m1)).setCell ⟨w.heap.size, 1, none⟩ (.slice A2 n2 m2)) := (Chg.set (F := fun k => k = w.heap.size) (a := ⟨w.heap.size, 0, none⟩) rfl _).trans (Chg.set (F := fun k => k = w.heap.size) (a := ⟨w.heap.size, 1, none⟩) rfl _)
      exact bodyPost_ret (v := .tuple #[.agg #[.slice A1 n1 m1, .slice A2 n2 m2], .int .i64 0, .int .i64 0]) (by simp [results, Tryd.results20, go_sem, e0, e1]) rfl (by rw [HX.out]; exact dpost_ok rfl ((HDR.out.chg hc2 fun k hk => by omega).lower (by omega)) (HBR.out.trans (hc2.below (by have := HBR.out.size; omega) fun k hk => by omega)))
    · have hk4 : ((t.kind : Int) != 4) = true := bne_iff_ne.2 (by omega)
      have hpl := parse_lineS h4 (hI.ends.tail h4) (d := d)
      rw [hI.rest] at hpl
      have hcall := line_any hI.ps hI.small h4 (hI.ends.tail h4) (by omega) HL.out (by have := HS2.out; omega) (HV.out.lift HB1.out) (HF0.out.lift HB1.out) (by omega) (by omega)
      have HC := Lib.hid hcall
      have HPL := Lib.hid hpl
      have HN := Lib.hid (hI.ends.tail h4)
      have HSM := Lib.hid hI.small
      clear hI hgr hbr hqr hcall hpl h4
      cases hl : lineS d t l' with
      | inl x =>
        obtain ⟨er, L⟩ := x
        rw [hl] at HC HPL
        have HX := Lib.hid (show R = .bad er L from HPL.out)
        clear hl HPL
        go_upto_region 6 with (go_at_call 47; go_must (
          refine HC.out.mono ?_; rintro e w2 ⟨rfl, h2, dx, u, rr, hp, hL2⟩
          have hne : (((er : Nat) : Int) != 0) = true := by rcases h2 with rfl | rfl <;> rfl
          have HP := Lib.hid hp
          have HLL := Lib.hid hL2
          clear h2 hp hL2))
        obtain ⟨g1, o1, c1, hg1, hb1, hh1⟩ := HP.out.hd
        obtain ⟨k0, k1, k2, k3, k4⟩ := hh1
        have hg1w : g1 < w2.heap.size := by omega
        have hr2 : (0 : Int) < (rr.length : Int) + 1 := by omega
        have hgr2 := HP.out.grown
        have hq2 : Blk w2 w.heap.size 25 #[.slice none 0 0, .slice none 0 0] := HQ1.out.past hgr2 (fun e => by have := Option.some.inj e; omega)
        have hb2 : Below w.heap.size w w2 := HB1.out.trans ⟨hgr2.os, hgr2.tape, hgr2.output, hgr2.size, fun k hk => hgr2.block k (by have := HB1.out.size; omega) (fun e => by have := Option.some.inj e; omega)⟩
        have HB2 := Lib.hid hb2
        have HQ2 := Lib.hid hq2
        have z0 := hq2.thaw 0
        have z1 := hq2.thaw 1
        have y0 : w2.cell? ⟨w.heap.size, 0, none⟩ = some (.slice none 0 0) := hq2.at 0
        have y1 : w2.cell? ⟨w.heap.size, 1, none⟩ = some (.slice none 0 0) := hq2.at 1
        have hwn : w.heap.size < w2.heap.size := hq2.inside
        have HLN := Lib.hid (show ErrIn w2 (w.heap.size + 1) g1 o1 (rr.length + 1) c1 u.line from ⟨k0, k4⟩)
        have HG1 := Lib.hid (show g1 < w.heap.size + 1 from hg1)
        have hgne : g1 ≠ w.heap.size := by
          intro e
          rw [e, show w2.cell? ⟨w.heap.size, o1 + 3, none⟩ = _ from hq2.at (o1 + 3)] at k4
          simp at k4
        have s2 : ErrIn ((w2.setCell ⟨w.heap.size, 0, none⟩ (.slice none 0 0)).setCell ⟨w.heap.size, 1, none⟩ (.slice none 0 0)) (w.heap.size + 1) g1 o1 (rr.length + 1) c1 u.line := by
          have o1 : ∀ (g o : Nat), g ≠ w.heap.size → ((w2.setCell ⟨w.heap.size, 0, none⟩ (.slice none 0 0)).setCell ⟨w.heap.size, 1, none⟩ (.slice none 0 0)).cell? ⟨g, o, none⟩ = w2.cell? ⟨g, o, none⟩ := fun g o hne => by
            rw [World.cell?_setCell_other _ _ _ _ (fun e => by injection e with e; exact hne e.symm), World.cell?_setCell_other _ _ _ _ (fun e => by injection e with e; exact hne e.symm)]
          exact ⟨(o1 _ _ (by omega)).trans k0, (o1 _ _ hgne).trans k4⟩
        have SX := Lib.hid s2
        have HHR := Lib.hid ((HQ2.out.put 0 (.slice none 0 0)).put 1 (.slice none 0 0))
        have HC2 : Hid (Chg (fun k => k = w.heap.size) w2 ((w2.setCell ⟨w.heap.size, 0, none⟩ (.slice none 0 0)).setCell ⟨w.heap.size, 1, none⟩ (.slice none 0 0))) := Lib.hid ((Chg.set (F := fun k => k = w.heap.size) (a := ⟨w.heap.size, 0, none⟩) rfl _).trans (Chg.set (F := fun k => k = w.heap.size) (a := ⟨w.heap.size, 1, none⟩) rfl _))
        clear hgr2 hq2 hb2 k0 k1 k2 k3 k4 s2 hgne
        refine Dsk.wp_region_sorted (fun w' => ErrIn w' (w.heap.size + 1) g1 o1 (rr.length + 1) c1 u.line) [0, 1, 2, 3, 4, 5, 6, 7, 8] [9, 10, 11] (by kernel_rfl) (by decide +kernel) ⟨HLN.out.c0, HLN.out.u3⟩ ?_
        repeat refine Dsk.RD.next rfl rfl (by intro w' ⟨c0, u3⟩; go_simp; with_reducible rfl) ?_
        refine Dsk.RD.done ?_
        refine Dsk.CH.next rfl rfl fun Kc hK => ?_
        go_simp
        refine hK _ _ SX.out.drew ?_
        clear hK
        generalize hwz : (w2.setCell ⟨w.heap.size, 0, none⟩ (.slice none 0 0)).setCell ⟨w.heap.size, 1, none⟩ (.slice none 0 0) = wz at *
        refine Dsk.CH.next rfl rfl fun Kc hK => ?_
        go_simp
        refine hK _ _ SX.out.drew ?_
        clear hK
        refine Dsk.CH.next rfl rfl fun Kc hK => ?_
        go_simp
        refine hK _ _ SX.out.drew ?_
        clear hK
        refine Dsk.CH.done (NoPanic.normal ?_)
        have e0 : wz.drew.cell? ⟨w.heap.size, 0, none⟩ = some (.slice none 0 0) := HHR.out.at 0
        have e1 : wz.drew.cell? ⟨w.heap.size, 1, none⟩ = some (.slice none 0 0) := HHR.out.at 1
        go_wp2_with fail
        exact bodyPost_ret (v := .tuple #[zeroDf, .int .i64 er, .int .i64 u.line]) (by simp [results, Tryd.results20, go_sem, e0, e1, zeroDf]) rfl (by rw [HX.out, ← HLL.out]; exact dpost_bad rfl (HB2.out.trans (Below.drew (HC2.out.below (by have := HB2.out.size; omega) fun k hk => by omega))))
      | inr x =>
        obtain ⟨d2, r2⟩ := x
        rw [hl] at HC HPL
        have HX := Lib.hid (show R = parseT d2 r2 from HPL.out)
        have HN2 := Lib.hid (lineS_ends hl HN.out)
        have HS2 := Lib.hid (sml_lineS HSM.out hl)
        have hlen := lineS_len hl
        clear hl HPL
        go_wp2_with (go_at_call 47; go_must (
          refine HC.out.mono ?_; rintro e w2 ⟨rfl, hp⟩
          have HP := Lib.hid hp
          clear hp))
        go_roundw
        case rel => exact ⟨d2, r2, HP.out, HS2.out, HN2.out, HX.out.symm, by omega⟩
        case measure =>
          rw [hmu, HP.out.restN]
          omega
end Drf
end Go.Proofs.YtibeangcjfjeiaaDoor

namespace Go.Proofs.YtibeangcjfjeiaaDoor
open Go.RowKit Txt Wire Lx
set_option linter.unusedVariables false
set_option maxRecDepth 100000
set_option linter.unusedSimpArgs false
namespace Drf

theorem lexP_no0 : ∀ a line, ∀ x k, lexP a line = .bad x k → x = 3 ∨ x = 11 := by
  refine lexP_ind (fun line x k h => ?_) (fun c r line hw ih x k h => ?_) (fun r line ih x k h => ?_) (fun c r line e hw h35 ht x k h => ?_) (fun c r line kind text n rest hw h35 ht ih x k h => ?_)
  · rw [lexP_nil] at h
    cases h
  · rw [lexP_white hw] at h
    exact ih x k h
  · rw [lexP_note] at h
    exact ih x k h
  · rw [lexP_bad hw h35 ht] at h
    cases h
    exact tok_bad ht
  · rw [lexP_got hw h35 ht] at h
    cases hr : lexP rest (nxt kind line) with
    | bad e k2 =>
      rw [hr] at h
      cases h
      exact ih _ _ hr
    | ok l =>
      rw [hr] at h
      cases h
theorem lexAll_no0 {a : List UInt8} {x k : Nat} (h : lexAll a = .bad x k) : x = 3 ∨ x = 6 ∨ x = 11 := by
  unfold lexAll at h
  split at h
  · cases h
    exact .inr (.inl rfl)
  · rcases lexP_no0 _ _ _ _ h with h | h
    · exact .inl h
    · exact .inr (.inr h)
theorem lexAll_ends {a : List UInt8} {l : List Tk} (h : lexAll a = .ok l) : Ends l ∧ l.length ≤ 20001 := by
  unfold lexAll at h
  split at h
  · cases h
  · have h1 := lex_count _ _ _ h
    obtain ⟨init, L, e, _⟩ := lexP_last _ _ _ h
    exact ⟨⟨init, L, e⟩, by omega⟩
set_option maxHeartbeats 4000000 in
theorem parse_any (src : List UInt8) (w : World) (hl : src.length ≤ 1000000) (hv : VD w) (hf : VF w) : Calls Tryd.prog 9 #[str src] w (DPost w (parseP src)) := by
  have hb0 := below_more w (.cells #[.slice none 0 0, .slice none 0 0] 25)
  have hq0 : Blk (w.alloc (.cells #[.slice none 0 0, .slice none 0 0] 25)) w.heap.size 25 #[.slice none 0 0, .slice none 0 0] := Blk.fresh w _ _
  have hx := lex_any src (w.alloc (.cells #[.slice none 0 0, .slice none 0 0] 25)) hl
  have hv0 := hv.lift hb0
  have hf0 := hf.lift hb0
  have hlt0 := hq0.inside
  have HA := Lib.hid (And.intro hb0 (And.intro hq0 (And.intro hv0 (And.intro hf0 hlt0))))
  obtain ⟨s, rfl⟩ := mk_bl src
  unfold parseP
  cases hlx : lexAll (bl s) with
  | bad er k =>
    rw [hlx] at hx
    have hne : (((er : Nat) : Int) != 0) = true := by rcases lexAll_no0 hlx with rfl | rfl | rfl <;> rfl
    have HX := Lib.hid hx
    clear hx hlx hv hf hb0 hq0 hv0 hf0 hlt0
    go_enter Tryd.func9, Tryd.ntmps9
    go_wp2_with (go_at_call 17; go_must (
      refine HX.out.mono ?_; rintro e w2 ⟨b2, rfl⟩
      obtain ⟨hb0, hq0, _, _, hlt0⟩ := HA.out
      have hq2 := hq0.under b2 hlt0
      have z0 := hq2.thaw 0
      have z1 := hq2.thaw 1
      have y0 : w2.cell? ⟨w.heap.size, 0, none⟩ = some (.slice none 0 0) := hq2.at 0
      have y1 : w2.cell? ⟨w.heap.size, 1, none⟩ = some (.slice none 0 0) := hq2.at 1
      have HQ2 := Lib.hid hq2
      have HB2 : Hid (Below w.heap.size w w2) := Lib.hid (hb0.trans (b2.mono (by simp)))
      clear hb0 hq0 hlt0 b2 hq2))
    have t0 := (HQ2.out.put 0 (.slice none 0 0)).put 1 (.slice none 0 0)
    have e0 : ((w2.setCell ⟨w.heap.size, 0, none⟩ (.slice none 0 0)).setCell ⟨w.heap.size, 1, none⟩ (.slice none 0 0)).cell? ⟨w.heap.size, 0, none⟩ = some (.slice none 0 0) := t0.at 0
    have e1 : ((w2.setCell ⟨w.heap.size, 0, none⟩ (.slice none 0 0)).setCell ⟨w.heap.size, 1, none⟩ (.slice none 0 0)).cell? ⟨w.heap.size, 1, none⟩ = some (.slice none 0 0) := t0.at 1
    have hc2 : Chg (fun k => k = w.heap.size) w2 ((w2.setCell ⟨w.heap.size, 0, none⟩ (.slice none 0 0)).setCell ⟨w.heap.size, 1, none⟩ (.slice none 0 0)) := (Chg.set (F := fun k => k = w.heap.size) (a := ⟨w.heap.size, 0, none⟩) rfl _).trans (Chg.set (F := fun k => k = w.heap.size) (a := ⟨w.heap.size, 1, none⟩) rfl _)
    exact bodyPost_ret (v := .tuple #[zeroDf, .int .i64 er, .int .i64 k]) (by simp [results, Tryd.results9, go_sem, e0, e1, zeroDf]) rfl (dpost_bad rfl (HB2.out.trans (hc2.below HB2.out.size fun k hk => by omega)))
  | ok l =>
    rw [hlx] at hx
    obtain ⟨hen, hcn⟩ := lexAll_ends hlx
    have HX := Lib.hid hx
    have HE := Lib.hid hen
    clear hx hlx hv hf hb0 hq0 hv0 hf0 hlt0 hen
    show Calls _ _ _ _ (DPost w (parseT ⟨[], []⟩ l))
    have HRD0 : Hid (∀ (A : Option Addr) (c : Nat) (w2 : World), Row w2 w2.heap.size A (tks l) → l.length ≤ c → VD w2 → VF w2 → Calls Tryd.prog 20 #[.slice A l.length c] w2 (DPost w2 (parseT ⟨[], []⟩ l))) := Lib.hid fun A c w2 h1 h2 h3 h4 => read_any h1 h2 HE.out (by omega) h3 h4
    cases hR : parseT ⟨[], []⟩ l with
    | bad er L =>
      rw [hR] at HRD0
      clear hR
      go_enter Tryd.func9, Tryd.ntmps9
      go_wp2_with (first
        | (go_at_call 17; go_must (
           refine HX.out.mono ?_; rintro e w2 ⟨b2, v, rfl, hh⟩
           obtain ⟨hb0, hq0, hv0, hf0, hlt0⟩ := HA.out
           obtain ⟨A, c, rfl, hc, hr⟩ := hh.is
           have hq2 := hq0.under b2 hlt0
           have HQ2 := Lib.hid hq2
           have HB2 : Hid (Below w.heap.size w w2) := Lib.hid (hb0.trans (b2.mono (by simp)))
           have HRD := Lib.hid (HRD0.out A c w2 hr hc (hv0.lift b2) (hf0.lift b2))
           clear hb0 hq0 hv0 hf0 hlt0 b2 hq2 hh hc hr))
        | (go_at_call 20; go_must (
           refine HRD.out.mono ?_; rintro e w3 ⟨b3, rfl⟩
           have hq3 := HQ2.out.under b3 HQ2.out.inside
           have HQ3 := Lib.hid hq3
           have HB3 : Hid (Below w.heap.size w w3) := Lib.hid (HB2.out.trans (b3.mono HB2.out.size))
           have z0 := hq3.thaw 0
           have z1 := hq3.thaw 1
           have y0 : w3.cell? ⟨w.heap.size, 0, none⟩ = some (.slice none 0 0) := hq3.at 0
           have y1 : w3.cell? ⟨w.heap.size, 1, none⟩ = some (.slice none 0 0) := hq3.at 1
           clear hq3 b3)))
      have t0 := (HQ3.out.put 0 (.slice none 0 0)).put 1 (.slice none 0 0)
      have e0 : ((w3.setCell ⟨w.heap.size, 0, none⟩ (.slice none 0 0)).setCell ⟨w.heap.size, 1, none⟩ (.slice none 0 0)).cell? ⟨w.heap.size, 0, none⟩ = some (.slice none 0 0) := t0.at 0
      have e1 : ((w3.setCell ⟨w.heap.size, 0, none⟩ (.slice none 0 0)).setCell ⟨w.heap.size, 1, none⟩ (.slice none 0 0)).cell? ⟨w.heap.size, 1, none⟩ = some (.slice none 0 0) := t0.at 1
      have hc2 : Chg (fun k => k = w.heap.size) w3 ((w3.setCell ⟨w.heap.size, 0, none⟩ (.slice none 0 0)).setCell ⟨w.heap.size, 1, none⟩ (.slice none 0 0)) := (Chg.set (F := fun k => k = w.heap.size) (a := ⟨w.heap.size, 0, none⟩) rfl _).trans (Chg.set (F := fun k => k = w.heap.size) (a := ⟨w.heap.size, 1, none⟩) rfl _)
      exact bodyPost_ret (v := .tuple #[zeroDf, .int .i64 er, .int .i64 L]) (by simp [results, Tryd.results9, go_sem, e0, e1, zeroDf]) rfl (dpost_bad rfl (HB3.out.trans (hc2.below HB3.out.size fun k hk => by omega)))
    | ok d =>
      rw [hR] at HRD0
      clear hR
      go_enter Tryd.func9, Tryd.ntmps9
      go_wp2_with (first
        | (go_at_call 17; go_must (
           refine HX.out.mono ?_; rintro e w2 ⟨b2, v, rfl, hh⟩
           obtain ⟨hb0, hq0, hv0, hf0, hlt0⟩ := HA.out
           obtain ⟨A, c, rfl, hc, hr⟩ := hh.is
           have hq2 := hq0.under b2 hlt0
           have HQ2 := Lib.hid hq2
           have HB2 : Hid (Below w.heap.size w w2) := Lib.hid (hb0.trans (b2.mono (by simp)))
           have HRD := Lib.hid (HRD0.out A c w2 hr hc (hv0.lift b2) (hf0.lift b2))
           clear hb0 hq0 hv0 hf0 hlt0 b2 hq2 hh hc hr))
        | (go_at_call 20; go_must (
           refine HRD.out.mono ?_; rintro e w3 ⟨b3, dv, iv, rfl, hd⟩
           obtain ⟨A1, n1, m1, A2, n2, m2, rfl, rfl⟩ := hd.slices
           have HD := Lib.hid hd
           have hlt2 : w.heap.size < w2.heap.size := HQ2.out.inside
           have hq3 := HQ2.out.under b3 HQ2.out.inside
           have HQ3 := Lib.hid hq3
           have HB3 : Hid (Below w.heap.size w w3) := Lib.hid (HB2.out.trans (b3.mono HB2.out.size))
           have z0 := hq3.thaw 0
           have z1 := hq3.thaw 1
           have y0 : w3.cell? ⟨w.heap.size, 0, none⟩ = some (.slice none 0 0) := hq3.at 0
           have y1 : w3.cell? ⟨w.heap.size, 1, none⟩ = some (.slice none 0 0) := hq3.at 1
           clear hq3 b3 hd)))
      have t0 := (HQ3.out.put 0 (.slice A1 n1 m1)).put 1 (.slice A2 n2 m2)
      have e0 : ((w3.setCell ⟨w.heap.size, 0, none⟩ (.slice A1 n1 m1)).setCell ⟨w.heap.size, 1, none⟩ (.slice A2 n2 m2)).cell? ⟨w.heap.size, 0, none⟩ = some (.slice A1 n1 m1) := t0.at 0
      have e1 : ((w3.setCell ⟨w.heap.size, 0, none⟩ (.slice A1 n1 m1)).setCell ⟨w.heap.size, 1, none⟩ (.slice A2 n2 m2)).cell? ⟨w.heap.size, 1, none⟩ = some (.slice A2 n2 m2) := t0.at 1
      have hc2 : Chg (fun k => k = w.heap.size) w3 ((w3.setCell ⟨w.heap.size, 0, none⟩ (.slice A1 n1 m1)).setCell ⟨w.heap.size, 1, none⟩ (.slice A2 n2 m2)) := (Chg.set (F := fun k => k = w.heap.size) (a := ⟨w.heap.size, 0, none⟩) rfl _).trans (Chg.set (F := fun k => k = w.heap.size) (a := ⟨w.heap.size, 1, none⟩) rfl _)
      exact bodyPost_ret (v := .tuple #[.agg #[.slice A1 n1 m1, .slice A2 n2 m2], .int .i64 0, .int .i64 0]) (by simp [results, Tryd.results9, go_sem, e0, e1]) rfl (dpost_ok rfl ((HD.out.chg hc2 fun k hk => by omega).lower HB2.out.size) (HB3.out.trans (hc2.below HB3.out.size fun k hk => by omega)))
end Drf
end Go.Proofs.YtibeangcjfjeiaaDoor

namespace Go.Proofs.YtibeangcjfjeiaaDoor
open Go.RowKit Txt Wire Lx
set_option linter.unusedVariables false
set_option maxRecDepth 100000
set_option linter.unusedSimpArgs false
namespace Drf

theorem below_on {w w1 w2 : World} (a : Below w.heap.size w w1) (b : Below w1.heap.size w1 w2) : Below w.heap.size w w2 := a.trans (b.mono a.size)
theorem dr_form {w w' : World} {d : Df} {e : Ending} (h : DPost w (.ok d) e w') : Below w.heap.size w w' ∧ ∃ A c B c', e = .returned (.tuple #[.agg #[.slice A d.decks.length c, .slice B d.items.length c'], .int .i64 0, .int .i64 0]) ∧ HasDf w' (.agg #[.slice A d.decks.length c, .slice B d.items.length c']) d ∧ Dr w' w.heap.size (.slice A d.decks.length c) (.slice B d.items.length c') d := by
  obtain ⟨b, dv, iv, he, hd⟩ := h
  have h := hd.has
  obtain ⟨a1, a2, vs, us, e1, h1, h2⟩ := h
  obtain ⟨A1, c1, rfl, -⟩ := h1.at
  obtain ⟨A2, c2, rfl, -⟩ := h2.at
  injection e1 with e1
  injection e1 with e1
  injection e1 with e1 e2
  injection e2 with e2 e3
  subst e1 e2
  exact ⟨b, A1, c1, A2, c2, he, ⟨_, _, vs, us, rfl, h1, h2⟩, hd⟩
theorem row_fresh (w : World) (t : TypeId) (xs : List Value) : Row (w.alloc (.cells xs.toArray t)) (w.alloc (.cells xs.toArray t)).heap.size (some ⟨w.heap.size, 0, none⟩) xs := fun k u h => by
  refine ⟨_, _, rfl, by simp, ?_⟩
  have := (Blk.fresh w t xs.toArray).at k
  rw [Nat.zero_add, this, List.getElem?_toArray]
  exact h
theorem row_fresh2 (w : World) (o : Obj) (t : TypeId) (xs : List Value) : Row ((w.alloc o).alloc (.cells xs.toArray t)) ((w.alloc o).alloc (.cells xs.toArray t)).heap.size (some ⟨w.heap.size + 1, 0, none⟩) xs := by
  have := row_fresh (w.alloc o) t xs
  rwa [show (w.alloc o).heap.size = w.heap.size + 1 from by simp] at this
set_option maxHeartbeats 1000000 in
theorem bad_any (s : ByteArray) (w : World) (hl : s.size ≤ 1000000) (hx : parseP (bl s) = .bad 11 1) (hv : VD w) (hf : VF w) :
    Calls Tryd.prog 19 #[.string s] w fun e w' => e = .returned (.bool true) ∧ Below w.heap.size w w' := by
  have HL : Hid (Calls Tryd.prog 9 #[.string s] w (DPost w (.bad 11 1))) := Lib.hid (by
    have := parse_any (bl s) w (by rw [bl_len]; exact hl) hv hf
    rwa [hx] at this)
  clear hx hv hf
  go_enter Tryd.func19, Tryd.ntmps19
  go_wp2_with (go_at_call 9; go_must (refine HL.out.mono ?_; rintro e w1 ⟨b1, rfl⟩; have B1 := Lib.hid b1; clear b1))
  go_ret
  exact ⟨rfl, B1.out.alloc B1.out.size _⟩

def dS : Df := ⟨[[[35, 46, 80]]], [⟨0, [97], [], [0, 1, 0, 2, 0, 1, 0], 3⟩]⟩
def oS : Df := ⟨[], [⟨2, [], [], [0, 1, 1, 1], 1⟩]⟩
def tS : List UInt8 := [100, 101, 99, 107, 10, 114, 111, 119, 32, 34, 35, 46, 80, 34, 10, 122, 111, 110, 101, 32, 97, 32, 48, 32, 49, 32, 48, 32, 50, 32, 48, 32, 49, 32, 48, 10]
def tO : List UInt8 := [111, 110, 101, 119, 97, 121, 32, 48, 32, 49, 32, 49, 32, 115, 111, 117, 116, 104]
theorem ex_d : parseP tS = .ok dS := by decide +kernel
theorem ex_o : parseP tO = .ok oS := by decide +kernel
theorem ex_p : printP dS = tS := by decide +kernel
theorem ex_1 : parseP [114, 111, 119, 32, 34, 35, 34] = .bad 11 1 := by decide +kernel
theorem ex_2 : parseP [115, 104, 101, 108, 102, 32, 48, 32, 49] = .bad 11 1 := by decide +kernel
theorem ex_3 : parseP [122, 111, 110, 101, 32, 53] = .bad 11 1 := by decide +kernel
set_option maxRecDepth 100000 in
set_option maxHeartbeats 4000000 in
theorem small_any (w : World) (hv : VD w) (hf : VF w) : Calls Tryd.prog 7 #[] w fun e w' => e = .returned (.bool true) ∧ Below w.heap.size w w' := by
  have HV := Lib.hid hv
  have HF := Lib.hid hf
  have HA : Hid (Calls Tryd.prog 9 #[.string ⟨tS.toArray⟩] w (DPost w (.ok dS))) := Lib.hid (by
    have := parse_any tS w (by decide) hv hf
    rwa [ex_d] at this)
  have HB : Hid (∀ w2, Below w.heap.size w w2 → Calls Tryd.prog 9 #[.string ⟨tO.toArray⟩] w2 (DPost w2 (.ok oS))) := Lib.hid fun w2 b => by
    have := parse_any tO w2 (by decide) (hv.lift b) (hf.lift b)
    rwa [ex_o] at this
  have H1 : Hid (∀ w2, Below w.heap.size w w2 → _) := Lib.hid (fun w2 b => bad_any ⟨#[114, 111, 119, 32, 34, 35, 34]⟩ w2 (by decide) ex_1 (hv.lift b) (hf.lift b))
  have H2 : Hid (∀ w2, Below w.heap.size w w2 → _) := Lib.hid (fun w2 b => bad_any ⟨#[115, 104, 101, 108, 102, 32, 48, 32, 49]⟩ w2 (by decide) ex_2 (hv.lift b) (hf.lift b))
  have H3 : Hid (∀ w2, Below w.heap.size w w2 → _) := Lib.hid (fun w2 b => bad_any ⟨#[122, 111, 110, 101, 32, 53]⟩ w2 (by decide) ex_3 (hv.lift b) (hf.lift b))
  have HP : Hid (∀ w2 v, Below w.heap.size w w2 → HasDf w2 v dS → Calls Tryd.prog 14 #[v] w2 fun e w' => e = .returned (.string ⟨tS.toArray⟩) ∧ Below w2.heap.size w2 w') := Lib.hid fun w2 v b h => by
    have := print_any h ⟨⟨by decide, by decide, by decide, by decide⟩, by decide, by decide, by decide, by decide⟩ (by decide) (hf.lift b) (hv.lift b)
    rwa [ex_p] at this
  have HB0 : Hid (∀ (w : World) o, Below w.heap.size w (w.alloc o)) := Lib.hid fun w o => below_more w o
  clear hv hf
  go_enter Tryd.func7, Tryd.ntmps7
  go_upto_region 2 with (go_at_call 9; go_must (
    refine HA.out.mono ?_; intro e w1 h1; obtain ⟨b1, A1, c1, A2, c2, he, d1, -⟩ := dr_form h1
    have he : e = .returned (.tuple #[.agg #[.slice A1 1 c1, .slice A2 1 c2], .int .i64 0, .int .i64 0]) := he
    subst he
    have D1 : Hid (HasDf w1 (.agg #[.slice A1 1 c1, .slice A2 1 c2]) dS) := Lib.hid d1
    have B1 := Lib.hid b1; clear b1 d1 h1))
  have B1a := Lib.hid (below_on B1.out (HB0.out w1 (.cells #[.slice A1 1 c1, .slice A2 1 c2] 25)))
  have hbx : Blk (w1.alloc (.cells #[.slice A1 1 c1, .slice A2 1 c2] 25)) w1.heap.size 25 #[.slice A1 1 c1, .slice A2 1 c2] := Blk.fresh w1 _ _
  have D2 : Hid (HasDf (w1.alloc (.cells #[.slice A1 1 c1, .slice A2 1 c2] 25)) (.agg #[.slice A1 1 c1, .slice A2 1 c2]) dS) := Lib.hid (D1.out.keep (HB0.out w1 _))
  have hlt1 : w1.heap.size < (w1.alloc (.cells #[.slice A1 1 c1, .slice A2 1 c2] 25)).heap.size := by simp
  generalize w1.alloc (.cells #[.slice A1 1 c1, .slice A2 1 c2] 25) = wa at *
  generalize w1.heap.size = g1 at *
  have HBX := Lib.hid hbx
  clear hbx D1 B1
  go_upto_region 3 with (go_at_call 9; go_must (
    refine (HB.out _ B1a.out).mono ?_; intro e w2 h2; obtain ⟨b2, A3, c3, A4, c4, he, d2, -⟩ := dr_form h2
    have he : e = .returned (.tuple #[.agg #[.slice A3 0 c3, .slice A4 1 c4], .int .i64 0, .int .i64 0]) := he
    subst he
    have O2 : Hid (HasDf w2 (.agg #[.slice A3 0 c3, .slice A4 1 c4]) oS) := Lib.hid d2
    have D3 : Hid (HasDf w2 (.agg #[.slice A1 1 c1, .slice A2 1 c2]) dS) := Lib.hid (D2.out.keep b2)
    have B2 := Lib.hid (below_on B1a.out b2)
    have hbx : Blk w2 g1 25 #[.slice A1 1 c1, .slice A2 1 c2] := HBX.out.under b2 hlt1
    clear b2 d2 h2))
  clear HBX B1a D2
  have B3 := Lib.hid (below_on B2.out (HB0.out w2 (.cells #[.slice A3 0 c3, .slice A4 1 c4] 25)))
  have hbx2 : Blk (w2.alloc (.cells #[.slice A3 0 c3, .slice A4 1 c4] 25)) w2.heap.size 25 #[.slice A3 0 c3, .slice A4 1 c4] := Blk.fresh w2 _ _
  have hbx1 : Blk (w2.alloc (.cells #[.slice A3 0 c3, .slice A4 1 c4] 25)) g1 25 #[.slice A1 1 c1, .slice A2 1 c2] := hbx.kept _
  have D4 : Hid (HasDf (w2.alloc (.cells #[.slice A3 0 c3, .slice A4 1 c4] 25)) (.agg #[.slice A1 1 c1, .slice A2 1 c2]) dS) := Lib.hid (D3.out.keep (HB0.out w2 _))
  have O4 : Hid (HasDf (w2.alloc (.cells #[.slice A3 0 c3, .slice A4 1 c4] 25)) (.agg #[.slice A3 0 c3, .slice A4 1 c4]) oS) := Lib.hid (O2.out.keep (HB0.out w2 _))
  generalize w2.alloc (.cells #[.slice A3 0 c3, .slice A4 1 c4] 25) = wb at *
  generalize w2.heap.size = g2 at *
  have q10 : wb.cell? ⟨g1, 0, none⟩ = some (.slice A1 1 c1) := hbx1.at 0
  have q11 : wb.cell? ⟨g1, 1, none⟩ = some (.slice A2 1 c2) := hbx1.at 1
  have q20 : wb.cell? ⟨g2, 0, none⟩ = some (.slice A3 0 c3) := hbx2.at 0
  have q21 : wb.cell? ⟨g2, 1, none⟩ = some (.slice A4 1 c4) := hbx2.at 1
  have hg1 := hbx1.inside
  have hg2 := hbx2.inside
  have HBX := Lib.hid hbx1
  clear hbx hbx1 hbx2 D3 O2 hlt1 HA HB B2
  obtain ⟨x1, x2, vs, us, ex, hd, hi⟩ := D4.out
  obtain ⟨rfl, rfl⟩ : x1 = .slice A1 1 c1 ∧ x2 = .slice A2 1 c2 := by
    injection ex with ex
    injection ex with ex
    injection ex with e1 e2
    injection e2 with e2 e3
    exact ⟨e1.symm, e2.symm⟩
  obtain ⟨y1, y2, vs', us', ey, -, hj⟩ := O4.out
  obtain rfl : y2 = .slice A4 1 c4 := by
    injection ey with ey
    injection ey with ey
    injection ey with e1 e2
    injection e2 with e2 e3
    exact e2.symm
  clear ex ey
  obtain ⟨b1, o1, A5, n5, c5, rfl, hb1, k5, t5⟩ := hd.cell (i := 0) (by decide)
  obtain ⟨b2, o2, rfl, hb2, k6⟩ := HasTexts.cell t5 (i := 0) (by decide)
  obtain ⟨b3, o3, A7, n7, c7, rfl, hb3, k70, k71, k72, k73, k74, t7⟩ := hi.cell (i := 0) (by decide)
  obtain ⟨b4, o4, A8, n8, c8, rfl, hb4, k80, k81, k82, k83, k84, t8⟩ := hj.cell (i := 0) (by decide)
  obtain rfl : n5 = 1 := by
    obtain ⟨_, _, e, _⟩ := t5
    injection e
  obtain rfl : n7 = 7 := by
    obtain ⟨_, _, e, _⟩ := t7
    injection e
  obtain rfl : n8 = 4 := by
    obtain ⟨_, _, e, _⟩ := t8
    injection e
  simp only [Nat.zero_mul, Nat.add_zero] at k5 k6 k70 k71 k72 k73 k74 k80 k81 k82 k83 k84
  have m6 : wb.cell? ⟨b2, o2, none⟩ = some (.string ⟨#[35, 46, 80]⟩) := k6
  have m70 : wb.cell? ⟨b3, o3, none⟩ = some (.int .i64 0) := k70
  have m71 : wb.cell? ⟨b3, o3 + 1, none⟩ = some (.int .i64 3) := k71
  have m72 : wb.cell? ⟨b3, o3 + 2, none⟩ = some (.string ⟨#[97]⟩) := k72
  have m73 : wb.cell? ⟨b3, o3 + 3, none⟩ = some (.string ⟨#[]⟩) := k73
  have m80 : wb.cell? ⟨b4, o4, none⟩ = some (.int .i64 2) := k80
  have HQ1 : Hid (∀ w', Below wb.heap.size wb w' → ∀ A', Row w' w'.heap.size A' ([0, 1, 0, 2, 0, 1, 0].map (Value.int .i64)) → Calls Tryd.prog 18 #[.slice A7 7 c7, .slice A' 7 7] w' fun e w'' => e = .returned (.bool true) ∧ Below w'.heap.size w' w'') := Lib.hid fun w' b A' hr => by
    obtain ⟨A, c, e, _, hr7⟩ := t7.keep b
    injection e with e1 e2 e3
    subst e1
    exact qints_all A7 A' c7 7 [0, 1, 0, 2, 0, 1, 0] [0, 1, 0, 2, 0, 1, 0] (by decide) (by decide) w' hr7 hr
  have HQ2 : Hid (∀ w', Below wb.heap.size wb w' → ∀ A', Row w' w'.heap.size A' ([0, 1, 1, 1].map (Value.int .i64)) → Calls Tryd.prog 18 #[.slice A8 4 c8, .slice A' 4 4] w' fun e w'' => e = .returned (.bool true) ∧ Below w'.heap.size w' w'') := Lib.hid fun w' b A' hr => by
    obtain ⟨A, c, e, _, hr7⟩ := t8.keep b
    injection e with e1 e2 e3
    subst e1
    exact qints_all A8 A' c8 4 [0, 1, 1, 1] [0, 1, 1, 1] (by decide) (by decide) w' hr7 hr
  have D5 : Hid (HasDf wb (.agg #[.slice (some ⟨b1, o1, none⟩) 1 c1, .slice (some ⟨b3, o3, none⟩) 1 c2]) dS) := D4
  clear D4 O4 hd hi hj t5 t7 t8 k6 k70 k71 k72 k73 k80 k81 k82 k83
  go_wp2_with (first
    | (go_at_call 14; have bp := C9.out; go_must (
       refine (HP.out _ _ (below_on B3.out bp) (D5.out.keep bp)).mono ?_
       rintro e w10 ⟨rfl, bn⟩
       have C10 := Lib.hid (below_on bp bn)
       clear bp bn))
    | (go_at_call 19; have bp := C8.out; go_must (
       refine (H3.out _ (below_on B3.out bp)).mono ?_
       rintro e w9 ⟨rfl, bn⟩
       have b9 := below_on bp bn
       have r10 : w9.cell? ⟨g1, 0, none⟩ = some (.slice (some ⟨b1, o1, none⟩) 1 c1) := (HBX.out.under b9 hg1).at 0
       have r11 : w9.cell? ⟨g1, 1, none⟩ = some (.slice (some ⟨b3, o3, none⟩) 1 c2) := (HBX.out.under b9 hg1).at 1
       have C9 := Lib.hid b9
       clear bp bn b9))
    | (go_at_call 19; have bp := C7.out; go_must (
       refine (H2.out _ (below_on B3.out bp)).mono ?_
       rintro e w8 ⟨rfl, bn⟩
       have C8 := Lib.hid (below_on bp bn)
       clear bp bn))
    | (go_at_call 19; have bp := C6.out; go_must (
       refine (H1.out _ (below_on B3.out bp)).mono ?_
       rintro e w7 ⟨rfl, bn⟩
       have C7 := Lib.hid (below_on bp bn)
       clear bp bn))
    | (go_at_call 18; have bp := C5.out; go_must (
       refine (HQ2.out _ (below_on bp (HB0.out _ _)) _ (row_fresh _ _ _)).mono ?_
       rintro e w6 ⟨rfl, bn⟩
       have C6 := Lib.hid (below_on (below_on bp (HB0.out _ _)) bn)
       clear bp bn))
    | (go_at_call 18; go_must (
       refine (HQ1.out _ (below_on (HB0.out _ _) (HB0.out _ _)) _ (row_fresh2 _ _ _ _)).mono ?_
       rintro e w5 ⟨rfl, bn⟩
       have b5 := below_on (below_on (HB0.out wb _) (HB0.out _ _)) bn
       have s21 : w5.cell? ⟨g2, 1, none⟩ = some (.slice (some ⟨b4, o4, none⟩) 1 c4) := (b5.cell (p := ⟨g2, 1, none⟩) hg2).trans q21
       have s80 : w5.cell? ⟨b4, o4, none⟩ = some (.int .i64 2) := (b5.cell (p := ⟨b4, o4, none⟩) hb4).trans m80
       have s84 : w5.cell? ⟨b4, o4 + 4, none⟩ = some (.slice A8 4 c8) := (b5.cell (p := ⟨b4, o4 + 4, none⟩) hb4).trans k84
       have C5 := Lib.hid b5
       clear bn b5)))
  go_ret
  exact ⟨rfl, below_on B3.out C10.out⟩
end Drf
end Go.Proofs.YtibeangcjfjeiaaDoor

namespace Go.Proofs.YtibeangcjfjeiaaDoor
open Go.RowKit Txt Wire Lx
set_option linter.unusedVariables false
set_option maxRecDepth 100000
set_option linter.unusedSimpArgs false
namespace Drf

theorem line_no0 {d : Df} {t : Tk} {r : List Tk} {er L : Nat} (h : lineR d t r = .inl (er, L)) : er ≠ 0 := by
  unfold lineR at h
  split at h
  · cases h; decide
  · split at h
    · split at h
      · cases h; decide
      · cases h
    · split at h
      · split at h
        · cases h; decide
        · split at h
          · cases h; decide
          · split at h
            · cases h; decide
            · cases h
      · split at h
        · cases h; decide
        · split at h
          · cases h; decide
          · split at h
            · cases h; decide
            · cases h
theorem parseF_no0 : ∀ (k : Nat) (d : Df) (l : List Tk) (er L : Nat), parseF k d l = .bad er L → er ≠ 0
  | 0, d, l, er, L, h => by cases h
  | k + 1, d, [], er, L, h => by cases h
  | k + 1, d, t :: r, er, L, h => by
    unfold parseF at h
    split at h
    · cases h
    · split at h
      · exact parseF_no0 k d r er L h
      · split at h
        · rename_i hl
          cases h
          exact line_no0 hl
        · cases h
          decide
        · split at h
          · exact parseF_no0 k _ _ er L h
          · cases h
            decide
theorem parse_no0 {src : List UInt8} {er L : Nat} (h : parseP src = .bad er L) : er ≠ 0 := by
  unfold parseP at h
  split at h
  · rename_i hl
    cases h
    rcases lexAll_no0 hl with rfl | rfl | rfl <;> decide
  · exact parseF_no0 _ _ _ _ _ h
theorem item_line {k line : Nat} {l r : List Tk} {x : It} (h : itemR k line l = .got x r) : x.line = line := by
  unfold itemR at h
  split at h
  · cases h
  · cases hn : namesR _ l with
    | bad L => rw [hn] at h; cases h
    | got nm r1 =>
      rw [hn] at h
      simp only [Rd.then] at h
      cases ha : allR k _ r1 with
      | bad L => rw [ha] at h; cases h
      | got ns r2 =>
        rw [ha] at h
        simp only [Rd.then] at h
        cases h
        rfl
/-- The lines of items are the lines of tokens. -/
theorem parse_lines {K : Nat} : ∀ (k : Nat) (l : List Tk), l.length ≤ k → ∀ d y, parseT d l = .ok y → (∀ x ∈ d.items, 0 ≤ x.line ∧ x.line ≤ K) → (∀ t ∈ l, t.line ≤ K) → ∀ x ∈ y.items, 0 ≤ x.line ∧ x.line ≤ K := by
  refine parse_ind (M := fun d l y => (∀ x ∈ d.items, 0 ≤ x.line ∧ x.line ≤ K) → (∀ t ∈ l, t.line ≤ K) → ∀ x ∈ y.items, 0 ≤ x.line ∧ x.line ≤ K) (fun d h _ => h) (fun d t r _ h _ => h) (fun d t r y _ _ ih h ht => ih h fun u hu => ht u (by simp [hu])) (fun d t r d' u r' y h3 h4 hl hu _ ih h ht => ?_)
  obtain ⟨c, hc, _⟩ := line_loc hl
  refine ih ?_ fun v hv => ht v (by rw [hc]; simp at hv ⊢; rcases hv with hv | hv <;> simp [hv])
  obtain ⟨_, hw⟩ := line_way hl
  cases hw with
  | deck _ _ => exact h
  | row v r2 _ _ _ _ _ => exact h
  | item k x r2 _ _ _ _ hx =>
    intro y hy
    rcases List.mem_append.1 hy with hy | hy
    · exact h y hy
    · obtain rfl : y = x := by simpa using hy
      rw [item_line hx]
      have := ht t (by simp)
      omega
theorem parse_linesP {src : List UInt8} {d : Df} (h : parseP src = .ok d) : ∀ x ∈ d.items, 0 ≤ x.line ∧ x.line ≤ (1 + src.length : Nat) := by
  unfold parseP at h
  split at h
  · cases h
  · rename_i l hl
    unfold lexAll at hl
    split at hl
    · cases hl
    · exact parse_lines l.length l (Nat.le_refl _) _ _ h (by simp) fun t ht => ((wr_fine hl) t ht).2.1
theorem Good.lim {d : Df} (h : Good d) : LimD d := ⟨by have := h.decks; unfold big; omega, fun ts ht => by have := (h.rows ts ht).1; unfold big; omega, by have := h.items; unfold big; omega, fun x hx => by have := (right_few (h.each x hx)).2.2.1; unfold big; omega⟩
theorem Good.limR {d : Df} (h : Good d) : LimR d :=
  ⟨h.lim, fun x hx => by have := (right_few (h.each x hx)).2.2.1; omega, fun x hx => by have := (right_few (h.each x hx)).1; omega, fun x hx => by have := (right_few (h.each x hx)).2.1; omega, fun ts ht r hr => by have := (h.rows ts ht).2 r hr; unfold big; omega⟩
theorem Good.fits {d : Df} (h : Good d) : ∀ x ∈ d.items, ∀ z ∈ x.n, Fits z := fun x hx z hz => by
  have h1 := (right_few (h.each x hx)).2.2.2 z hz
  have h2 := h.ints x hx z hz
  unfold Fits
  omega
theorem lim_up {d : Df} (h : LimD d) (s : Nat) : LimD (upD s d) := ⟨h.decks, h.rows, by have := h.items; simpa [upD] using this, fun x hx => by
  obtain ⟨y, hy, rfl⟩ := List.mem_map.1 hx
  exact h.nums y hy⟩
end Drf
end Go.Proofs.YtibeangcjfjeiaaDoor

namespace Go.Proofs.YtibeangcjfjeiaaDoor
open Go.RowKit Txt Wire Lx
set_option linter.unusedVariables false
set_option maxRecDepth 100000
set_option linter.unusedSimpArgs false
namespace Drf

theorem bl_cat (x y : ByteArray) : bl (x ++ y) = bl x ++ bl y := by
  obtain ⟨⟨a⟩⟩ := x
  obtain ⟨⟨b⟩⟩ := y
  exact congrArg bl (cat_bytes a b)
/-- The source that the statement makes. -/
theorem blank_src {u s com : ByteArray} {n : Nat} {d : Df} (hu : bl u = 35 :: bl com ++ [10] ++ List.replicate n 10) (h : parseP (bl s) = .ok d) (hc : ∀ c ∈ bl com, c ≠ 10) (ls : s.size ≤ 2500) (ln : n ≤ 50) (lc : com.size ≤ 100) :
    parseP (bl (u ++ s ++ ⟨#[32, 32, 32, 35]⟩ ++ com)) = .ok (upD (n + 1) d) ∧ (u ++ s ++ ⟨#[32, 32, 32, 35]⟩ ++ com).size ≤ 1000000 := by
  have e : bl (u ++ s ++ ⟨#[32, 32, 32, 35]⟩ ++ com) = 35 :: bl com ++ [10] ++ List.replicate n 10 ++ bl s ++ [32, 32, 32, 35] ++ bl com := by
    rw [bl_cat, bl_cat, bl_cat, hu]
  refine ⟨by rw [e]; exact parse_blank h hc (by rw [bl_len]; exact ls) ln (by rw [bl_len]; exact lc), ?_⟩
  rw [← bl_len, e]
  simp only [List.length_append, List.length_cons, List.length_nil, List.length_replicate, bl_len]
  omega
theorem up_cell {w : World} {A : Option Addr} {m c : Nat} {d : Df} {vs : List Value} {n : Nat} (h : HasItems w (.slice A m c) (upD (n + 1) d).items vs) {i : Nat} (hi : i < d.items.length) :
    ∃ b o, A = some ⟨b, o, none⟩ ∧ b < w.heap.size ∧ w.cell? ⟨b, o + i * 5 + 1, none⟩ = some (.int .i64 (d.items[i].line + n + 1)) := by
  obtain ⟨b, o, A1, n1, c1, e, hb, k0, k1, _⟩ := h.cell (i := i) (by show i < (d.items.map _).length; rw [List.length_map]; exact hi)
  refine ⟨b, o, e, hb, ?_⟩
  rw [k1]
  have : (upD (n + 1) d).items[i]'(by show i < (d.items.map _).length; rw [List.length_map]; exact hi) = upI (n + 1) d.items[i] := List.getElem_map ..
  rw [this]
  show some (Value.int .i64 (d.items[i].line + (n + 1 : Nat))) = _
  congr 2
  omega
theorem df_items {w : World} {A B : Option Addr} {n m c c' : Nat} {d : Df} (h : HasDf w (.agg #[.slice A n c, .slice B m c']) d) : ∃ us, HasItems w (.slice B m c') d.items us := by
  obtain ⟨a1, a2, vs, us, e, h1, h2⟩ := h
  injection e with e
  injection e with e
  injection e with e1 e2
  injection e2 with e2 e3
  subst e2
  exact ⟨us, h2⟩
set_option maxRecDepth 8000 in
set_option maxHeartbeats 8000000 in
theorem blanks_law (s : ByteArray) (z : Int) (hz : Fits z) (com : ByteArray) (W : World) (hv : VD W) (hf : VF W) :
    Calls Tryd.prog 6 #[.string s, .int .i64 z, .string com] W fun e w' => e = .returned (.bool true) ∧ Below W.heap.size W w' := by
  have HS := Lib.hid (small_any W hv hf)
  by_cases hs : s.size ≤ 2500
  case neg =>
    have g1 : (2500 : Int) < (s.size : Int) := by omega
    go_enter Tryd.func6, Tryd.ntmps6
    go_wp2_with (go_at_call 7; go_must (refine HS.out.mono ?_; rintro e w0 ⟨rfl, b0⟩; have B0 := Lib.hid b0; clear b0))
    go_ret
    exact ⟨rfl, B0.out⟩
  have g0 : ¬ (2500 : Int) < (s.size : Int) := by omega
  by_cases h1 : z < 0
  · go_enter Tryd.func6, Tryd.ntmps6
    go_wp2_with (go_at_call 7; go_must (refine HS.out.mono ?_; rintro e w0 ⟨rfl, b0⟩; have B0 := Lib.hid b0; clear b0))
    go_ret
    exact ⟨rfl, B0.out⟩
  by_cases h50 : 50 < z
  · go_enter Tryd.func6, Tryd.ntmps6
    go_wp2_with (go_at_call 7; go_must (refine HS.out.mono ?_; rintro e w0 ⟨rfl, b0⟩; have B0 := Lib.hid b0; clear b0))
    go_ret
    exact ⟨rfl, B0.out⟩
  by_cases hc : com.size ≤ 100
  case neg =>
    have g1 : (100 : Int) < (com.size : Int) := by omega
    go_enter Tryd.func6, Tryd.ntmps6
    go_wp2_with (go_at_call 7; go_must (refine HS.out.mono ?_; rintro e w0 ⟨rfl, b0⟩; have B0 := Lib.hid b0; clear b0))
    go_ret
    exact ⟨rfl, B0.out⟩
  have g1 : ¬ (100 : Int) < (com.size : Int) := by omega
  obtain ⟨n, rfl⟩ : ∃ n : Nat, z = n := ⟨z.toNat, by omega⟩
  have HP : Hid (∀ w2 x, x.size ≤ 1000000 → Below W.heap.size W w2 → Calls Tryd.prog 9 #[.string x] w2 (DPost w2 (parseP (bl x)))) := Lib.hid fun w2 x hx b => parse_any (bl x) w2 (by rw [bl_len]; exact hx) (hv.lift b) (hf.lift b)
  clear hv hf hz
  go_enter Tryd.func6, Tryd.ntmps6
  go_wp2_with (go_at_call 7; go_must (refine HS.out.mono ?_; rintro e w0 ⟨rfl, b0⟩; have B0 := Lib.hid b0; clear b0))
  go_loopw [6, 8] (fun _ iv wr => (∃ i : Nat, iv = .int .i64 i ∧ i ≤ com.size ∧ Hid (∀ j (hj : j < com.size), j < i → com[j] ≠ 10)) ∧ w0 = wr) (fun _ iv _ => com.size - (intOf iv).toNat)
  case atStart => exact ⟨⟨0, rfl, Nat.zero_le _, Lib.hid (fun j hj h => absurd h (by omega))⟩, rfl⟩
  case round =>
    obtain ⟨⟨i, rfl, hi, HN⟩, rfl⟩ := hrel
    by_cases hlt : i < com.size
    · by_cases h10 : com[i] = 10
      · have t10 : ((com[i].toNat : Int) == 10) = true := byte_eq (k := 10) (by omega) h10
        clear h10
        go_wp2_with fail
        go_ret
        exact ⟨rfl, B0.out⟩
      · have t10 : ((com[i].toNat : Int) == 10) = false := byte_ne (k := 10) (by omega) h10
        have HN2 : Hid (∀ j (hj : j < com.size), j < i + 1 → com[j] ≠ 10) := Lib.hid fun j hj h => by
          by_cases e : j = i
          · subst e
            exact h10
          · exact HN.out j hj (by omega)
        clear h10 HN
        go_wp2_with fail
        go_roundw
        case rel => exact ⟨⟨i + 1, by simp, hlt, HN2⟩, trivial⟩
        case measure => simp [intOf]; omega
    · obtain rfl : i = com.size := by omega
      have HCOM : Hid (∀ c ∈ bl com, c ≠ 10) := Lib.hid fun c hc => by
        obtain ⟨j, hj, rfl⟩ := List.mem_iff_getElem.1 hc
        have hj2 : j < com.size := by rw [← bl_len]; exact hj
        have := HN.out j hj2 hj2
        rwa [show (bl com)[j] = com[j] from Array.getElem_toList ..]
      clear HN hlt hi
      cases hx : parseP (bl s) with
      | bad er k =>
        have hne : (((er : Nat) : Int) != 0) = true := by
          have := parse_no0 hx
          simp
          omega
        have HP1 := Lib.hid (HP.out w0 s (by omega) B0.out)
        rw [hx] at HP1
        clear hx
        go_wp2_with (go_at_call 9; go_must (
          refine HP1.out.mono ?_; rintro e w2 ⟨b2, rfl⟩
          have B2 := Lib.hid (below_on B0.out b2); clear b2))
        go_ret
        exact ⟨rfl, B2.out.alloc B2.out.size _⟩
      | ok d =>
        have HP1 := Lib.hid (HP.out w0 s (by omega) B0.out)
        rw [hx] at HP1
        have HPX := Lib.hid hx
        have HG := Lib.hid (parse_good hx)
        have HLN := Lib.hid (parse_linesP hx)
        clear hx
        go_wp2_with (go_at_call 9; go_must (
          refine HP1.out.mono ?_; intro e w2 h2; obtain ⟨b2, A1, c1, A2, c2, rfl, d1, -⟩ := dr_form h2
          have D1 := Lib.hid d1
          have B2 := Lib.hid (below_on B0.out b2); clear b2 d1 h2))
        have B3 := Lib.hid (B2.out.alloc B2.out.size (.cells #[.slice A1 d.decks.length c1, .slice A2 d.items.length c2] 25))
        have hbx : Blk (w2.alloc (.cells #[.slice A1 d.decks.length c1, .slice A2 d.items.length c2] 25)) w2.heap.size 25 #[.slice A1 d.decks.length c1, .slice A2 d.items.length c2] := Blk.fresh w2 _ _
        have D2 : Hid (HasDf (w2.alloc (.cells #[.slice A1 d.decks.length c1, .slice A2 d.items.length c2] 25)) _ d) := Lib.hid (D1.out.keep (below_more w2 _))
        generalize w2.alloc (.cells #[.slice A1 d.decks.length c1, .slice A2 d.items.length c2] 25) = wa at *
        generalize w2.heap.size = g1 at *
        have HBX := Lib.hid hbx
        have hg1 := hbx.inside
        clear hbx D1 B2 HP1 HS B0
        go_loopw [12, 13] (fun sv iv wx => (∃ (i : Nat) (u : ByteArray), sv = .string u ∧ iv = .int .i64 i ∧ i ≤ n ∧ Hid (bl u = 35 :: bl com ++ [10] ++ List.replicate i 10)) ∧ wa = wx) (fun _ iv _ => n - (intOf iv).toNat)
        case atStart => exact ⟨⟨0, _, rfl, rfl, Nat.zero_le _, Lib.hid (by rw [bl_cat, bl_cat]; simp; rfl)⟩, rfl⟩
        case round =>
          obtain ⟨⟨i, u, rfl, rfl, hin, HU⟩, rfl⟩ := hrel
          have hul : u.size ≤ 200 := by
            rw [← bl_len, HU.out]
            simp only [List.length_append, List.length_cons, List.length_nil, List.length_replicate, bl_len]
            omega
          by_cases hlt : i < n
          · have HN : Hid (bl (u ++ ⟨#[10]⟩) = 35 :: bl com ++ [10] ++ List.replicate (i + 1) 10) := Lib.hid (by
              rw [bl_cat, HU.out, List.replicate_succ', show bl (⟨#[10]⟩ : ByteArray) = [10] from rfl]
              simp only [List.append_assoc])
            go_wp2_with fail
            go_roundw
            case rel => exact ⟨⟨i + 1, _, rfl, by simp, hlt, HN⟩, trivial⟩
            case measure => simp [intOf]; omega
          · obtain rfl : i = n := by omega
            obtain ⟨hx2, hsz2⟩ := blank_src HU.out HPX.out HCOM.out hs (by omega) hc
            have HP2 : Hid (Calls Tryd.prog 9 #[.string (u ++ s ++ ⟨#[32, 32, 32, 35]⟩ ++ com)] wa (DPost wa (.ok (upD (i + 1) d)))) := Lib.hid (by
              have := HP.out wa _ hsz2 B3.out
              rwa [hx2] at this)
            clear hx2 hsz2 HP HU HPX
            have hil : (d.items.map (upI (i + 1))).length = d.items.length := List.length_map ..
            have HIL := Lib.hid hil
            clear hil
            go_upto_region 18 with (go_at_call 9; go_must (
              refine HP2.out.mono ?_; intro e w3 h3; obtain ⟨b3, A3, c3, A4, c4, he, d3, -⟩ := dr_form h3
              have he : e = .returned (.tuple #[.agg #[.slice A3 d.decks.length c3, .slice A4 (d.items.map (upI (i + 1))).length c4], .int .i64 0, .int .i64 0]) := he
              have d3 : HasDf w3 (.agg #[.slice A3 d.decks.length c3, .slice A4 (d.items.map (upI (i + 1))).length c4]) (upD (i + 1) d) := d3
              rw [HIL.out] at he d3
              subst he
              have X3 := Lib.hid d3
              have D3 := Lib.hid (D2.out.keep b3)
              have hbx := HBX.out.under b3 hg1
              have HBX3 := Lib.hid hbx
              have B4 := Lib.hid (below_on B3.out b3); clear b3 d3 h3))
            have B5 := Lib.hid (B4.out.alloc B4.out.size (.cells #[.slice A3 d.decks.length c3, .slice A4 d.items.length c4] 25))
            have hbx4 : Blk (w3.alloc (.cells #[.slice A3 d.decks.length c3, .slice A4 d.items.length c4] 25)) w3.heap.size 25 #[.slice A3 d.decks.length c3, .slice A4 d.items.length c4] := Blk.fresh w3 _ _
            have hbx3 : Blk (w3.alloc (.cells #[.slice A3 d.decks.length c3, .slice A4 d.items.length c4] 25)) g1 25 #[.slice A1 d.decks.length c1, .slice A2 d.items.length c2] := HBX3.out.kept _
            have D5 : Hid (HasDf (w3.alloc (.cells #[.slice A3 d.decks.length c3, .slice A4 d.items.length c4] 25)) _ d) := Lib.hid (D3.out.keep (below_more w3 _))
            have X5 : Hid (HasDf (w3.alloc (.cells #[.slice A3 d.decks.length c3, .slice A4 d.items.length c4] 25)) _ (upD (i + 1) d)) := Lib.hid (X3.out.keep (below_more w3 _))
            generalize w3.alloc (.cells #[.slice A3 d.decks.length c3, .slice A4 d.items.length c4] 25) = wb at *
            generalize w3.heap.size = g3 at *
            have q10 : wb.cell? ⟨g1, 0, none⟩ = some (.slice A1 d.decks.length c1) := hbx3.at 0
            have q11 : wb.cell? ⟨g1, 1, none⟩ = some (.slice A2 d.items.length c2) := hbx3.at 1
            have q30 : wb.cell? ⟨g3, 0, none⟩ = some (.slice A3 d.decks.length c3) := hbx4.at 0
            have q31 : wb.cell? ⟨g3, 1, none⟩ = some (.slice A4 d.items.length c4) := hbx4.at 1
            have HSM := Lib.hid (same_any X5.out D5.out (lim_up HG.out.lim (i + 1)) HG.out.lim)
            rw [same_up] at HSM
            have hg1b := hbx3.inside
            have hg3b := hbx4.inside
            have hd9 : d.decks.length ≤ 9223372036854775807 := HG.out.lim.decks
            have hm9 : d.items.length ≤ 9223372036854775807 := HG.out.lim.items
            clear hbx hbx3 hbx4 HBX HBX3 D2 D3 X3 B3 B4 HP2
            go_wp2_with (go_at_call 16; go_must (
              refine HSM.out.mono ?_; rintro e w5 ⟨rfl, b5⟩
              have r31 : w5.cell? ⟨g3, 1, none⟩ = some (.slice A4 d.items.length c4) := (b5.cell (p := ⟨g3, 1, none⟩) hg3b).trans q31
              have r11 : w5.cell? ⟨g1, 1, none⟩ = some (.slice A2 d.items.length c2) := (b5.cell (p := ⟨g1, 1, none⟩) hg1b).trans q11
              have B6 := Lib.hid (below_on B5.out b5)
              have D6 := Lib.hid (D5.out.keep b5)
              have X6 := Lib.hid (X5.out.keep b5)
              have hw5 := b5.size
              clear b5))
            clear q10 q11 q30 q31 hg1b hg3b hd9 D5 X5 B5 HSM
            obtain ⟨us, hus⟩ := df_items D6.out
            obtain ⟨vs, hvs⟩ := df_items X6.out
            have HU6 := Lib.hid hus
            have HV6 := Lib.hid hvs
            clear hus hvs D6 X6
            have HIL2 := Lib.hid (show ∀ x ∈ d.items, 0 ≤ x.line ∧ x.line ≤ 2501 from fun x hx => by
              have := HLN.out x hx
              rw [bl_len] at this
              omega)
            obtain ⟨m, hm⟩ : ∃ m, m = d.items.length := ⟨_, rfl⟩
            rw [← hm] at r31 r11 hm9 HU6 HV6 ⊢
            have HM := Lib.hid hm
            clear hm
            go_loopw [17] (fun iv wr => ∃ j : Nat, iv = .int .i64 j ∧ j ≤ m ∧ Below w5.heap.size w5 wr) (fun iv _ => m - (intOf iv).toNat)
            case atStart => exact ⟨0, rfl, Nat.zero_le _, Below.refl _ _⟩
            case round =>
              obtain ⟨j, rfl, hj, hb⟩ := hrel
              have HB := Lib.hid hb
              have p31 : wr.cell? ⟨g3, 1, none⟩ = some (.slice A4 m c4) := (hb.cell (p := ⟨g3, 1, none⟩) (World.block_lt_of_cell? w5 _ r31)).trans r31
              have p11 : wr.cell? ⟨g1, 1, none⟩ = some (.slice A2 m c2) := (hb.cell (p := ⟨g1, 1, none⟩) (World.block_lt_of_cell? w5 _ r11)).trans r11
              by_cases hlt : j < m
              · have hj1 : j < d.items.length := by rw [← HM.out]; exact hlt
                obtain ⟨b7, o7, rfl, hb7, k7⟩ := up_cell (HV6.out.keep hb) hj1
                obtain ⟨b8, o8, A8, n8, c8, rfl, hb8, -, k8, -⟩ := (HU6.out.keep hb).cell hj1
                have hln := HIL2.out _ (List.getElem_mem hj1)
                generalize d.items[j].line = L at *
                clear hb hj1
                go_wp2_with fail
                go_quiet (fail)
                go_wp2_with fail
                go_roundw
                case rel => exact ⟨j + 1, by simp, by omega, HB.out.trans ((below_drew _ nq).mono HB.out.size)⟩
                case measure => simp [intOf]; omega
              · obtain rfl : m = j := by omega
                clear hb
                go_wp2_with fail
                go_ret
                exact ⟨rfl, below_on B6.out HB.out⟩
end Drf
end Go.Proofs.YtibeangcjfjeiaaDoor

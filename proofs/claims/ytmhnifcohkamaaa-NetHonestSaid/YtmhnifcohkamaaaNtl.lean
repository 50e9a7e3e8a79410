/- NetTells. -/
import Derived.Test.YtmhnifcohkamaaaNsm
namespace Go.Proofs.Ytmhnifcohkamaaa
open Go.RowKit Wire
open Txt (Row)
open Dsk (Only below_of_grown Grow.bare)
set_option linter.unusedVariables false
set_option linter.unusedSimpArgs false
namespace Ntw
structure TlRel (W : World) (l : List Opn) (n m : Nat) (cv dv iv : Value) (wr : World) (i : Nat) (S C : Nt) (c d : Nat) : Prop where
  cv : cv = ptr c
  dv : dv = ptr d
  iv : iv = .int .i64 i
  le : i ≤ l.length
  sp : Sp W wr [NetN n S, NetQ m S, NetN c C, NetQ d C]
theorem flip_same {P : Program} {f : FuncId} {args : Array Value} {w : World} {R : Ending} (h : Calls P f args w fun e w' => e = R ∧ w = w') : Calls P f args w fun e w' => e = R ∧ w' = w := h.mono fun e w' h => ⟨h.1, h.2.symm⟩
theorem drew_any {B : Nat} (w : World) (n : Nat) : Below B w (w.drewN n) := ⟨rfl, rfl, rfl, Nat.le_refl _, fun _ _ => rfl⟩
section
variable {W w : World} {n m c d c2 d2 a b : Nat} {S S' C : Nt} {ta tb : TypeId} {ca cb : Array Value}
theorem Sp.turn4 (h : Sp W w [NetN n S, NetQ m S, NetN c C, NetQ d C, NetN c2 S, NetQ d2 S]) : Sp W w [NetN n S, NetQ m S, NetN c2 S, NetQ d2 S] :=
  h.pick (fun i => if i < 2 then i else i + 2) (fun i j hi hj e => by simp at hi hj e; split at e <;> split at e <;> omega) (fun i t ht => by
    match i, ht with
    | 0, ht => exact ht
    | 1, ht => exact ht
    | 2, ht => exact ht
    | 3, ht => exact ht
    | k + 4, ht => simp at ht)
theorem Sp.first4 {t0 t1 t2 t3 t4 t5 : Thing} (h : Sp W w [t0, t1, t2, t3, t4, t5]) : Sp W w [t0, t1, t2, t3] :=
  h.pick (fun i => i) (fun i j hi hj e => e) (fun i t ht => by
    match i, ht with
    | 0, ht => exact ht
    | 1, ht => exact ht
    | 2, ht => exact ht
    | 3, ht => exact ht
    | k + 4, ht => simp at ht)
end
set_option maxRecDepth 100000 in
set_option maxHeartbeats 4000000 in
theorem tells (W : World) (A : Option Addr) (cp : Nat) (l : List Opn) (at_ a b : Int) (hops : Ops W A l) :
    Calls Try.prog 3 #[.slice A l.length cp, .int .i64 at_, .int .i64 a, .int .i64 b] W fun e w' => e = .returned (.bool true) ∧ Below W.heap.size W w' := by
  have HL := Lib.hid hops
  have hlen := hops.len
  clear hops
  have HFW := Lib.hid (fun w (hb : Below W.heap.size W w) => nfew_any (W := W) A cp l 600 (by omega) HL.out hb)
  have HSM := Lib.hid (nsmall_any W)
  have HN : Hid (∀ w, Below W.heap.size W w → Calls Try.prog 8 #[] w fun e w' => ∃ q, e = .returned (ptr q) ∧ Sp W w' [NetN q Nt.empty]) := Lib.hid (fun w hb => (Sp.nil (W := W) hb).nnew)
  have HM : Hid (∀ w n, Sp W w [NetN n Nt.empty] → Sp W (w.alloc (.cells #[.slice none 0 0, .int .i64 0] 29)) [NetN n Nt.empty, NetQ w.heap.size Nt.empty]) := Lib.hid fun w n h => by
    obtain ⟨p, F, e, h1, h2, h3⟩ := made_of (ty := 29) (w := w) (S := Nt.empty) Nt.ok_empty (Below.refl _ _) (Grow.nil w w.heap.size 3)
    have e2 : w.heap.size = p := by
      injection e with e
      injection e with e
      injection e with e
      injection e with e _ _
    subst e2
    exact h.new h3 h1 h2
  go_enter Try.func3, Try.ntmps3
  go_wp2_with (first
    | (go_at_call 7; refine HSM.out.mono ?_; rintro e w1 ⟨rfl, b1⟩; have B1 := Lib.hid b1; clear b1)
    | (go_at_call 8; refine (HN.out _ B1.out).mono ?_; rintro e w2 ⟨n, rfl, h2⟩; have H2 := Lib.hid (HM.out _ _ h2); clear h2)
    | (go_at_call 9; refine (HFW.out _ H2.out.below).mono ?_; rintro e w3 ⟨bb, rfl, hbb, rfl⟩; have HBB := Lib.hid hbb; clear hbb; cases bb)
    | (go_at_call 10; refine (H2.out.ncopy 0 rfl).mono ?_; rintro e w4 ⟨c, rfl, h4⟩; have H4 : Hid (Sp W w4 [NetN n Nt.empty, NetQ w2.heap.size Nt.empty, NetN c Nt.empty]) := Lib.hid h4; clear h4)
    | (go_at_call 11; refine (H4.out.qcopy 1 rfl).mono ?_; rintro e w5 ⟨d, rfl, h5⟩; have H5 : Hid (Sp W w5 [NetN n Nt.empty, NetQ w2.heap.size Nt.empty, NetN c Nt.empty, NetQ d Nt.empty]) := Lib.hid h5; clear h5))
  · go_ret
    exact ⟨rfl, H2.out.below⟩
  · have HLN := HBB.out trivial
    clear HBB HM HN HSM HFW
    generalize w2.heap.size = m at *
    go_loopw [12, 13, 14, 15, 16, 17, 18] (fun cv dv iv _ _ _ _ wr => ∃ i S C c d, TlRel W l n m cv dv iv wr i S C c d) (fun _ _ iv _ _ _ _ _ => l.length - (intOf iv).toNat)
    case atStart => exact ⟨0, _, _, c, d, rfl, rfl, rfl, Nat.zero_le _, H5.out⟩
    case round =>
      obtain ⟨i, S, C, c, d, ⟨rfl, rfl, rfl, hi, hsp⟩⟩ := hrel
      clear H2 H4 H5
      by_cases hlt : i < l.length
      · obtain ⟨bb, o, rfl, x, hx, hfit, hat⟩ := HL.out.all hlt
        have HAT := Lib.hid hat
        have HSP := Lib.hid hsp
        clear hx hfit hat hsp
        by_cases hia : (i : Int) = at_
        · have hia2 : ((i : Int) == at_) = true := by simp [hia]
          clear hia
          have HCP := Lib.hid (fun w' C c d (h : Sp W w' [NetN n S, NetQ m S, NetN c C, NetQ d C]) => h.ncopy 0 rfl)
          have HQP := Lib.hid (fun w' C c d c2 (h : Sp W w' [NetN n S, NetQ m S, NetN c C, NetQ d C, NetN c2 S]) => h.qcopy 1 rfl)
          have HDO := Lib.hid (fun w' C c d (h : Sp W w' [NetN n S, NetQ m S, NetN c C, NetQ d C]) => h.ndo 0 rfl x)
          have HMO := Lib.hid (fun w' S' C c d b (h : Sp W w' [NetN n S', NetQ m S, NetN c C, NetQ d C, BlkT b 33 #[.int .i64 (S.step x).1.src, .int .i64 (S.step x).1.dst, .string (S.step x).1.body]]) => h.qmodel 1 rfl x)
          go_upto_region 14 with (first
            | (go_at_call 10; refine (HCP.out _ _ _ _ HSP.out).mono ?_; rintro e w3 ⟨c2, rfl, h3⟩; have H3 : Hid (Sp W w3 [NetN n S, NetQ m S, NetN c C, NetQ d C, NetN c2 S]) := Lib.hid h3; clear h3)
            | (go_at_call 11; refine (HQP.out _ _ _ _ _ H3.out).mono ?_; rintro e w4 ⟨d2, rfl, h4⟩; have HX : Hid (Sp W w4 [NetN n S, NetQ m S, NetN c2 S, NetQ d2 S]) := Lib.hid (Sp.turn4 (show Sp W w4 [NetN n S, NetQ m S, NetN c C, NetQ d C, NetN c2 S, NetQ d2 S] from h4)); clear h4 H3; have k0 := (HAT.out _ HX.out.below).k0; have k1 := (HAT.out _ HX.out.below).k1; have k2 := (HAT.out _ HX.out.below).k2; have k3 := (HAT.out _ HX.out.below).k3))
          clear HSP HCP HQP

          generalize S.step x = D at *
          obtain ⟨q, er, S'⟩ := D
          dsimp only at HDO HMO
          go_wp2_with (first
            | (go_at_call 12; refine (HDO.out _ _ _ _ HX.out).mono ?_; rintro e w5 ⟨rfl, h5⟩; have H5 : Hid (Sp W (w5.alloc (.cells #[.int .i64 q.src, .int .i64 q.dst, .string q.body] 33)) [NetN n S', NetQ m S, NetN c2 S, NetQ d2 S, BlkT w5.heap.size 33 #[.int .i64 q.src, .int .i64 q.dst, .string q.body]]) := Lib.hid (h5.local _ _); clear h5 k0 k1 k2 k3; have k0 := (HAT.out _ H5.out.below).k0; have k1 := (HAT.out _ H5.out.below).k1; have k2 := (HAT.out _ H5.out.below).k2; have k3 := (HAT.out _ H5.out.below).k3)
            | (go_at_call 13; refine (HMO.out _ _ _ _ _ _ H5.out).mono ?_; rintro e w6 ⟨rfl, h6⟩; have H6 : Hid (Sp W (w6.alloc (.cells #[.int .i64 q.src, .int .i64 q.dst, .string q.body] 33)) [NetN n S', NetQ m S', NetN c2 S, NetQ d2 S, BlkT w5.heap.size 33 #[.int .i64 q.src, .int .i64 q.dst, .string q.body], BlkT w6.heap.size 33 #[.int .i64 q.src, .int .i64 q.dst, .string q.body]]) := Lib.hid (h6.local _ _); clear h6 H5 k0 k1 k2 k3))
          generalize w6.alloc (.cells #[.int .i64 q.src, .int .i64 q.dst, .string q.body] 33) = w7 at *
          have z0 := (H6.out.blk 4 rfl).at 0
          have z1 := (H6.out.blk 4 rfl).at 1
          have z2 := (H6.out.blk 4 rfl).at 2
          have y0 := (H6.out.blk 5 rfl).at 0
          have y1 := (H6.out.blk 5 rfl).at 1
          have y2 := (H6.out.blk 5 rfl).at 2
          obtain ⟨Am, cm, hm0, _⟩ := H6.out.qrow 1 rfl
          have HS4 := Lib.hid H6.out.first4
          have Q1 := Lib.hid (fun n => flip_same ((H6.out.keep (drew_any w7 n)).ncount 0 rfl))
          have Q2 := Lib.hid (fun n => flip_same ((H6.out.keep (drew_any w7 n)).nhear 0 rfl a b))
          have Q3 := Lib.hid (fun n => flip_same ((H6.out.keep (drew_any w7 n)).qhear 1 rfl a b))
          clear H6
          generalize S'.L.length = len at *
          generalize S'.hear a b = hr at *
          have hq : ∀ w, (binOp .neq 33 (.agg #[.int .i64 q.src, .int .i64 q.dst, .string q.body]) (.agg #[.int .i64 q.src, .int .i64 q.dst, .string q.body])).run Try.prog w = .ok (.bool false) w := fun w => by rw [show false = (!decide (q = q)) from by simp]; exact neq_pk q q w
          go_quiet (first
            | (go_at_call 14; exact Calls.quiet_of_same (Q1.out _))
            | (go_at_call 15; exact Calls.quiet_of_same (Q2.out _))
            | (go_at_call 16; exact Calls.quiet_of_same (Q3.out _)))
          go_wp2_with fail
          go_roundw
          case rel => exact ⟨i + 1, S', S, c2, d2, rfl, rfl, by simp, hlt, HS4.out.keep (drew_any _ _)⟩
          case measure => simp [intOf]; omega
        · have hia2 : ((i : Int) == at_) = false := by simp [hia]
          clear hia
          have HX := HSP
          have k0 := (HAT.out _ HX.out.below).k0; have k1 := (HAT.out _ HX.out.below).k1; have k2 := (HAT.out _ HX.out.below).k2; have k3 := (HAT.out _ HX.out.below).k3
          have HDO := Lib.hid (fun w' C c d (h : Sp W w' [NetN n S, NetQ m S, NetN c C, NetQ d C]) => h.ndo 0 rfl x)
          have HMO := Lib.hid (fun w' S' C c d b (h : Sp W w' [NetN n S', NetQ m S, NetN c C, NetQ d C, BlkT b 33 #[.int .i64 (S.step x).1.src, .int .i64 (S.step x).1.dst, .string (S.step x).1.body]]) => h.qmodel 1 rfl x)

          generalize S.step x = D at *
          obtain ⟨q, er, S'⟩ := D
          dsimp only at HDO HMO
          go_wp2_with (first
            | (go_at_call 12; refine (HDO.out _ _ _ _ HX.out).mono ?_; rintro e w5 ⟨rfl, h5⟩; have H5 : Hid (Sp W (w5.alloc (.cells #[.int .i64 q.src, .int .i64 q.dst, .string q.body] 33)) [NetN n S', NetQ m S, NetN c C, NetQ d C, BlkT w5.heap.size 33 #[.int .i64 q.src, .int .i64 q.dst, .string q.body]]) := Lib.hid (h5.local _ _); clear h5 k0 k1 k2 k3; have k0 := (HAT.out _ H5.out.below).k0; have k1 := (HAT.out _ H5.out.below).k1; have k2 := (HAT.out _ H5.out.below).k2; have k3 := (HAT.out _ H5.out.below).k3)
            | (go_at_call 13; refine (HMO.out _ _ _ _ _ _ H5.out).mono ?_; rintro e w6 ⟨rfl, h6⟩; have H6 : Hid (Sp W (w6.alloc (.cells #[.int .i64 q.src, .int .i64 q.dst, .string q.body] 33)) [NetN n S', NetQ m S', NetN c C, NetQ d C, BlkT w5.heap.size 33 #[.int .i64 q.src, .int .i64 q.dst, .string q.body], BlkT w6.heap.size 33 #[.int .i64 q.src, .int .i64 q.dst, .string q.body]]) := Lib.hid (h6.local _ _); clear h6 H5 k0 k1 k2 k3))
          generalize w6.alloc (.cells #[.int .i64 q.src, .int .i64 q.dst, .string q.body] 33) = w7 at *
          have z0 := (H6.out.blk 4 rfl).at 0
          have z1 := (H6.out.blk 4 rfl).at 1
          have z2 := (H6.out.blk 4 rfl).at 2
          have y0 := (H6.out.blk 5 rfl).at 0
          have y1 := (H6.out.blk 5 rfl).at 1
          have y2 := (H6.out.blk 5 rfl).at 2
          obtain ⟨Am, cm, hm0, _⟩ := H6.out.qrow 1 rfl
          have HS4 := Lib.hid H6.out.first4
          have Q1 := Lib.hid (fun n => flip_same ((H6.out.keep (drew_any w7 n)).ncount 0 rfl))
          have Q2 := Lib.hid (fun n => flip_same ((H6.out.keep (drew_any w7 n)).nhear 0 rfl a b))
          have Q3 := Lib.hid (fun n => flip_same ((H6.out.keep (drew_any w7 n)).qhear 1 rfl a b))
          clear H6
          generalize S'.L.length = len at *
          generalize S'.hear a b = hr at *
          have hq : ∀ w, (binOp .neq 33 (.agg #[.int .i64 q.src, .int .i64 q.dst, .string q.body]) (.agg #[.int .i64 q.src, .int .i64 q.dst, .string q.body])).run Try.prog w = .ok (.bool false) w := fun w => by rw [show false = (!decide (q = q)) from by simp]; exact neq_pk q q w
          go_quiet (first
            | (go_at_call 14; exact Calls.quiet_of_same (Q1.out _))
            | (go_at_call 15; exact Calls.quiet_of_same (Q2.out _))
            | (go_at_call 16; exact Calls.quiet_of_same (Q3.out _)))
          go_wp2_with fail
          go_roundw
          case rel => exact ⟨i + 1, S', C, c, d, rfl, rfl, by simp, hlt, HS4.out.keep (drew_any _ _)⟩
          case measure => simp [intOf]; omega
      · obtain rfl : l.length = i := by omega
        obtain ⟨Am, cm, hm0, hrm⟩ := hsp.qrow 1 rfl
        obtain ⟨Ad, cd, hd0, hrd⟩ := hsp.qrow 3 rfl
        have hS := (hsp.okay 0 rfl).len
        have hC := (hsp.okay 2 rfl).len
        have HKC : Hid (∀ w', Below wr.heap.size wr w' → w'.cell? ⟨m, 0, none⟩ = some (.slice Am S.L.length cm) ∧ w'.cell? ⟨d, 0, none⟩ = some (.slice Ad C.L.length cd)) := Lib.hid fun w' b => ⟨(b.cell (p := ⟨m, 0, none⟩) (World.block_lt_of_cell? wr _ hm0)).trans hm0, (b.cell (p := ⟨d, 0, none⟩) (World.block_lt_of_cell? wr _ hd0)).trans hd0⟩
        have HL1 : Hid (∀ w', Below wr.heap.size wr w' → Calls Try.prog 18 #[ptr n] w' fun e w2 => ∃ A c, e = .returned (.slice A S.L.length c) ∧ Row w2 w2.heap.size A (pks S.L) ∧ Below wr.heap.size wr w2) := Lib.hid fun w' b => ((hsp.keep b).nlist 0 rfl).mono fun e w2 ⟨v, he, hg, hb⟩ => by
          obtain ⟨A, c, rfl, hr⟩ := Grow.row hg
          exact ⟨A, c, he, hr, next_below b hb⟩
        have HL2 : Hid (∀ w', Below wr.heap.size wr w' → Calls Try.prog 18 #[ptr c] w' fun e w2 => ∃ A c, e = .returned (.slice A C.L.length c) ∧ Row w2 w2.heap.size A (pks C.L) ∧ Below wr.heap.size wr w2) := Lib.hid fun w' b => ((hsp.keep b).nlist 2 rfl).mono fun e w2 ⟨v, he, hg, hb⟩ => by
          obtain ⟨A, c, rfl, hr⟩ := Grow.row hg
          exact ⟨A, c, he, hr, next_below b hb⟩
        have HS1 : Hid (∀ w' A c, Below wr.heap.size wr w' → Row w' w'.heap.size A (pks S.L) → Calls Try.prog 17 #[.slice A S.L.length c, .slice Am S.L.length cm] w' fun e w2 => e = .returned (.bool true) ∧ Below wr.heap.size wr w2) := Lib.hid fun w' A c b hr => (qSame_any w' A Am c cm S.L S.L (by omega) hr (hrm.lift b)).mono fun e w2 ⟨he, hb⟩ => ⟨by rw [he, decide_eq_true rfl], next_below b hb⟩
        have HS2 : Hid (∀ w' A c, Below wr.heap.size wr w' → Row w' w'.heap.size A (pks C.L) → Calls Try.prog 17 #[.slice A C.L.length c, .slice Ad C.L.length cd] w' fun e w2 => e = .returned (.bool true) ∧ Below wr.heap.size wr w2) := Lib.hid fun w' A c b hr => (qSame_any w' A Ad c cd C.L C.L (by omega) hr (hrd.lift b)).mono fun e w2 ⟨he, hb⟩ => ⟨by rw [he, decide_eq_true rfl], next_below b hb⟩
        have HH1 := Lib.hid (fun w' (b' : Below wr.heap.size wr w') => (hsp.keep b').nhear 2 rfl a b)
        have HH2 := Lib.hid (fun w' (b' : Below wr.heap.size wr w') => (hsp.keep b').qhear 3 rfl a b)
        have HW := Lib.hid (fun w' (b' : Below wr.heap.size wr w') => next_below hsp.below b')
        have HB0 : Hid (Below wr.heap.size wr wr.drew) := Lib.hid (Below.refl _ wr).drew
        clear hm0 hd0 hrm hrd hS hC hsp
        generalize S.L.length = ls at *
        generalize C.L.length = lc at *
        generalize pks S.L = ps at *
        generalize pks C.L = pc at *
        generalize C.hear a b = hr at *
        go_wp2_with fail
        go_region_held3 (fun w' => w'.cell? ⟨m, 0, none⟩ = some (.slice Am ls cm) ∧ w'.cell? ⟨d, 0, none⟩ = some (.slice Ad lc cd)) (first | exact HKC.out _ HB0.out | exact HKC.out _ b1 | exact HKC.out _ b2 | exact HKC.out _ b3 | exact HKC.out _ b4 | go_keep)
          (first
            | (go_at_call 18; with_reducible refine (HL1.out _ HB0.out).mono ?_; rintro e w1 ⟨A1, c1, rfl, r1, b1⟩)
            | (go_at_call 17; with_reducible refine (HS1.out _ _ _ b1 r1).mono ?_; rintro e w2 ⟨rfl, b2⟩)
            | (go_at_call 18; with_reducible refine (HL2.out _ b2).mono ?_; rintro e w3 ⟨A3, c3, rfl, r3, b3⟩)
            | (go_at_call 17; with_reducible refine (HS2.out _ _ _ b3 r3).mono ?_; rintro e w4 ⟨rfl, b4⟩)
            | (go_at_call 15; with_reducible refine (HH1.out _ b4).mono ?_; rintro e w5 ⟨rfl, rfl⟩)
            | (go_at_call 16; with_reducible refine (HH2.out _ b4).mono ?_; rintro e w6 ⟨rfl, rfl⟩))
        go_wp2_with fail
        go_ret
        exact ⟨by simp, HW.out _ b4⟩
end Ntw
end Go.Proofs.Ytmhnifcohkamaaa

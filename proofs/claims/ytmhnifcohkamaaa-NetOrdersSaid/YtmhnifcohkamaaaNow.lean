/- NetOrders. -/
import Derived.Test.YtmhnifcohkamaaaNrw
import Derived.Test.YtmhnifcohkamaaaNtl
namespace Go.Proofs.Ytmhnifcohkamaaa
open Go.RowKit Wire
open Txt (Row)
open Dsk (Only below_of_grown Grow.bare)
set_option linter.unusedVariables false
set_option linter.unusedSimpArgs false
namespace Ntw
structure OrRel (W : World) (n k : Nat) (wv iv : Value) (wr : World) (i : Nat) (S : Nt) : Prop where
  iv : iv = .int .i64 i
  le : i ≤ k
  sp : Sp W wr [NetN n S, PkT wv S.L]
  m : S.m = 0
  len : S.L.length = i
structure OrRel2 (W : World) (n k : Nat) (wv iv : Value) (wr : World) (i : Nat) (S : Nt) : Prop where
  iv : iv = .int .i64 i
  le : i ≤ k
  sp : Sp W wr [NetN n S, PkT wv S.L]
  m : S.m = 0
  len : S.L.length ≤ 30
theorem or_ends (z t : Int) : ∃ fa tb ta : Nat, bits .and .i64 z 15 = fa ∧ bits .and .i64 t 7 = tb ∧ bits .and .i64 ((fa : Int) + 1 + (tb : Int)) 15 = ta ∧ fa < 16 ∧ tb < 8 ∧ ta < 16 ∧ fa ≠ ta := by
  refine ⟨(z % 16).toNat, (t % 8).toNat, ((z % 16).toNat + 1 + (t % 8).toNat) % 16, ?_, ?_, ?_, ?_, ?_, ?_, ?_⟩
  · rw [and15]; omega
  · rw [and7]; omega
  · rw [and15]; omega
  · omega
  · omega
  · omega
  · omega
theorem row_int {W w : World} {B : Option Addr} {zs : List Int} (h : Row W W.heap.size B (zs.map (Value.int .i64))) (hb : Below W.heap.size W w) {i : Nat} (hi : i < zs.length) : ∃ b o, B = some ⟨b, o, none⟩ ∧ w.cell? ⟨b, o + i, none⟩ = some (.int .i64 zs[i]) := by
  obtain ⟨b, o, e, hlt, hc⟩ := h i (.int .i64 zs[i]) (by rw [List.getElem?_map, List.getElem?_eq_getElem hi]; rfl)
  exact ⟨b, o, e, (hb.cell (p := ⟨b, o + i, none⟩) hlt).trans hc⟩
theorem Sp.second {W w : World} {t0 t1 t2 : Thing} (h : Sp W w [t0, t1, t2]) : Sp W w [t0, t2] :=
  h.pick (fun i => if i = 0 then 0 else i + 1) (fun i j hi hj e => by simp at hi hj e; split at e <;> split at e <;> omega) (fun i t ht => by
    match i, ht with
    | 0, ht => exact ht
    | 1, ht => exact ht
    | k + 2, ht => simp at ht)
set_option maxRecDepth 100000 in
set_option maxHeartbeats 4000000 in
theorem orders (W : World) (A : Option Addr) (cp : Nat) (l : List Opn) (B : Option Addr) (cb : Nat) (zs : List Int) (hops : Ops W A l) (hrow : Row W W.heap.size B (zs.map (Value.int .i64))) (hzl : zs.length ≤ 9223372036854775807) :
    Calls Try.prog 5 #[.slice A l.length cp, .slice B zs.length cb] W fun e w' => e = .returned (.bool true) ∧ Below W.heap.size W w' := by
  have HL := Lib.hid hops
  have hlen := hops.len
  have HRW := Lib.hid hrow
  clear hops hrow
  have HFW := Lib.hid (fun w (hb : Below W.heap.size W w) => nfew_any (W := W) A cp l 30 (by omega) HL.out hb)
  have HSM := Lib.hid (nsmall_any W)
  have HN : Hid (∀ w, Below W.heap.size W w → Calls Try.prog 8 #[] w fun e w' => ∃ q, e = .returned (ptr q) ∧ Sp W w' [NetN q (bare 0)]) := Lib.hid (fun w hb => (Sp.nil (W := W) hb).nnew)
  by_cases hz30 : 30 < zs.length
  · have hz30' : (30 : Int) < zs.length := by omega
    go_enter Try.func5, Try.ntmps5
    go_wp2_with (first
      | (go_at_call 7; refine HSM.out.mono ?_; rintro e w1 ⟨rfl, b1⟩; have B1 := Lib.hid b1; clear b1)
      | (go_at_call 8; refine (HN.out _ B1.out).mono ?_; rintro e w2 ⟨n, rfl, h2⟩; have H2 := Lib.hid h2; clear h2)
      | (go_at_call 9; refine (HFW.out _ H2.out.below).mono ?_; rintro e w3 ⟨bb, rfl, hbb, rfl⟩; have HBB := Lib.hid hbb; clear hbb; cases bb))
    all_goals
      go_ret
      exact ⟨rfl, H2.out.below⟩
  have hz30' : ¬ (30 : Int) < zs.length := by omega
  go_enter Try.func5, Try.ntmps5
  go_wp2_with (first
    | (go_at_call 7; refine HSM.out.mono ?_; rintro e w1 ⟨rfl, b1⟩; have B1 := Lib.hid b1; clear b1)
    | (go_at_call 8; refine (HN.out _ B1.out).mono ?_; rintro e w2 ⟨n, rfl, h2⟩; have H2 := Lib.hid h2; clear h2)
    | (go_at_call 9; refine (HFW.out _ H2.out.below).mono ?_; rintro e w3 ⟨bb, rfl, hbb, rfl⟩; have HBB := Lib.hid hbb; clear hbb; cases bb))
  · go_ret
    exact ⟨rfl, H2.out.below⟩
  · have HLN := HBB.out trivial
    clear HBB HN HSM HFW
    go_loopw [7, 8, 9, 10] (fun wv iv _ _ wr => ∃ i S, OrRel W n l.length wv iv wr i S) (fun _ iv _ _ _ => l.length - (intOf iv).toNat)
    case atStart => exact ⟨0, bare 0, rfl, Nat.zero_le _, H2.out.nil_row, rfl, rfl⟩
    case round =>
      obtain ⟨i, S, ⟨rfl, hi, hsp, hm, hln⟩⟩ := hrel
      clear H2
      by_cases hlt : i < l.length
      · obtain ⟨bb, o, rfl, x, hx, hfit, hat⟩ := HL.out.all hlt
        have HAT := Lib.hid hat
        obtain ⟨k0, k1, k2, k3⟩ := HAT.out _ hsp.below
        obtain ⟨fa, tb, ta, e1, e2, e3, f1, f2, f3, f4⟩ := or_ends x.n x.t
        have g1 : (fa : Int) < 16 := by omega
        have g2 : (tb : Int) < 8 := by omega
        have HSE : Hid (Calls Try.prog 20 #[ptr n, .int .i64 fa, .int .i64 ta, .string x.s] wr fun e w2 => e = .returned (.int .i64 0) ∧ Sp W w2 [NetN n ⟨S.L ++ [⟨fa, ta, x.s⟩], 0⟩, PkT u7 S.L]) := Lib.hid (by
          have hs : S.send fa ta x.s = (0, ⟨S.L ++ [⟨fa, ta, x.s⟩], 0⟩) := by
            obtain ⟨L, m⟩ := S
            dsimp only at hm hln
            subst hm
            exact send_hear f1 f3 f4 (by omega) x.s (hear_zero f1 f3)
          exact hsp.nsend 0 rfl fa ta x.s hs)
        have HAP : Hid (∀ w', Sp W w' [NetN n ⟨S.L ++ [⟨fa, ta, x.s⟩], 0⟩, PkT u7 S.L] → ∃ v' w2, (Builtin.append_ #[27, 27] 27 #[u7, .slice (some ⟨w'.heap.size, 0, none⟩) 1 1]).run Try.prog (w'.alloc (.cells #[.int .i64 fa, .int .i64 ta, .string x.s] 33)) = .ok v' w2 ∧ Sp W w2 [NetN n ⟨S.L ++ [⟨fa, ta, x.s⟩], 0⟩, PkT v' (S.L ++ [⟨fa, ta, x.s⟩])]) := Lib.hid fun w' h => h.push 1 rfl ⟨fa, ta, x.s⟩ (by omega) 33
        have HLE : Hid ((S.L ++ [(⟨fa, ta, x.s⟩ : Pk)]).length = i + 1) := Lib.hid (by rw [List.length_append, hln]; rfl)
        clear hx hfit hat hsp hm hln f1 f2 f3 f4
        generalize S.L ++ [⟨fa, ta, x.s⟩] = X at *
        go_wp2_with (first
          | (go_at_call 20; refine HSE.out.mono ?_; rintro e w4 ⟨rfl, h4⟩; have H4 := Lib.hid h4; clear h4 k0 k1 k2 k3; have k0 := (HAT.out _ H4.out.below).k0; have k1 := (HAT.out _ H4.out.below).k1; have k2 := (HAT.out _ H4.out.below).k2; have k3 := (HAT.out _ H4.out.below).k3)
          | (at_builtin; obtain ⟨v5, w5, r5, h5⟩ := HAP.out _ H4.out; have H5 := Lib.hid h5; refine wpList_append_run rfl _ _ _ _ rfl rfl rfl r5 ?_; clear h5 r5))
        go_roundw
        case rel => exact ⟨i + 1, ⟨X, 0⟩, by simp, hlt, H5.out, rfl, HLE.out⟩
        case measure => simp [intOf]; omega
      · obtain rfl : l.length = i := by omega
        have HSP := Lib.hid hsp
        have HSM := Lib.hid hm
        have HSL : Hid (S.L.length ≤ 30) := Lib.hid (by omega)
        clear hsp hm hln
        go_wp2_with fail
        go_loopw [7, 11, 12, 13, 14] (fun wv iv _ _ _ wr => ∃ i S, OrRel2 W n zs.length wv iv wr i S) (fun _ iv _ _ _ _ => zs.length - (intOf iv).toNat)
        case atStart => exact ⟨0, S, rfl, Nat.zero_le _, HSP.out, HSM.out, HSL.out⟩
        case round =>
          clear HSP HSM HSL
          obtain ⟨i, S, ⟨rfl, hi, hsp, hm, hln⟩⟩ := hrel
          by_cases hlt : i < zs.length
          · obtain ⟨bb, o, rfl, hc⟩ := row_int HRW.out hsp.below hlt
            generalize zs[i] = z at *
            cases hz : S.has z
            · have HDE : Hid (Calls Try.prog 21 #[ptr n, .int .i64 z] wr fun e w2 => e = .returned (.tuple #[.agg #[.int .i64 0, .int .i64 0, .string ⟨#[]⟩], .int .i64 4]) ∧ Sp W w2 [NetN n S, PkT u7 S.L]) := Lib.hid (hsp.ndeliver (o := none) 0 rfl z (deliver_none hz))
              obtain ⟨A7, c7, rfl, _⟩ := hsp.slice 1 rfl
              have HM := Lib.hid hm
              have HLN := Lib.hid hln
              have hn2 := none_two hz
              clear hsp hz hm hln
              rcases hn2 with hn2 | ⟨hn2, hn3⟩
              · go_wp2_with (go_at_call 21; refine HDE.out.mono ?_; rintro e w4 ⟨rfl, h4⟩; have H4 : Hid (Sp W (w4.alloc (.cells #[.int .i64 0, .int .i64 0, .string ⟨#[]⟩] 33)) _) := Lib.hid (h4.keep ((Below.refl _ w4).alloc (Nat.le_refl _) _)); clear h4)
                go_roundw
                case rel => exact ⟨i + 1, S, by simp, hlt, H4.out, HM.out, HLN.out⟩
                case measure => simp [intOf]; omega
              · go_wp2_with (go_at_call 21; refine HDE.out.mono ?_; rintro e w4 ⟨rfl, h4⟩; have H4 : Hid (Sp W (w4.alloc (.cells #[.int .i64 0, .int .i64 0, .string ⟨#[]⟩] 33)) _) := Lib.hid (h4.keep ((Below.refl _ w4).alloc (Nat.le_refl _) _)); clear h4)
                go_roundw
                case rel => exact ⟨i + 1, S, by simp, hlt, H4.out, HM.out, HLN.out⟩
                case measure => simp [intOf]; omega
            · obtain ⟨k, q, rfl, hq, hk⟩ := has_nat hz
              have hdel := deliver_zero (hsp.okay 0 rfl) hm hq
              obtain ⟨g, cap, rfl, h1, h2, h3, h4, h5, h6, h7⟩ := (hsp.row 1 rfl).form.resolve_left (fun e => by omega)
              have HDE : Hid (Calls Try.prog 21 #[ptr n, .int .i64 k] wr fun e w2 => e = .returned (.tuple #[.agg #[.int .i64 q.src, .int .i64 q.dst, .string q.body], .int .i64 0]) ∧ Sp W w2 [NetN n { S with L := S.L.eraseIdx k }, PkT (.slice (some ⟨g, 0, none⟩) S.L.length cap) S.L]) := Lib.hid (hsp.ndeliver (o := some q) 0 rfl k hdel)
              have HCL : Hid (∀ w', Sp W w' [NetN n { S with L := S.L.eraseIdx k }, PkT (.slice (some ⟨g, 0, none⟩) S.L.length cap) S.L] → w'.cell? ⟨g, k * 3, none⟩ = some (.int .i64 q.src) ∧ w'.cell? ⟨g, k * 3 + 1, none⟩ = some (.int .i64 q.dst) ∧ w'.cell? ⟨g, k * 3 + 2, none⟩ = some (.string q.body)) := Lib.hid fun w' h => by
                obtain ⟨z0, z1, z2⟩ := pks_at hq
                obtain ⟨g', cap', e, _, _, _, _, _, _, hh⟩ := (h.row 1 rfl).form.resolve_left (fun e => by omega)
                injection e with e
                injection e with e
                injection e with e
                subst e
                exact ⟨hh _ _ z0, hh _ _ z1, hh _ _ z2⟩
              have HER : Hid (∀ w' w3 v0, Sp W w' [NetN n { S with L := S.L.eraseIdx k }, PkT (.slice (some ⟨g, 0, none⟩) S.L.length cap) S.L] → Below w'.heap.size w' w3 → Grow w3 w'.heap.size 3 v0 0 [] → ∃ v1 w1 v2 w2, (Builtin.append_ #[27, 27] 27 #[v0, .slice (some ⟨g, 0, none⟩) k cap]).run Try.prog w3 = .ok v1 w1 ∧ (Builtin.append_ #[27, 27] 27 #[v1, .slice (if cap = k + 1 then some ⟨g, 0, none⟩ else some ⟨g, (k + 1) * 3, none⟩) (S.L.length - (k + 1)) (cap - (k + 1))]).run Try.prog w1 = .ok v2 w2 ∧ Sp W w2 [NetN n { S with L := S.L.eraseIdx k }, PkT v2 (S.L.eraseIdx k)]) := Lib.hid fun w' w3 v0 h b h0 => by
                obtain ⟨v1, w1, v2, w2, r1, _, r2, b2, g2⟩ := erase_row (h.row 1 rfl) (by omega) hk b h0
                exact ⟨v1, w1, v2, w2, r1, r2, (h.new_row b2 g2).second⟩
              have HM := Lib.hid hm
              have HLE : Hid ((S.L.eraseIdx k).length ≤ 30) := Lib.hid (by have := List.length_eraseIdx_le S.L k; omega)
              have hk2 : ¬ (S.L.length : Int) ≤ k := by omega
              have hk3 : (k : Int) < S.L.length := by omega
              have hk4 : (k : Int) ≤ cap := by omega
              have hk5 : 0 ≤ (k : Int) + 1 ∧ (k : Int) + 1 ≤ S.L.length := by omega
              have hw := run_plus k (by omega)
              have hq' : ∀ w, (binOp .neq 33 (.agg #[.int .i64 q.src, .int .i64 q.dst, .string q.body]) (.agg #[.int .i64 q.src, .int .i64 q.dst, .string q.body])).run Try.prog w = .ok (.bool false) w := fun w => by rw [show false = (!decide (q = q)) from by simp]; exact neq_pk q q w
              clear hsp hz hm hln hdel h1 h2 h3 h4 h5 h6 h7 hq hk
              generalize S.L.eraseIdx k = X at *
              generalize S.L.length = ns at *
              go_wp2_with (go_at_call 21; refine HDE.out.mono ?_; rintro e w4 ⟨rfl, h4⟩; have H4 : Hid (Sp W (w4.alloc (.cells #[.int .i64 q.src, .int .i64 q.dst, .string q.body] 33)) _) := Lib.hid (h4.keep ((Below.refl _ w4).alloc (Nat.le_refl _) _)); clear h4; obtain ⟨z0, z1, z2⟩ := HCL.out _ H4.out)
              go_quiet (fail)
              generalize hwa : w4.alloc (.cells #[.int .i64 q.src, .int .i64 q.dst, .string q.body] 33) = wa at *
              generalize hwq : wa.drewN _ = wq
              have HX : Hid (Sp W wq [NetN n { S with L := X }, PkT (.slice (some ⟨g, 0, none⟩) ns cap) S.L]) := Lib.hid (hwq ▸ H4.out.keep (drew_any _ _))
              generalize hW3 : (wq.alloc (.cells #[] 33)).drew = w3
              have b3 : Below wq.heap.size wq w3 := hW3 ▸ ((Below.refl _ wq).alloc (Nat.le_refl _) _).drew
              have g0 : Grow w3 wq.heap.size 3 (.slice (some ⟨wq.heap.size, 0, none⟩) 0 0) 0 [] := hW3 ▸ (Grow.bare wq 33 3).drew
              obtain ⟨v1, w1', v2, w2', r1, r2, h5⟩ := HER.out wq w3 _ HX.out b3 g0
              have HW3 := Lib.hid hW3
              have R1 := Lib.hid r1
              have R2 := Lib.hid r2
              have H5 := Lib.hid h5
              clear hwa hwq hW3 b3 g0 r1 r2 h5 HX HER H4 z0 z1 z2 HCL
              go_upto_region 24 with (fail)
              try go_frame
              refine Dsk.wp_region_sorted (fun _ => True) [1, 2, 3, 5, 6, 7, 8] [0, 4, 9, 10] (by kernel_rfl) (by kernel_rfl) trivial ?_
              repeat refine Dsk.RD.next rfl rfl (by intro w' hS; go_simp; with_reducible rfl) ?_
              refine Dsk.RD.done ?_
              refine Dsk.CH.next rfl rfl fun K hK => ?_
              go_simp
              rw [HW3.out]
              refine hK _ _ trivial ?_
              clear hK
              refine Dsk.CH.next rfl rfl fun K hK => ?_
              refine wp_append_run _ _ _ _ rfl (by simp [go_sem]) (by simp [go_sem]) R1.out ?_
              refine hK _ _ trivial ?_
              clear hK
              refine Dsk.CH.next rfl rfl fun K hK => ?_
              refine wp_append_run _ _ _ _ rfl (by simp [go_sem]) (by simp [go_sem]) R2.out ?_
              refine hK _ _ trivial ?_
              clear hK
              refine Dsk.CH.next rfl rfl fun K hK => ?_
              go_simp
              refine hK _ _ trivial ?_
              clear hK
              refine Dsk.CH.done (NoPanic.normal ?_)
              try go_frame
              go_wp2_with fail
              all_goals
                go_roundw
                case rel => exact ⟨i + 1, { S with L := X }, by simp, hlt, H5.out, HM.out, HLE.out⟩
                case measure => simp [intOf]; omega
          · obtain rfl : zs.length = i := by omega
            obtain ⟨A7, c7, rfl, hr7⟩ := hsp.slice 1 rfl
            have HLS : Hid (Calls Try.prog 18 #[ptr n] wr fun e w2 => ∃ A c, e = .returned (.slice A S.L.length c) ∧ Row w2 w2.heap.size A (pks S.L) ∧ Below wr.heap.size wr w2) := Lib.hid ((hsp.nlist 0 rfl).mono fun e w2 ⟨v, he, hg, hb⟩ => by
              obtain ⟨A, c, rfl, hr⟩ := Grow.row hg
              exact ⟨A, c, he, hr, hb⟩)
            have HSA : Hid (∀ w' A c, Below wr.heap.size wr w' → Row w' w'.heap.size A (pks S.L) → Calls Try.prog 17 #[.slice A S.L.length c, .slice A7 S.L.length c7] w' fun e w2 => e = .returned (.bool true) ∧ Below wr.heap.size wr w2) := Lib.hid fun w' A c b hr => (qSame_any w' A A7 c c7 S.L S.L (by omega) hr (hr7.lift b)).mono fun e w2 ⟨he, hb⟩ => ⟨by rw [he, decide_eq_true rfl], next_below b hb⟩
            have HBL := Lib.hid hsp.below
            clear hsp hm hln hr7
            generalize S.L.length = ns at *
            go_wp2_with (first
              | (go_at_call 18; refine HLS.out.mono ?_; rintro e w4 ⟨A4, c4, rfl, r4, b4⟩)
              | (go_at_call 17; refine (HSA.out _ _ _ b4 r4).mono ?_; rintro e w5 ⟨rfl, b5⟩))
            go_ret
            exact ⟨rfl, next_below HBL.out b5⟩
end Ntw
end Go.Proofs.Ytmhnifcohkamaaa

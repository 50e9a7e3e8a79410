/- NetHonest. -/
import Derived.Test.YtmhnifcohkamaaaNhp
import Derived.Test.YtmhnifcohkamaaaNtl
namespace Go.Proofs.Ytmhnifcohkamaaa
open Go.RowKit Wire
open Txt (Row)
open Dsk (Only below_of_grown Grow.bare)
set_option linter.unusedVariables false
set_option linter.unusedSimpArgs false
namespace Ntw
structure HoRel (W : World) (n k : Nat) (mv gv iv : Value) (wr : World) (i : Nat) (S : Nt) (mk gt : List Pk) : Prop where
  iv : iv = .int .i64 i
  le : i ≤ k
  sp : Sp W wr [NetN n S, PkT mv mk, PkT gv gt]
  fair : Fair mk gt S.L
  made : mk.length ≤ i
  got : gt.length ≤ i
structure HoEnd (w : World) (k : Nat) (iv : Value) (wr : World) (i : Nat) : Prop where
  iv : iv = .int .i64 i
  le : i ≤ k
  below : Below w.heap.size w wr
theorem Sp.first3 {W w : World} {t0 t1 t2 : Thing} {T : List Thing} (h : Sp W w (t0 :: t1 :: t2 :: T)) : Sp W w [t0, t1, t2] :=
  h.pick (fun i => i) (fun i j hi hj e => e) (fun i t ht => by
    match i, ht with
    | 0, ht => exact ht
    | 1, ht => exact ht
    | 2, ht => exact ht
    | k + 3, ht => simp at ht)
set_option maxRecDepth 100000 in
set_option maxHeartbeats 4000000 in
theorem honest (W : World) (A : Option Addr) (cp : Nat) (l : List Opn) (hops : Ops W A l) :
    Calls Try.prog 4 #[.slice A l.length cp] W fun e w' => e = .returned (.bool true) ∧ Below W.heap.size W w' := by
  have HL := Lib.hid hops
  have hlen := hops.len
  clear hops
  have HFW := Lib.hid (fun w (hb : Below W.heap.size W w) => nfew_any (W := W) A cp l 200 (by omega) HL.out hb)
  have HSM := Lib.hid (nsmall_any W)
  have HN : Hid (∀ w, Below W.heap.size W w → Calls Try.prog 8 #[] w fun e w' => ∃ q, e = .returned (ptr q) ∧ Sp W w' [NetN q (bare 0)]) := Lib.hid (fun w hb => (Sp.nil (W := W) hb).nnew)
  go_enter Try.func4, Try.ntmps4
  go_wp2_with (first
    | (go_at_call 7; refine HSM.out.mono ?_; rintro e w1 ⟨rfl, b1⟩; have B1 := Lib.hid b1; clear b1)
    | (go_at_call 8; refine (HN.out _ B1.out).mono ?_; rintro e w2 ⟨n, rfl, h2⟩; have H2 := Lib.hid h2; clear h2)
    | (go_at_call 9; refine (HFW.out _ H2.out.below).mono ?_; rintro e w3 ⟨bb, rfl, hbb, rfl⟩; have HBB := Lib.hid hbb; clear hbb; cases bb))
  · go_ret
    exact ⟨rfl, H2.out.below⟩
  · have HLN := HBB.out trivial
    clear HBB HN HSM HFW
    go_loopw [5, 6, 7, 8, 9, 10, 11] (fun mv gv iv _ _ _ _ wr => ∃ i S mk gt, HoRel W n l.length mv gv iv wr i S mk gt) (fun _ _ iv _ _ _ _ _ => l.length - (intOf iv).toNat)
    case atStart => exact ⟨0, bare 0, [], [], rfl, Nat.zero_le _, H2.out.nil_row.nil_row, Fair.nil, Nat.le_refl _, Nat.le_refl _⟩
    case round =>
      obtain ⟨i, S, mk, gt, ⟨rfl, hi, hsp, hfair, hmk, hgt⟩⟩ := hrel
      clear H2
      by_cases hlt : i < l.length
      · obtain ⟨bb, o, rfl, x, hx, hfit, hat⟩ := HL.out.all hlt
        obtain ⟨k0, k1, k2, k3⟩ := hat _ hsp.below
        have HSP := Lib.hid hsp
        have hil : i < 200 := by omega
        have hlS := (hsp.okay 0 rfl).len
        have HDID := Lib.hid (step_did hfair x)
        have HLS : Hid (∀ w' b8, Sp W w' [NetN n S, PkT u5 mk, PkT u6 gt, BlkT b8 38 #[.int .i64 x.kind, .int .i64 x.n, .int .i64 x.t, .string x.s]] → Calls Try.prog 18 #[ptr n] w' fun e w2 => ∃ A c, e = .returned (.slice A S.L.length c) ∧ Sp W w2 [NetN n S, PkT u5 mk, PkT u6 gt, BlkT b8 38 #[.int .i64 x.kind, .int .i64 x.n, .int .i64 x.t, .string x.s], PkT (.slice A S.L.length c) S.L]) := Lib.hid fun w' b8 h => (h.nlist 0 rfl).mono fun e w2 ⟨v, he, hg, hb⟩ => by
          have hn := h.new_row hb hg
          obtain ⟨A, c, rfl⟩ := hg.slice
          exact ⟨A, c, he, hn⟩
        have HDO := Lib.hid (fun w' b8 v9 (h : Sp W w' [NetN n S, PkT u5 mk, PkT u6 gt, BlkT b8 38 #[.int .i64 x.kind, .int .i64 x.n, .int .i64 x.t, .string x.s], PkT v9 S.L]) => h.ndo 0 rfl x)
        have HMK := Lib.hid hmk
        have HGT := Lib.hid hgt
        clear hx hfit hat hsp hfair hmk hgt
        generalize S.step x = D at *
        obtain ⟨q, er, S'⟩ := D
        dsimp only at HDID HDO
        go_upto_region 13 with (first
          | (go_at_call 18; refine (HLS.out _ _ (HSP.out.local 38 #[.int .i64 x.kind, .int .i64 x.n, .int .i64 x.t, .string x.s])).mono ?_; rintro e w4 ⟨A9, c9, rfl, h4⟩; have H4 := Lib.hid h4; clear h4 k0 k1 k2 k3; have k0 := (H4.out.blk 3 rfl).at 0; have k1 := (H4.out.blk 3 rfl).at 1; have k2 := (H4.out.blk 3 rfl).at 2; have k3 := (H4.out.blk 3 rfl).at 3)
          | (go_at_call 12; refine (HDO.out _ _ _ H4.out).mono ?_; rintro e w5 ⟨rfl, h5⟩; have H5 : Hid (Sp W (w5.alloc (.cells #[.int .i64 q.src, .int .i64 q.dst, .string q.body] 33)) [NetN n S', PkT u5 mk, PkT u6 gt, BlkT wr.heap.size 38 #[.int .i64 x.kind, .int .i64 x.n, .int .i64 x.t, .string x.s], PkT (.slice A9 S.L.length c9) S.L, BlkT w5.heap.size 33 #[.int .i64 q.src, .int .i64 q.dst, .string q.body]]) := Lib.hid (h5.local _ _); clear h5 H4 k0 k1 k2 k3))
        clear HLS HDO HSP
        generalize w5.alloc (.cells #[.int .i64 q.src, .int .i64 q.dst, .string q.body] 33) = w6 at *
        have x0 := (H5.out.blk 3 rfl).at 0
        have x1 := (H5.out.blk 3 rfl).at 1
        have x2 := (H5.out.blk 3 rfl).at 2
        have x3 := (H5.out.blk 3 rfl).at 3
        have z0 := (H5.out.blk 5 rfl).at 0
        have z1 := (H5.out.blk 5 rfl).at 1
        have z2 := (H5.out.blk 5 rfl).at 2
        have HD := HDID.out
        clear HDID
        rcases HD with ⟨her, hq0, hf⟩ | ⟨her, hkd, hh, hne, hf⟩ | ⟨her, hkd, hh, hf⟩ | ⟨her, hkd, k, p, hxn, hp, hf⟩ | ⟨her, hkd, hf⟩
        · have HF := Lib.hid hf
          have hne0 : ¬ er = 0 := her
          have hq : ∀ w, (binOp .neq 33 (.agg #[.int .i64 q.src, .int .i64 q.dst, .string q.body]) (.agg #[.int .i64 0, .int .i64 0, .string ⟨#[]⟩])).run Try.prog w = .ok (.bool false) w := fun w => by have := neq_pk q Pk.zero w; rw [show (!decide (q = Pk.zero)) = false from by rw [decide_eq_true hq0]; rfl] at this; exact this
          clear her hq0 hf
          go_wp2_with fail
          go_roundw
          case rel => exact ⟨i + 1, S', mk, gt, by simp, hlt, H5.out.first3, HF.out, by have := HMK.out; omega, by have := HGT.out; omega⟩
          case measure => simp [intOf]; omega
        · subst her
          have HHE : Hid (Calls Try.prog 15 #[ptr n, .int .i64 x.n, .int .i64 x.t] w6 fun e w2 => e = .returned (.bool true) ∧ w6 = w2) := Lib.hid (by have := H5.out.nhear 0 rfl x.n x.t; rw [hh] at this; exact this)
          have hne2 : (x.n == x.t) = false := beq_eq_false_iff_ne.2 hne
          have hml := HMK.out
          have HAP : Hid (∃ v' w2, (Builtin.append_ #[27, 27] 27 #[u5, .slice (some ⟨w6.heap.size, 0, none⟩) 1 1]).run Try.prog (w6.alloc (.cells #[.int .i64 x.n, .int .i64 x.t, .string x.s] 33)) = .ok v' w2 ∧ Sp W w2 [NetN n S', PkT v' (mk ++ [⟨x.n, x.t, x.s⟩]), PkT u6 gt]) := Lib.hid (by
            obtain ⟨v', w2, r, h⟩ := H5.out.push 1 rfl ⟨x.n, x.t, x.s⟩ (by omega) 33
            exact ⟨v', w2, r, Sp.first3 h⟩)
          have HF := Lib.hid hf
          have HML : Hid ((mk ++ [(⟨x.n, x.t, x.s⟩ : Pk)]).length ≤ i + 1) := Lib.hid (by rw [List.length_append]; simp; omega)
          clear hh hne hf hml H5
          have h012 : x.kind % 8 = 0 ∨ x.kind % 8 = 1 ∨ x.kind % 8 = 2 := by omega
          clear hkd
          rcases h012 with hkd | hkd | hkd
          · have hb : bits BinOp.and IntKind.i64 x.kind 7 = 0 := by rw [and7]; exact hkd
            clear hkd
            go_wp2_with (first
              | (go_at_call 15; refine HHE.out.mono ?_; rintro e w7 ⟨rfl, rfl⟩)
              | (at_builtin; obtain ⟨v8, w8, r8, h8⟩ := HAP.out; have H8 := Lib.hid h8; refine wpList_append_run rfl _ _ _ _ rfl rfl rfl r8 ?_; clear h8 r8))
            go_roundw
            case rel => exact ⟨i + 1, S', _, gt, by simp, hlt, H8.out, HF.out, HML.out, by have := HGT.out; omega⟩
            case measure => simp [intOf]; omega
          · have hb : bits BinOp.and IntKind.i64 x.kind 7 = 1 := by rw [and7]; exact hkd
            clear hkd
            go_wp2_with (first
              | (go_at_call 15; refine HHE.out.mono ?_; rintro e w7 ⟨rfl, rfl⟩)
              | (at_builtin; obtain ⟨v8, w8, r8, h8⟩ := HAP.out; have H8 := Lib.hid h8; refine wpList_append_run rfl _ _ _ _ rfl rfl rfl r8 ?_; clear h8 r8))
            go_roundw
            case rel => exact ⟨i + 1, S', _, gt, by simp, hlt, H8.out, HF.out, HML.out, by have := HGT.out; omega⟩
            case measure => simp [intOf]; omega
          · have hb : bits BinOp.and IntKind.i64 x.kind 7 = 2 := by rw [and7]; exact hkd
            clear hkd
            go_wp2_with (first
              | (go_at_call 15; refine HHE.out.mono ?_; rintro e w7 ⟨rfl, rfl⟩)
              | (at_builtin; obtain ⟨v8, w8, r8, h8⟩ := HAP.out; have H8 := Lib.hid h8; refine wpList_append_run rfl _ _ _ _ rfl rfl rfl r8 ?_; clear h8 r8))
            go_roundw
            case rel => exact ⟨i + 1, S', _, gt, by simp, hlt, H8.out, HF.out, HML.out, by have := HGT.out; omega⟩
            case measure => simp [intOf]; omega
        · subst her
          have hb : bits BinOp.and IntKind.i64 x.kind 7 = 3 := by rw [and7]; exact hkd
          have HHE : Hid (Calls Try.prog 15 #[ptr n, .int .i64 q.src, .int .i64 q.dst] w6 fun e w2 => e = .returned (.bool true) ∧ w6 = w2) := Lib.hid (by have := H5.out.nhear 0 rfl q.src q.dst; rw [hh] at this; exact this)
          have hgl := HGT.out
          have HAP : Hid (∃ v' w2, (Builtin.append_ #[27, 27] 27 #[u6, .slice (some ⟨w6.heap.size, 0, none⟩) 1 1]).run Try.prog (w6.alloc (.cells #[.int .i64 q.src, .int .i64 q.dst, .string q.body] 33)) = .ok v' w2 ∧ Sp W w2 [NetN n S', PkT u5 mk, PkT v' (gt ++ [q])]) := Lib.hid (by
            obtain ⟨v', w2, r, h⟩ := H5.out.push 2 rfl q (by omega) 33
            exact ⟨v', w2, r, Sp.first3 h⟩)
          have HF := Lib.hid hf
          have HGL : Hid ((gt ++ [q]).length ≤ i + 1) := Lib.hid (by rw [List.length_append]; simp; omega)
          clear hh hf hgl H5 hkd
          go_wp2_with (first
            | (go_at_call 15; refine HHE.out.mono ?_; rintro e w7 ⟨rfl, rfl⟩)
            | (at_builtin; obtain ⟨v8, w8, r8, h8⟩ := HAP.out; have H8 := Lib.hid h8; refine wpList_append_run rfl _ _ _ _ rfl rfl rfl r8 ?_; clear h8 r8))
          go_roundw
          case rel => exact ⟨i + 1, S', mk, _, by simp, hlt, H8.out, HF.out, by have := HMK.out; omega, HGL.out⟩
          case measure => simp [intOf]; omega
        · subst her
          have hb : bits BinOp.and IntKind.i64 x.kind 7 = 5 := by rw [and7]; exact hkd
          have hk := (List.getElem?_eq_some_iff.1 hp).1
          obtain ⟨A9', c9', e9, hr9⟩ := H5.out.slice 4 rfl
          injection e9 with e9 _ e9c
          subst e9 e9c
          obtain ⟨b9, o9, rfl, hb9, hc9⟩ := row_pk hr9 (Below.refl _ _) hp
          obtain ⟨y0, y1, y2⟩ := hc9 _ (Below.refl _ w6)
          have hml := HMK.out
          have HAP : Hid (∃ v' w2, (Builtin.append_ #[27, 27] 27 #[u5, .slice (some ⟨w6.heap.size, 0, none⟩) 1 1]).run Try.prog (w6.alloc (.cells #[.int .i64 p.src, .int .i64 p.dst, .string p.body] 33)) = .ok v' w2 ∧ Sp W w2 [NetN n S', PkT v' (mk ++ [p]), PkT u6 gt]) := Lib.hid (by
            obtain ⟨v', w2, r, h⟩ := H5.out.push 1 rfl p (by omega) 33
            exact ⟨v', w2, r, Sp.first3 h⟩)
          have HF := Lib.hid hf
          have HML : Hid ((mk ++ [p]).length ≤ i + 1) := Lib.hid (by rw [List.length_append]; simp; omega)
          have hk2 : ¬ (S.L.length : Int) ≤ k := by omega
          have hk3 : (k : Int) < S.L.length := by omega
          rw [hxn] at x1
          clear hf hml H5 hkd hc9 hr9 hb9 hp hk hxn
          generalize S.L.length = ns at *
          go_wp2_with (at_builtin; obtain ⟨v8, w8, r8, h8⟩ := HAP.out; have H8 := Lib.hid h8; refine wpList_append_run rfl _ _ _ _ rfl rfl rfl r8 ?_; clear h8 r8)
          go_roundw
          case rel => exact ⟨i + 1, S', _, gt, by simp, hlt, H8.out, HF.out, HML.out, by have := HGT.out; omega⟩
          case measure => simp [intOf]; omega
        · subst her
          have HF := Lib.hid hf
          clear hf
          rcases hkd with hkd | hkd | hkd
          · have hb : bits BinOp.and IntKind.i64 x.kind 7 = 4 := by rw [and7]; exact hkd
            clear hkd
            go_wp2_with fail
            go_roundw
            case rel => exact ⟨i + 1, S', mk, gt, by simp, hlt, H5.out.first3, HF.out, by have := HMK.out; omega, by have := HGT.out; omega⟩
            case measure => simp [intOf]; omega
          · have hb : bits BinOp.and IntKind.i64 x.kind 7 = 6 := by rw [and7]; exact hkd
            clear hkd
            go_wp2_with fail
            go_roundw
            case rel => exact ⟨i + 1, S', mk, gt, by simp, hlt, H5.out.first3, HF.out, by have := HMK.out; omega, by have := HGT.out; omega⟩
            case measure => simp [intOf]; omega
          · have hb : bits BinOp.and IntKind.i64 x.kind 7 = 7 := by rw [and7]; exact hkd
            clear hkd
            go_wp2_with fail
            go_roundw
            case rel => exact ⟨i + 1, S', mk, gt, by simp, hlt, H5.out.first3, HF.out, by have := HMK.out; omega, by have := HGT.out; omega⟩
            case measure => simp [intOf]; omega
      · obtain rfl : l.length = i := by omega
        obtain ⟨A5, c5, rfl, hr5⟩ := hsp.slice 1 rfl
        obtain ⟨A6, c6, rfl, hr6⟩ := hsp.slice 2 rfl
        have hlS := (hsp.okay 0 rfl).len
        have HCNT := Lib.hid hfair.count
        have HML : Hid (mk.length ≤ 200) := Lib.hid (by omega)
        generalize hW3 : wr.alloc (.cells #[] 33) = w3
        have b3 : Below wr.heap.size wr w3 := hW3 ▸ (Below.refl _ wr).alloc (Nat.le_refl _) _
        have g0 : Grow w3 wr.heap.size 3 (.slice (some ⟨wr.heap.size, 0, none⟩) 0 0) 0 [] := hW3 ▸ Grow.bare wr 33 3
        obtain ⟨v1, w1', r1, b1, g1⟩ := join_run (X := gt) (A1 := A6) (c1 := c6) (w4 := w3) (A2 := none) (c2 := 0) (Y := []) b3 g0 hr6 (by omega)
        have HLS : Hid (Calls Try.prog 18 #[ptr n] w1' fun e w2 => ∃ A c, e = .returned (.slice A S.L.length c) ∧ ∃ A9 c9 w9, (Builtin.append_ #[27, 27] 27 #[v1, .slice A S.L.length c]).run Try.prog w2 = .ok (.slice A9 (gt ++ S.L).length c9) w9 ∧ Below wr.heap.size wr w9 ∧ Row w9 w9.heap.size A9 (pks (gt ++ S.L))) := Lib.hid (((hsp.keep b1).nlist 0 rfl).mono fun e w2 ⟨v, he, hg, hb⟩ => by
          obtain ⟨A, c, rfl, hr⟩ := Grow.row hg
          obtain ⟨v9, w9, r9, g9, _, b9⟩ := app_run (g1.below hb) (Nat.le_trans b1.size hb.size) (src_row (c := c) hr) (by omega)
          rw [← List.length_append] at g9
          obtain ⟨A9, c9, rfl, hr9⟩ := Grow.row g9
          exact ⟨A, c, he, A9, c9, w9, r9, (next_below b1 hb).trans b9, hr9⟩)
        have HR5 := Lib.hid hr5
        have HBL := Lib.hid hsp.below
        have HW3 := Lib.hid hW3
        have R1 := Lib.hid r1
        have HXL : Hid ((gt ++ S.L).length ≤ 1000) := Lib.hid (by rw [List.length_append]; omega)
        clear hr5 hr6 hlS hW3 b3 g0 r1 b1 g1 hsp hfair hmk
        generalize gt ++ S.L = X at *
        generalize S.L.length = ns at *
        generalize hXn : X.length = k at *
        have HXN := Lib.hid hXn
        clear hXn
        go_wp2_with (first
          | (at_builtin; rw [HW3.out]; refine wpList_append_run rfl _ _ _ _ rfl rfl rfl R1.out ?_; clear R1)
          | (go_at_call 18; refine HLS.out.mono ?_; rintro e w8 ⟨A8, c8, rfl, A9, c9, w9, r9, b9, hr9⟩; have R9 := Lib.hid r9; have B9 := Lib.hid b9; have HR9 := Lib.hid hr9; clear r9 b9 hr9)
          | (at_builtin; refine wpList_append_run rfl _ _ _ _ rfl rfl rfl R9.out ?_; clear R9))
        have HCA : Hid (∀ w' p, Below w9.heap.size w9 w' → Calls Try.prog 19 #[.slice A9 k c9, .agg #[.int .i64 p.src, .int .i64 p.dst, .string p.body]] w' fun e w2 => e = .returned (.int .i64 (X.count p : Nat)) ∧ Below w9.heap.size w9 w2) := Lib.hid fun w' p b => by
          have := pkCount_any w' A9 c9 X p (by have := HXL.out; have := HXN.out; omega) (HR9.out.lift b)
          rw [HXN.out] at this
          exact this.mono fun e w2 ⟨he, hb⟩ => ⟨he, next_below b hb⟩
        have HCM : Hid (∀ w' p, Below w9.heap.size w9 w' → Calls Try.prog 19 #[.slice A5 mk.length c5, .agg #[.int .i64 p.src, .int .i64 p.dst, .string p.body]] w' fun e w2 => e = .returned (.int .i64 (mk.count p : Nat)) ∧ Below w9.heap.size w9 w2) := Lib.hid fun w' p b =>
          (pkCount_any w' A5 c5 mk p (by have := HML.out; omega) ((HR5.out.lift B9.out).lift b)).mono fun e w2 ⟨he, hb⟩ => ⟨he, next_below b hb⟩
        have HEL : Hid (∀ i, i < k → ∃ p : Pk, X[i]? = some p) := Lib.hid fun i hi => ⟨X[i]'(by rw [HXN.out]; exact hi), List.getElem?_eq_getElem _⟩
        have HKL : Hid (k ≤ 1000) := Lib.hid (by have := HXL.out; omega)
        generalize mk.length = ml at *
        go_loopw [13] (fun iv wr => ∃ i, HoEnd w9 k iv wr i) (fun iv _ => k - (intOf iv).toNat)
        case atStart => exact ⟨0, rfl, Nat.zero_le _, Below.refl _ _⟩
        case round =>
          obtain ⟨j, ⟨rfl, hj, hbel⟩⟩ := hrel
          by_cases hlt2 : j < k
          · obtain ⟨p, hp⟩ := HEL.out j hlt2
            obtain ⟨b0, o0, rfl, hb0, hc0⟩ := row_pk HR9.out (Below.refl _ _) hp
            have HK := Lib.hid hc0
            have hkl := HKL.out
            have hj3 : (j : Int) < 1000 := by omega
            have hle := HCNT.out p
            have HC1 := Lib.hid (fun w' b => HCA.out w' p b)
            have HC2 := Lib.hid (fun w' b => HCM.out w' p b)
            have HB0 : Hid (Below w9.heap.size w9 wr.drew) := Lib.hid hbel.drew
            have hgt2 : ¬ ((mk.count p : Nat) : Int) < ((X.count p : Nat) : Int) := by omega
            clear hp hc0 hb0 hle hbel
            generalize X.count p = ca at *
            generalize mk.count p = cm at *
            go_wp2_with fail
            go_region_held3 (fun w' => w'.cell? ⟨b0, o0 + j * 3, none⟩ = some (.int .i64 p.src) ∧ w'.cell? ⟨b0, o0 + j * 3 + 1, none⟩ = some (.int .i64 p.dst) ∧ w'.cell? ⟨b0, o0 + j * 3 + 2, none⟩ = some (.string p.body)) (first | exact HK.out _ HB0.out | exact HK.out _ b11 | exact HK.out _ b12 | go_keep)
              (first
                | (go_at_call 19; with_reducible refine (HC1.out _ HB0.out).mono ?_; rintro e w11 ⟨rfl, b11⟩)
                | (go_at_call 19; with_reducible refine (HC2.out _ b11).mono ?_; rintro e w12 ⟨rfl, b12⟩))
            go_wp2_with fail
            go_roundw
            case rel => exact ⟨j + 1, by simp, hlt2, b12⟩
            case measure => simp [intOf]; omega
          · obtain rfl : k = j := by omega
            go_wp2_with fail
            go_ret
            exact ⟨rfl, next_below (next_below HBL.out B9.out) hbel⟩
end Ntw
end Go.Proofs.Ytmhnifcohkamaaa

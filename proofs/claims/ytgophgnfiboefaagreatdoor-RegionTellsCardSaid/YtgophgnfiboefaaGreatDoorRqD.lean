/- The reference's Edge. -/
import Derived.Test.YtgophgnfiboefaaGreatDoorMhS
import Derived.Test.YtgophgnfiboefaaGreatDoorMhV
namespace Go.Proofs.YtgophgnfiboefaaGreatDoor
open Go.RowKit Wire
open Txt (Row)
open Go.Proofs.YtgophgnfiboefaaGreatDoor.Own Flo
open Dsk (Only nth)
set_option linter.unusedVariables false
set_option linter.unusedSimpArgs false
namespace Rgn
set_option maxRecDepth 100000 in
set_option maxHeartbeats 8000000 in
theorem redge_any {f : Fl} (ho : f.ok) (p : Pl) (B : Option Addr) (cb : Nat) (r : List Nat) (w : World) (hin : FlIn w f p) (hr : Reg r) (hra : Row w w.heap.size B (qvs r)) :
    Calls Tryz.prog 28 #[f.val p, .slice B r.length cb] w (GotL w (edgeOf f r)) := by
  have hn4 : f.Kind.length ≤ 4096 := by have := ho.kinds; have := ho.size; omega
  have HMK : Hid (∀ w', Below w.heap.size w w' → Calls Tryz.prog 32 #[.slice B r.length cb] w' (MkPost (ivn r) w')) := Lib.hid fun w' b => by
    have := rmarks_any w' B cb (ivn r) (by rw [List.length_map]; have := hr.len; omega) (by rw [ivs_ivn]; exact hra.lift b)
    rw [List.length_map] at this
    exact this
  have HNX : Hid (∀ w' (c d : Int), Below w.heap.size w w' → Calls Tryz.prog 52 #[f.val p, .int .i64 c, .int .i64 d] w' fun e w2 => e = .returned (resN (f.next c d)) ∧ Below w'.heap.size w' w2) := Lib.hid fun w' c d bw => qNext_any ho p c d w' (hin.lift bw)
  have HAV : Hid (∀ k, k < r.length → ∃ b o, B = some ⟨b, o, none⟩ ∧ ∀ w', Below w.heap.size w w' → w'.cell? ⟨b, o + k, none⟩ = some (.int .i64 (r.getD k 0 : Nat))) := Lib.hid fun k hk => row_valN hra hk
  have HFS : Hid (∀ i, i < r.length → (r.take (i + 1)).filter (outB f r) = (r.take i).filter (outB f r) ++ if outB f r (r.getD i 0) then [r.getD i 0] else []) := Lib.hid fun i hi => filter_take_succ hi _
  have HBS : Hid (∀ x, x < 4096 → (mkL (ivn r)).getD x false = decide (x ∈ r)) := Lib.hid fun x hx => mkN_at r hx
  have HBL : Hid ((mkL (ivn r)).length = 4096) := Lib.hid (mkL_len _)
  have hla : r.length ≤ 4096 := hr.len
  have HLN : Hid (∀ i, ((r.take i).filter (outB f r)).length ≤ 4096) := Lib.hid fun i => by
    have h1 : ((r.take i).filter (outB f r)).length ≤ (r.take i).length := List.length_filter_le ..
    have h2 : (r.take i).length ≤ r.length := by rw [List.length_take]; omega
    omega
  have HF : Hid (∀ v w' T T', Sp w w' [T, T', RowT 1 v (r.filter (outB f r)).length (qvs (r.filter (outB f r)))] → GotL w (edgeOf f r) (.returned v) w') := Lib.hid fun v w' T T' hs => newL_slice (w := w) (e := .returned v) ⟨v, rfl, hs.pick (fun _ => 2) (fun i j hi hj _ => by simp at hi hj; omega) (fun i t h => by
    match i, h with
    | 0, h => exact h
    | i + 1, h => simp at h)⟩
  have HTK : Hid ((r.take r.length).filter (outB f r) = r.filter (outB f r)) := Lib.hid (by rw [List.take_length])
  have HCE : Hid (∀ c d y, f.next c d = some y → ∃ m : Nat, y = m ∧ m < 4096) := Lib.hid fun c d y h => by
    obtain ⟨_, _, h1, h2, _⟩ := Fl.next_is h
    have h4 := Fl.is_bounds h1
    have h6 := ho.kinds
    obtain ⟨m, rfl⟩ : ∃ m : Nat, y = m := ⟨y.toNat, by omega⟩
    exact ⟨m, rfl, by omega⟩
  have HUS := Lib.hid (outU_succ f r)
  have HU6 := Lib.hid (outU_six f r)
  have HU0 : Hid (∀ k, outU f r k 0 = false) := Lib.hid fun k => rfl
  have HHN : Hid (∀ m : Nat, hasB r (m : Int) = decide (m ∈ r)) := Lib.hid fun m => hasB_nat
  unfold MkPost at HMK
  generalize mkL (ivn r) = bs at *
  clear hra hin ho hr
  generalize hQQ : GotL w (edgeOf f r) = QQ at *
  clear hQQ
  generalize hfo : r.filter (outB f r) = fo at *
  clear hfo
  generalize outU f r = OU at *
  generalize outB f r = OB at *
  obtain ⟨A1, c1, A2, c2⟩ := p
  dsimp only [Fl.val] at HNX ⊢
  generalize f.next = NXT at *
  generalize f.Kind.length = n at *
  generalize f.Out.length = n2 at *
  generalize f.W = fW at *
  generalize f.H = fH at *
  generalize f.D = fD at *
  have H0 : Hid (Sp w (w.alloc (.cells (boxV fW fH fD A1 n c1 A2 n2 c2) 24)) [BlkT w.heap.size 24 (boxV fW fH fD A1 n c1 A2 n2 c2)]) := Lib.hid ((Sp.nil (Below.refl w.heap.size w)).local 24 (boxV fW fH fD A1 n c1 A2 n2 c2))
  go_enter Tryz.func28, Tryz.ntmps28
  go_upto_region 2 with (go_at_call 32; refine (HMK.out _ H0.out.below).mono ?_; rintro e w1 ⟨g, rfl, hs⟩; have HS1 := Lib.hid ((join H0.out hs).nil_row 1); clear hs)
  clear HMK H0
  go_wp2_with fail
  go_loopw [6, 7, 8, 9, 10, 11] (fun ov iv _ _ _ _ wr => ∃ (i : Nat) (out : List Nat), iv = .int .i64 ((i : Nat) : Int) ∧ i ≤ r.length ∧ Hid (out = (r.take i).filter OB) ∧ Hid (Sp w wr [BlkT w.heap.size 24 (boxV fW fH fD A1 n c1 A2 n2 c2), RowT 1 (slV g 4096) 4096 (bvs bs), RowT 1 ov out.length (qvs out)])) (fun _ iv _ _ _ _ _ => r.length - (intOf iv).toNat)
  case atStart => exact ⟨0, [], rfl, Nat.zero_le _, Lib.hid rfl, HS1⟩
  case round =>
    clear HS1
    obtain ⟨i, out, rfl, hi, HOU, HSP⟩ := hrel
    obtain ⟨Ak, ck, rfl⟩ := (HSP.out.grow 2 rfl).slice
    by_cases hlt : i < r.length
    · obtain ⟨b, o, rfl, hc⟩ := HAV.out i hlt
      have HX := Lib.hid (HFS.out i hlt)
      have HOL : Hid (out.length ≤ 4096) := Lib.hid (by rw [HOU.out]; exact HLN.out i)
      have hi9 : (i : Int) < (r.length : Int) := by omega
      have hi8 : (i : Int) < 4096 := by omega
      have HCI := Lib.hid hc
      clear hc HAV HFS HLN HF HTK
      generalize r.getD i 0 = x at *
      have HUSx := Lib.hid (HUS.out x)
      have HU0x := Lib.hid (HU0.out x)
      have HU6x := Lib.hid (HU6.out x)
      clear HUS HU0 HU6
      generalize OU x = OUx at *
      go_wp2_with fail
      go_loopw [8, 9, 10, 11] (fun lv dv _ _ wx => ∃ (d : Nat) (lb : Bool), lv = .bool lb ∧ Hid (lb = OUx d) ∧ dv = .int .i64 ((d : Nat) : Int) ∧ d ≤ 6 ∧ Hid (Sp w wx [BlkT w.heap.size 24 (boxV fW fH fD A1 n c1 A2 n2 c2), RowT 1 (slV g 4096) 4096 (bvs bs), RowT 1 (.slice Ak out.length ck) out.length (qvs out)])) (fun _ dv _ _ _ => 6 - (intOf dv).toNat)
      case atStart => exact ⟨0, false, rfl, Lib.hid HU0x.out.symm, rfl, by omega, HSP⟩
      case round =>
        clear HSP
        obtain ⟨d, lb, rfl, HLB, rfl, hd, HSP⟩ := hrel
        generalize wr = w6 at *
        by_cases hd6 : d < 6
        · have hd9 : (d : Int) < 6 := by omega
          have HKC : Hid (∀ w', Below w6.heap.size w6 w' → w'.cell? ⟨b, o + i, none⟩ = some (.int .i64 (x : Int)) ∧ BoxS w.heap.size fW fH fD A1 n c1 A2 n2 c2 w') := Lib.hid fun w' bw => ⟨HCI.out w' (next_below HSP.out.below bw), boxS ((HSP.out.keep bw).blk 0 rfl)⟩
          obtain ⟨z, m0, m1, m2, m3, m4⟩ := HKC.out _ (Below.refl _ _)
          have BD : Hid (Below w6.heap.size w6 w6.drew) := Lib.hid (Below.refl _ _).drew
          have HCN := Lib.hid (HNX.out w6.drew x d (next_below HSP.out.below BD.out))
          have HUd := Lib.hid (HUSx.out d)
          cases hnx : NXT x d with
          | none =>
            rw [hnx] at HCN HUd
            have HL2 : Hid (lb = OUx (d + 1)) := Lib.hid (by rw [HUd.out, ← HLB.out, Bool.or_false])
            clear hnx HUd
            go_upto_region 10 with (fail)
            go_region_held3 (fun w' => w'.cell? ⟨b, o + i, none⟩ = some (.int .i64 (x : Int)) ∧ BoxS w.heap.size fW fH fD A1 n c1 A2 n2 c2 w') (first | exact HKC.out _ BD.out | exact HKC.out _ b8 | go_keep)
              (first
                | (go_at_call 52; refine HCN.out.mono ?_; rintro e w8 ⟨rfl, b8'⟩; have b8 := next_below BD.out b8'))
            have HSP8 := Lib.hid (HSP.out.keep b8)
            clear b8 z m0 m1 m2 m3 m4 HSP
            go_wp2_with fail
            go_roundw
            case rel => exact ⟨d + 1, lb, rfl, HL2, by simp, by omega, HSP8⟩
            case measure => simp [intOf]; omega
          | some y =>
            obtain ⟨m, rfl, hm⟩ := HCE.out _ _ _ hnx
            have hm9 : (m : Int) < 4096 := by omega
            rw [hnx] at HCN HUd
            have HUd2 : Hid (OUx (d + 1) = (lb || !decide (m ∈ r))) := Lib.hid (by rw [HUd.out, ← HLB.out]; show (lb || !hasB r (m : Int)) = _; rw [HHN.out])
            clear hnx HUd
            cases lb
            · cases hb : decide (m ∈ r)
              · have HL2 : Hid (true = OUx (d + 1)) := Lib.hid (by rw [HUd2.out, hb]; rfl)
                have HBM : Hid (bs.getD m false = false) := Lib.hid (by rw [HBS.out m hm, hb])
                clear HUd2 hb
                go_upto_region 10 with (fail)
                go_region_held3 (fun w' => w'.cell? ⟨b, o + i, none⟩ = some (.int .i64 (x : Int)) ∧ BoxS w.heap.size fW fH fD A1 n c1 A2 n2 c2 w') (first | exact HKC.out _ BD.out | exact HKC.out _ b8 | go_keep)
                  (first
                    | (go_at_call 52; refine HCN.out.mono ?_; rintro e w8 ⟨rfl, b8'⟩; have b8 := next_below BD.out b8'))
                have HSP8 := Lib.hid (HSP.out.keep b8)
                clear b8 z m0 m1 m2 m3 m4 HSP
                obtain ⟨x0, x1⟩ := Grow.cell (HSP8.out.grow 1 rfl) (bvs_at (l := bs) (k := m) (by rw [HBL.out]; exact hm))
                rw [HBM.out] at x0
                go_wp2_with fail
                go_roundw
                case rel => exact ⟨d + 1, true, rfl, HL2, by simp, by omega, HSP8⟩
                case measure => simp [intOf]; omega
              · have HL2 : Hid (false = OUx (d + 1)) := Lib.hid (by rw [HUd2.out, hb]; rfl)
                have HBM : Hid (bs.getD m false = true) := Lib.hid (by rw [HBS.out m hm, hb])
                clear HUd2 hb
                go_upto_region 10 with (fail)
                go_region_held3 (fun w' => w'.cell? ⟨b, o + i, none⟩ = some (.int .i64 (x : Int)) ∧ BoxS w.heap.size fW fH fD A1 n c1 A2 n2 c2 w') (first | exact HKC.out _ BD.out | exact HKC.out _ b8 | go_keep)
                  (first
                    | (go_at_call 52; refine HCN.out.mono ?_; rintro e w8 ⟨rfl, b8'⟩; have b8 := next_below BD.out b8'))
                have HSP8 := Lib.hid (HSP.out.keep b8)
                clear b8 z m0 m1 m2 m3 m4 HSP
                obtain ⟨x0, x1⟩ := Grow.cell (HSP8.out.grow 1 rfl) (bvs_at (l := bs) (k := m) (by rw [HBL.out]; exact hm))
                rw [HBM.out] at x0
                go_wp2_with fail
                go_roundw
                case rel => exact ⟨d + 1, false, rfl, HL2, by simp, by omega, HSP8⟩
                case measure => simp [intOf]; omega
            · have HL2 : Hid (true = OUx (d + 1)) := Lib.hid (by rw [HUd2.out, Bool.true_or])
              clear HUd2
              go_upto_region 10 with (fail)
              go_region_held3 (fun w' => w'.cell? ⟨b, o + i, none⟩ = some (.int .i64 (x : Int)) ∧ BoxS w.heap.size fW fH fD A1 n c1 A2 n2 c2 w') (first | exact HKC.out _ BD.out | exact HKC.out _ b8 | go_keep)
                (first
                  | (go_at_call 52; refine HCN.out.mono ?_; rintro e w8 ⟨rfl, b8'⟩; have b8 := next_below BD.out b8'))
              have HSP8 := Lib.hid (HSP.out.keep b8)
              clear b8 z m0 m1 m2 m3 m4 HSP
              go_wp2_with fail
              go_roundw
              case rel => exact ⟨d + 1, true, rfl, HL2, by simp, by omega, HSP8⟩
              case measure => simp [intOf]; omega
        · obtain rfl : d = 6 := by omega
          have z := HCI.out _ HSP.out.below
          have HL6 : Hid (OB x = lb) := Lib.hid (by rw [← HU6x.out, HLB.out])
          clear HUSx HU0x HU6x HLB HNX HCE HBS HBL HHN
          cases lb
          · have HE : Hid (out = (r.take (i + 1)).filter OB) := Lib.hid (by rw [HX.out, HL6.out, ← HOU.out]; simp)
            clear HX HL6 HOU
            go_wp2_with fail
            go_roundw
            case rel => exact ⟨i + 1, out, by simp, hlt, HE, HSP⟩
            case measure => simp [intOf]; omega
          · have HE : Hid (out ++ [x] = (r.take (i + 1)).filter OB) := Lib.hid (by rw [HX.out, HL6.out, ← HOU.out]; simp)
            have HPU := Lib.hid (push_int (q := out) HSP.out 2 rfl x (by have := HOL.out; omega) 3)
            clear HX HL6 HOU
            go_wp2_with (at_builtin; obtain ⟨v7, w7, r7, h7⟩ := HPU.out; have H7 : Hid (Sp w w7 [BlkT w.heap.size 24 (boxV fW fH fD A1 n c1 A2 n2 c2), RowT 1 (slV g 4096) 4096 (bvs bs), RowT 1 v7 (out ++ [x]).length (qvs (out ++ [x]))]) := Lib.hid h7; refine wpList_append_run rfl _ _ _ _ rfl (by simp [go_sem]) (by simp [go_sem]) r7 ?_; clear r7 h7)
            go_roundw
            case rel => exact ⟨i + 1, out ++ [x], by simp, hlt, HE, H7⟩
            case measure => simp [intOf]; omega
    · obtain rfl : i = r.length := by omega
      rw [HTK.out] at HOU
      have hh := HOU.out
      subst hh
      have HZ := Lib.hid (HF.out _ _ _ _ HSP.out)
      clear HAV HFS HLN HF HTK HOU HSP HNX HCE HBS HBL HHN HUS HU0 HU6
      go_wp2_with fail
      first | exact HZ.out | (go_ret; exact HZ.out)
end Rgn
end Go.Proofs.YtgophgnfiboefaaGreatDoor

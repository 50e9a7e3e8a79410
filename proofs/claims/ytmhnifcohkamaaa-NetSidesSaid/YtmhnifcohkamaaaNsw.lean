/- NetSides. -/
import Derived.Test.YtmhnifcohkamaaaNsd
namespace Go.Proofs.Ytmhnifcohkamaaa
open Go.RowKit Wire
open Txt (Row)
open Dsk (Only below_of_grown Grow.bare)
set_option linter.unusedVariables false
set_option linter.unusedSimpArgs false
namespace Ntw
structure SdRel (W : World) (n m : Nat) (k : Nat) (av : Value) (wr : World) : Prop where
  av : av = .int .i64 k
  le : k ≤ 16
  sp : Sp W wr [NetN n (bare m)]
structure SdMore (W : World) (n more : Nat) (iv : Value) (wr : World) (i : Nat) (S : Nt) : Prop where
  iv : iv = .int .i64 i
  le : i ≤ more
  sp : Sp W wr [NetN n S]
  fill : Filled S i
theorem uint_small (k : Nat) (h : k < 16) : IntKind.u64.wrap (k : Int) = k := by
  unfold IntKind.wrap
  have e : (k : Int) % (2 ^ IntKind.u64.bits : Int) = k := Int.emod_eq_of_lt (by omega) (by
    have : (2 ^ IntKind.u64.bits : Int) = 18446744073709551616 := by decide
    omega)
  simp only [e]
  rfl
theorem eq_nats (x y : Nat) : ((x : Int) == (y : Int)) = decide (x = y) := by
  rw [Bool.eq_iff_iff]
  simp only [beq_iff_eq, decide_eq_true_eq]
  omega
theorem shr_mask' (mask : Int) (k : Nat) (hk : k < 16) : bits .and .i64 (mask / 2 ^ k) 1 = (sideOf (maskN mask) (k : Int) : Nat) := by
  have := shr_mask mask k hk
  rwa [Nat.min_eq_left (by omega)] at this
set_option maxRecDepth 100000 in
set_option maxHeartbeats 4000000 in
theorem sides (W : World) (mask : Int) (late : Bool) (more : Int) (hmore : Fits more) :
    Calls Try.prog 6 #[.int .i64 mask, .bool late, .int .i64 more] W fun e w' => e = .returned (.bool true) ∧ Below W.heap.size W w' := by
  have HSM := Lib.hid (nsmall_any W)
  have HN : Hid (∀ w, Below W.heap.size W w → Calls Try.prog 8 #[] w fun e w' => ∃ q, e = .returned (ptr q) ∧ Sp W w' [NetN q (bare 0)]) := Lib.hid (fun w hb => (Sp.nil (W := W) hb).nnew)
  by_cases hm0 : more < 0
  · go_enter Try.func6, Try.ntmps6
    go_wp2_with (first
      | (go_at_call 7; refine HSM.out.mono ?_; rintro e w1 ⟨rfl, b1⟩; have B1 := Lib.hid b1; clear b1)
      | (go_at_call 8; refine (HN.out _ B1.out).mono ?_; rintro e w2 ⟨n, rfl, h2⟩; have H2 := Lib.hid h2; clear h2))
    go_ret
    exact ⟨rfl, H2.out.below⟩
  by_cases hm6 : 600 < more
  · go_enter Try.func6, Try.ntmps6
    go_wp2_with (first
      | (go_at_call 7; refine HSM.out.mono ?_; rintro e w1 ⟨rfl, b1⟩; have B1 := Lib.hid b1; clear b1)
      | (go_at_call 8; refine (HN.out _ B1.out).mono ?_; rintro e w2 ⟨n, rfl, h2⟩; have H2 := Lib.hid h2; clear h2))
    go_ret
    exact ⟨rfl, H2.out.below⟩
  obtain ⟨mo, rfl⟩ : ∃ k : Nat, more = k := ⟨more.toNat, by omega⟩
  have hmo : mo ≤ 600 := by omega
  clear hmore
  cases late
  · go_enter Try.func6, Try.ntmps6
    go_wp2_with (first
      | (go_at_call 7; refine HSM.out.mono ?_; rintro e w1 ⟨rfl, b1⟩; have B1 := Lib.hid b1; clear b1)
      | (go_at_call 8; refine (HN.out _ B1.out).mono ?_; rintro e w2 ⟨n, rfl, h2⟩; have H2 := Lib.hid h2; clear h2)
      | (go_at_call 22; refine (H2.out.nsplit 0 rfl mask).mono ?_; rintro e w3 ⟨rfl, h3⟩; have H3 : Hid (Sp W w3 [NetN n (bare (maskN mask))]) := Lib.hid h3; clear h3))
    go_loopw [6, 9, 10, 11, 12, 13, 14] (fun _ av _ _ _ _ _ wr => ∃ a, SdRel W n (maskN mask) a av wr) (fun _ av _ _ _ _ _ _ => 16 - (intOf av).toNat)
    case atStart => exact ⟨0, rfl, Nat.zero_le _, H3.out⟩
    case round =>
      obtain ⟨a, ⟨rfl, ha, hsp⟩⟩ := hrel
      clear H2
      by_cases hlt : a < 16
      · have HSP := Lib.hid hsp
        have hd : decide ((a : Int) < 16) = true := decide_eq_true (by omega)
        clear hsp
        go_wp2_with fail
        clear hd
        go_loopw [6, 10, 11, 12, 13, 14] (fun _ bv _ _ _ _ wr => ∃ b, SdRel W n (maskN mask) b bv wr) (fun _ bv _ _ _ _ _ => 16 - (intOf bv).toNat)
        case atStart => exact ⟨0, rfl, Nat.zero_le _, HSP.out⟩
        case round =>
          obtain ⟨b, ⟨rfl, hb, hsp2⟩⟩ := hrel
          clear HSP
          by_cases hlt2 : b < 16
          · have ua := uint_small a hlt
            have ub := uint_small b hlt2
            by_cases hab : a = b
            · subst hab
              have hab2 : ((a : Int) == (a : Int)) = true := by simp
              have HSE : Hid (Calls Try.prog 20 #[ptr n, .int .i64 a, .int .i64 a, .string ⟨#[120]⟩] wr fun e w2 => e = .returned (.int .i64 1) ∧ Sp W w2 [NetN n (bare (maskN mask))]) := Lib.hid (hsp2.nsend 0 rfl a a bX (send_self bX []))
              have HHE : Hid (∀ w', Sp W w' [NetN n (bare (maskN mask))] → Calls Try.prog 15 #[ptr n, .int .i64 a, .int .i64 a] w' fun e w2 => e = .returned (.bool true) ∧ w' = w2) := Lib.hid fun w' h => by have := h.nhear 0 rfl (a : Int) a; rw [hear_self hlt] at this; exact this
              clear hsp2
              go_wp2_with (first
                | (go_at_call 20; refine HSE.out.mono ?_; rintro e w4 ⟨rfl, h4⟩; have H4 := Lib.hid h4; clear h4)
                | (go_at_call 15; refine (HHE.out _ H4.out).mono ?_; rintro e w5 ⟨rfl, rfl⟩))
              go_roundw
              case rel => exact ⟨a + 1, by simp, by omega, H4.out⟩
              case measure => simp [intOf]; omega
            have hab2 : ((a : Int) == (b : Int)) = false := beq_eq_false_iff_ne.2 (by omega)
            by_cases hnr : sideOf (maskN mask) a = sideOf (maskN mask) b
            · have hnear : (bits .and .i64 (mask / 2 ^ a) 1 == bits .and .i64 (mask / 2 ^ b) 1) = true := by rw [shr_mask' mask a hlt, shr_mask' mask b hlt2, hnr]; simp
              have hh : ∀ L, (Nt.mk L (maskN mask)).hear a b = true := fun L => by rw [hear_of hlt hlt2, hnr]; simp
              have HSE : Hid (Calls Try.prog 20 #[ptr n, .int .i64 a, .int .i64 b, .string ⟨#[120]⟩] wr fun e w2 => e = .returned (.int .i64 0) ∧ Sp W w2 [NetN n (⟨[⟨a, b, bX⟩], maskN mask⟩)]) := Lib.hid (hsp2.nsend 0 rfl a b bX (send_hear hlt hlt2 hab (by simp) bX (hh [])))
              have HDE : Hid (∀ w', Sp W w' [NetN n (⟨[⟨a, b, bX⟩], maskN mask⟩)] → Calls Try.prog 21 #[ptr n, .int .i64 0] w' fun e w2 => e = .returned (.tuple #[.agg #[.int .i64 a, .int .i64 b, .string ⟨#[120]⟩], .int .i64 0]) ∧ Sp W w2 [NetN n (bare (maskN mask))]) := Lib.hid fun w' h => h.ndeliver (o := some ⟨a, b, bX⟩) 0 rfl 0 (by rw [deliver_one, if_pos (hh _)])
              have HHE : Hid (∀ w', Sp W w' [NetN n (bare (maskN mask))] → Calls Try.prog 15 #[ptr n, .int .i64 a, .int .i64 b] w' fun e w2 => e = .returned (.bool true) ∧ w' = w2) := Lib.hid fun w' h => by have := h.nhear 0 rfl (a : Int) b; rw [hh] at this; exact this
              clear hsp2 hh hnr
              go_wp2_with (first
                | (go_at_call 20; refine HSE.out.mono ?_; rintro e w4 ⟨rfl, h4⟩; have H4 := Lib.hid h4; clear h4)
                | (go_at_call 21; refine (HDE.out _ H4.out).mono ?_; rintro e w6 ⟨rfl, h6⟩; have H6 : Hid (Sp W (w6.alloc (.cells #[.int .i64 a, .int .i64 b, .string ⟨#[120]⟩] 33)) [NetN n (bare (maskN mask))]) := Lib.hid (h6.keep ((Below.refl _ w6).alloc (Nat.le_refl _) _)); clear h6)
                | (go_at_call 15; refine (HHE.out _ H6.out).mono ?_; rintro e w7 ⟨rfl, rfl⟩))
              go_roundw
              case rel => exact ⟨b + 1, by simp, by omega, H6.out⟩
              case measure => simp [intOf]; omega
            · have hnear : (bits .and .i64 (mask / 2 ^ a) 1 == bits .and .i64 (mask / 2 ^ b) 1) = false := by rw [shr_mask' mask a hlt, shr_mask' mask b hlt2, eq_nats]; simp [hnr]
              have hh : ∀ L, (Nt.mk L (maskN mask)).hear a b = false := fun L => by rw [hear_of hlt hlt2]; simp [hnr]
              have HSE : Hid (Calls Try.prog 20 #[ptr n, .int .i64 a, .int .i64 b, .string ⟨#[120]⟩] wr fun e w2 => e = .returned (.int .i64 10) ∧ Sp W w2 [NetN n (bare (maskN mask))]) := Lib.hid (hsp2.nsend 0 rfl a b bX (send_lost hlt hlt2 hab bX (hh [])))
              have HDE : Hid (∀ w', Sp W w' [NetN n (bare (maskN mask))] → Calls Try.prog 21 #[ptr n, .int .i64 0] w' fun e w2 => e = .returned (.tuple #[.agg #[.int .i64 0, .int .i64 0, .string ⟨#[]⟩], .int .i64 4]) ∧ Sp W w2 [NetN n (bare (maskN mask))]) := Lib.hid fun w' h => h.ndeliver (o := none) 0 rfl 0 (deliver_bare _)
              have HHE : Hid (∀ w', Sp W w' [NetN n (bare (maskN mask))] → Calls Try.prog 15 #[ptr n, .int .i64 a, .int .i64 b] w' fun e w2 => e = .returned (.bool false) ∧ w' = w2) := Lib.hid fun w' h => by have := h.nhear 0 rfl (a : Int) b; rw [hh] at this; exact this
              clear hsp2 hh hnr
              go_wp2_with (first
                | (go_at_call 20; refine HSE.out.mono ?_; rintro e w4 ⟨rfl, h4⟩; have H4 := Lib.hid h4; clear h4)
                | (go_at_call 21; refine (HDE.out _ H4.out).mono ?_; rintro e w6 ⟨rfl, h6⟩; have H6 : Hid (Sp W (w6.alloc (.cells #[.int .i64 0, .int .i64 0, .string ⟨#[]⟩] 33)) [NetN n (bare (maskN mask))]) := Lib.hid (h6.keep ((Below.refl _ w6).alloc (Nat.le_refl _) _)); clear h6)
                | (go_at_call 15; refine (HHE.out _ H6.out).mono ?_; rintro e w7 ⟨rfl, rfl⟩))
              go_roundw
              case rel => exact ⟨b + 1, by simp, by omega, H6.out⟩
              case measure => simp [intOf]; omega
          · have HS2 := Lib.hid hsp2
            clear hsp2
            go_wp2_with fail
            go_roundw
            case rel => exact ⟨a + 1, by simp, by omega, HS2.out⟩
            case measure => simp [intOf]; omega
      · obtain rfl : a = 16 := by omega
        have HHL : Hid (Calls Try.prog 23 #[ptr n] wr fun e w2 => e = .returned (.tuple #[]) ∧ Sp W w2 [NetN n (bare 0)]) := Lib.hid (hsp.nheal 0 rfl)
        clear hsp
        go_wp2_with (go_at_call 23; refine HHL.out.mono ?_; rintro e w8 ⟨rfl, h8⟩; have H8 := Lib.hid h8; clear h8)
        go_loopw [15, 16] (fun iv _ wr => ∃ i S, SdMore W n mo iv wr i S) (fun iv _ _ => mo - (intOf iv).toNat)
        case atStart => exact ⟨0, _, rfl, Nat.zero_le _, H8.out, Filled.nil⟩
        case round =>
          obtain ⟨i, S, ⟨rfl, hi, hsp, hfl⟩⟩ := hrel
          clear H8
          by_cases hlt3 : i < mo
          · obtain ⟨er, S', hse, hf2, her⟩ := hfl.next
            have b1 : bits .and .i64 (i : Int) 15 = ((i % 16 : Nat) : Int) := by rw [and15]; omega
            have b2 : bits .and .i64 ((i : Int) + 1) 15 = (((i + 1) % 16 : Nat) : Int) := by rw [and15]; omega
            have HSE : Hid (Calls Try.prog 20 #[ptr n, .int .i64 ((i % 16 : Nat) : Int), .int .i64 (((i + 1) % 16 : Nat) : Int), .string ⟨#[121]⟩] wr fun e w2 => e = .returned (.int .i64 er) ∧ Sp W w2 [NetN n S']) := Lib.hid (hsp.nsend 0 rfl _ _ bY hse)
            have HF2 := Lib.hid hf2
            clear hse hf2 hsp hfl
            generalize ((i % 16 : Nat) : Int) = x1 at *
            generalize (((i + 1) % 16 : Nat) : Int) = x2 at *
            rcases her with ⟨h5, rfl⟩ | ⟨h5, rfl⟩
            · have h5' : (i : Int) < 500 := by omega
              go_wp2_with (go_at_call 20; refine HSE.out.mono ?_; rintro e w9 ⟨rfl, h9⟩; have H9 := Lib.hid h9; clear h9)
              go_roundw
              case rel => exact ⟨i + 1, S', by simp, by omega, H9.out, HF2.out⟩
              case measure => simp [intOf]; omega
            · have h5' : ¬ (i : Int) < 500 := by omega
              go_wp2_with (go_at_call 20; refine HSE.out.mono ?_; rintro e w9 ⟨rfl, h9⟩; have H9 := Lib.hid h9; clear h9)
              go_roundw
              case rel => exact ⟨i + 1, S', by simp, by omega, H9.out, HF2.out⟩
              case measure => simp [intOf]; omega
          · obtain rfl : mo = i := by omega
            have hlen := hfl.len
            have HC : Hid (Calls Try.prog 14 #[ptr n] wr fun e w2 => e = .returned (.int .i64 S.L.length) ∧ wr = w2) := Lib.hid (hsp.ncount 0 rfl)
            have HS1 : Hid (∀ w', Sp W w' [NetN n S] → Calls Try.prog 20 #[ptr n, .int .i64 (-1), .int .i64 0, .string ⟨#[]⟩] w' fun e w2 => e = .returned (.int .i64 1) ∧ Sp W w2 [NetN n S]) := Lib.hid fun w' h => h.nsend 0 rfl (-1) 0 ⟨#[]⟩ (send_neg S ⟨#[]⟩)
            have HS2 : Hid (∀ w', Sp W w' [NetN n S] → Calls Try.prog 20 #[ptr n, .int .i64 0, .int .i64 16, .string ⟨#[]⟩] w' fun e w2 => e = .returned (.int .i64 1) ∧ Sp W w2 [NetN n S]) := Lib.hid fun w' h => h.nsend 0 rfl 0 16 ⟨#[]⟩ (send_16 S ⟨#[]⟩)
            have HSP := Lib.hid hsp
            by_cases h5 : mo < 500
            · have hl2 : S.L.length = mo := by omega
              rw [hl2] at HC
              have h5' : (mo : Int) < 500 := by omega
              clear hlen hl2 hsp hfl
              go_wp2_with (first
                | (go_at_call 14; refine HC.out.mono ?_; rintro e w10 ⟨rfl, rfl⟩)
                | (go_at_call 20; with_reducible refine (HS1.out _ HSP.out).mono ?_; rintro e w11 ⟨rfl, h11⟩; have H11 := Lib.hid h11; clear h11)
                | (go_at_call 20; with_reducible refine (HS2.out _ H11.out).mono ?_; rintro e w12 ⟨rfl, h12⟩; have H12 := Lib.hid h12; clear h12))
              all_goals
                go_ret
                exact ⟨rfl, H12.out.below⟩
            · have hl2 : S.L.length = 500 := by omega
              rw [hl2] at HC
              have h5' : ¬ (mo : Int) < 500 := by omega
              have HDB : Hid (∀ w', Sp W w' [NetN n S] → Calls Try.prog 24 #[ptr n, .int .i64 3] w' fun e w2 => e = .returned (.int .i64 6) ∧ Sp W w2 [NetN n S]) := Lib.hid fun w' h => h.ndouble 0 rfl 3 (hfl.double (by omega))
              clear hlen hl2 hsp hfl
              go_wp2_with (first
                | (go_at_call 14; refine HC.out.mono ?_; rintro e w10 ⟨rfl, rfl⟩)
                | (go_at_call 24; refine (HDB.out _ HSP.out).mono ?_; rintro e w13 ⟨rfl, h13⟩; have H13 := Lib.hid h13; clear h13)
                | (go_at_call 20; with_reducible refine (HS1.out _ H13.out).mono ?_; rintro e w11 ⟨rfl, h11⟩; have H11 := Lib.hid h11; clear h11)
                | (go_at_call 20; with_reducible refine (HS2.out _ H11.out).mono ?_; rintro e w12 ⟨rfl, h12⟩; have H12 := Lib.hid h12; clear h12))
              all_goals
                go_ret
                exact ⟨rfl, H12.out.below⟩

  · go_enter Try.func6, Try.ntmps6
    go_wp2_with (first
      | (go_at_call 7; refine HSM.out.mono ?_; rintro e w1 ⟨rfl, b1⟩; have B1 := Lib.hid b1; clear b1)
      | (go_at_call 8; refine (HN.out _ B1.out).mono ?_; rintro e w2 ⟨n, rfl, h2⟩; have H2 := Lib.hid h2; clear h2))
    go_loopw [6, 9, 10, 11, 12, 13, 14] (fun _ av _ _ _ _ _ wr => ∃ a, SdRel W n 0 a av wr) (fun _ av _ _ _ _ _ _ => 16 - (intOf av).toNat)
    case atStart => exact ⟨0, rfl, Nat.zero_le _, H2.out⟩
    case round =>
      obtain ⟨a, ⟨rfl, ha, hsp⟩⟩ := hrel
      clear H2
      by_cases hlt : a < 16
      · have HSP := Lib.hid hsp
        have hd : decide ((a : Int) < 16) = true := decide_eq_true (by omega)
        clear hsp
        go_wp2_with fail
        clear hd
        go_loopw [6, 10, 11, 12, 13, 14] (fun _ bv _ _ _ _ wr => ∃ b, SdRel W n 0 b bv wr) (fun _ bv _ _ _ _ _ => 16 - (intOf bv).toNat)
        case atStart => exact ⟨0, rfl, Nat.zero_le _, HSP.out⟩
        case round =>
          obtain ⟨b, ⟨rfl, hb, hsp2⟩⟩ := hrel
          clear HSP
          by_cases hlt2 : b < 16
          · have ua := uint_small a hlt
            have ub := uint_small b hlt2
            by_cases hab : a = b
            · subst hab
              have hab2 : ((a : Int) == (a : Int)) = true := by simp
              have HSE : Hid (Calls Try.prog 20 #[ptr n, .int .i64 a, .int .i64 a, .string ⟨#[120]⟩] wr fun e w2 => e = .returned (.int .i64 1) ∧ Sp W w2 [NetN n (bare 0)]) := Lib.hid (hsp2.nsend 0 rfl a a bX (send_self bX []))
              have HHE : Hid (∀ w', Sp W w' [NetN n (bare 0)] → Calls Try.prog 15 #[ptr n, .int .i64 a, .int .i64 a] w' fun e w2 => e = .returned (.bool true) ∧ w' = w2) := Lib.hid fun w' h => by have := h.nhear 0 rfl (a : Int) a; rw [hear_self hlt] at this; exact this
              clear hsp2
              go_wp2_with (first
                | (go_at_call 20; refine HSE.out.mono ?_; rintro e w4 ⟨rfl, h4⟩; have H4 := Lib.hid h4; clear h4)
                | (go_at_call 15; refine (HHE.out _ H4.out).mono ?_; rintro e w5 ⟨rfl, rfl⟩))
              go_roundw
              case rel => exact ⟨a + 1, by simp, by omega, H4.out⟩
              case measure => simp [intOf]; omega
            have hab2 : ((a : Int) == (b : Int)) = false := beq_eq_false_iff_ne.2 (by omega)
            by_cases hnr : sideOf (maskN mask) a = sideOf (maskN mask) b
            · have hnear : (bits .and .i64 (mask / 2 ^ a) 1 == bits .and .i64 (mask / 2 ^ b) 1) = true := by rw [shr_mask' mask a hlt, shr_mask' mask b hlt2, hnr]; simp
              have hh : ∀ L, (Nt.mk L (maskN mask)).hear a b = true := fun L => by rw [hear_of hlt hlt2, hnr]; simp
              have HSE : Hid (Calls Try.prog 20 #[ptr n, .int .i64 a, .int .i64 b, .string ⟨#[120]⟩] wr fun e w2 => e = .returned (.int .i64 0) ∧ Sp W w2 [NetN n (⟨[⟨a, b, bX⟩], 0⟩)]) := Lib.hid (hsp2.nsend 0 rfl a b bX (send_hear hlt hlt2 hab (by simp) bX (hear_zero (L := []) hlt hlt2)))
              have HSPL : Hid (∀ w', Sp W w' [NetN n ⟨[⟨a, b, bX⟩], 0⟩] → Calls Try.prog 22 #[ptr n, .int .i64 mask] w' fun e w2 => e = .returned (.tuple #[]) ∧ Sp W w2 [NetN n ⟨[⟨a, b, bX⟩], maskN mask⟩]) := Lib.hid fun w' h => h.nsplit 0 rfl mask
              have HHL : Hid (∀ w', Sp W w' [NetN n (bare (maskN mask))] → Calls Try.prog 23 #[ptr n] w' fun e w2 => e = .returned (.tuple #[]) ∧ Sp W w2 [NetN n (bare 0)]) := Lib.hid fun w' h => h.nheal 0 rfl
              have HDE : Hid (∀ w', Sp W w' [NetN n (⟨[⟨a, b, bX⟩], maskN mask⟩)] → Calls Try.prog 21 #[ptr n, .int .i64 0] w' fun e w2 => e = .returned (.tuple #[.agg #[.int .i64 a, .int .i64 b, .string ⟨#[120]⟩], .int .i64 0]) ∧ Sp W w2 [NetN n (bare (maskN mask))]) := Lib.hid fun w' h => h.ndeliver (o := some ⟨a, b, bX⟩) 0 rfl 0 (by rw [deliver_one, if_pos (hh _)])
              have HHE : Hid (∀ w', Sp W w' [NetN n (bare (maskN mask))] → Calls Try.prog 15 #[ptr n, .int .i64 a, .int .i64 b] w' fun e w2 => e = .returned (.bool true) ∧ w' = w2) := Lib.hid fun w' h => by have := h.nhear 0 rfl (a : Int) b; rw [hh] at this; exact this
              clear hsp2 hh hnr
              go_wp2_with (first
                | (go_at_call 20; refine HSE.out.mono ?_; rintro e w4 ⟨rfl, h4⟩; have H4 := Lib.hid h4; clear h4)
                | (go_at_call 22; refine (HSPL.out _ H4.out).mono ?_; rintro e w5 ⟨rfl, h5⟩; have H5 := Lib.hid h5; clear h5)
                | (go_at_call 21; refine (HDE.out _ H5.out).mono ?_; rintro e w6 ⟨rfl, h6⟩; have H6 : Hid (Sp W (w6.alloc (.cells #[.int .i64 a, .int .i64 b, .string ⟨#[120]⟩] 33)) [NetN n (bare (maskN mask))]) := Lib.hid (h6.keep ((Below.refl _ w6).alloc (Nat.le_refl _) _)); clear h6)
                | (go_at_call 15; refine (HHE.out _ H6.out).mono ?_; rintro e w7 ⟨rfl, rfl⟩)
                | (go_at_call 23; refine (HHL.out _ H6.out).mono ?_; rintro e w8 ⟨rfl, h8⟩; have H8 := Lib.hid h8; clear h8))
              go_roundw
              case rel => exact ⟨b + 1, by simp, by omega, H8.out⟩
              case measure => simp [intOf]; omega
            · have hnear : (bits .and .i64 (mask / 2 ^ a) 1 == bits .and .i64 (mask / 2 ^ b) 1) = false := by rw [shr_mask' mask a hlt, shr_mask' mask b hlt2, eq_nats]; simp [hnr]
              have hh : ∀ L, (Nt.mk L (maskN mask)).hear a b = false := fun L => by rw [hear_of hlt hlt2]; simp [hnr]
              have HSE : Hid (Calls Try.prog 20 #[ptr n, .int .i64 a, .int .i64 b, .string ⟨#[120]⟩] wr fun e w2 => e = .returned (.int .i64 0) ∧ Sp W w2 [NetN n (⟨[⟨a, b, bX⟩], 0⟩)]) := Lib.hid (hsp2.nsend 0 rfl a b bX (send_hear hlt hlt2 hab (by simp) bX (hear_zero (L := []) hlt hlt2)))
              have HSPL : Hid (∀ w', Sp W w' [NetN n ⟨[⟨a, b, bX⟩], 0⟩] → Calls Try.prog 22 #[ptr n, .int .i64 mask] w' fun e w2 => e = .returned (.tuple #[]) ∧ Sp W w2 [NetN n ⟨[⟨a, b, bX⟩], maskN mask⟩]) := Lib.hid fun w' h => h.nsplit 0 rfl mask
              have HHL : Hid (∀ w', Sp W w' [NetN n (bare (maskN mask))] → Calls Try.prog 23 #[ptr n] w' fun e w2 => e = .returned (.tuple #[]) ∧ Sp W w2 [NetN n (bare 0)]) := Lib.hid fun w' h => h.nheal 0 rfl
              have HDE : Hid (∀ w', Sp W w' [NetN n (⟨[⟨a, b, bX⟩], maskN mask⟩)] → Calls Try.prog 21 #[ptr n, .int .i64 0] w' fun e w2 => e = .returned (.tuple #[.agg #[.int .i64 0, .int .i64 0, .string ⟨#[]⟩], .int .i64 10]) ∧ Sp W w2 [NetN n (bare (maskN mask))]) := Lib.hid fun w' h => h.ndeliver (o := none) 0 rfl 0 (by rw [deliver_one, if_neg (by rw [hh]; simp)])
              have HHE : Hid (∀ w', Sp W w' [NetN n (bare (maskN mask))] → Calls Try.prog 15 #[ptr n, .int .i64 a, .int .i64 b] w' fun e w2 => e = .returned (.bool false) ∧ w' = w2) := Lib.hid fun w' h => by have := h.nhear 0 rfl (a : Int) b; rw [hh] at this; exact this
              clear hsp2 hh hnr
              go_wp2_with (first
                | (go_at_call 20; refine HSE.out.mono ?_; rintro e w4 ⟨rfl, h4⟩; have H4 := Lib.hid h4; clear h4)
                | (go_at_call 22; refine (HSPL.out _ H4.out).mono ?_; rintro e w5 ⟨rfl, h5⟩; have H5 := Lib.hid h5; clear h5)
                | (go_at_call 21; refine (HDE.out _ H5.out).mono ?_; rintro e w6 ⟨rfl, h6⟩; have H6 : Hid (Sp W (w6.alloc (.cells #[.int .i64 0, .int .i64 0, .string ⟨#[]⟩] 33)) [NetN n (bare (maskN mask))]) := Lib.hid (h6.keep ((Below.refl _ w6).alloc (Nat.le_refl _) _)); clear h6)
                | (go_at_call 15; refine (HHE.out _ H6.out).mono ?_; rintro e w7 ⟨rfl, rfl⟩)
                | (go_at_call 23; refine (HHL.out _ H6.out).mono ?_; rintro e w8 ⟨rfl, h8⟩; have H8 := Lib.hid h8; clear h8))
              go_roundw
              case rel => exact ⟨b + 1, by simp, by omega, H8.out⟩
              case measure => simp [intOf]; omega
          · have HS2 := Lib.hid hsp2
            clear hsp2
            go_wp2_with fail
            go_roundw
            case rel => exact ⟨a + 1, by simp, by omega, HS2.out⟩
            case measure => simp [intOf]; omega
      · obtain rfl : a = 16 := by omega
        have HHL : Hid (Calls Try.prog 23 #[ptr n] wr fun e w2 => e = .returned (.tuple #[]) ∧ Sp W w2 [NetN n (bare 0)]) := Lib.hid (hsp.nheal 0 rfl)
        clear hsp
        go_wp2_with (go_at_call 23; refine HHL.out.mono ?_; rintro e w8 ⟨rfl, h8⟩; have H8 := Lib.hid h8; clear h8)
        go_loopw [15, 16] (fun iv _ wr => ∃ i S, SdMore W n mo iv wr i S) (fun iv _ _ => mo - (intOf iv).toNat)
        case atStart => exact ⟨0, _, rfl, Nat.zero_le _, H8.out, Filled.nil⟩
        case round =>
          obtain ⟨i, S, ⟨rfl, hi, hsp, hfl⟩⟩ := hrel
          clear H8
          by_cases hlt3 : i < mo
          · obtain ⟨er, S', hse, hf2, her⟩ := hfl.next
            have b1 : bits .and .i64 (i : Int) 15 = ((i % 16 : Nat) : Int) := by rw [and15]; omega
            have b2 : bits .and .i64 ((i : Int) + 1) 15 = (((i + 1) % 16 : Nat) : Int) := by rw [and15]; omega
            have HSE : Hid (Calls Try.prog 20 #[ptr n, .int .i64 ((i % 16 : Nat) : Int), .int .i64 (((i + 1) % 16 : Nat) : Int), .string ⟨#[121]⟩] wr fun e w2 => e = .returned (.int .i64 er) ∧ Sp W w2 [NetN n S']) := Lib.hid (hsp.nsend 0 rfl _ _ bY hse)
            have HF2 := Lib.hid hf2
            clear hse hf2 hsp hfl
            generalize ((i % 16 : Nat) : Int) = x1 at *
            generalize (((i + 1) % 16 : Nat) : Int) = x2 at *
            rcases her with ⟨h5, rfl⟩ | ⟨h5, rfl⟩
            · have h5' : (i : Int) < 500 := by omega
              go_wp2_with (go_at_call 20; refine HSE.out.mono ?_; rintro e w9 ⟨rfl, h9⟩; have H9 := Lib.hid h9; clear h9)
              go_roundw
              case rel => exact ⟨i + 1, S', by simp, by omega, H9.out, HF2.out⟩
              case measure => simp [intOf]; omega
            · have h5' : ¬ (i : Int) < 500 := by omega
              go_wp2_with (go_at_call 20; refine HSE.out.mono ?_; rintro e w9 ⟨rfl, h9⟩; have H9 := Lib.hid h9; clear h9)
              go_roundw
              case rel => exact ⟨i + 1, S', by simp, by omega, H9.out, HF2.out⟩
              case measure => simp [intOf]; omega
          · obtain rfl : mo = i := by omega
            have hlen := hfl.len
            have HC : Hid (Calls Try.prog 14 #[ptr n] wr fun e w2 => e = .returned (.int .i64 S.L.length) ∧ wr = w2) := Lib.hid (hsp.ncount 0 rfl)
            have HS1 : Hid (∀ w', Sp W w' [NetN n S] → Calls Try.prog 20 #[ptr n, .int .i64 (-1), .int .i64 0, .string ⟨#[]⟩] w' fun e w2 => e = .returned (.int .i64 1) ∧ Sp W w2 [NetN n S]) := Lib.hid fun w' h => h.nsend 0 rfl (-1) 0 ⟨#[]⟩ (send_neg S ⟨#[]⟩)
            have HS2 : Hid (∀ w', Sp W w' [NetN n S] → Calls Try.prog 20 #[ptr n, .int .i64 0, .int .i64 16, .string ⟨#[]⟩] w' fun e w2 => e = .returned (.int .i64 1) ∧ Sp W w2 [NetN n S]) := Lib.hid fun w' h => h.nsend 0 rfl 0 16 ⟨#[]⟩ (send_16 S ⟨#[]⟩)
            have HSP := Lib.hid hsp
            by_cases h5 : mo < 500
            · have hl2 : S.L.length = mo := by omega
              rw [hl2] at HC
              have h5' : (mo : Int) < 500 := by omega
              clear hlen hl2 hsp hfl
              go_wp2_with (first
                | (go_at_call 14; refine HC.out.mono ?_; rintro e w10 ⟨rfl, rfl⟩)
                | (go_at_call 20; with_reducible refine (HS1.out _ HSP.out).mono ?_; rintro e w11 ⟨rfl, h11⟩; have H11 := Lib.hid h11; clear h11)
                | (go_at_call 20; with_reducible refine (HS2.out _ H11.out).mono ?_; rintro e w12 ⟨rfl, h12⟩; have H12 := Lib.hid h12; clear h12))
              all_goals
                go_ret
                exact ⟨rfl, H12.out.below⟩
            · have hl2 : S.L.length = 500 := by omega
              rw [hl2] at HC
              have h5' : ¬ (mo : Int) < 500 := by omega
              have HDB : Hid (∀ w', Sp W w' [NetN n S] → Calls Try.prog 24 #[ptr n, .int .i64 3] w' fun e w2 => e = .returned (.int .i64 6) ∧ Sp W w2 [NetN n S]) := Lib.hid fun w' h => h.ndouble 0 rfl 3 (hfl.double (by omega))
              clear hlen hl2 hsp hfl
              go_wp2_with (first
                | (go_at_call 14; refine HC.out.mono ?_; rintro e w10 ⟨rfl, rfl⟩)
                | (go_at_call 24; refine (HDB.out _ HSP.out).mono ?_; rintro e w13 ⟨rfl, h13⟩; have H13 := Lib.hid h13; clear h13)
                | (go_at_call 20; with_reducible refine (HS1.out _ H13.out).mono ?_; rintro e w11 ⟨rfl, h11⟩; have H11 := Lib.hid h11; clear h11)
                | (go_at_call 20; with_reducible refine (HS2.out _ H11.out).mono ?_; rintro e w12 ⟨rfl, h12⟩; have H12 := Lib.hid h12; clear h12))
              all_goals
                go_ret
                exact ⟨rfl, H12.out.below⟩

end Ntw
end Go.Proofs.Ytmhnifcohkamaaa

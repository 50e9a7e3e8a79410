/- The walk of DiskReads. -/
import Derived.Test.YtgaclibokapfaaaPlay
import Derived.Test.YtgaclibokapfaaaRds
import Derived.Test.YtgaclibokapfaaaSurw
import Derived.Deep.DeepCutAuto
namespace Go.Proofs.Ytgaclibokapfaaa
open Go.RowKit Wire
set_option linter.unusedVariables false
set_option linter.unusedSimpArgs false
open Txt
namespace Dsk

/-- What the statement reads, and what it compares. -/
structure ReadsWhat (S1 : St) (fn an sn : Nat) (s AB : ByteArray) (z : Nat) : Prop where
  size : AB.size = z
  got : S1.now.read fn an s.size = bl s
  all : (⟨(S1.now.read fn 0 z).toArray⟩ : ByteArray) = AB
  part : (⟨(S1.now.read fn an sn).toArray⟩ : ByteArray) = AB.extract (min an z) (min an z + min sn (z - min an z))
  rest : (⟨(((S1.trunc fn (min an z)).crash []).start.now.all fn).toArray⟩ : ByteArray) = AB.extract 0 (min an z)
theorem reads_what {S : St} (h : S.ok) (hd : S.down = false) {fn an : Nat} (hf : fn < 16) (sn : Nat) (s : ByteArray) (hr : an + s.size ≤ 16777216) :
    ReadsWhat (S.write fn an (bl s)) fn an sn s ⟨((S.write fn an (bl s)).now.all fn).toArray⟩ ((S.write fn an (bl s)).now.size fn) := by
  have hk : (S.write fn an (bl s)).ok := h.write hf (by rw [bl_len]; omega)
  obtain ⟨h1, h2, h3⟩ := write_now S fn an (bl s)
  refine ⟨?_, ?_, ?_, ?_, ?_⟩
  · show ((S.write fn an (bl s)).now.all fn).toArray.size = _
    rw [List.size_toArray, hk.now.all_len]
  · have := read_put S.now fn an (bl s)
    rw [bl_len] at this
    rw [h1, this]
  · rw [read_full hk.now]
  · rw [bytes_extract, read_part hk.now, List.drop_take]
    congr 3
    omega
  · rw [bytes_extract, hk.cut_all (h2.trans hd) (by omega), List.drop_zero]

set_option maxRecDepth 100000 in
set_option maxHeartbeats 1000000 in
theorem reads_law (A : Option Addr) (c : Nat) (l : List Act) (f a : Int) (s : ByteArray) (n : Int) (w : World) (h : Acts w A l) (hs : s.size ≤ maxLen) (hn : Fits n) :
    Calls Try.prog 7 #[.slice A l.length c, .int .i64 f, .int .i64 a, .string s, .int .i64 n] w fun e w' => e = .returned (.bool true) ∧ Below w.heap.size w w' := by
  have H := Lib.hid h
  have hn2 := hn.2
  clear h hn
  go_enter Try.func7, Try.ntmps7
  go_wp2_with (go_at_call 8; refine (small_any _).mono ?_; rintro e w1 ⟨rfl, b1⟩)
  have B1 := Lib.hid b1
  clear b1
  refine (few_any A c l H.out B1.out).mono ?_
  rintro e w2 ⟨b, rfl, hb, b2⟩
  have HB := Lib.hid hb
  have B2 := Lib.hid (next_below B1.out b2)
  clear hb b2
  cases b with
  | false =>
    go_wp2_with fail
    go_ret
    exact ⟨rfl, B2.out⟩
  | true =>
    obtain ⟨h40, hfew⟩ := HB.out rfl
    have HF := Lib.hid hfew
    clear hfew HB
    by_cases hs3 : s.size ≤ 300
    · by_cases ha0 : a < 0
      · go_wp2_with fail
        go_ret
        exact ⟨rfl, B2.out⟩
      · by_cases ha3 : a ≤ 3000
        · by_cases hn0 : n < 0
          · go_wp2_with fail
            go_ret
            exact ⟨rfl, B2.out⟩
          · go_wp2_with fail
            refine (played_any A c l H.out B2.out HF.out).mono ?_
            rintro e w3 ⟨p, rfl, h3⟩
            generalize playL l St.new = S0 at h3
            have HA := Lib.hid (h3.step (h3.ok.arm (n := 0) (ks := []) (by omega) (by simp)) (arm_c h3.below 0 none 0 [] (row_none _ _) (by simp)))
            clear h3
            go_upto_region 8 with ((go_at_call 27; refine HA.out.mono ?_; rintro e w4 ⟨rfl, h4⟩))
            have hcalls : (S0.arm 0 []).calls = 0 := rfl
            clear HA
            generalize S0.arm 0 [] = S at *
            have HD := Lib.hid h4.down
            have H4 := Lib.hid h4
            have hwr := h4.step (h4.ok.Write f a (bl s)) (write_c h4.ok f a s hs)
            clear h4
            cases hd : S.down with
            | true =>
              rw [Write_down hd] at hwr
              have HWR := Lib.hid hwr
              rw [hd] at HD
              clear hwr hd
              go_wp2_with (first
                | (go_at_call 14; refine HD.out.mono ?_; rintro e w5 ⟨rfl, rfl⟩)
                | (go_at_call 29; refine HWR.out.mono ?_; rintro e w6 ⟨rfl, h6⟩; have B6 := Lib.hid h6.below; clear h6))
              go_ret
              exact ⟨rfl, B6.out⟩
            | false =>
              rw [hd] at HD
              cases hf : isF f with
              | false =>
                have e1 := Write_bad hf hcalls hd a (bl s)
                rw [e1] at hwr
                have HWR := Lib.hid hwr
                have hf2 : f < 0 ∨ 15 < f := by
                  unfold isF at hf
                  have := of_decide_eq_false hf
                  omega
                clear hwr hd e1
                rcases hf2 with hf0 | hf0
                all_goals
                  go_wp2_with (first
                    | (go_at_call 14; refine HD.out.mono ?_; rintro e w5 ⟨rfl, rfl⟩)
                    | (go_at_call 29; refine HWR.out.mono ?_; rintro e w6 ⟨rfl, h6⟩; have B6 := Lib.hid h6.below; clear h6))
                  go_ret
                  exact ⟨rfl, B6.out⟩
              | true =>
                obtain ⟨hf0, hf16, hfl, hfe⟩ := isF_nat hf
                obtain ⟨fn, rfl⟩ : ∃ k : Nat, f = k := ⟨f.toNat, hfe.symm⟩
                obtain ⟨an, rfl⟩ : ∃ k : Nat, a = k := ⟨a.toNat, by omega⟩
                obtain ⟨sn, rfl⟩ : ∃ k : Nat, n = k := ⟨n.toNat, by omega⟩
                simp only [Int.toNat_natCast] at hfl
                have hw := Write_good hd hcalls hf (a := an) (by omega) (bl s) (by rw [bl_len]; omega)
                simp only [Int.toNat_natCast] at hw
                rw [hw] at hwr
                have hwt := reads_what H4.out.ok hd hfl sn s (an := an) (by omega)
                obtain ⟨_, hd1, hc1⟩ := write_now S fn an (bl s)
                rw [hd] at hd1
                rw [hcalls] at hc1
                have HWR := Lib.hid hwr
                have hzr := (H4.out.ok.write hfl (a := an) (l := bl s) (by rw [bl_len]; omega)).now.room fn
                clear hwr hw hd hcalls
                generalize S.write fn an (bl s) = S1 at *
                generalize hz : S1.now.size fn = z at *
                generalize (⟨(S1.now.all fn).toArray⟩ : ByteArray) = AB at *
                obtain ⟨hABs, hgot, hall, hpart, hrest⟩ := hwt
                subst hABs
                generalize hfrom : min an AB.size = fr at *
                generalize hto : fr + min sn (AB.size - fr) = to_ at *
                -- what the calls return
                have c1 : ∀ wx, One w wx p S1 → Calls Try.prog 20 #[ptr p, .int .i64 fn, .int .i64 an, .int .i64 s.size] wx fun e w' => e = .returned (.tuple #[.string s, .int .i64 0]) ∧ Below wx.heap.size wx w' := by
                  intro wx hx
                  have := hx.read fn an s.size (by omega) (by omega)
                  rw [Read_good hd1 hf (by omega) (by omega)] at this
                  simp only [Int.toNat_natCast] at this
                  rw [hgot, str_bl] at this
                  exact this
                have c2 : ∀ wx, One w wx p S1 → Calls Try.prog 16 #[ptr p, .int .i64 fn] wx fun e w' => e = .returned (.int .i64 AB.size) ∧ wx = w' := by
                  intro wx hx
                  have := hx.size fn
                  rw [Size_good hf] at this
                  simp only [Int.toNat_natCast] at this
                  rw [hz] at this
                  exact this
                have c3 : ∀ wx, One w wx p S1 → Calls Try.prog 20 #[ptr p, .int .i64 fn, .int .i64 0, .int .i64 AB.size] wx fun e w' => e = .returned (.tuple #[.string AB, .int .i64 0]) ∧ Below wx.heap.size wx w' := by
                  intro wx hx
                  have := hx.read fn 0 AB.size (by omega) (by omega)
                  rw [Read_good hd1 hf (by omega) (by omega)] at this
                  simp only [Int.toNat_natCast] at this
                  unfold str at this
                  rw [show (0 : Int).toNat = 0 from rfl, hall] at this
                  exact this
                have c4 : ∀ wx, One w wx p S1 → Calls Try.prog 20 #[ptr p, .int .i64 fn, .int .i64 an, .int .i64 sn] wx fun e w' => e = .returned (.tuple #[.string (AB.extract fr to_), .int .i64 0]) ∧ Below wx.heap.size wx w' := by
                  intro wx hx
                  have := hx.read fn an sn (by omega) (by omega)
                  rw [Read_good hd1 hf (by omega) (by omega)] at this
                  simp only [Int.toNat_natCast] at this
                  unfold str at this
                  rw [hpart] at this
                  exact this
                have c5 : ∀ wx, One w wx p S1 → Calls Try.prog 30 #[ptr p, .int .i64 fn, .int .i64 fr] wx fun e w' => e = .returned (.int .i64 0) ∧ One w w' p (S1.trunc fn fr) := by
                  intro wx hx
                  have := hx.step (hx.ok.Trunc fn fr) (trunc_c hx.ok fn fr)
                  rw [Trunc_good hd1 hc1 hf (by omega) (by rw [Int.toNat_natCast, hz]; omega)] at this
                  simp only [Int.toNat_natCast] at this
                  exact this
                have c6 : ∀ wx, One w wx p (S1.trunc fn fr) → Calls Try.prog 25 #[ptr p, .slice none 0 0] wx fun e w' => e = .returned (.tuple #[]) ∧ One w w' p ((S1.trunc fn fr).crash []) := by
                  intro wx hx
                  exact hx.step (hx.ok.crash []) (crash_c hx.below hx.ok none 0 [] (row_none _ _) (by simp))
                have c7 : ∀ wx, One w wx p ((S1.trunc fn fr).crash []).start → Calls Try.prog 20 #[ptr p, .int .i64 fn, .int .i64 0, .int .i64 16777216] wx fun e w' => e = .returned (.tuple #[.string (AB.extract 0 fr), .int .i64 0]) ∧ Below wx.heap.size wx w' := by
                  intro wx hx
                  have := hx.read fn 0 16777216 (by omega) (by omega)
                  rw [read_all rfl hf] at this
                  simp only [Int.toNat_natCast] at this
                  unfold str at this
                  rw [hrest] at this
                  exact this
                have C1 := Lib.hid c1
                have C2 := Lib.hid c2
                have C3 := Lib.hid c3
                have C4 := Lib.hid c4
                have C5 := Lib.hid c5
                have C6 := Lib.hid c6
                have C7 := Lib.hid c7
                clear c1 c2 c3 c4 c5 c6 c7 hgot hall hpart hrest hd1 hc1 hz hf hfe
                go_upto_region 16 with (first
                  | (go_at_call 14; refine HD.out.mono ?_; rintro e w5 ⟨rfl, rfl⟩)
                  | (go_at_call 29; refine HWR.out.mono ?_; rintro e w6 ⟨rfl, h6⟩; have H6 := Lib.hid h6; clear h6)
                  | (go_at_call 20; ((with_reducible refine (C1.out w6 H6.out).mono ?_); rintro e w7 ⟨rfl, b7⟩; have H7 := Lib.hid (H6.out.keep b7); clear b7))
                  | (go_at_call 16; ((with_reducible refine (C2.out w7 H7.out).mono ?_); rintro e w8 ⟨rfl, rfl⟩))
                  | (go_at_call 20; ((with_reducible refine (C3.out w7 H7.out).mono ?_); rintro e w9 ⟨rfl, b9⟩; have H9 := Lib.hid (H7.out.keep b9); clear b9))
                  | (go_at_call 20; ((with_reducible refine (C4.out w9 H9.out).mono ?_); rintro e w10 ⟨rfl, b10⟩; have H10 := Lib.hid (H9.out.keep b10); clear b10))
                  | (go_at_call 16; ((with_reducible refine (C2.out w10 H10.out).mono ?_); rintro e w8 ⟨rfl, rfl⟩)))
                go_cut [20] (fun v20 wx => v20 = .int .i64 fr ∧ w10 = wx)
                case first =>
                  by_cases hq : (an : Int) ≤ AB.size
                  · have hq2 : fr = an := by omega
                    subst hq2
                    go_wp2_with fail
                    all_goals
                      go_meet
                      case rel => exact ⟨by congr 1, rfl⟩
                  · have hq2 : fr = AB.size := by omega
                    subst hq2
                    go_wp2_with fail
                    all_goals
                      go_meet
                      case rel => exact ⟨by congr 1, rfl⟩
                case rest =>
                obtain ⟨rfl, rfl⟩ := hcut
                have hfr : fr ≤ AB.size := by omega
                go_upto_region 17 with (fail)
                go_cut [145] (fun v145 wx => v145 = .bool false ∧ w10 = wx)
                case first =>
                  by_cases hq : (sn : Int) ≤ AB.size - fr
                  · have HQ := Lib.hid (show to_ = fr + sn by omega)
                    clear hto
                    go_wp2_with fail
                    all_goals
                      go_meet
                      case rel => exact ⟨by have := HQ.out; subst this; simp, rfl⟩
                  · have HQ := Lib.hid (show to_ = AB.size by omega)
                    clear hto
                    go_wp2_with fail
                    all_goals
                      go_meet
                      case rel => exact ⟨by have := HQ.out; subst this; simp, rfl⟩
                case rest =>
                obtain ⟨rfl, rfl⟩ := hcut
                go_wp2_with (first
                  | (go_at_call 30; refine (C5.out w10 H10.out).mono ?_; rintro e w11 ⟨rfl, h11⟩; have H11 := Lib.hid h11; clear h11)
                  | (go_at_call 25; refine (C6.out w11 H11.out).mono ?_; rintro e w12 ⟨rfl, h12⟩; have H12 := Lib.hid h12; clear h12)
                  | (go_at_call 26; refine (H12.out.step H12.out.ok.start start_c).mono ?_; rintro e w13 ⟨rfl, h13⟩; have H13 := Lib.hid h13; clear h13)
                  | (go_at_call 20; refine (C7.out w13 H13.out).mono ?_; rintro e w14 ⟨rfl, b14⟩; have B14 := Lib.hid (H13.out.keep b14).below; clear b14))
                go_ret
                exact ⟨rfl, B14.out⟩
        · go_wp2_with fail
          go_ret
          exact ⟨rfl, B2.out⟩
    · go_wp2_with fail
      go_ret
      exact ⟨rfl, B2.out⟩
end Dsk
end Go.Proofs.Ytgaclibokapfaaa

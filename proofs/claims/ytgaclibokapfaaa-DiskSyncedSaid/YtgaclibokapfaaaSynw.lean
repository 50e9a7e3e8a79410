/- The walk of DiskSynced. -/
import Derived.Test.YtgaclibokapfaaaPlay
import Derived.Test.YtgaclibokapfaaaSyn
import Derived.Test.YtgaclibokapfaaaSurw
namespace Go.Proofs.Ytgaclibokapfaaa
open Go.RowKit Wire
set_option linter.unusedVariables false
set_option linter.unusedSimpArgs false
open Txt
namespace Dsk

structure MoreRel (w : World) (p : Nat) (f : Nat) (C : Con) (n : Nat) (iv : Value) (wr : World) (i : Nat) (T : St) : Prop where
  iv : iv = .int .i64 i
  le : i ≤ n
  one : One w wr p T
  clean : Clean T f C

set_option maxRecDepth 100000 in
set_option maxHeartbeats 1000000 in
theorem synced_law (A : Option Addr) (c : Nat) (l : List Act) (f : Int) (A1 : Option Addr) (c1 : Nat) (m : List Act) (A2 : Option Addr) (c2 : Nat) (ks : List Int) (w : World) (h : Acts w A l) (hm : Acts w A1 m) (hr : Row w w.heap.size A2 (ks.map (Value.int .i64))) :
    Calls Try.prog 5 #[.slice A l.length c, .int .i64 f, .slice A1 m.length c1, .slice A2 ks.length c2] w fun e w' => e = .returned (.bool true) ∧ Below w.heap.size w w' := by
  have H := Lib.hid h
  have HM := Lib.hid hm
  have hmlen := hm.len
  have HR := Lib.hid hr
  clear h hm hr
  go_enter Try.func5, Try.ntmps5
  go_wp2_with (go_at_call 8; refine (small_any _).mono ?_; rintro e w1 ⟨rfl, b1⟩)
  have B1 := Lib.hid b1
  clear b1
  refine (few_any A c l H.out B1.out).mono ?_
  rintro e w2 ⟨b, rfl, hb, b2⟩
  have HB := Lib.hid hb
  have B2 := Lib.hid (next_below B1.out b2)
  clear hb b2
  cases b with
  | false =>
    go_wp2_with fail
    go_ret
    exact ⟨rfl, B2.out⟩
  | true =>
    obtain ⟨h40, hfew⟩ := HB.out rfl
    have HF := Lib.hid hfew
    clear hfew HB
    go_wp2_with fail
    refine (few_any A1 c1 m HM.out B2.out).mono ?_
    rintro e w3 ⟨b, rfl, hb, b3⟩
    have HB := Lib.hid hb
    have B3 := Lib.hid (next_below B2.out b3)
    clear hb b3
    cases b with
    | false =>
      go_wp2_with fail
      go_ret
      exact ⟨rfl, B3.out⟩
    | true =>
      obtain ⟨hm40, hmfew⟩ := HB.out rfl
      have HMF := Lib.hid hmfew
      clear hmfew HB
      by_cases hk : ks.length ≤ 60
      · go_wp2_with fail
        refine (played_any A c l H.out B3.out HF.out).mono ?_
        rintro e w4 ⟨p, rfl, h4⟩
        generalize playL l St.new = S at h4
        have HRD := Lib.hid (h4.read f 0 16777216 (by omega) (by omega))
        have HOK := Lib.hid h4.ok
        have H4 := Lib.hid h4
        clear h4
        go_wp2_with ((go_at_call 20; refine HRD.out.mono ?_; rintro e w5 ⟨rfl, b5⟩; have H5 := Lib.hid (H4.out.keep b5); clear b5))
        refine (H5.out.step (HOK.out.Sync f) (sync_c HOK.out f)).mono ?_
        rintro e w6 ⟨rfl, h6⟩
        by_cases he : (S.Sync f).2 = 0
        · obtain ⟨hf, hd, hd2, hcl⟩ := HOK.out.synced he
          rw [he]
          rw [read_all hd hf] at *
          have hrd := h6.read f 0 16777216 (by omega) (by omega)
          rw [read_all hd2 hf, hcl.all] at hrd
          unfold str at *
          have HRD2 := Lib.hid hrd
          have HC := Lib.hid hcl
          have H6 := Lib.hid h6
          clear h6 hrd hcl hd hd2
          generalize (S.Sync f).1 = S1 at *
          obtain ⟨fn, rfl⟩ : ∃ k : Nat, f = k := ⟨f.toNat, by have := isF_nat hf; omega⟩
          simp only [Int.toNat_natCast] at *
          generalize S.now = C at *
          generalize hX : (⟨(C.all fn).toArray⟩ : ByteArray) = X at *
          have HX := Lib.hid hX
          clear hX he
          go_upto_region 11 with (first
            | (go_at_call 20; refine HRD2.out.mono ?_; rintro e w7 ⟨rfl, b7⟩; have H7 := Lib.hid (H6.out.keep b7); clear b7))
          go_wp2_with fail
          go_loopw [15, 16] (fun iv _ wr => ∃ i T, MoreRel w p fn C m.length iv wr i T) (fun iv _ _ => m.length - (intOf iv).toNat)
          case atStart => exact ⟨0, S1, rfl, Nat.zero_le _, H7.out, HC.out⟩
          case round =>
            obtain ⟨i, T, ⟨rfl, hi, hone, hcl⟩⟩ := hrel
            by_cases hlt : i < m.length
            · obtain ⟨b, o, A', c', ⟨rfl, k0, k1, k2, k3, k4, hr, hft⟩⟩ := HM.out.at hone.below hlt
              have HK := Lib.hid (HMF.out m[i] (List.getElem_mem hlt)).keep
              generalize m[i] = a at *
              have HD := Lib.hid (hone.do_ a A' c' hft hr (by have := HK.out; omega))
              have HCR := Lib.hid (fun hw => hcl.run hft (by have := HK.out; omega) hw)
              have HO := Lib.hid hone
              have HCL := Lib.hid hcl
              have hkind : a.kind = bits .and .i64 a.what 7 := rfl
              rw [hkind] at HCR
              clear hone hcl hr hft hkind
              by_cases hk4 : bits .and .i64 a.what 7 < 4
              · by_cases hfa : a.f = fn
                · go_wp2_with fail
                  go_roundw
                  case rel => exact ⟨i + 1, T, by simp, hlt, HO.out, HCL.out⟩
                  case measure => simp [intOf]; omega
                · go_wp2_with (go_at_call 12; refine HD.out.mono ?_; rintro e w8 ⟨rfl, h8⟩)
                  go_roundw
                  case rel => exact ⟨i + 1, _, by simp, hlt, h8, HCR.out (.inl ⟨hk4, hfa⟩)⟩
                  case measure => simp [intOf]; omega
              · by_cases hk5 : bits .and .i64 a.what 7 = 4
                · go_wp2_with (go_at_call 12; refine HD.out.mono ?_; rintro e w8 ⟨rfl, h8⟩)
                  go_roundw
                  case rel => exact ⟨i + 1, _, by simp, hlt, h8, HCR.out (.inr hk5)⟩
                  case measure => simp [intOf]; omega
                · go_wp2_with fail
                  go_roundw
                  case rel => exact ⟨i + 1, T, by simp, hlt, HO.out, HCL.out⟩
                  case measure => simp [intOf]; omega
            · have hcr := hone.step (hone.ok.crash ks) (crash_c hone.below hone.ok A2 c2 ks HR.out (by omega))
              have HCR := Lib.hid hcr
              have hst : (T.crash ks).start.Read fn 0 16777216 = (C.all fn, 0) := by rw [read_all (by rfl) hf, Int.toNat_natCast, hcl.end_ ks]
              have HST := Lib.hid hst
              clear hone hcl hcr hst
              go_wp2_with (first
                | (go_at_call 25; refine HCR.out.mono ?_; rintro e w8 ⟨rfl, h8⟩)
                | (go_at_call 26; refine (h8.step h8.ok.start start_c).mono ?_; rintro e w9 ⟨rfl, h9⟩; clear h8; have h10 := h9.read fn 0 16777216 (by omega) (by omega); rw [HST.out] at h10; unfold str at h10; rw [HX.out] at h10)
                | (go_at_call 20; refine h10.mono ?_; rintro e w11 ⟨rfl, h11⟩; have h12 := (h9.keep h11).below; clear h9 h10 h11))
              go_ret
              exact ⟨rfl, h12⟩
        · have hq : ((S.Sync f).2 != 0) = true := by simpa using he
          have B6 := Lib.hid h6.below
          clear he h6
          go_wp2_with fail
          go_ret
          exact ⟨rfl, B6.out⟩
      · go_wp2_with fail
        go_ret
        exact ⟨rfl, B3.out⟩
end Dsk
end Go.Proofs.Ytgaclibokapfaaa

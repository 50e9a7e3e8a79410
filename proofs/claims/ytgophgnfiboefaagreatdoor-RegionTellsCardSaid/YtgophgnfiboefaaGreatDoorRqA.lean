/- The reference's marks, list, Of, Inter, Diff. -/
import Derived.Test.YtgophgnfiboefaaGreatDoorRpA
namespace Go.Proofs.YtgophgnfiboefaaGreatDoor
open Go.RowKit Wire
open Txt (Row)
open Go.Proofs.YtgophgnfiboefaaGreatDoor.Own Flo
open Dsk (Only nth)
set_option linter.unusedVariables false
set_option linter.unusedSimpArgs false
namespace Rgn
/-- Which cells are in a list. -/
def mkL (l : List Int) : List Bool := (List.range 4096).map fun c : Nat => decide ((c : Int) ∈ l)
theorem mkL_len (l : List Int) : (mkL l).length = 4096 := by simp [mkL]
theorem mkL_at (l : List Int) {c : Nat} (h : c < 4096) : (mkL l).getD c false = decide ((c : Int) ∈ l) := by
  unfold mkL
  rw [List.getD_eq_getElem?_getD, List.getElem?_map, List.getElem?_range h]
  rfl
theorem mkL_of {l : List Int} {bs : List Bool} (hl : bs.length = 4096) (hv : ∀ c : Nat, c < 4096 → bs.getD c false = decide ((c : Int) ∈ l)) : bs = mkL l := by
  refine List.ext_getElem? fun i => ?_
  by_cases h : i < 4096
  · have h1 := hv i h
    rw [← mkL_at l h, List.getD_eq_getElem?_getD, List.getD_eq_getElem?_getD, List.getElem?_eq_getElem (by omega), List.getElem?_eq_getElem (by rw [mkL_len]; exact h)] at h1
    rw [List.getElem?_eq_getElem (by omega), List.getElem?_eq_getElem (by rw [mkL_len]; exact h)]
    exact congrArg some h1
  · rw [List.getElem?_eq_none (by omega), List.getElem?_eq_none (by rw [mkL_len]; omega)]
def MkPost (l : List Int) (w : World) (e : Ending) (w' : World) : Prop := ∃ g, e = .returned (slV g 4096) ∧ Sp w w' [RowT 1 (slV g 4096) 4096 (bvs (mkL l))]
set_option maxRecDepth 100000 in
set_option maxHeartbeats 4000000 in
theorem rmarks_any (w : World) (A : Option Addr) (c : Nat) (l : List Int) (hl : l.length ≤ 9223372036854775807) (h : Row w w.heap.size A (ivs l)) :
    Calls Tryz.prog 32 #[.slice A l.length c] w (MkPost l w) := by
  have HR : Hid (∀ k, k < l.length → ∃ b o, A = some ⟨b, o, none⟩ ∧ ∀ w', Below w.heap.size w w' → w'.cell? ⟨b, o + k, none⟩ = some (.int .i64 (l.getD k 0))) := Lib.hid fun k hk => row_val h hk
  have HM : Hid (∀ i, i < l.length → ∀ x : Int, decide (x ∈ l.take (i + 1)) = (decide (x ∈ l.take i) || decide (l.getD i 0 = x))) := Lib.hid fun i hi x => mem_take_succ hi x
  have HF : Hid (∀ g (bs : List Bool) w', bs.length = 4096 → (∀ c : Nat, c < 4096 → bs.getD c false = decide ((c : Int) ∈ l.take l.length)) → Sp w w' [RowT 1 (slV g 4096) 4096 (bvs bs)] → MkPost l w (.returned (slV g 4096)) w') := Lib.hid fun g bs w' hn hv hs => by
    rw [List.take_length] at hv
    rw [mkL_of hn hv] at hs
    exact ⟨g, rfl, hs⟩
  have HSN := Lib.hid (Sp.nil (Below.refl w.heap.size w))
  obtain ⟨ib, hib, hib0, hib1, hib2⟩ := info_parts info_bool
  clear h
  generalize MkPost l w = QQ at *
  go_enter Tryz.func32, Tryz.ntmps32
  go_upto_region 2 with (refine wpList_make_row rfl _ _ 38 4 ib _ 1 rfl Tryz.underlying38 hib hib0 hib1 hib2 (by omega) rfl 4096 (by omega) rfl rfl ?_; intro w1 g1 b1)
  have H1 : Hid (Sp w w1 [RowT 1 (slV w.heap.size 4096) 4096 (bvs (List.replicate 4096 false))]) := Lib.hid (by
    have := HSN.out.new_row b1 g1
    rw [show bvs (List.replicate 4096 false) = List.replicate 4096 (Value.bool false) from List.map_replicate ..]
    exact this)
  generalize hgg : w.heap.size = g at *
  clear g1 b1 HSN
  go_wp2_with fail
  go_loopw [4] (fun iv wr => ∃ i bs, OfA w g l iv wr i bs) (fun iv _ => l.length - (intOf iv).toNat)
  case atStart => exact ⟨0, _, rfl, Nat.zero_le _, H1.out, List.length_replicate, fun c hc => by rw [List.getD_eq_getElem?_getD, List.getElem?_replicate, if_pos hc]; simp⟩
  case round =>
    clear H1
    obtain ⟨i, bs, ⟨rfl, hi, hsp, hlen, hval⟩⟩ := hrel
    by_cases hlt : i < l.length
    · obtain ⟨b, o, rfl, hc⟩ := HR.out i hlt
      have z := hc _ (hgg ▸ hsp.below)
      have HMI := Lib.hid (HM.out i hlt)
      have HSP := Lib.hid hsp
      have HLN := Lib.hid hlen
      have HVA := Lib.hid hval
      clear hc hsp hlen hval
      generalize l.getD i 0 = v at *
      by_cases h1 : 0 ≤ v
      · by_cases h2 : v < 4096
        · obtain ⟨k, rfl⟩ : ∃ k : Nat, v = k := ⟨v.toNat, by omega⟩
          have hk : k < 4096 := by omega
          obtain ⟨x0, x1⟩ := Grow.cell (HSP.out.grow 0 rfl) (bvs_at (l := bs) (k := k) (by rw [HLN.out]; exact hk))
          have H3 : Hid (Sp w (wr.setCell ⟨g, k, none⟩ (.bool true)) [RowT 1 (slV g 4096) 4096 (bvs (bs.set k true))]) := Lib.hid (by have := HSP.out.store 0 rfl k hk (.bool true); rw [bvs_set] at this; exact this)
          have HV2 : Hid (∀ c : Nat, c < 4096 → (bs.set k true).getD c false = decide ((c : Int) ∈ l.take (i + 1))) := Lib.hid fun c hc => by
            rw [HMI.out, getD_set _ _ _ _ (by rw [HLN.out]; exact hk)]
            by_cases e : c = k
            · subst e
              simp
            · rw [if_neg e, HVA.out c hc]
              have : decide ((k : Int) = (c : Int)) = false := decide_eq_false (by omega)
              rw [this, Bool.or_false]
          have HL2 : Hid ((bs.set k true).length = 4096) := Lib.hid (by rw [List.length_set]; exact HLN.out)
          clear HMI HVA HLN HSP
          generalize bs.set k true = bs2 at *
          go_wp2_with fail
          go_roundw
          case rel => exact ⟨i + 1, bs2, by simp, hlt, H3.out, HL2.out, HV2.out⟩
          case measure => simp [intOf]; omega
        · have HV2 : Hid (∀ c : Nat, c < 4096 → bs.getD c false = decide ((c : Int) ∈ l.take (i + 1))) := Lib.hid fun c hc => by
            have : decide (v = (c : Int)) = false := decide_eq_false (by omega)
            rw [HMI.out, HVA.out c hc, this, Bool.or_false]
          clear HMI HVA
          go_wp2_with fail
          go_roundw
          case rel => exact ⟨i + 1, bs, by simp, hlt, HSP.out, HLN.out, HV2.out⟩
          case measure => simp [intOf]; omega
      · have HV2 : Hid (∀ c : Nat, c < 4096 → bs.getD c false = decide ((c : Int) ∈ l.take (i + 1))) := Lib.hid fun c hc => by
          have : decide (v = (c : Int)) = false := decide_eq_false (by omega)
          rw [HMI.out, HVA.out c hc, this, Bool.or_false]
        clear HMI HVA
        go_wp2_with fail
        go_roundw
        case rel => exact ⟨i + 1, bs, by simp, hlt, HSP.out, HLN.out, HV2.out⟩
        case measure => simp [intOf]; omega
    · obtain rfl : i = l.length := by omega
      have HX := Lib.hid (HF.out g bs wr hlen hval hsp)
      clear hsp hlen hval HM HR
      go_wp2_with fail
      first | exact HX.out | (go_ret; exact HX.out)
structure LsB (w : World) (bs : List Bool) (rv iv : Value) (wr : World) (i : Nat) (out : List Nat) : Prop where
  iv : iv = .int .i64 i
  le : i ≤ 4096
  isreg : out = regOf (fun c => bs.getD c false) i
  sp : Sp w wr [RowT 1 rv out.length (qvs out)]
set_option maxRecDepth 100000 in
set_option maxHeartbeats 4000000 in
theorem rlist_any (w : World) (A : Option Addr) (c : Nat) (bs : List Bool) (hl : bs.length = 4096) (h : Row w w.heap.size A (bvs bs)) :
    Calls Tryz.prog 31 #[.slice A 4096 c] w (NewL w (regOf (fun c => bs.getD c false) 4096)) := by
  have HR : Hid (∀ k, k < 4096 → ∃ b o, A = some ⟨b, o, none⟩ ∧ ∀ w', Below w.heap.size w w' → w'.cell? ⟨b, o + k, none⟩ = some (.bool (bs.getD k false))) := Lib.hid fun k hk => by
    obtain ⟨b, o, e, hlt, hc⟩ := h k (.bool (bs.getD k false)) (bvs_at (by rw [hl]; exact hk))
    exact ⟨b, o, e, fun w' hb => (hb.cell (p := ⟨b, o + k, none⟩) hlt).trans hc⟩
  have HF : Hid (∀ v w', Sp w w' [RowT 1 v (regOf (fun c => bs.getD c false) 4096).length (qvs (regOf (fun c => bs.getD c false) 4096))] → NewL w (regOf (fun c => bs.getD c false) 4096) (.returned v) w') := Lib.hid fun v w' hs => ⟨v, rfl, hs⟩
  have H4 := Lib.hid ((Sp.nil (Below.refl w.heap.size w)).nil_row 1)
  clear h hl
  generalize NewL w (regOf (fun c => bs.getD c false) 4096) = QQ at *
  go_enter Tryz.func31, Tryz.ntmps31
  go_wp2_with fail
  go_loopw [3, 4] (fun rv iv wr => ∃ i out, LsB w bs rv iv wr i out) (fun _ iv _ => 4096 - (intOf iv).toNat)
  case atStart => exact ⟨0, [], rfl, Nat.zero_le _, rfl, H4.out⟩
  case round =>
    clear H4
    obtain ⟨i, out, ⟨rfl, hi4, hout, hsp⟩⟩ := hrel
    obtain ⟨Ak, ck, rfl⟩ := (hsp.grow 0 rfl).slice
    have HSP := Lib.hid hsp
    have HOU := Lib.hid hout
    clear hsp
    by_cases hlt : i < 4096
    · obtain ⟨b, o, rfl, hc⟩ := HR.out i hlt
      have z := hc _ HSP.out.below
      have HRS := Lib.hid (regOf_succ (fun c => bs.getD c false) i)
      have HRL : Hid (out.length ≤ 4096) := Lib.hid (by rw [hout]; have := regOf_len (fun c => bs.getD c false) i; omega)
      clear hout hc
      cases hb : bs.getD i false
      · rw [hb] at z
        have H5 : Hid (LsB w bs (.slice Ak out.length ck) (.int .i64 ((i + 1 : Nat) : Int)) wr (i + 1) out) := Lib.hid ⟨rfl, hlt, by
          have e := HRS.out
          simp only [hb, Bool.false_eq_true, if_false, List.append_nil] at e
          rw [e]
          exact HOU.out, HSP.out⟩
        clear HRS HSP hb HOU
        go_wp2_with fail
        go_roundw
        case rel => exact ⟨i + 1, out, by simpa using H5.out⟩
        case measure => simp [intOf]; omega
      · rw [hb] at z
        have H5 : Hid (∀ v' w', Sp w w' [RowT 1 v' (out ++ [i]).length (qvs (out ++ [i]))] → LsB w bs v' (.int .i64 ((i + 1 : Nat) : Int)) w' (i + 1) (out ++ [i])) := Lib.hid fun v' w' h => ⟨rfl, hlt, by
          have e := HRS.out
          simp only [hb, if_true] at e
          rw [e, HOU.out], h⟩
        have HPU := Lib.hid (push_int (q := out) HSP.out 0 rfl i (by have := HRL.out; omega) 3)
        clear HRS hb HOU
        go_wp2_with (at_builtin; obtain ⟨v7, w7, r7, h7⟩ := HPU.out; have H7 := Lib.hid (H5.out v7 w7 h7); refine wpList_append_run rfl _ _ _ _ rfl (by simp [go_sem]) (by simp [go_sem]) r7 ?_; clear r7 h7)
        go_roundw
        case rel => exact ⟨i + 1, out ++ [i], by simpa using H7.out⟩
        case measure => simp [intOf]; omega
    · obtain rfl : i = 4096 := by omega
      subst hout
      have HX := Lib.hid (HF.out _ _ HSP.out)
      clear HR HOU HSP HF
      go_wp2_with fail
      first | exact HX.out | (go_ret; exact HX.out)
set_option maxHeartbeats 1000000 in
theorem rof_any (w : World) (A : Option Addr) (c : Nat) (l : List Int) (hl : l.length ≤ 9223372036854775807) (h : Row w w.heap.size A (ivs l)) :
    Calls Tryz.prog 9 #[.slice A l.length c] w (NewL w (regOf (fun c : Nat => decide ((c : Int) ∈ l)) 4096)) := by
  have HMK := Lib.hid (rmarks_any w A c l hl h)
  have HLS : Hid (∀ g w', Sp w w' [RowT 1 (slV g 4096) 4096 (bvs (mkL l))] → Calls Tryz.prog 31 #[slV g 4096] w' fun e w2 => ∃ v, e = .returned v ∧ NewL w (regOf (fun c : Nat => decide ((c : Int) ∈ l)) 4096) (.returned v) w2) := Lib.hid fun g w' hs => by
    have := rlist_any w' (some ⟨g, 0, none⟩) 4096 (mkL l) (mkL_len l) (row_of_grow (hs.grow 0 rfl))
    refine this.mono ?_
    rintro e w2 ⟨v, rfl, h2⟩
    refine ⟨v, rfl, v, rfl, ?_⟩
    have e2 : regOf (fun c => (mkL l).getD c false) 4096 = regOf (fun c => decide ((c : Int) ∈ l)) 4096 := by
      refine asc_unique (regOf_asc _ _) (regOf_asc _ _) fun a => ?_
      rw [regOf_mem, regOf_mem]
      refine and_congr_right fun ha => ?_
      rw [mkL_at l ha]
    rw [e2] at h2
    exact (join hs h2).pick (fun _ => 1) (fun i j hi hj _ => by simp at hi hj; omega) (fun i t h => by
      match i, h with
      | 0, h => exact h
      | i + 1, h => simp at h)
  clear h
  generalize NewL w (regOf (fun c : Nat => decide ((c : Int) ∈ l)) 4096) = QQ at *
  go_enter Tryz.func9, Tryz.ntmps9
  go_wp2_with (first
    | (go_at_call 32; refine HMK.out.mono ?_; rintro e w1 ⟨g, rfl, hs⟩; have HS1 := Lib.hid hs; clear hs)
    | (go_at_call 31; refine (HLS.out g w1 HS1.out).mono ?_; rintro e w2 ⟨v, rfl, hq⟩))
  first | exact hq | (go_ret; exact hq)
end Rgn
end Go.Proofs.YtgophgnfiboefaaGreatDoor

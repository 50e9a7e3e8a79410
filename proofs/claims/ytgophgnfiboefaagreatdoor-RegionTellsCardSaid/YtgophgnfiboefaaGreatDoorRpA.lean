/- The program's regions: Right, Of. -/
import Derived.Test.YtgophgnfiboefaaGreatDoorRgA
import Derived.Test.YtgophgnfiboefaaGreatDoorFpL
import Derived.Test.YtgophgnfiboefaaGreatDoorFpF
namespace Go.Proofs.YtgophgnfiboefaaGreatDoor
open Go.RowKit Wire
open Txt (Row)
open Go.Proofs.YtgophgnfiboefaaGreatDoor.Own Flo
open Dsk (Only nth)
set_option linter.unusedVariables false
set_option linter.unusedSimpArgs false
namespace Rgn
def isReg (l : List Int) : Bool := decide (l.Pairwise (· < ·) ∧ ∀ x ∈ l, 0 ≤ x ∧ x < 4096)
structure RiI (l : List Int) (i : Nat) (last : Int) : Prop where
  asc : (l.take i).Pairwise (· < ·)
  all : ∀ x ∈ l.take i, 0 ≤ x ∧ x < 4096 ∧ x ≤ last
  low : -1 ≤ last
  mem : last = -1 ∨ last ∈ l.take i
theorem RiI.start (l : List Int) : RiI l 0 (-1) := ⟨by simp, by simp, by omega, .inl rfl⟩
theorem RiI.next {l : List Int} {i : Nat} {last : Int} (h : RiI l i last) (hi : i < l.length) (h1 : ¬ l.getD i 0 ≤ last) (h2 : ¬ 4096 ≤ l.getD i 0) : RiI l (i + 1) (l.getD i 0) := by
  have e : l.take (i + 1) = l.take i ++ [l.getD i 0] := by
    rw [List.take_add_one, List.getD_eq_getElem?_getD, List.getElem?_eq_getElem hi]
    rfl
  have hl := h.low
  refine ⟨?_, ?_, by omega, .inr (by rw [e]; simp)⟩
  · rw [e, List.pairwise_append]
    refine ⟨h.asc, by simp, fun a ha b hb => ?_⟩
    rw [List.mem_singleton] at hb
    have := (h.all a ha).2.2
    omega
  · intro x hx
    rw [e] at hx
    rcases List.mem_append.1 hx with hx | hx
    · have := h.all x hx
      omega
    · rw [List.mem_singleton] at hx
      omega
theorem RiI.bad {l : List Int} {i : Nat} {last : Int} (h : RiI l i last) (hi : i < l.length) (hb : l.getD i 0 ≤ last ∨ 4096 ≤ l.getD i 0) : isReg l = false := by
  refine decide_eq_false fun ⟨k1, k2⟩ => ?_
  have e : l = l.take i ++ l.getD i 0 :: l.drop (i + 1) := by
    have := List.drop_eq_getElem_cons hi
    rw [List.getD_eq_getElem?_getD, List.getElem?_eq_getElem hi, Option.getD_some, ← this, List.take_append_drop]
  have hm : l.getD i 0 ∈ l := by
    rw [List.getD_eq_getElem?_getD, List.getElem?_eq_getElem hi]
    exact List.getElem_mem hi
  have hv := k2 _ hm
  rcases hb with hb | hb
  · rcases h.mem with e1 | e1
    · omega
    · rw [e, List.pairwise_append] at k1
      have := k1.2.2 _ e1 (l.getD i 0) (by simp)
      omega
  · omega
theorem RiI.done {l : List Int} {last : Int} (h : RiI l l.length last) : isReg l = true := by
  have h1 := h.asc
  have h2 := h.all
  rw [List.take_length] at h1 h2
  exact decide_eq_true ⟨h1, fun x hx => ⟨(h2 x hx).1, (h2 x hx).2.1⟩⟩
set_option maxHeartbeats 1000000 in
theorem right_reg (w : World) (A : Option Addr) (c : Nat) (l : List Int) (hl : l.length ≤ 9223372036854775807) (h : Row w w.heap.size A (ivs l)) :
    Calls Tryz.prog 5 #[.slice A l.length c] w fun e w' => e = .returned (.bool (isReg l)) ∧ w = w' := by
  have HR : Hid (∀ k, k < l.length → ∃ b o, A = some ⟨b, o, none⟩ ∧ ∀ w', Below w.heap.size w w' → w'.cell? ⟨b, o + k, none⟩ = some (.int .i64 (l.getD k 0))) := Lib.hid fun k hk => row_val h hk
  have HN : Hid (∀ (i : Nat) (last : Int), RiI l i last → i < l.length → last < l.getD i 0 → l.getD i 0 < 4096 → RiI l (i + 1) (l.getD i 0)) := Lib.hid fun i last h hi h1 h2 => h.next hi (by omega) (by omega)
  have HB : Hid (∀ (i : Nat) (last : Int), RiI l i last → i < l.length → l.getD i 0 ≤ last ∨ 4096 ≤ l.getD i 0 → isReg l = false) := Lib.hid fun i last h hi hb => h.bad hi hb
  have HD : Hid (∀ (last : Int), RiI l l.length last → isReg l = true) := Lib.hid fun last h => h.done
  have H0 := Lib.hid (RiI.start l)
  clear h
  generalize isReg l = r at *
  generalize hRI : RiI l = RI at *
  generalize hLL : l.getD = LL at *
  generalize l.length = len at *
  clear hLL hRI
  go_enter Tryz.func5, Tryz.ntmps5
  go_wp2_with fail
  go_loopw [3, 5, 8] (fun lv _ iv wr => ∃ (i : Nat) (last : Int), lv = .int .i64 last ∧ iv = .int .i64 i ∧ i ≤ len ∧ Hid (RI i last) ∧ wr = w) (fun _ _ iv _ => len - (intOf iv).toNat)
  case atStart => exact ⟨0, -1, rfl, rfl, Nat.zero_le _, H0, rfl⟩
  case round =>
    clear H0
    obtain ⟨i, last, rfl, rfl, hile, HI, rfl⟩ := hrel
    by_cases hlt : i < len
    · obtain ⟨b, o, rfl, hc⟩ := HR.out i hlt
      have z := hc _ (Below.refl _ _)
      have HNI := Lib.hid (HN.out i last HI.out hlt)
      have HBI := Lib.hid (HB.out i last HI.out hlt)
      clear hc
      generalize hv : LL i 0 = v at *
      clear hv
      by_cases h1 : v ≤ last
      · have HX := Lib.hid (HBI.out (.inl h1))
        go_wp2_with fail
        go_ret
        exact ⟨by rw [HX.out]; rfl, rfl⟩
      · by_cases h2 : 4096 ≤ v
        · have HX := Lib.hid (HBI.out (.inr h2))
          go_wp2_with fail
          go_ret
          exact ⟨by rw [HX.out]; rfl, rfl⟩
        · have HX := Lib.hid (HNI.out (by omega) (by omega))
          go_wp2_with fail
          go_roundw
          case rel => exact ⟨i + 1, v, rfl, by simp, hlt, HX, by first | rfl | trivial⟩
          case measure => simp [intOf]; omega
    · obtain rfl : len = i := by omega
      have HX := Lib.hid (HD.out last HI.out)
      go_wp2_with fail
      go_ret
      exact ⟨by rw [HX.out]; rfl, rfl⟩

/-- A list of cells comes back, in blocks of its own. -/
def NewL (w : World) (l : List Nat) (e : Ending) (w' : World) : Prop := ∃ v, e = .returned v ∧ Sp w w' [RowT 1 v l.length (qvs l)]
/-- The region of a list. -/
def regOf (p : Nat → Bool) (n : Nat) : List Nat := (List.range n).filter p
theorem regOf_succ (p : Nat → Bool) (n : Nat) : regOf p (n + 1) = regOf p n ++ if p n then [n] else [] := by
  unfold regOf
  rw [List.range_succ, List.filter_append]
  congr 1
  cases h : p n <;> simp [h]
theorem regOf_mem {p : Nat → Bool} {n x : Nat} : x ∈ regOf p n ↔ x < n ∧ p x = true := by
  unfold regOf
  rw [List.mem_filter, List.mem_range]
theorem regOf_asc (p : Nat → Bool) (n : Nat) : (regOf p n).Pairwise (· < ·) := List.Pairwise.filter p List.pairwise_lt_range
theorem asc_len {l : List Nat} {n : Nat} (h : l.Pairwise (· < ·)) (hn : ∀ x ∈ l, x < n) : l.length ≤ n :=
  nodup_len (h.imp (fun h => by omega)) hn
theorem regOf_len (p : Nat → Bool) (n : Nat) : (regOf p n).length ≤ n := asc_len (regOf_asc p n) fun x hx => (regOf_mem.1 hx).1
theorem mem_take_succ {l : List Int} {i : Nat} (h : i < l.length) (x : Int) : decide (x ∈ l.take (i + 1)) = (decide (x ∈ l.take i) || decide (l.getD i 0 = x)) := by
  have e : l.take (i + 1) = l.take i ++ [l.getD i 0] := by
    rw [List.take_add_one, List.getD_eq_getElem?_getD, List.getElem?_eq_getElem h]
    rfl
  rw [e, Bool.eq_iff_iff, decide_eq_true_iff, List.mem_append, List.mem_singleton, Bool.or_eq_true, decide_eq_true_iff, decide_eq_true_iff]
  exact or_congr Iff.rfl eq_comm
structure OfA (w : World) (g : Nat) (l : List Int) (iv : Value) (wr : World) (i : Nat) (bs : List Bool) : Prop where
  iv : iv = .int .i64 i
  le : i ≤ l.length
  sp : Sp w wr [RowT 1 (slV g 4096) 4096 (bvs bs)]
  len : bs.length = 4096
  val : ∀ c : Nat, c < 4096 → bs.getD c false = decide ((c : Int) ∈ l.take i)
structure OfB (w : World) (g : Nat) (bs : List Bool) (rv iv : Value) (wr : World) (i : Nat) (out : List Nat) : Prop where
  iv : iv = .int .i64 i
  le : i ≤ 4096
  isreg : out = regOf (fun c => bs.getD c false) i
  sp : Sp w wr [RowT 1 (slV g 4096) 4096 (bvs bs), RowT 1 rv out.length (qvs out)]
set_option maxRecDepth 100000 in
set_option maxHeartbeats 4000000 in
theorem of_any (w : World) (A : Option Addr) (c : Nat) (l : List Int) (hl : l.length ≤ 9223372036854775807) (h : Row w w.heap.size A (ivs l)) :
    Calls Tryz.prog 8 #[.slice A l.length c] w (NewL w (regOf (fun c => decide ((c : Int) ∈ l)) 4096)) := by
  have HR : Hid (∀ k, k < l.length → ∃ b o, A = some ⟨b, o, none⟩ ∧ ∀ w', Below w.heap.size w w' → w'.cell? ⟨b, o + k, none⟩ = some (.int .i64 (l.getD k 0))) := Lib.hid fun k hk => row_val h hk
  have HM : Hid (∀ i, i < l.length → ∀ x : Int, decide (x ∈ l.take (i + 1)) = (decide (x ∈ l.take i) || decide (l.getD i 0 = x))) := Lib.hid fun i hi x => mem_take_succ hi x
  have HF : Hid (∀ (bs : List Bool) v w', (∀ c : Nat, c < 4096 → bs.getD c false = decide ((c : Int) ∈ l.take l.length)) → Sp w w' [RowT 1 v (regOf (fun c => bs.getD c false) 4096).length (qvs (regOf (fun c => bs.getD c false) 4096))] → NewL w (regOf (fun c => decide ((c : Int) ∈ l)) 4096) (.returned v) w') := Lib.hid fun bs v w' hv hs => by
    have e : regOf (fun c => bs.getD c false) 4096 = regOf (fun c => decide ((c : Int) ∈ l)) 4096 := by
      refine asc_unique (regOf_asc _ _) (regOf_asc _ _) fun a => ?_
      rw [regOf_mem, regOf_mem]
      refine and_congr_right fun ha => ?_
      rw [hv a ha, List.take_length]
    rw [e] at hs
    exact ⟨v, rfl, hs⟩
  have HSN := Lib.hid (Sp.nil (Below.refl w.heap.size w))
  obtain ⟨ib, hib, hib0, hib1, hib2⟩ := info_parts info_bool
  clear h
  generalize NewL w (regOf (fun c => decide ((c : Int) ∈ l)) 4096) = QQ at *
  go_enter Tryz.func8, Tryz.ntmps8
  go_upto_region 2 with (refine wpList_make_row rfl _ _ 38 4 ib _ 1 rfl Tryz.underlying38 hib hib0 hib1 hib2 (by omega) rfl 4096 (by omega) rfl rfl ?_; intro w1 g1 b1)
  have H1 : Hid (Sp w w1 [RowT 1 (slV w.heap.size 4096) 4096 (bvs (List.replicate 4096 false))]) := Lib.hid (by
    have := HSN.out.new_row b1 g1
    rw [show bvs (List.replicate 4096 false) = List.replicate 4096 (Value.bool false) from List.map_replicate ..]
    exact this)
  generalize hgg : w.heap.size = g at *
  clear g1 b1 HSN
  go_wp2_with fail
  go_loopw [5, 12] (fun _ iv wr => ∃ i bs, OfA w g l iv wr i bs) (fun _ iv _ => l.length - (intOf iv).toNat)
  case atStart => exact ⟨0, _, rfl, Nat.zero_le _, H1.out, List.length_replicate, fun c hc => by rw [List.getD_eq_getElem?_getD, List.getElem?_replicate, if_pos hc]; simp⟩
  case round =>
    clear H1
    obtain ⟨i, bs, ⟨rfl, hi, hsp, hlen, hval⟩⟩ := hrel
    by_cases hlt : i < l.length
    · obtain ⟨b, o, rfl, hc⟩ := HR.out i hlt
      have z := hc _ (hgg ▸ hsp.below)
      have HMI := Lib.hid (HM.out i hlt)
      have HSP := Lib.hid hsp
      have HLN := Lib.hid hlen
      have HVA := Lib.hid hval
      clear hc hsp hlen hval
      generalize l.getD i 0 = v at *
      by_cases h1 : 0 ≤ v
      · by_cases h2 : v < 4096
        · obtain ⟨k, rfl⟩ : ∃ k : Nat, v = k := ⟨v.toNat, by omega⟩
          have hk : k < 4096 := by omega
          obtain ⟨x0, x1⟩ := Grow.cell (HSP.out.grow 0 rfl) (bvs_at (l := bs) (k := k) (by rw [HLN.out]; exact hk))
          have H3 : Hid (Sp w (wr.setCell ⟨g, k, none⟩ (.bool true)) [RowT 1 (slV g 4096) 4096 (bvs (bs.set k true))]) := Lib.hid (by have := HSP.out.store 0 rfl k hk (.bool true); rw [bvs_set] at this; exact this)
          have HV2 : Hid (∀ c : Nat, c < 4096 → (bs.set k true).getD c false = decide ((c : Int) ∈ l.take (i + 1))) := Lib.hid fun c hc => by
            rw [HMI.out, getD_set _ _ _ _ (by rw [HLN.out]; exact hk)]
            by_cases e : c = k
            · subst e
              simp
            · rw [if_neg e, HVA.out c hc]
              have : decide ((k : Int) = (c : Int)) = false := decide_eq_false (by omega)
              rw [this, Bool.or_false]
          have HL2 : Hid ((bs.set k true).length = 4096) := Lib.hid (by rw [List.length_set]; exact HLN.out)
          clear HMI HVA HLN HSP
          generalize bs.set k true = bs2 at *
          go_wp2_with fail
          go_roundw
          case rel => exact ⟨i + 1, bs2, by simp, hlt, H3.out, HL2.out, HV2.out⟩
          case measure => simp [intOf]; omega
        · have HV2 : Hid (∀ c : Nat, c < 4096 → bs.getD c false = decide ((c : Int) ∈ l.take (i + 1))) := Lib.hid fun c hc => by
            have : decide (v = (c : Int)) = false := decide_eq_false (by omega)
            rw [HMI.out, HVA.out c hc, this, Bool.or_false]
          clear HMI HVA
          go_wp2_with fail
          go_roundw
          case rel => exact ⟨i + 1, bs, by simp, hlt, HSP.out, HLN.out, HV2.out⟩
          case measure => simp [intOf]; omega
      · have HV2 : Hid (∀ c : Nat, c < 4096 → bs.getD c false = decide ((c : Int) ∈ l.take (i + 1))) := Lib.hid fun c hc => by
          have : decide (v = (c : Int)) = false := decide_eq_false (by omega)
          rw [HMI.out, HVA.out c hc, this, Bool.or_false]
        clear HMI HVA
        go_wp2_with fail
        go_roundw
        case rel => exact ⟨i + 1, bs, by simp, hlt, HSP.out, HLN.out, HV2.out⟩
        case measure => simp [intOf]; omega
    · obtain rfl : i = l.length := by omega
      have H4 : Hid (Sp w wr [RowT 1 (slV g 4096) 4096 (bvs bs), RowT 1 (.slice none 0 0) 0 []]) := Lib.hid (hsp.nil_row 1)
      have HLN := Lib.hid hlen
      have HVA := Lib.hid hval
      clear hsp hlen hval HM HR
      go_wp2_with fail
      go_loopw [6, 7, 8, 28] (fun rv _ _ iv wr => ∃ i out, OfB w g bs rv iv wr i out) (fun _ _ _ iv _ => 4096 - (intOf iv).toNat)
      case atStart => exact ⟨0, [], rfl, Nat.zero_le _, rfl, H4.out⟩
      case round =>
        clear H4
        obtain ⟨i, out, ⟨rfl, hi4, hout, hsp⟩⟩ := hrel
        obtain ⟨Ak, ck, rfl⟩ := (hsp.grow 1 rfl).slice
        have HSP := Lib.hid hsp
        have HOU := Lib.hid hout
        clear hsp
        by_cases hlt : i < 4096
        · obtain ⟨x0, x1⟩ := Grow.cell (HSP.out.grow 0 rfl) (bvs_at (l := bs) (k := i) (by rw [HLN.out]; exact hlt))
          have HRS := Lib.hid (regOf_succ (fun c => bs.getD c false) i)
          have HRL : Hid (out.length ≤ 4096) := Lib.hid (by rw [hout]; have := regOf_len (fun c => bs.getD c false) i; omega)
          clear hout
          cases hb : bs.getD i false
          · rw [hb] at x0
            have H5 : Hid (OfB w g bs (.slice Ak out.length ck) (.int .i64 ((i + 1 : Nat) : Int)) wr (i + 1) out) := Lib.hid ⟨rfl, hlt, by
              have e := HRS.out
              simp only [hb, Bool.false_eq_true, if_false, List.append_nil] at e
              rw [e]
              exact HOU.out, HSP.out⟩
            clear HRS HSP hb HOU
            go_wp2_with fail
            go_roundw
            case rel => exact ⟨i + 1, out, by simpa using H5.out⟩
            case measure => simp [intOf]; omega
          · rw [hb] at x0
            have H5 : Hid (∀ v' w', Sp w w' [RowT 1 (slV g 4096) 4096 (bvs bs), RowT 1 v' (out ++ [i]).length (qvs (out ++ [i]))] → OfB w g bs v' (.int .i64 ((i + 1 : Nat) : Int)) w' (i + 1) (out ++ [i])) := Lib.hid fun v' w' h => ⟨rfl, hlt, by
              have e := HRS.out
              simp only [hb, if_true] at e
              rw [e, HOU.out], h⟩
            have HPU := Lib.hid (push_int (q := out) HSP.out 1 rfl i (by have := HRL.out; omega) 3)
            clear HRS hb HOU
            go_wp2_with (at_builtin; obtain ⟨v7, w7, r7, h7⟩ := HPU.out; have H7 := Lib.hid (H5.out v7 w7 h7); refine wpList_append_run rfl _ _ _ _ rfl (by simp [go_sem]) (by simp [go_sem]) r7 ?_; clear r7 h7)
            go_roundw
            case rel => exact ⟨i + 1, out ++ [i], by simpa using H7.out⟩
            case measure => simp [intOf]; omega
        · obtain rfl : i = 4096 := by omega
          have HX := Lib.hid (HF.out bs (.slice Ak out.length ck) wr HVA.out (by
            have := HSP.out.pick (T' := [RowT 1 (.slice Ak out.length ck) out.length (qvs out)]) (fun _ => 1) (fun i j hi hj h => by simp at hi hj; omega) (fun i t h => by
              match i, h with
              | 0, h => exact h
              | i + 1, h => simp at h)
            rw [← hout]
            exact this))
          clear HF
          go_wp2_with fail
          exact HX.out
end Rgn
end Go.Proofs.YtgophgnfiboefaaGreatDoor

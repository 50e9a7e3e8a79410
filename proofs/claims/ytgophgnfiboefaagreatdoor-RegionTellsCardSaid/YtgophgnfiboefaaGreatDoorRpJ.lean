/- The program's Linked, Edge. -/
import Derived.Test.YtgophgnfiboefaaGreatDoorRpI
namespace Go.Proofs.YtgophgnfiboefaaGreatDoor
open Go.RowKit Wire
open Txt (Row)
open Go.Proofs.YtgophgnfiboefaaGreatDoor.Own Flo
open Dsk (Only nth)
set_option linter.unusedVariables false
set_option linter.unusedSimpArgs false
namespace Rgn
noncomputable section
open Classical in
/-- The parts of a region. -/
def partsOf (f : Fl) (r : List Nat) : List (List Nat) := if h : ∃ Ps, IsParts (stE f.next) (opn (usL f r)) Ps then h.choose else []
theorem partsOf_eq {f : Fl} {r : List Nat} {Ps : List (List Nat)} (h : IsParts (stE f.next) (opn (usL f r)) Ps) : Ps = partsOf f r := by
  have hex : ∃ Ps, IsParts (stE f.next) (opn (usL f r)) Ps := ⟨Ps, h⟩
  unfold partsOf
  rw [dif_pos hex]
  exact h.unique hex.choose_spec
/-- Is it linked? -/
def lnkB (f : Fl) (r : List Nat) : Bool := decide (r = [] ∨ partsOf f r = [r])
end
def PartsOf (f : Fl) (r : List Nat) (w : World) (e : Ending) (w' : World) : Prop :=
  ∃ (A : Option Addr) (c : Nat) (qs : PartL), e = .returned (.slice A qs.length c) ∧ qs.map (·.2) = partsOf f r ∧ IsParts (stE f.next) (opn (usL f r)) (qs.map (·.2)) ∧ Row w' w'.heap.size A (qs.map (·.1)) ∧ (∀ q ∈ qs, ∃ A' c', q.1 = .slice A' q.2.length c' ∧ Row w' w'.heap.size A' (qvs q.2)) ∧ Below w.heap.size w w'
theorem partsOf_any {f : Fl} (ho : f.ok) (p : Pl) (B : Option Addr) (cb : Nat) (r : List Nat) (w : World) (hv : VS w) (hvo : VO w) (hin : FlIn w f p) (hra : Row w w.heap.size B (qvs r)) (hla : r.length ≤ 1000000) :
    Calls Tryz.prog 23 #[f.val p, .slice B r.length cb] w (PartsOf f r w) := by
  refine (parts_any ho p B cb r w hv hvo hin hra hla).mono ?_
  rintro e w' ⟨A, c, qs, rfl, h1, h2⟩
  exact ⟨A, c, qs, rfl, partsOf_eq h1, h1, h2⟩
theorem ivn_inj {a b : List Nat} (h : ivn a = ivn b) : a = b := by
  have := congrArg (List.map Int.toNat) h
  unfold ivn at this
  rw [List.map_map, List.map_map] at this
  have e : ∀ l : List Nat, l.map (Int.toNat ∘ fun c : Nat => (c : Int)) = l := fun l => (List.map_congr_left fun x _ => by simp).trans (List.map_id' l)
  rw [e, e] at this
  exact this
theorem usL_small {f : Fl} (ho : f.ok) {r : List Nat} {Ps : List (List Nat)} (h : IsParts (stE f.next) (opn (usL f r)) Ps) {p : List Nat} (hp : p ∈ Ps) : Reg p ∧ ∀ x ∈ p, x < f.Kind.length ∧ x ∈ r := by
  have hx : ∀ x ∈ p, x < f.Kind.length ∧ x ∈ r := fun x hx => by
    have h1 := ((h.cls p hp x hx x).1 hx).1
    have h2 := opn_lt h1
    rw [usL_len] at h2
    refine ⟨h2, ?_⟩
    unfold opn at h1
    rw [usL_at f r h2] at h1
    unfold usB at h1
    simp at h1
    exact h1.1
  exact ⟨⟨h.asc p hp, fun x hxp => by have := (hx x hxp).1; have := ho.kinds; have := ho.size; omega⟩, hx⟩
set_option maxRecDepth 100000 in
set_option maxHeartbeats 4000000 in
theorem linked_any {f : Fl} (ho : f.ok) (p : Pl) (B : Option Addr) (cb : Nat) (r : List Nat) (w : World) (hv : VS w) (hvo : VO w) (hin : FlIn w f p) (hra : Row w w.heap.size B (qvs r)) (hla : r.length ≤ 1000000) :
    Calls Tryz.prog 25 #[f.val p, .slice B r.length cb] w fun e w' => e = .returned (.bool (lnkB f r)) ∧ Below w.heap.size w w' := by
  have HPA := Lib.hid (fun w' (b : Below w.heap.size w w') => partsOf_any ho p B cb r w' (hv.lift b) (hvo.lift b) (hin.lift b) (hra.lift b) hla)
  have HSA : Hid (∀ (q : List Nat) A c w', q.length ≤ 1000000 → Row w' w'.heap.size A (qvs q) → Below w.heap.size w w' → Calls Tryz.prog 21 #[.slice A q.length c, .slice B r.length cb] w' fun e w'' => e = .returned (.bool (decide (q = r))) ∧ Below w'.heap.size w' w'') := Lib.hid fun q A c w' hq h1 b => by
    have h2 := hra.lift b
    have := regSame_any w' A B c cb (ivn q) (ivn r) (by simpa using hq) (by simpa using hla) (by rw [ivs_ivn]; exact h1) (by rw [ivs_ivn]; exact h2)
    rw [List.length_map, List.length_map] at this
    rw [show decide (q = r) = decide (ivn q = ivn r) from by rw [Bool.eq_iff_iff, decide_eq_true_iff, decide_eq_true_iff]; exact ⟨fun e => by rw [e], ivn_inj⟩]
    exact this
  have HPL : Hid (∀ Ps q, IsParts (stE f.next) (opn (usL f r)) Ps → q ∈ Ps → q.length ≤ 1000000) := Lib.hid fun Ps q h hq => by have := (usL_small ho h hq).1.len; omega
  have HL0 : Hid (r.length = 0 → lnkB f r = true) := Lib.hid fun h => decide_eq_true (.inl (List.eq_nil_of_length_eq_zero h))
  have HL1 : Hid (∀ qs : PartL, ¬ r.length = 0 → qs.map (·.2) = partsOf f r → qs.length ≠ 1 → lnkB f r = false) := Lib.hid fun qs h0 h1 h2 => decide_eq_false (fun h => by
    rcases h with h | h
    · exact h0 (by rw [h]; rfl)
    · rw [← h1] at h
      have := congrArg List.length h
      simp at this
      exact h2 this)
  have HL2 : Hid (∀ q : Value × List Nat, ¬ r.length = 0 → [q].map (·.2) = partsOf f r → lnkB f r = decide (q.2 = r)) := Lib.hid fun q h0 h1 => by
    unfold lnkB
    rw [Bool.eq_iff_iff, decide_eq_true_iff, decide_eq_true_iff, ← h1]
    constructor
    · rintro (h | h)
      · exact absurd (by rw [h]; rfl) h0
      · simpa using h
    · intro h
      exact .inr (by simp [h])
  have HB0 : Hid (∀ o, Below w.heap.size w (w.alloc o)) := Lib.hid fun o => (Below.refl _ w).alloc (Nat.le_refl _) o
  clear hv hvo hin hra ho
  unfold PartsOf at HPA
  generalize lnkB f r = res at *
  generalize partsOf f r = PO at *
  generalize stE f.next = E at *
  generalize opn (usL f r) = U at *
  obtain ⟨A1, c1, A2, c2⟩ := p
  obtain ⟨W, H, D, K, O⟩ := f
  dsimp only [Fl.val] at *
  generalize K.length = n at *
  generalize O.length = n2 at *
  have hla' : (r.length : Int) ≤ 1000000 := by omega
  by_cases h0 : r.length = 0
  · have HR := Lib.hid (HL0.out h0)
    rw [h0] at HPA ⊢
    clear HL0 HL1 HL2 HSA HPL
    go_enter Tryz.func25, Tryz.ntmps25
    go_wp2_with (go_at_call 23; refine (HPA.out _ (HB0.out _)).mono ?_; rintro e w3 ⟨A, c, qs, rfl, _, _, _, _, b3⟩; have B3 := Lib.hid (next_below (HB0.out _) b3))
    go_ret
    exact ⟨by rw [HR.out]; rfl, B3.out⟩
  · have hr0 : ((r.length : Int) == 0) = false := by rw [beq_eq_false_iff_ne]; omega
    have HR0 := Lib.hid h0
    generalize r.length = rl at *
    go_enter Tryz.func25, Tryz.ntmps25
    go_upto_region 2 with (go_at_call 23; refine (HPA.out _ (HB0.out _)).mono ?_; rintro e w3 ⟨A, c, qs, rfl, hpo, hip, hrow, hpt, b3⟩; have B3 := Lib.hid (next_below (HB0.out _) b3); have HPO := Lib.hid hpo; have HIP := Lib.hid hip; have HROW := Lib.hid hrow; have HPT := Lib.hid hpt; clear b3 hpo hip hrow hpt)
    by_cases h1 : qs.length = 1
    · obtain ⟨q, rfl⟩ : ∃ q, qs = [q] := List.length_eq_one_iff.1 h1
      obtain ⟨A', c', e', hrw⟩ := HPT.out q (by simp)
      obtain ⟨b, o, rfl, _, hc⟩ := HROW.out 0 q.1 rfl
      have HRS := Lib.hid (HL2.out q HR0.out HPO.out)
      have HCS := Lib.hid (HSA.out q.2 A' c' w3 (HPL.out _ q.2 HIP.out (by simp)) hrw B3.out)
      rw [e'] at hc
      rw [Nat.add_zero] at hc
      clear h1 HPO HIP HROW HPT HL0 HL1 HL2 HSA hrw e' HPL
      go_wp2_with (go_at_call 21; refine HCS.out.mono ?_; rintro e w4 ⟨rfl, b4⟩; have B4 := Lib.hid (next_below B3.out b4); clear b4)
      go_ret
      exact ⟨by rw [HRS.out]; rfl, B4.out⟩
    · have h1' : ((qs.length : Int) == 1) = false := by rw [beq_eq_false_iff_ne]; omega
      have HRS := Lib.hid (HL1.out qs HR0.out HPO.out h1)
      clear h1 HPO HIP HROW HPT HL0 HL1 HL2 HSA HPL
      go_wp2_with fail
      go_ret
      exact ⟨by rw [HRS.out]; rfl, B3.out⟩
/-- Does one get out? -/
def outB (f : Fl) (r : List Nat) (c : Nat) : Bool := (List.range 6).any fun d => match f.next c d with
  | none => false
  | some y => !hasB r y
structure LoI (w : World) (n : Nat) (P : Nat → Bool) (B1 : Nat → Prop) (iv : Value) (wr : World) (d : Nat) : Prop where
  iv : iv = .int .i64 d
  le : d ≤ 6
  no : ∀ j, j < d → P j = false
set_option maxRecDepth 100000 in
set_option maxHeartbeats 4000000 in
theorem leads_any {f : Fl} (ho : f.ok) (p : Pl) (B : Option Addr) (cb : Nat) (r : List Nat) (c : Nat) (w : World) (hv : VS w) (hin : FlIn w f p) (hr : r.Pairwise (· < ·)) (hra : Row w w.heap.size B (qvs r)) (hla : r.length ≤ 1000000) :
    Calls Tryz.prog 51 #[f.val p, .slice B r.length cb, .int .i64 c] w fun e w' => e = .returned (.bool (outB f r c)) ∧ Below w.heap.size w w' := by
  have HNX := Lib.hid (fun w' (b : Below w.heap.size w w') (d : Int) => next_any ho p c d w' (hv.lift b) (hin.lift b))
  have HHA := Lib.hid (fun w' (b : Below w.heap.size w w') (x : Int) => regHas_any w' B cb r x hr hla (hra.lift b))
  obtain ⟨PP, hPP⟩ : ∃ PP : Nat → Bool, PP = fun d : Nat => (match f.next c d with | none => false | some y => !hasB r y) := ⟨_, rfl⟩
  have HPN : Hid (∀ d : Nat, f.next c d = none → PP d = false) := Lib.hid fun d e => by rw [hPP]; simp only; rw [e]
  have HPS : Hid (∀ (d : Nat) y, f.next c d = some y → PP d = !hasB r y) := Lib.hid fun d y e => by rw [hPP]; simp only; rw [e]
  have HT : Hid (∀ d : Nat, d < 6 → PP d = true → outB f r c = true) := Lib.hid fun d hd e => by
    unfold outB
    rw [List.any_eq_true]
    rw [hPP] at e
    exact ⟨d, by simpa using hd, e⟩
  have HF : Hid ((∀ d : Nat, d < 6 → PP d = false) → outB f r c = false) := Lib.hid fun h => by
    unfold outB
    rw [List.any_eq_false]
    intro d hd
    have := h d (by simpa using hd)
    rw [hPP] at this
    simpa using this
  clear hPP hv hin hr hra ho
  have hcn : (0 : Int) ≤ (c : Int) := by omega
  generalize f.next (c : Int) = NX at *
  generalize outB f r c = res at *
  generalize hasB r = HB at *
  obtain ⟨A1, c1, A2, c2⟩ := p
  obtain ⟨W, H, D, K, O⟩ := f
  dsimp only [Fl.val] at *
  generalize K.length = n at *
  generalize O.length = n2 at *
  generalize r.length = rl at *
  have H0 : Hid (Sp w (w.alloc (.cells #[.int .i64 W, .int .i64 H, .int .i64 D, .slice A1 n c1, .slice A2 n2 c2] 24)) [BlkT w.heap.size 24 (boxV W H D A1 n c1 A2 n2 c2)]) := Lib.hid ((Sp.nil (Below.refl w.heap.size w)).local 24 (boxV W H D A1 n c1 A2 n2 c2))
  go_enter Tryz.func51, Tryz.ntmps51
  go_wp2_with fail
  go_loopw [7, 8, 9, 10] (fun _ _ _ iv wr => ∃ d, iv = .int .i64 ((d : Nat) : Int) ∧ d ≤ 6 ∧ Hid (∀ j, j < d → PP j = false) ∧ Hid (Sp w wr [BlkT w.heap.size 24 (boxV W H D A1 n c1 A2 n2 c2)])) (fun _ _ _ iv _ => 6 - (intOf iv).toNat)
  case atStart => exact ⟨0, rfl, by omega, Lib.hid fun j h => by omega, H0⟩
  case round =>
    clear H0
    obtain ⟨d, rfl, hd, HNO, HSP⟩ := hrel
    obtain ⟨m0, m1, m2, m3, m4⟩ := boxS (HSP.out.blk 0 rfl)
    by_cases hlt : d < 6
    · have hd9 : (d : Int) < 6 := by omega
      have HCA := Lib.hid (HNX.out wr HSP.out.below d)
      cases hnx : NX d with
      | none =>
        rw [hnx] at HCA
        have HN2 : Hid (∀ j, j < d + 1 → PP j = false) := Lib.hid fun j hj => by
          by_cases e : j = d
          · rw [e]; exact HPN.out d hnx
          · exact HNO.out j (by omega)
        clear hnx HNO HPN HPS HT HF HHA
        go_wp2_with (go_at_call 65; refine HCA.out.mono ?_; rintro e w5 ⟨rfl, b5⟩; have H5 := Lib.hid (HSP.out.keep b5); clear b5)
        go_roundw
        case rel => exact ⟨d + 1, by simp, hlt, HN2, H5⟩
        case measure => simp [intOf]; omega
      | some y =>
        rw [hnx] at HCA
        have HPD := Lib.hid (HPS.out d y hnx)
        cases hb : HB y
        · have HX := Lib.hid (HT.out d hlt (by rw [HPD.out, hb]; rfl))
          have HCH := Lib.hid (fun w' b => HHA.out w' b y)
          rw [hb] at HCH
          clear hnx HNO HPN HPS HT HF HHA hb HPD
          go_wp2_with (first
            | (go_at_call 65; refine HCA.out.mono ?_; rintro e w5 ⟨rfl, b5⟩; have H5 := Lib.hid (HSP.out.keep b5); clear b5)
            | (go_at_call 17; refine (HCH.out _ H5.out.below).mono ?_; rintro e w6 ⟨rfl, b6⟩; have H6 := Lib.hid (H5.out.keep b6); clear b6))
          go_ret
          exact ⟨by rw [HX.out]; rfl, H6.out.below⟩
        · have HN2 : Hid (∀ j, j < d + 1 → PP j = false) := Lib.hid fun j hj => by
            by_cases e : j = d
            · rw [e, HPD.out, hb]; rfl
            · exact HNO.out j (by omega)
          have HCH := Lib.hid (fun w' b => HHA.out w' b y)
          rw [hb] at HCH
          clear hnx HNO HPN HPS HT HF HHA hb HPD
          go_wp2_with (first
            | (go_at_call 65; refine HCA.out.mono ?_; rintro e w5 ⟨rfl, b5⟩; have H5 := Lib.hid (HSP.out.keep b5); clear b5)
            | (go_at_call 17; refine (HCH.out _ H5.out.below).mono ?_; rintro e w6 ⟨rfl, b6⟩; have H6 := Lib.hid (H5.out.keep b6); clear b6))
          go_roundw
          case rel => exact ⟨d + 1, by simp, hlt, HN2, H6⟩
          case measure => simp [intOf]; omega
    · obtain rfl : d = 6 := by omega
      have HX := Lib.hid (HF.out HNO.out)
      clear HNO HPN HPS HT HF HHA HNX
      go_wp2_with fail
      go_ret
      exact ⟨by rw [HX.out]; rfl, HSP.out.below⟩
theorem filter_take_succ {l : List Nat} {i : Nat} (h : i < l.length) (p : Nat → Bool) : (l.take (i + 1)).filter p = (l.take i).filter p ++ if p (l.getD i 0) then [l.getD i 0] else [] := by
  rw [List.take_add_one, List.filter_append, List.getD_eq_getElem?_getD, List.getElem?_eq_getElem h]
  congr 1
  simp only [Option.getD_some, Option.toList_some]
  cases hp : p l[i] <;> simp [hp]
set_option maxRecDepth 100000 in
set_option maxHeartbeats 4000000 in
theorem edge_any {f : Fl} (ho : f.ok) (p : Pl) (B : Option Addr) (cb : Nat) (r : List Nat) (w : World) (hv : VS w) (hin : FlIn w f p) (hr : Reg r) (hra : Row w w.heap.size B (qvs r)) :
    Calls Tryz.prog 27 #[f.val p, .slice B r.length cb] w (NewL w (r.filter (outB f r))) := by
  have hla : r.length ≤ 1000000 := by have := hr.len; omega
  have HLD := Lib.hid (fun w' (b : Below w.heap.size w w') (c : Nat) => leads_any ho p B cb r c w' (hv.lift b) (hin.lift b) hr.asc (hra.lift b) hla)
  have HAV : Hid (∀ k, k < r.length → ∃ b o, B = some ⟨b, o, none⟩ ∧ ∀ w', Below w.heap.size w w' → w'.cell? ⟨b, o + k, none⟩ = some (.int .i64 (r.getD k 0 : Nat))) := Lib.hid fun k hk => row_valN hra hk
  have HFS : Hid (∀ i, i < r.length → (r.take (i + 1)).filter (outB f r) = (r.take i).filter (outB f r) ++ if outB f r (r.getD i 0) then [r.getD i 0] else []) := Lib.hid fun i hi => filter_take_succ hi _
  have HLN : Hid (∀ i, ((r.take i).filter (outB f r)).length ≤ 4096) := Lib.hid fun i => by
    have h1 := List.length_filter_le (outB f r) (r.take i)
    have h2 := hr.len
    rw [List.length_take] at h1
    omega
  have HEN : Hid (∀ v w' T out, out = (r.take r.length).filter (outB f r) → Sp w w' (T :: [RowT 1 v out.length (qvs out)]) → NewL w (r.filter (outB f r)) (.returned v) w') := Lib.hid fun v w' T out ho hs => by
    rw [List.take_length] at ho
    subst ho
    exact ⟨v, rfl, hs.pick (fun _ => 1) (fun i j hi hj h => by simp at hi hj; omega) (fun i t h => by
      match i, h with
      | 0, h => exact h
      | i + 1, h => simp at h)⟩
  generalize NewL w (r.filter (outB f r)) = QQ at *
  have hla' : (r.length : Int) ≤ 1000000 := by omega
  clear hv hin hr hra ho hla
  generalize outB f r = OB at *
  obtain ⟨A1, c1, A2, c2⟩ := p
  obtain ⟨W, H, D, K, O⟩ := f
  dsimp only [Fl.val] at *
  generalize K.length = n at *
  generalize O.length = n2 at *
  have H0 : Hid (Sp w (w.alloc (.cells #[.int .i64 W, .int .i64 H, .int .i64 D, .slice A1 n c1, .slice A2 n2 c2] 24)) [BlkT w.heap.size 24 (boxV W H D A1 n c1 A2 n2 c2), RowT 1 (.slice none 0 0) ([] : List Nat).length (qvs [])]) := Lib.hid (((Sp.nil (Below.refl w.heap.size w)).local 24 (boxV W H D A1 n c1 A2 n2 c2)).nil_row 1)
  go_enter Tryz.func27, Tryz.ntmps27
  go_wp2_with fail
  go_loopw [5, 7, 10] (fun rv _ iv wr => ∃ i out, iv = .int .i64 ((i : Nat) : Int) ∧ i ≤ r.length ∧ Hid (out = (r.take i).filter OB) ∧ Hid (Sp w wr [BlkT w.heap.size 24 (boxV W H D A1 n c1 A2 n2 c2), RowT 1 rv out.length (qvs out)])) (fun _ _ iv _ => r.length - (intOf iv).toNat)
  case atStart => exact ⟨0, [], rfl, by omega, Lib.hid (by simp), H0⟩
  case round =>
    clear H0
    obtain ⟨i, out, rfl, hi, HOU, HSP⟩ := hrel
    obtain ⟨Aq, cq, rfl⟩ := (HSP.out.grow 1 rfl).slice
    obtain ⟨m0, m1, m2, m3, m4⟩ := boxS (HSP.out.blk 0 rfl)
    by_cases hlt : i < r.length
    · obtain ⟨b, o, rfl, hc⟩ := HAV.out i hlt
      have z := hc _ HSP.out.below
      have HF1 := Lib.hid (HFS.out i hlt)
      have HOL : Hid (out.length ≤ 100000) := Lib.hid (by rw [HOU.out]; have := HLN.out i; omega)
      clear hc HFS
      generalize r.getD i 0 = k at *
      have HCA := Lib.hid (HLD.out wr HSP.out.below k)
      have hk0 : (0 : Int) ≤ (k : Int) := by omega
      cases hob : OB k
      · rw [hob] at HCA
        have HO2 : Hid (out = (r.take (i + 1)).filter OB) := Lib.hid (by rw [HF1.out, hob, HOU.out]; simp)
        clear hob HF1 HOU
        go_wp2_with (go_at_call 51; refine HCA.out.mono ?_; rintro e w5 ⟨rfl, b5⟩; have H5 := Lib.hid (HSP.out.keep b5); clear b5)
        go_roundw
        case rel => exact ⟨i + 1, out, by simp, hlt, HO2, H5⟩
        case measure => simp [intOf]; omega
      · rw [hob] at HCA
        have HO2 : Hid (out ++ [k] = (r.take (i + 1)).filter OB) := Lib.hid (by rw [HF1.out, hob, HOU.out]; simp)
        clear hob HF1 HOU
        go_wp2_with (first
          | (go_at_call 51; refine HCA.out.mono ?_; rintro e w5 ⟨rfl, b5⟩; have H5 := Lib.hid (HSP.out.keep b5); have HPU := Lib.hid (push_int (q := out) H5.out 1 rfl k HOL.out 3); clear b5)
          | (at_builtin; obtain ⟨v7, w7, r7, h7⟩ := HPU.out; have H7 : Hid (Sp w w7 [BlkT w.heap.size 24 (boxV W H D A1 n c1 A2 n2 c2), RowT 1 v7 (out ++ [k]).length (qvs (out ++ [k]))]) := Lib.hid h7; refine wpList_append_run rfl _ _ _ _ rfl (by simp [go_sem]) (by simp [go_sem]) r7 ?_; clear r7 h7))
        go_roundw
        case rel => exact ⟨i + 1, out ++ [k], by simp, hlt, HO2, H7⟩
        case measure => simp [intOf]; omega
    · obtain rfl : i = r.length := by omega
      have HX := Lib.hid (HEN.out (.slice Aq out.length cq) wr _ out HOU.out HSP.out)
      clear HAV HFS HLN HEN HLD
      go_wp2_with fail
      have hx := HX.out
      exact hx
end Rgn
end Go.Proofs.YtgophgnfiboefaaGreatDoor

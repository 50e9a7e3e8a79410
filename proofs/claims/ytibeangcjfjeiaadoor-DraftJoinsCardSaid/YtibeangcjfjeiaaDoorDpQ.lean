/- Package draft's rightItem. -/
import Derived.Test.YtibeangcjfjeiaaDoorMgP
import Derived.Test.YtibeangcjfjeiaaDoorMgJ
import Derived.Deep.DeepMust
import Derived.Deep.DeepCutAuto
namespace Go.Proofs.YtibeangcjfjeiaaDoor
open Go.RowKit Txt Wire Lx
set_option linter.unusedVariables false
set_option maxRecDepth 100000
set_option linter.unusedSimpArgs false
namespace Drf

/-- Between two places. -/
structure RtR (w wr : World) (x : It) (u : Value) (ps : List UInt8) (R : Option (Bool × Bool × List Int)) (i : Nat) (a b : Bool) (l : List Int) (v : Value) : Prop where
  le : i ≤ ps.length
  iter : wr.heap[w.heap.size + 1]? = some (.stringIter ⟨ps.toArray⟩ i)
  box : Blk wr w.heap.size 34 (itC x u).toArray
  below : Below w.heap.size w wr
  nums : HasInts wr v l
  rest : rpR x (ps.drop i) a b l = R
  short : l.length ≤ x.n.length
theorem HasInts.tail {w : World} {A : Option Addr} {n c : Nat} {z : Int} {l : List Int} (h : HasInts w (.slice A n c) (z :: l)) : ∃ b o, A = some ⟨b, o, none⟩ ∧ b < w.heap.size ∧ n = l.length + 1 ∧ l.length + 1 ≤ c ∧ w.cell? ⟨b, o, none⟩ = some (.int .i64 z) ∧ HasInts w (.slice (some ⟨b, o + 1, none⟩) l.length (c - 1)) l ∧ (c = 1 → HasInts w (.slice (some ⟨b, o, none⟩) 0 0) l) := by
  obtain ⟨A', c', e, h1, h2⟩ := h
  injection e with e1 e2 e3
  subst e1 e3
  obtain ⟨b, o, rfl, hb, h0⟩ := h2 0 (.int .i64 z) rfl
  have hl : l.length + 1 ≤ c := by simpa using h1
  refine ⟨b, o, rfl, hb, by simpa using e2, hl, h0, ⟨_, _, rfl, by omega, fun k u hu => ?_⟩, fun hc => ?_⟩
  · obtain ⟨b', o', e', h3, h4⟩ := h2 (k + 1) u (by simpa using hu)
    injection e' with e'
    injection e' with e1 e2
    subst e1 e2
    exact ⟨_, _, rfl, h3, by rw [show o + 1 + k = o + (k + 1) from by omega]; exact h4⟩
  · have : l = [] := List.eq_nil_of_length_eq_zero (by omega)
    subst this
    exact ⟨_, _, rfl, Nat.le_refl _, fun k u hu => by simp at hu⟩
theorem iter_keep {w w' : World} {k : Nat} {o : Obj} (h : w.heap[k]? = some o) (b : Below w.heap.size w w') : w'.heap[k]? = some o := (b.block k (Array.getElem?_eq_some_iff.1 h).1).trans h
set_option maxHeartbeats 1000000 in
theorem rightItem_not {w : World} {x : It} {u : Value} (hk : x.kind < 0 ∨ 6 ≤ x.kind) : Calls Tryd.prog 26 #[.agg (itC x u).toArray] w fun e w' => e = .returned (.bool (rightIt x)) ∧ Below w.heap.size w w' := by
  rw [right_kind hk]
  have HB : Hid (∀ o, Below w.heap.size w (w.alloc o)) := Lib.hid fun o => below_more w o
  show Calls Tryd.prog 26 #[.agg #[.int .i64 x.kind, .int .i64 x.line, str x.name, str x.other, u]] w _
  generalize x.kind = k at *
  by_cases h0 : k < 0
  · clear hk
    go_enter Tryd.func26, Tryd.ntmps26
    go_wp2_with fail
    go_ret
    exact ⟨rfl, HB.out _⟩
  · have h6 : 6 ≤ k := by omega
    clear hk
    go_enter Tryd.func26, Tryd.ntmps26
    go_wp2_with fail
    go_ret
    exact ⟨rfl, HB.out _⟩
set_option maxHeartbeats 8000000 in
theorem rightItem_any {w : World} {x : It} {u : Value} (hu : HasInts w u x.n) (hn : x.n.length ≤ 1000000000) (h1 : x.name.length ≤ 1000000000) (h2 : x.other.length ≤ 1000000000) (hf : VF w) :
    Calls Tryd.prog 26 #[.agg (itC x u).toArray] w fun e w' => e = .returned (.bool (rightIt x)) ∧ Below w.heap.size w w' := by
  by_cases hk : x.kind < 0 ∨ 6 ≤ x.kind
  · exact rightItem_not hk
  obtain ⟨k, hk2⟩ : ∃ k : Nat, x.kind = k := ⟨x.kind.toNat, by omega⟩
  have hk6 : k < 6 := by omega
  rw [right_places hk2 hk6]
  generalize hR : rpR x (places k) (x.name == []) (x.other == []) x.n = R
  have f0 := (hf k hk6).2
  have hgf := hf.lt
  have HW1 : Hid (∀ w, Calls Tryd.prog 50 #[.string ⟨x.name.toArray⟩] w fun e w' => e = .returned (.bool (word x.name)) ∧ Below w.heap.size w w') := Lib.hid fun w => word_any ⟨x.name.toArray⟩ w h1
  have HW2 : Hid (∀ w, Calls Tryd.prog 50 #[.string ⟨x.other.toArray⟩] w fun e w' => e = .returned (.bool (word x.other)) ∧ Below w.heap.size w w') := Lib.hid fun w => word_any ⟨x.other.toArray⟩ w h2
  obtain ⟨A, c, rfl, hcc, hru⟩ := hu
  have HU : Hid (HasInts w (.slice A x.n.length c) x.n) := Lib.hid ⟨A, c, rfl, hcc, hru⟩
  have HPA := Lib.hid (places_are k hk6)
  have hpf := places_few k hk6
  have HRR := Lib.hid hR
  have hkk : (k : Int) < 6 := by omega
  have hk0 : ¬ ((k : Int) < 0) := by omega
  have hempty : ∀ l : List UInt8, ((⟨l.toArray⟩ : ByteArray).toList == []) = (l == []) := fun l => by rw [ByteArray.toList_eq]
  clear hR hf hk hcc hru
  show Calls Tryd.prog 26 #[.agg #[.int .i64 x.kind, .int .i64 x.line, .string ⟨x.name.toArray⟩, .string ⟨x.other.toArray⟩, .slice A x.n.length c]] w _
  rw [hk2]
  have HK2 := Lib.hid hk2
  clear hk2
  go_enter Tryd.func26, Tryd.ntmps26
  go_wp2_with fail
  go_quiet (fail)
  go_wp2_with fail
  have hRR : rpR x (places k) x.name.isEmpty x.other.isEmpty x.n = R := by
    rw [← HRR.out]
    have e : ∀ l : List UInt8, l.isEmpty = (l == []) := fun l => by cases l <;> rfl
    rw [e, e]
  have hi0 : RtR w ((((w.alloc (.cells #[.int .i64 k, .int .i64 x.line, .string ⟨x.name.toArray⟩, .string ⟨x.other.toArray⟩, .slice A x.n.length c] 34)).drewN nq).iter ⟨(places k).toArray⟩ 0)) x (.slice A x.n.length c) (places k) R 0 x.name.isEmpty x.other.isEmpty x.n (.slice A x.n.length c) := by
    have hb0 : Below w.heap.size w ((((w.alloc (.cells #[.int .i64 k, .int .i64 x.line, .string ⟨x.name.toArray⟩, .string ⟨x.other.toArray⟩, .slice A x.n.length c] 34)).drewN nq).iter ⟨(places k).toArray⟩ 0)) := ((below_more w _).trans ((below_drew _ nq).mono (by simp))).alloc (by show _ ≤ (w.alloc _).heap.size; simp) _
    refine ⟨Nat.zero_le _, ?_, ?_, hb0, HU.out.keep hb0, hRR, Nat.le_refl _⟩
    · have := World.iter_heap ((w.alloc (.cells #[.int .i64 k, .int .i64 x.line, .string ⟨x.name.toArray⟩, .string ⟨x.other.toArray⟩, .slice A x.n.length c] 34)).drewN nq) ⟨(places k).toArray⟩ 0
      have e : ((w.alloc (.cells #[.int .i64 k, .int .i64 x.line, .string ⟨x.name.toArray⟩, .string ⟨x.other.toArray⟩, .slice A x.n.length c] 34)).drewN nq).heap.size = w.heap.size + 1 := by show (w.alloc _).heap.size = _; simp
      rw [e] at this
      exact this
    · show Blk _ _ _ #[.int .i64 x.kind, .int .i64 x.line, .string ⟨x.name.toArray⟩, .string ⟨x.other.toArray⟩, .slice A x.n.length c]
      rw [HK2.out]
      exact (show Blk ((w.alloc (.cells #[.int .i64 k, .int .i64 x.line, .string ⟨x.name.toArray⟩, .string ⟨x.other.toArray⟩, .slice A x.n.length c] 34)).drewN nq) w.heap.size 34 #[.int .i64 k, .int .i64 x.line, .string ⟨x.name.toArray⟩, .string ⟨x.other.toArray⟩, .slice A x.n.length c] from Blk.fresh w _ _).kept _
  generalize (((w.alloc (.cells #[.int .i64 k, .int .i64 x.line, .string ⟨x.name.toArray⟩, .string ⟨x.other.toArray⟩, .slice A x.n.length c] 34)).drewN nq).iter ⟨(places k).toArray⟩ 0) = wi at *
  have HI := Lib.hid hi0
  clear hi0 hRR HRR f0 hgf HU
  generalize hen : x.name.isEmpty = en
  generalize heo : x.other.isEmpty = eo
  have HEN := Lib.hid hen
  have HEO := Lib.hid heo
  clear hen heo
  generalize places k = ps at *
  go_loopw [3, 4, 5] (fun ua ub uv wr => ∃ i a b l, ua = .bool a ∧ ub = .bool b ∧ RtR w wr x (.slice A x.n.length c) ps R i a b l uv) (fun _ _ _ wr => ps.length - wr.iterPos (w.heap.size + 1))
  case atStart => exact ⟨0, x.name.isEmpty, x.other.isEmpty, _, by rw [HEN.out], by rw [HEO.out], HI.out⟩
  case round =>
    obtain ⟨i, a, b, l, rfl, rfl, hI⟩ := hrel
    have hit := hI.iter
    have hmu : wr.iterPos (w.heap.size + 1) = i := by simp [World.iterPos, hit]
    have hps8 : (⟨ps.toArray⟩ : ByteArray).size = ps.length := rfl
    obtain ⟨A', c', rfl, hcc', hru'⟩ := hI.nums
    have hll := hI.short
    by_cases hi : i < ps.length
    · obtain ⟨p, hp⟩ : ∃ p, ps[i]? = some p := ⟨_, List.getElem?_eq_getElem hi⟩
      have hpa := HPA.out p (List.mem_of_getElem? hp)
      have hS : ((⟨ps.toArray⟩ : ByteArray)[i]'(by rw [hps8]; exact hi)) = p := by
        have := (List.getElem?_eq_some_iff.1 hp).2
        exact this
      have hnext : ∀ ty, (Instr.next (.pointer (some ⟨w.heap.size + 1, 0, none⟩)) true ty).run Tryd.prog wr = .ok (.tuple #[.bool true, .int .i64 i, .int .i32 p.toNat]) (wr.iterAt (w.heap.size + 1) ⟨ps.toArray⟩ (i + 1)) := fun ty => by
        have := Lib.run_next_ascii_at (P := Tryd.prog) wr (w.heap.size + 1) ⟨ps.toArray⟩ i ty hit (by rw [hps8]; exact hi) (by rw [hS]; rcases hpa with rfl | rfl | rfl | rfl | rfl <;> decide)
        rw [hS] at this
        exact this
      have hrest := hI.rest
      rw [List.drop_eq_getElem_cons hi, (List.getElem?_eq_some_iff.1 hp).2] at hrest
      have hc1 : Chg (fun k => k = w.heap.size + 1) wr (wr.iterAt (w.heap.size + 1) ⟨ps.toArray⟩ (i + 1)) := ⟨rfl, rfl, rfl, by rw [Lib.iterAt_size]; exact Nat.le_refl _, fun j _ hj => Lib.iterAt_other wr (w.heap.size + 1) j _ (i + 1) (fun e => hj e)⟩
      have hIt := Lib.iterAt_heap wr (w.heap.size + 1) ⟨ps.toArray⟩ i (i + 1) hit
      have hBx : Blk (wr.iterAt (w.heap.size + 1) ⟨ps.toArray⟩ (i + 1)) w.heap.size 34 (itC x (.slice A x.n.length c)).toArray := hc1.blk hI.box (by omega)
      have hBl : Below w.heap.size w (wr.iterAt (w.heap.size + 1) ⟨ps.toArray⟩ (i + 1)) := hI.below.trans (hc1.below hI.below.size fun k hk => by omega)
      have hNu : HasInts (wr.iterAt (w.heap.size + 1) ⟨ps.toArray⟩ (i + 1)) (.slice A' l.length c') l := by
        refine ⟨A', c', rfl, hcc', fun k u hu => ?_⟩
        obtain ⟨g, o, e, h1, h2⟩ := hru' k u hu
        refine ⟨g, o, e, by rw [Lib.iterAt_size]; exact h1, ?_⟩
        rw [World.cell?_of_block (a := ⟨g, o + k, none⟩) (hc1.block g h1 (fun e => ?_))]
        · exact h2
        · have : g = w.heap.size + 1 := e
          subst this
          rw [show wr.cell? ⟨w.heap.size + 1, o + k, none⟩ = _ from rfl] at h2
          simp [World.cell?, hit] at h2
      have b0 : (wr.iterAt (w.heap.size + 1) ⟨ps.toArray⟩ (i + 1)).cell? ⟨w.heap.size, 2, none⟩ = some (.string ⟨x.name.toArray⟩) := hBx.at 2
      have b1 : (wr.iterAt (w.heap.size + 1) ⟨ps.toArray⟩ (i + 1)).cell? ⟨w.heap.size, 3, none⟩ = some (.string ⟨x.other.toArray⟩) := hBx.at 3
      generalize wr.iterAt (w.heap.size + 1) ⟨ps.toArray⟩ (i + 1) = wn at *
      have HIt := Lib.hid hIt
      have HBx := Lib.hid hBx
      have HBl := Lib.hid hBl
      have HNu := Lib.hid hNu
      have hlw := hBx.inside
      clear hI hit hS hps8 hIt hBx hBl hNu hc1 hru' hcc'
      have hfin : ∀ (w2 : World) (a b : Bool), Below wn.heap.size wn w2 → rpR x (ps.drop (i + 1)) a b l = R → RtR w w2 x (.slice A x.n.length c) ps R (i + 1) a b l (.slice A' l.length c') := fun w2 a b b2 hr =>
        ⟨hi, iter_keep HIt.out b2, HBx.out.under b2 HBx.out.inside, HBl.out.trans (b2.mono HBl.out.size), HNu.out.keep b2, hr, hll⟩
      have HFI := Lib.hid hfin
      have hpos : ∀ w2, Below wn.heap.size wn w2 → w2.iterPos (w.heap.size + 1) = i + 1 := fun w2 b2 => by
        have := iter_keep HIt.out b2
        simp [World.iterPos, this]
      have HPO := Lib.hid hpos
      clear hfin hpos
      rcases hpa with rfl | rfl | rfl | rfl | rfl
      · have hP : (((110 : UInt8).toNat : Nat) : Int) = 110 := rfl
        rw [hP] at hnext
        clear hP
        have HRS : Hid (rpR x (ps.drop (i + 1)) (word x.name) b l = R) := Lib.hid (by rw [← hrest]; rfl)
        clear hrest hp
        go_wp2_with (go_at_call 50; go_must (
          refine (HW1.out _).mono ?_; rintro e w2 ⟨rfl, b2⟩
          have B2 := Lib.hid b2
          clear b2))
        go_roundw
        case rel => exact ⟨i + 1, _, _, l, rfl, rfl, HFI.out _ _ _ B2.out HRS.out⟩
        case measure =>
          rw [hmu, HPO.out _ B2.out]
          omega
      · have hP : (((99 : UInt8).toNat : Nat) : Int) = 99 := rfl
        rw [hP] at hnext
        clear hP
        by_cases he : x.name = []
        · have hem : x.name.isEmpty = true := by rw [he]; rfl
          have HRS : Hid (rpR x (ps.drop (i + 1)) true b l = R) := Lib.hid (by rw [← hrest]; show _ = rpR x (ps.drop (i + 1)) (x.name == [] || word x.name) b l; rw [he]; rfl)
          clear hrest hp he
          go_wp2_with fail
          go_roundw
          case rel => exact ⟨i + 1, _, _, l, rfl, rfl, HFI.out _ _ _ (Below.refl _ _) HRS.out⟩
          case measure =>
            rw [hmu, HPO.out _ (Below.refl _ _)]
            omega
        · have hem : x.name.isEmpty = false := by cases hx : x.name with | nil => exact absurd hx he | cons a b => rfl
          have HRS : Hid (rpR x (ps.drop (i + 1)) (word x.name) b l = R) := Lib.hid (by rw [← hrest]; show _ = rpR x (ps.drop (i + 1)) (x.name == [] || word x.name) b l; rw [show (x.name == []) = false from beq_eq_false_iff_ne.2 he]; rfl)
          clear hrest hp he
          go_wp2_with (go_at_call 50; go_must (
            refine (HW1.out _).mono ?_; rintro e w2 ⟨rfl, b2⟩
            have B2 := Lib.hid b2
            clear b2))
          go_roundw
          case rel => exact ⟨i + 1, _, _, l, rfl, rfl, HFI.out _ _ _ B2.out HRS.out⟩
          case measure =>
            rw [hmu, HPO.out _ B2.out]
            omega
      · have hP : (((111 : UInt8).toNat : Nat) : Int) = 111 := rfl
        rw [hP] at hnext
        clear hP
        have HRS : Hid (rpR x (ps.drop (i + 1)) a (word x.other) l = R) := Lib.hid (by rw [← hrest]; rfl)
        clear hrest hp
        go_wp2_with (go_at_call 50; go_must (
          refine (HW2.out _).mono ?_; rintro e w2 ⟨rfl, b2⟩
          have B2 := Lib.hid b2
          clear b2))
        go_roundw
        case rel => exact ⟨i + 1, _, _, l, rfl, rfl, HFI.out _ _ _ B2.out HRS.out⟩
        case measure =>
          rw [hmu, HPO.out _ B2.out]
          omega
      · have hP : (((49 : UInt8).toNat : Nat) : Int) = 49 := rfl
        rw [hP] at hnext
        clear hP
        cases l with
        | nil =>
          have HX : Hid (rpV R = false) := Lib.hid (by rw [← hrest]; rfl)
          have HB2 := HBl
          clear hrest hp HFI HNu hll
          go_wp2_with fail
          go_ret
          exact ⟨congrArg (fun b => Ending.returned (.bool b)) HX.out.symm, HB2.out⟩
        | cons z l =>
          obtain ⟨g, o, rfl, hgw, -, hlc, hcell, ht1, ht2⟩ := HNu.out.tail
          have HT1 := Lib.hid ht1
          have HT2 := Lib.hid ht2
          rw [List.length_cons] at hll
          have hl9 : l.length ≤ 1000000000 := by omega
          clear ht1 ht2 HFI HNu
          by_cases hz : z < 0
          · have HX : Hid (rpV R = false) := Lib.hid (by rw [← hrest]; show rpV (if z < 0 ∨ ((49 : UInt8) = 100 ∧ 6 ≤ z) then none else _) = _; rw [if_pos (.inl hz)]; rfl)
            have HB2 := HBl
            clear hrest hp
            go_wp2_with fail
            go_ret
            exact ⟨congrArg (fun b => Ending.returned (.bool b)) HX.out.symm, HB2.out⟩
          have HRS : Hid (rpR x (ps.drop (i + 1)) a b l = R) := Lib.hid (by rw [← hrest]; show _ = (if z < 0 ∨ ((49 : UInt8) = 100 ∧ 6 ≤ z) then none else _); rw [if_neg (by rintro (h | ⟨h, _⟩); exact hz h; cases h)])
          have HFX := Lib.hid (show ∀ v, HasInts wn v l → RtR w wn x (.slice A x.n.length c) ps R (i + 1) a b l v from fun v hv => ⟨hi, HIt.out, HBx.out, HBl.out, hv, HRS.out, by omega⟩)
          clear hrest hp
          by_cases hc1 : c' = 1
          · subst hc1
            have hl0 : l.length = 0 := by omega
            have HT3 := Lib.hid (HT2.out rfl)
            rw [List.length_cons, hl0] at *
            go_wp2_with fail
            go_roundw
            case rel => exact ⟨i + 1, _, _, l, rfl, rfl, HFX.out _ HT3.out⟩
            case measure =>
              rw [hmu, HPO.out _ (Below.refl _ _)]
              omega
          · rw [List.length_cons] at *
            go_wp2_with fail
            go_roundw
            case rel => exact ⟨i + 1, _, _, l, rfl, rfl, HFX.out _ HT1.out⟩
            case measure =>
              rw [hmu, HPO.out _ (Below.refl _ _)]
              omega
      · have hP : (((100 : UInt8).toNat : Nat) : Int) = 100 := rfl
        rw [hP] at hnext
        clear hP
        cases l with
        | nil =>
          have HX : Hid (rpV R = false) := Lib.hid (by rw [← hrest]; rfl)
          have HB2 := HBl
          clear hrest hp HFI HNu hll
          go_wp2_with fail
          go_ret
          exact ⟨congrArg (fun b => Ending.returned (.bool b)) HX.out.symm, HB2.out⟩
        | cons z l =>
          obtain ⟨g, o, rfl, hgw, -, hlc, hcell, ht1, ht2⟩ := HNu.out.tail
          have HT1 := Lib.hid ht1
          have HT2 := Lib.hid ht2
          rw [List.length_cons] at hll
          have hl9 : l.length ≤ 1000000000 := by omega
          clear ht1 ht2 HFI HNu
          by_cases hz : z < 0
          · have HX : Hid (rpV R = false) := Lib.hid (by rw [← hrest]; show rpV (if z < 0 ∨ ((100 : UInt8) = 100 ∧ 6 ≤ z) then none else _) = _; rw [if_pos (.inl hz)]; rfl)
            have HB2 := HBl
            clear hrest hp
            go_wp2_with fail
            go_ret
            exact ⟨congrArg (fun b => Ending.returned (.bool b)) HX.out.symm, HB2.out⟩
          by_cases hz6 : 6 ≤ z
          · have HX : Hid (rpV R = false) := Lib.hid (by rw [← hrest]; show rpV (if z < 0 ∨ ((100 : UInt8) = 100 ∧ 6 ≤ z) then none else _) = _; rw [if_pos (.inr ⟨rfl, hz6⟩)]; rfl)
            have HB2 := HBl
            clear hrest hp
            go_wp2_with fail
            go_ret
            exact ⟨congrArg (fun b => Ending.returned (.bool b)) HX.out.symm, HB2.out⟩
          have HRS : Hid (rpR x (ps.drop (i + 1)) a b l = R) := Lib.hid (by rw [← hrest]; show _ = (if z < 0 ∨ ((100 : UInt8) = 100 ∧ 6 ≤ z) then none else _); rw [if_neg (by rintro (h | ⟨_, h⟩); exact hz h; exact hz6 h)])
          have HFX := Lib.hid (show ∀ v, HasInts wn v l → RtR w wn x (.slice A x.n.length c) ps R (i + 1) a b l v from fun v hv => ⟨hi, HIt.out, HBx.out, HBl.out, hv, HRS.out, by omega⟩)
          clear hrest hp
          by_cases hc1 : c' = 1
          · subst hc1
            have hl0 : l.length = 0 := by omega
            have HT3 := Lib.hid (HT2.out rfl)
            rw [List.length_cons, hl0] at *
            go_wp2_with fail
            go_roundw
            case rel => exact ⟨i + 1, _, _, l, rfl, rfl, HFX.out _ HT3.out⟩
            case measure =>
              rw [hmu, HPO.out _ (Below.refl _ _)]
              omega
          · rw [List.length_cons] at *
            go_wp2_with fail
            go_roundw
            case rel => exact ⟨i + 1, _, _, l, rfl, rfl, HFX.out _ HT1.out⟩
            case measure =>
              rw [hmu, HPO.out _ (Below.refl _ _)]
              omega
    · have hie : i = ps.length := by have := hI.le; omega
      have HX : Hid (R = some (a, b, l)) := Lib.hid (by have := hI.rest; rw [List.drop_eq_nil_of_le (by omega)] at this; exact this.symm)
      have hnext : ∀ ty, (Instr.next (.pointer (some ⟨w.heap.size + 1, 0, none⟩)) true ty).run Tryd.prog wr = .ok (.tuple #[.bool false]) wr := fun ty => Lib.run_next_end_at (P := Tryd.prog) wr (w.heap.size + 1) ⟨ps.toArray⟩ i ty hit (by rw [hps8]; exact hi)
      have HBL := Lib.hid hI.below
      have HV : Hid (rpV (some (a, b, l)) = (a && b && decide (l.length = 0))) := Lib.hid (by
        show (a && b && l == []) = _
        congr 1
        cases l <;> simp)
      clear hI hit hps8 hie hmu hru' hcc'
      generalize l.length = n at *
      cases a with
      | false =>
        go_wp2_with fail
        go_ret
        exact ⟨by rw [HX.out, HV.out]; rfl, HBL.out⟩
      | true =>
        cases b with
        | false =>
          go_wp2_with fail
          go_ret
          exact ⟨by rw [HX.out, HV.out]; rfl, HBL.out⟩
        | true =>
          go_wp2_with fail
          go_ret
          exact ⟨congrArg (fun b => Ending.returned (.bool b)) (by rw [HX.out, HV.out, Bool.eq_iff_iff]; simp), HBL.out⟩
end Drf
end Go.Proofs.YtibeangcjfjeiaaDoor

/- fits; regions that came in; what the laws say of regions, plainly. RegionSets. Of the parts: what is asked of them. -/
import Derived.Test.YtgophgnfiboefaaGreatDoorRoA
namespace Go.Proofs.YtgophgnfiboefaaGreatDoor
open Go.RowKit Wire
open Txt (Row)
open Go.Proofs.YtgophgnfiboefaaGreatDoor.Own Flo
open Dsk (Only nth)
set_option linter.unusedVariables false
set_option linter.unusedSimpArgs false
namespace Rgn
noncomputable def fitB (f : Fl) (n : Nat) (l : List Int) : Bool := @decide (f.ok ∧ f.Kind.length ≤ n ∧ l.length ≤ 200 ∧ isReg l = true) (Classical.propDecidable _)
theorem fitB_iff {f : Fl} {n : Nat} {l : List Int} : fitB f n l = true ↔ f.ok ∧ f.Kind.length ≤ n ∧ l.length ≤ 200 ∧ isReg l = true := by
  unfold fitB
  exact @decide_eq_true_iff _ (Classical.propDecidable _)
set_option maxRecDepth 100000 in
set_option maxHeartbeats 4000000 in
theorem regFits_any (f : Fl) (p : Pl) (n : Nat) (B : Option Addr) (cb : Nat) (l : List Int) (w : World) (hin : FlIn w f p) (hlk : f.Kind.length ≤ 9223372036854775807) (hlo : f.Out.length ≤ 9223372036854775807) (hll : l.length ≤ 9223372036854775807) (hra : Row w w.heap.size B (ivs l)) :
    Calls Tryz.prog 10 #[f.val p, .slice B l.length cb, .int .i64 n] w fun e w' => e = .returned (.bool (fitB f n l)) ∧ Below w.heap.size w w' := by
  obtain ⟨rr, hrr⟩ : ∃ r : Bool, (r = true) ↔ f.ok := ⟨@decide f.ok (Classical.propDecidable _), @decide_eq_true_iff _ (Classical.propDecidable _)⟩
  obtain ⟨fw, hfw⟩ : ∃ b, b = (decide (f.Kind.length ≤ n) && decide (f.Out.length ≤ n)) := ⟨_, rfl⟩
  have HFE : Hid (∀ w', Calls Tryz.prog 33 #[f.val p, .int .i64 n] w' fun e w2 => e = .returned (.bool fw) ∧ Below w'.heap.size w' w2) := Lib.hid fun w' => by rw [hfw]; exact qFew_any f p n w' hlk hlo
  have HRI : Hid (∀ w', Below w.heap.size w w' → Calls Tryz.prog 34 #[f.val p] w' fun e w2 => e = .returned (.bool rr) ∧ Below w'.heap.size w' w2) := Lib.hid fun w' b => (right_any f p w' (hin.lift b) hlk hlo).mono fun e w2 ⟨r, he, hr, hb⟩ => by
    have : r = rr := by rw [Bool.eq_iff_iff, hr, hrr]
    rw [this] at he
    exact ⟨he, hb⟩
  have HRG := Lib.hid (fun w' (b : Below w.heap.size w w') => right_reg w' B cb l hll (hra.lift b))
  have hres : fitB f n l = (fw && rr && decide (l.length ≤ 200) && isReg l) := by
    rw [Bool.eq_iff_iff, fitB_iff, hfw]
    simp only [Bool.and_eq_true, decide_eq_true_iff]
    constructor
    · rintro ⟨h1, h2, h3, h4⟩
      exact ⟨⟨⟨⟨h2, by have := h1.kinds; have := h1.outs; omega⟩, hrr.2 h1⟩, h3⟩, h4⟩
    · rintro ⟨⟨⟨⟨h1, h2⟩, h3⟩, h4⟩, h5⟩
      exact ⟨hrr.1 h3, h1, h4, h5⟩
  rw [hres]
  have hll' : (l.length : Int) ≤ 9223372036854775807 := by omega
  clear hres hin hlk hlo hra hrr hfw hll
  generalize isReg l = rg at *
  obtain ⟨lb, hlb⟩ : ∃ b, b = decide (l.length ≤ 200) := ⟨_, rfl⟩
  rw [← hlb]
  have hlc : decide ((l.length : Int) ≤ 200) = lb := by rw [hlb, decide_eq_decide]; omega
  clear hlb
  generalize l.length = ll at *
  obtain ⟨A1, c1, A2, c2⟩ := p
  obtain ⟨W, H, D, K, O⟩ := f
  dsimp only [Fl.val] at *
  generalize K.length = n1 at *
  generalize O.length = n2 at *
  have HB0 : Hid (∀ w', Below (w.alloc (.cells (boxV W H D A1 n1 c1 A2 n2 c2) 24)).heap.size (w.alloc (.cells (boxV W H D A1 n1 c1 A2 n2 c2) 24)) w' → BoxS w.heap.size W H D A1 n1 c1 A2 n2 c2 w' ∧ Below w.heap.size w w') := Lib.hid fun w' b => ⟨boxS ((Blk.fresh w _ _).under b (by simp)), next_below ((Below.refl _ w).alloc (Nat.le_refl _) _) b⟩
  cases fw
  · go_enter Tryz.func10, Tryz.ntmps10
    go_wp2_with (go_at_call 33; refine (HFE.out _).mono ?_; rintro e w1 ⟨rfl, b1⟩; have B1 := Lib.hid (HB0.out _ b1))
    go_ret
    exact ⟨rfl, B1.out.2⟩
  · cases rr
    · go_enter Tryz.func10, Tryz.ntmps10
      go_wp2_with (first
        | (go_at_call 33; refine (HFE.out _).mono ?_; rintro e w1 ⟨rfl, b1⟩; obtain ⟨⟨m0, m1, m2, m3, m4⟩, hbw⟩ := HB0.out _ b1; have B1 := Lib.hid hbw; clear hbw)
        | (go_at_call 34; refine (HRI.out _ B1.out).mono ?_; rintro e w2 ⟨rfl, b2⟩; have B2 := Lib.hid (next_below B1.out b2)))
      go_ret
      exact ⟨rfl, B2.out⟩
    · cases lb
      · have hlc' : ¬ (ll : Int) ≤ 200 := of_decide_eq_false hlc
        go_enter Tryz.func10, Tryz.ntmps10
        go_wp2_with (first
          | (go_at_call 33; refine (HFE.out _).mono ?_; rintro e w1 ⟨rfl, b1⟩; obtain ⟨⟨m0, m1, m2, m3, m4⟩, hbw⟩ := HB0.out _ b1; have B1 := Lib.hid hbw; clear hbw)
          | (go_at_call 34; refine (HRI.out _ B1.out).mono ?_; rintro e w2 ⟨rfl, b2⟩; have B2 := Lib.hid (next_below B1.out b2)))
        go_ret
        exact ⟨rfl, B2.out⟩
      · have hlc' : (ll : Int) ≤ 200 := of_decide_eq_true hlc
        go_enter Tryz.func10, Tryz.ntmps10
        go_wp2_with (first
          | (go_at_call 33; refine (HFE.out _).mono ?_; rintro e w1 ⟨rfl, b1⟩; obtain ⟨⟨m0, m1, m2, m3, m4⟩, hbw⟩ := HB0.out _ b1; have B1 := Lib.hid hbw; clear hbw)
          | (go_at_call 34; refine (HRI.out _ B1.out).mono ?_; rintro e w2 ⟨rfl, b2⟩; have B2 := Lib.hid (next_below B1.out b2))
          | (go_at_call 5; refine (HRG.out _ B2.out).mono ?_; rintro e w3 ⟨rfl, rfl⟩))
        go_ret
        exact ⟨by simp, B2.out⟩
/-- A region that came in. -/
theorem reg_of {l : List Int} (h : isReg l = true) : ∃ a : List Nat, l = ivn a ∧ Reg a := by
  have h1 := of_decide_eq_true h
  have e : ivn (l.map Int.toNat) = l := by
    unfold ivn
    rw [List.map_map]
    exact (List.map_congr_left fun x hx => by have := (h1.2 x hx).1; simp; omega).trans (List.map_id' l)
  refine ⟨l.map Int.toNat, e.symm, ?_, fun x hx => ?_⟩
  · rw [List.pairwise_map]
    exact List.Pairwise.imp_of_mem (fun ha hb hab => by have := (h1.2 _ ha).1; have := (h1.2 _ hb).1; omega) h1.1
  · obtain ⟨y, hy, rfl⟩ := List.mem_map.1 hx
    have := h1.2 y hy
    omega
theorem isReg_reg {a : List Nat} (h : Reg a) : isReg (ivn a) = true := by
  refine decide_eq_true ⟨?_, fun x hx => ?_⟩
  · unfold ivn
    rw [List.pairwise_map]
    exact h.asc.imp fun h => by omega
  · obtain ⟨y, hy, rfl⟩ := List.mem_map.1 hx
    have := h.lt y hy
    omega
theorem hasB_nat {r : List Nat} {k : Nat} : hasB r (k : Int) = decide (k ∈ r) := by
  unfold hasB ivn
  rw [decide_eq_decide, List.mem_map]
  constructor
  · rintro ⟨y, hy, e⟩
    have : y = k := by omega
    rw [← this]
    exact hy
  · exact fun h => ⟨k, h, rfl⟩
theorem hasB_neg {r : List Nat} {x : Int} (h : x < 0) : hasB r x = false := by
  unfold hasB ivn
  refine decide_eq_false fun hm => ?_
  obtain ⟨y, hy, e⟩ := List.mem_map.1 hm
  omega
theorem hasB_toNat {r : List Nat} {x : Int} : hasB r x = true ↔ 0 ≤ x ∧ x.toNat ∈ r := by
  by_cases h : x < 0
  · rw [hasB_neg h]
    constructor
    · intro h; cases h
    · rintro ⟨h1, _⟩; omega
  · obtain ⟨k, rfl⟩ : ∃ k : Nat, x = k := ⟨x.toNat, by omega⟩
    rw [hasB_nat]
    simp
def edgeOf (f : Fl) (r : List Nat) : List Nat := r.filter (outB f r)
theorem edge_reg {f : Fl} {r : List Nat} (h : Reg r) : Reg (edgeOf f r) := ⟨h.asc.filter _, fun x hx => h.lt x (List.mem_filter.1 hx).1⟩
theorem edge_mem {f : Fl} {r : List Nat} {c : Nat} : c ∈ edgeOf f r ↔ c ∈ r ∧ outB f r c = true := List.mem_filter
theorem outB_iff {f : Fl} {r : List Nat} {c : Nat} : outB f r c = true ↔ ∃ d : Nat, d < 6 ∧ ∃ y, f.next c d = some y ∧ hasB r y = false := by
  unfold outB
  rw [List.any_eq_true]
  constructor
  · rintro ⟨d, hd, h⟩
    refine ⟨d, List.mem_range.1 hd, ?_⟩
    split at h
    · cases h
    · rename_i y e
      exact ⟨y, e, by simpa using h⟩
  · rintro ⟨d, hd, y, e, h⟩
    refine ⟨d, List.mem_range.2 hd, ?_⟩
    rw [e]
    show (!hasB r y) = true
    rw [h]
    rfl
abbrev uniR (a b : List Nat) : List Nat := regOf (uniB a b) 4096
abbrev intR (a b : List Nat) : List Nat := regOf (intB a b) 4096
abbrev difR (a b : List Nat) : List Nat := regOf (difB a b) 4096
theorem uni_mem {a b : List Nat} (ha : Reg a) (hb : Reg b) {x : Nat} : x ∈ uniR a b ↔ x ∈ a ∨ x ∈ b := by
  rw [regOf_mem]
  unfold uniB
  simp only [Bool.or_eq_true, decide_eq_true_iff]
  exact ⟨fun h => h.2, fun h => ⟨by rcases h with h | h; exact ha.lt x h; exact hb.lt x h, h⟩⟩
theorem int_mem {a b : List Nat} (ha : Reg a) {x : Nat} : x ∈ intR a b ↔ x ∈ a ∧ x ∈ b := by
  rw [regOf_mem]
  unfold intB
  simp only [Bool.and_eq_true, decide_eq_true_iff]
  exact ⟨fun h => h.2, fun h => ⟨ha.lt x h.1, h⟩⟩
theorem dif_mem {a b : List Nat} (ha : Reg a) {x : Nat} : x ∈ difR a b ↔ x ∈ a ∧ x ∉ b := by
  rw [regOf_mem]
  unfold difB
  simp only [Bool.and_eq_true, decide_eq_true_iff, Bool.not_eq_true', decide_eq_false_iff_not]
  exact ⟨fun h => h.2, fun h => ⟨ha.lt x h.1, h⟩⟩
theorem edge_has {f : Fl} {a : List Nat} {k : Nat} (h : k ∈ a) : hasB (edgeOf f a) (k : Int) = outB f a k := by
  rw [hasB_nat, Bool.eq_iff_iff, decide_eq_true_iff, edge_mem]
  exact ⟨fun h => h.2, fun e => ⟨h, e⟩⟩
theorem edge_sub {f : Fl} {a : List Nat} : subB (edgeOf f a) a = true := decide_eq_true fun x hx => (edge_mem.1 hx).1
theorem edge_all {f : Fl} (ho : f.ok) : edgeOf f (List.range f.Kind.length) = [] := by
  refine List.filter_eq_nil_iff.2 fun c _ h => ?_
  obtain ⟨d, hd, y, e, hy⟩ := outB_iff.1 h
  have h1 := Fl.is_bounds (Fl.next_is e).2.2.1
  have h2 := ho.kinds
  have : hasB (List.range f.Kind.length) y = true := hasB_toNat.2 ⟨h1.1, List.mem_range.2 (by omega)⟩
  rw [hy] at this
  cases this
theorem edge_uni {f : Fl} {a b : List Nat} (ha : Reg a) (hb : Reg b) : subB (edgeOf f (uniR a b)) (uniR (edgeOf f a) (edgeOf f b)) = true := by
  refine decide_eq_true fun x hx => ?_
  obtain ⟨h1, h2⟩ := edge_mem.1 hx
  obtain ⟨d, hd, y, e, hy⟩ := outB_iff.1 h2
  rw [uni_mem (edge_reg ha) (edge_reg hb)]
  have hn : ∀ r, (∀ z, z ∈ r → z ∈ uniR a b) → hasB r y = false := fun r hr => by
    cases hh : hasB r y with
    | false => rfl
    | true =>
      have := hasB_toNat.1 hh
      have h3 : hasB (uniR a b) y = true := hasB_toNat.2 ⟨this.1, hr _ this.2⟩
      rw [hy] at h3
      cases h3
  rcases (uni_mem ha hb).1 h1 with h | h
  · exact .inl (edge_mem.2 ⟨h, outB_iff.2 ⟨d, hd, y, e, hn a fun z hz => (uni_mem ha hb).2 (.inl hz)⟩⟩)
  · exact .inr (edge_mem.2 ⟨h, outB_iff.2 ⟨d, hd, y, e, hn b fun z hz => (uni_mem ha hb).2 (.inr hz)⟩⟩)
theorem newL_slice {w w' : World} {l : List Nat} {e : Ending} (h : NewL w l e w') : ∃ A c, e = .returned (.slice A l.length c) ∧ Row w' w'.heap.size A (qvs l) ∧ Below w.heap.size w w' := by
  obtain ⟨v, rfl, hs⟩ := h
  have hg := hs.grow 0 rfl
  obtain ⟨A, c, rfl⟩ := hg.slice
  exact ⟨A, c, rfl, row_of_any hg, hs.below⟩
/-- A list of cells comes back, to be read. -/
def GotL (w : World) (l : List Nat) (e : Ending) (w' : World) : Prop := ∃ A c, e = .returned (.slice A l.length c) ∧ Row w' w'.heap.size A (qvs l) ∧ Below w.heap.size w w'
theorem got_of {f : FuncId} {args : Array Value} {w : World} {l : List Nat} (h : Calls Tryz.prog f args w (NewL w l)) : Calls Tryz.prog f args w (GotL w l) := h.mono fun _ _ h => newL_slice h
end Rgn
end Go.Proofs.YtgophgnfiboefaaGreatDoor

namespace Go.Proofs.YtgophgnfiboefaaGreatDoor
open Go.RowKit Wire
open Txt (Row)
open Go.Proofs.YtgophgnfiboefaaGreatDoor.Own Flo
open Dsk (Only nth)
set_option linter.unusedVariables false
set_option linter.unusedSimpArgs false
set_option linter.unusedSectionVars false
namespace Rgn
theorem small_le2 {n : Nat} (h : n ≤ maxLen) : n ≤ 9223372036854775807 := by unfold maxLen at h; omega
abbrev ofR (l : List Int) : List Nat := regOf (fun c => decide ((c : Int) ∈ l)) 4096
theorem hasB_of {l : List Int} {c : Int} : hasB (ofR l) c = decide (c ∈ l ∧ 0 ≤ c ∧ c < 4096) := by
  rw [Bool.eq_iff_iff, hasB_toNat, regOf_mem, decide_eq_true_iff, decide_eq_true_iff]
  constructor
  · rintro ⟨h1, h2, h3⟩
    have e : ((c.toNat : Nat) : Int) = c := by omega
    rw [e] at h3
    exact ⟨h3, h1, by omega⟩
  · rintro ⟨h1, h2, h3⟩
    have e : ((c.toNat : Nat) : Int) = c := by omega
    exact ⟨h2, by omega, by rw [e]; exact h1⟩
theorem hasB_uni {a b : List Nat} (ha : Reg a) (hb : Reg b) (c : Int) : hasB (uniR a b) c = (hasB a c || hasB b c) := by
  rw [Bool.eq_iff_iff, Bool.or_eq_true, hasB_toNat, hasB_toNat, hasB_toNat, uni_mem ha hb]
  constructor
  · rintro ⟨h1, h2 | h2⟩
    · exact .inl ⟨h1, h2⟩
    · exact .inr ⟨h1, h2⟩
  · rintro (⟨h1, h2⟩ | ⟨h1, h2⟩)
    · exact ⟨h1, .inl h2⟩
    · exact ⟨h1, .inr h2⟩
theorem hasB_int {a b : List Nat} (ha : Reg a) (c : Int) : hasB (intR a b) c = (hasB a c && hasB b c) := by
  rw [Bool.eq_iff_iff, Bool.and_eq_true, hasB_toNat, hasB_toNat, hasB_toNat, int_mem ha]
  exact ⟨fun h => ⟨⟨h.1, h.2.1⟩, ⟨h.1, h.2.2⟩⟩, fun h => ⟨h.1.1, h.1.2, h.2.2⟩⟩
theorem hasB_dif {a b : List Nat} (ha : Reg a) (c : Int) : hasB (difR a b) c = (hasB a c && !hasB b c) := by
  rw [Bool.eq_iff_iff, Bool.and_eq_true, Bool.not_eq_true', hasB_toNat, hasB_toNat, dif_mem ha]
  constructor
  · rintro ⟨h1, h2, h3⟩
    refine ⟨⟨h1, h2⟩, ?_⟩
    cases h : hasB b c with
    | false => rfl
    | true => exact absurd (hasB_toNat.1 h).2 h3
  · rintro ⟨⟨h1, h2⟩, h3⟩
    refine ⟨h1, h2, fun h => ?_⟩
    rw [hasB_toNat.2 ⟨h1, h⟩] at h3
    cases h3
theorem reg_ext {a b : List Nat} (ha : Reg a) (hb : Reg b) (h : ∀ x, x ∈ a ↔ x ∈ b) : a = b := asc_unique ha.asc hb.asc h
section
variable {a b d : List Nat} (ha : Reg a) (hb : Reg b) (hd : Reg d)
include ha hb
theorem uni_comm : uniR b a = uniR a b := reg_ext (Reg.of _) (Reg.of _) fun x => by rw [uni_mem hb ha, uni_mem ha hb]; exact or_comm
theorem int_comm : intR b a = intR a b := reg_ext (Reg.of _) (Reg.of _) fun x => by rw [int_mem hb, int_mem ha]; exact and_comm
theorem uni_dif : uniR (intR a b) (difR a b) = a := reg_ext (Reg.of _) ha fun x => by
  rw [uni_mem (Reg.of _) (Reg.of _), int_mem ha, dif_mem ha]
  by_cases h : x ∈ b <;> simp [h]
theorem int_none : intR (intR a b) (difR a b) = [] := reg_ext (Reg.of _) ⟨List.Pairwise.nil, by simp⟩ fun x => by
  rw [int_mem (Reg.of _), int_mem ha, dif_mem ha]
  simp
  intro _ h _
  exact h
theorem sub_int : subB (intR a b) a = true := decide_eq_true fun x hx => ((int_mem ha).1 hx).1
theorem sub_uni : subB a (uniR a b) = true := decide_eq_true fun x hx => (uni_mem ha hb).2 (.inl hx)
theorem sub_same : subB a b = decide (intR a b = a) := by
  rw [Bool.eq_iff_iff]
  unfold subB
  rw [decide_eq_true_iff, decide_eq_true_iff]
  constructor
  · exact fun h => reg_ext (Reg.of _) ha fun x => by rw [int_mem ha]; exact ⟨fun h => h.1, fun hx => ⟨hx, h x hx⟩⟩
  · intro h x hx
    rw [← h] at hx
    exact ((int_mem ha).1 hx).2
include hd
theorem uni_assoc : uniR a (uniR b d) = uniR (uniR a b) d := reg_ext (Reg.of _) (Reg.of _) fun x => by rw [uni_mem ha (Reg.of _), uni_mem hb hd, uni_mem (Reg.of _) hd, uni_mem ha hb]; exact or_assoc.symm
theorem int_assoc : intR a (intR b d) = intR (intR a b) d := reg_ext (Reg.of _) (Reg.of _) fun x => by rw [int_mem ha, int_mem hb, int_mem (Reg.of _), int_mem ha]; exact and_assoc.symm
theorem int_uni : uniR (intR a b) (intR a d) = intR a (uniR b d) := reg_ext (Reg.of _) (Reg.of _) fun x => by rw [uni_mem (Reg.of _) (Reg.of _), int_mem ha, int_mem ha, int_mem ha, uni_mem hb hd]; exact and_or_left.symm
end
theorem got_eq {f : FuncId} {args : Array Value} {w : World} {l m : List Nat} (h : Calls Tryz.prog f args w (GotL w l)) (e : l = m) : Calls Tryz.prog f args w (GotL w m) := e ▸ h
theorem right_any2 (w : World) (A : Option Addr) (c : Nat) (r : List Nat) (hr : Reg r) (h : Row w w.heap.size A (qvs r)) : Calls Tryz.prog 5 #[.slice A r.length c] w fun e w' => e = .returned (.bool true) ∧ w = w' := by
  have := right_reg w A c (ivn r) (by rw [List.length_map]; have := hr.len; omega) (by rw [ivs_ivn]; exact h)
  rw [List.length_map, isReg_reg hr] at this
  exact this
theorem same_any2 (w : World) (A B : Option Addr) (c d : Nat) (r s : List Nat) (hr : Reg r) (hs : Reg s) (h : Row w w.heap.size A (qvs r)) (k : Row w w.heap.size B (qvs s)) : Calls Tryz.prog 21 #[.slice A r.length c, .slice B s.length d] w fun e w' => e = .returned (.bool (decide (r = s))) ∧ Below w.heap.size w w' := by
  have := regSame_any w A B c d (ivn r) (ivn s) (by rw [List.length_map]; have := hr.len; omega) (by rw [List.length_map]; have := hs.len; omega) (by rw [ivs_ivn]; exact h) (by rw [ivs_ivn]; exact k)
  rw [List.length_map, List.length_map, show decide (ivn r = ivn s) = decide (r = s) from by rw [decide_eq_decide]; exact ⟨ivn_inj, fun e => by rw [e]⟩] at this
  exact this
theorem mem_snoc_int {l : List Int} {i : Nat} (h : i < l.length) (c : Int) : decide (c ∈ l.take (i + 1) ∧ 0 ≤ c ∧ c < 4096) = (decide (c ∈ l.take i ∧ 0 ≤ c ∧ c < 4096) || decide (l.getD i 0 = c) && (decide (0 ≤ c) && decide (c < 4096))) := by
  have e := mem_take_succ h c
  rw [Bool.eq_iff_iff] at e
  simp only [decide_eq_true_iff, Bool.or_eq_true] at e
  rw [Bool.eq_iff_iff]
  simp only [decide_eq_true_iff, Bool.or_eq_true, Bool.and_eq_true, e]
  constructor
  · rintro ⟨h1 | h1, h2⟩
    · exact .inl ⟨h1, h2⟩
    · exact .inr ⟨h1, h2⟩
  · rintro (⟨h1, h2⟩ | ⟨h1, h2⟩)
    · exact ⟨.inl h1, h2⟩
    · exact ⟨.inr h1, h2⟩
end Rgn
end Go.Proofs.YtgophgnfiboefaaGreatDoor

namespace Go.Proofs.YtgophgnfiboefaaGreatDoor
open Go.RowKit Wire
open Txt (Row)
open Go.Proofs.YtgophgnfiboefaaGreatDoor.Own Flo
open Dsk (Only nth)
set_option linter.unusedVariables false
set_option linter.unusedSimpArgs false
set_option linter.unusedSectionVars false
namespace Rgn
/-- The first parts in one. -/
def UU (P : Nat → List Nat) : Nat → List Nat
  | 0 => []
  | i + 1 => uniR (UU P i) (P i)
theorem reg_nil : Reg [] := ⟨List.Pairwise.nil, by simp⟩
theorem UU_reg (P : Nat → List Nat) (i : Nat) : Reg (UU P i) := by
  cases i
  · exact reg_nil
  · exact Reg.of _
theorem UU_mem {P : Nat → List Nat} {N : Nat} (h : ∀ i, i < N → Reg (P i)) : ∀ {i : Nat}, i ≤ N → ∀ x, x ∈ UU P i ↔ ∃ k, k < i ∧ x ∈ P k
  | 0, _, x => by simp [UU]
  | i + 1, hi, x => by
    show x ∈ uniR (UU P i) (P i) ↔ _
    rw [uni_mem (UU_reg P i) (h i (by omega)), UU_mem h (by omega) x]
    constructor
    · rintro (⟨k, hk, hx⟩ | hx)
      · exact ⟨k, by omega, hx⟩
      · exact ⟨i, by omega, hx⟩
    · rintro ⟨k, hk, hx⟩
      by_cases e : k = i
      · exact .inr (e ▸ hx)
      · exact .inl ⟨k, by omega, hx⟩
/-- Those that one can stand on. -/
def wantB (f : Fl) (x : Nat) : Bool := decide (x < f.Kind.length) && f.kindAt x != 0
def wantL (f : Fl) (a : List Nat) : List Nat := a.filter (wantB f)
theorem opn_usL {f : Fl} {a : List Nat} {x : Nat} : opn (usL f a) x ↔ x < f.Kind.length ∧ x ∈ a ∧ f.kindAt x ≠ 0 := by
  constructor
  · intro h
    have h2 := opn_lt h
    rw [usL_len] at h2
    unfold opn at h
    rw [usL_at f a h2] at h
    unfold usB at h
    simp at h
    exact ⟨h2, h.1, h.2⟩
  · rintro ⟨h1, h2, h3⟩
    unfold opn
    rw [usL_at f a h1]
    unfold usB
    simp [h2, h3]
theorem want_mem {f : Fl} {a : List Nat} {x : Nat} : x ∈ wantL f a ↔ opn (usL f a) x := by
  unfold wantL wantB
  rw [List.mem_filter, opn_usL]
  simp
  constructor
  · rintro ⟨h1, h2, h3⟩
    exact ⟨h2, h1, h3⟩
  · rintro ⟨h1, h2, h3⟩
    exact ⟨h2, h1, h3⟩
structure Good (f : Fl) (a : List Nat) (N : Nat) (P : Nat → List Nat) : Prop where
  cnt : N ≤ 4096
  reg : ∀ i, i < N → Reg (P i)
  ne : ∀ i, i < N → 0 < (P i).length
  lnk : ∀ i, i < N → lnkB f (P i) = true
  sep : ∀ i k, k < i → i < N → lnkB f (uniR (P i) (P k)) = false
  hd : ∀ i, i + 1 < N → (P i).getD 0 0 < (P (i + 1)).getD 0 0
  dis : ∀ i, i < N → intR (UU P i) (P i) = []
  last : UU P N = wantL f a
  only : lnkB f a = (decide (a.length = 0) || (decide (N = 1) && decide (P 0 = a)))
section
variable {f : Fl} (ho : f.ok) {a : List Nat} (ha : Reg a) {Ps : List (List Nat)} (h : IsParts (stE f.next) (opn (usL f a)) Ps)
include ho ha h
theorem part_in {x : Nat} {p : List Nat} (hp : p ∈ Ps) (hx : x ∈ p) : opn (usL f a) x := ((h.cls p hp x hx x).1 hx).1
theorem part_open {x : Nat} {p : List Nat} (hp : p ∈ Ps) : opn (usL f p) x ↔ x ∈ p := by
  rw [opn_usL]
  constructor
  · exact fun k => k.2.1
  · intro hx
    have := opn_usL.1 (part_in ho ha h hp hx)
    exact ⟨this.1, hx, this.2.2⟩
theorem part_way {x : Nat} {p : List Nat} (hp : p ∈ Ps) (hx : x ∈ p) {z : Nat} (k : Rch (stE f.next) (opn (usL f a)) x z) : Rch (stE f.next) (opn (usL f a)) z x → Rch (stE f.next) (opn (usL f p)) x z := by
  induction k with
  | refl => exact fun _ => .refl
  | step k1 e pz ih =>
    intro hb
    refine (ih (Rch.head e pz hb)).step e ?_
    rw [part_open ho ha h hp]
    exact (h.cls p hp x hx _).2 ⟨pz, k1.step e pz, hb⟩
theorem part_one {p : List Nat} (hp : p ∈ Ps) : partsOf f p = [p] := by
  refine (partsOf_eq (f := f) (r := p) (Ps := [p]) ⟨?_, ?_, ?_, ?_, ?_⟩).symm
  · intro q hq
    rw [List.mem_singleton] at hq
    subst hq
    exact h.asc q hp
  · intro q hq
    rw [List.mem_singleton] at hq
    subst hq
    exact h.ne q hp
  · intro q hq x hx y
    rw [List.mem_singleton] at hq
    subst hq
    rw [part_open ho ha h hp]
    constructor
    · intro hy
      obtain ⟨_, h1, h2⟩ := (h.cls q hp x hx y).1 hy
      exact ⟨hy, part_way ho ha h hp hx h1 h2, part_way ho ha h hp hy h2 h1⟩
    · exact fun k => k.1
  · intro x hx
    exact ⟨p, by simp, (part_open ho ha h hp).1 hx⟩
  · simp
theorem part_apart {p q : List Nat} (hp : p ∈ Ps) (hq : q ∈ Ps) {x : Nat} (hx : x ∈ p) (hy : x ∈ q) : p = q :=
  asc_unique (h.asc p hp) (h.asc q hq) fun y => by rw [h.cls p hp x hx y, h.cls q hq x hy y]
theorem part_two {p q : List Nat} (hp : p ∈ Ps) (hq : q ∈ Ps) (hne : p ≠ q) : lnkB f (uniR p q) = false := by
  have rp := (usL_small ho h hp).1
  have rq := (usL_small ho h hq).1
  obtain ⟨x, hx⟩ := List.exists_mem_of_ne_nil p (h.ne p hp)
  obtain ⟨y, hy⟩ := List.exists_mem_of_ne_nil q (h.ne q hq)
  have hxv : x ∈ uniR p q := (uni_mem rp rq).2 (.inl hx)
  have hyv : y ∈ uniR p q := (uni_mem rp rq).2 (.inr hy)
  cases hb : lnkB f (uniR p q) with
  | false => rfl
  | true =>
    exfalso
    have := of_decide_eq_true hb
    rcases this with e | e
    · rw [e] at hxv
      simp at hxv
    · unfold partsOf at e
      by_cases hex : ∃ Qs, IsParts (stE f.next) (opn (usL f (uniR p q))) Qs
      · rw [dif_pos hex] at e
        have hs := hex.choose_spec
        rw [e] at hs
        obtain ⟨_, h1, h2⟩ := (hs.cls _ (by simp) x hxv y).1 hyv
        have sub : ∀ z, opn (usL f (uniR p q)) z → opn (usL f a) z := fun z hz => by
          rcases (uni_mem rp rq).1 (opn_usL.1 hz).2.1 with k | k
          · exact part_in ho ha h hp k
          · exact part_in ho ha h hq k
        exact hne (part_apart ho ha h hp hq ((h.cls p hp x hx y).2 ⟨part_in ho ha h hq hy, h1.mono (fun _ _ e => e) sub, h2.mono (fun _ _ e => e) sub⟩) hy)
      · rw [dif_neg hex] at e
        simp at e
theorem good_of : Good f a Ps.length (fun i => Ps.getD i []) := by
  have hm : ∀ i, i < Ps.length → Ps.getD i [] ∈ Ps := fun i hi => by
    rw [List.getD_eq_getElem?_getD, List.getElem?_eq_getElem hi]
    exact List.getElem_mem hi
  have hr : ∀ i, i < Ps.length → Reg (Ps.getD i []) := fun i hi => (usL_small ho h (hm i hi)).1
  have hh : ∀ i k, k < i → i < Ps.length → (Ps.getD k []).headD 0 < (Ps.getD i []).headD 0 := fun i k hk hi => by
    have := List.pairwise_iff_getElem.1 h.ord k i (by omega) hi hk
    rw [List.getD_eq_getElem?_getD, List.getD_eq_getElem?_getD, List.getElem?_eq_getElem hi, List.getElem?_eq_getElem (show k < Ps.length by omega)]
    exact this
  have hne : ∀ i k, k < i → i < Ps.length → Ps.getD i [] ≠ Ps.getD k [] := fun i k hk hi e => by
    have := hh i k hk hi
    rw [e] at this
    omega
  have h0 : ∀ l : List Nat, l.getD 0 0 = l.headD 0 := fun l => by cases l <;> rfl
  constructor
  · have h1 : (Ps.map fun p => p.headD 0).Pairwise (· < ·) := List.pairwise_map.2 h.ord
    have h2 := asc_len (n := 4096) h1 (fun x hx => by
      obtain ⟨p, hp, rfl⟩ := List.mem_map.1 hx
      have hn := h.ne p hp
      cases p with
      | nil => exact absurd rfl hn
      | cons c p => exact (usL_small ho h hp).1.lt c (by simp))
    rw [List.length_map] at h2
    exact h2
  · exact hr
  · intro i hi
    exact List.length_pos_iff.2 (h.ne _ (hm i hi))
  · intro i hi
    exact decide_eq_true (.inr (part_one ho ha h (hm i hi)))
  · intro i k hk hi
    exact part_two ho ha h (hm i hi) (hm k (by omega)) (hne i k hk hi)
  · intro i hi
    rw [h0, h0]
    exact hh (i + 1) i (by omega) hi
  · intro i hi
    refine reg_ext (Reg.of _) reg_nil fun x => ?_
    rw [int_mem (UU_reg _ _), UU_mem hr (Nat.le_of_lt hi)]
    constructor
    · rintro ⟨⟨k, hk, hx⟩, hy⟩
      exact absurd (part_apart ho ha h (hm i hi) (hm k (by omega)) hy hx) (hne i k hk hi)
    · intro hx
      simp at hx
  · refine reg_ext (UU_reg _ _) ⟨ha.asc.filter _, fun x hx => ha.lt x (List.mem_filter.1 hx).1⟩ fun x => ?_
    rw [UU_mem hr (Nat.le_refl _), want_mem]
    constructor
    · rintro ⟨k, hk, hx⟩
      exact part_in ho ha h (hm k hk) hx
    · intro hx
      obtain ⟨p, hp, hxp⟩ := h.all x hx
      obtain ⟨k, hk, e⟩ := List.getElem_of_mem hp
      refine ⟨k, hk, ?_⟩
      rw [List.getD_eq_getElem?_getD, List.getElem?_eq_getElem hk, e]
      exact hxp
  · unfold lnkB
    rw [← partsOf_eq h, Bool.eq_iff_iff]
    simp only [decide_eq_true_iff, Bool.or_eq_true, Bool.and_eq_true]
    constructor
    · rintro (e | e)
      · exact .inl (by rw [e]; rfl)
      · exact .inr (by rw [e]; exact ⟨rfl, rfl⟩)
    · rintro (e | ⟨e1, e2⟩)
      · exact .inl (List.length_eq_zero_iff.1 e)
      · obtain ⟨q, rfl⟩ := List.length_eq_one_iff.1 e1
        exact .inr (by rw [show q = a from e2])
end
/-- What a call of Parts leaves, laid out. -/
def PackP (f : Fl) (a : List Nat) (w : World) (e : Ending) (w' : World) : Prop :=
  ∃ (A : Option Addr) (c N : Nat) (P : Nat → List Nat) (PV : Nat → Option Addr) (PQ : Nat → Nat), e = .returned (.slice A N c) ∧ Good f a N P ∧
    (∃ b o, ∀ i, i < N → A = some ⟨b, o, none⟩ ∧ ∀ w2, Below w'.heap.size w' w2 → w2.cell? ⟨b, o + i, none⟩ = some (.slice (PV i) (P i).length (PQ i))) ∧
    (∀ i, i < N → ∀ w2, Below w'.heap.size w' w2 → Row w2 w2.heap.size (PV i) (qvs (P i))) ∧ Below w.heap.size w w'
theorem pack_of {f : Fl} (ho : f.ok) {a : List Nat} (ha : Reg a) {w : World} {fn : FuncId} {args : Array Value} (h : Calls Tryz.prog fn args w (PartsOf f a w)) : Calls Tryz.prog fn args w (PackP f a w) := by
  refine h.mono ?_
  rintro e w' ⟨A, c, qs, rfl, h1, h2, h3, h4, h5⟩
  have hsl : ∀ i, i < qs.length → ∃ (AV : Option Addr) (AC : Nat), (qs.getD i default).1 = .slice AV (qs.getD i default).2.length AC ∧ Row w' w'.heap.size AV (qvs (qs.getD i default).2) := fun i hi => h4 _ (by
    rw [List.getD_eq_getElem?_getD, List.getElem?_eq_getElem hi]
    exact List.getElem_mem hi)
  have hch : ∀ i, ∃ x : Option Addr × Nat, i < qs.length → (qs.getD i default).1 = .slice x.1 (qs.getD i default).2.length x.2 ∧ Row w' w'.heap.size x.1 (qvs (qs.getD i default).2) := fun i => by
    by_cases hi : i < qs.length
    · obtain ⟨x, y, k⟩ := hsl i hi
      exact ⟨(x, y), fun _ => k⟩
    · exact ⟨default, fun k => absurd k hi⟩
  obtain ⟨X, hX⟩ := Classical.axiomOfChoice hch
  have hg := good_of ho ha h2
  have hP : ∀ i, i < qs.length → (qs.map (·.2)).getD i [] = (qs.getD i default).2 := fun i hi => by
    rw [List.getD_eq_getElem?_getD, List.getElem?_map, List.getD_eq_getElem?_getD, List.getElem?_eq_getElem hi]
    rfl
  rw [List.length_map] at hg
  refine ⟨A, c, qs.length, fun i => (qs.map (·.2)).getD i [], fun i => (X i).1, fun i => (X i).2, rfl, hg, ?_, fun i hi w2 b => ?_, h5⟩
  · have key : ∀ i, i < qs.length → ∃ b o, A = some ⟨b, o, none⟩ ∧ ∀ w2, Below w'.heap.size w' w2 → w2.cell? ⟨b, o + i, none⟩ = some (.slice (X i).1 ((qs.map (·.2)).getD i []).length (X i).2) := fun i hi => by
      obtain ⟨b, o, e, hlt, hc⟩ := h3 i (qs.getD i default).1 (by
        rw [List.getElem?_map, List.getD_eq_getElem?_getD, List.getElem?_eq_getElem hi]
        rfl)
      refine ⟨b, o, e, fun w2 hb => ?_⟩
      rw [hP i hi, ← (hX i hi).1]
      exact (hb.cell (p := ⟨b, o + i, none⟩) hlt).trans hc
    by_cases h0 : 0 < qs.length
    · obtain ⟨b, o, e, _⟩ := key 0 h0
      refine ⟨b, o, fun i hi => ⟨e, ?_⟩⟩
      obtain ⟨b', o', e', hc⟩ := key i hi
      rw [e] at e'
      injection e' with e'
      injection e' with e1 e2
      subst e1
      subst e2
      exact hc
    · exact ⟨0, 0, fun i hi => absurd hi (by omega)⟩
  · dsimp only
    rw [hP i hi]
    exact (hX i hi).2.lift b
theorem want_succ {f : Fl} {a : List Nat} {i : Nat} (h : i < a.length) : wantL f (a.take (i + 1)) = wantL f (a.take i) ++ if wantB f (a.getD i 0) then [a.getD i 0] else [] := filter_take_succ h _
end Rgn
end Go.Proofs.YtgophgnfiboefaaGreatDoor

/- fits; regions that came in; what the laws say of regions, plainly. -/
import Derived.Test.YtgophgnfiboefaaDoorRoA
namespace Go.Proofs.YtgophgnfiboefaaDoor
open Go.RowKit Wire
open Txt (Row)
open Go.Proofs.YtgophgnfiboefaaDoor.Own Flo
open Dsk (Only nth)
set_option linter.unusedVariables false
set_option linter.unusedSimpArgs false
namespace Rgn
noncomputable def fitB (f : Fl) (n : Nat) (l : List Int) : Bool := @decide (f.ok ∧ f.Kind.length ≤ n ∧ l.length ≤ 200 ∧ isReg l = true) (Classical.propDecidable _)
theorem fitB_iff {f : Fl} {n : Nat} {l : List Int} : fitB f n l = true ↔ f.ok ∧ f.Kind.length ≤ n ∧ l.length ≤ 200 ∧ isReg l = true := by
  unfold fitB
  exact @decide_eq_true_iff _ (Classical.propDecidable _)
set_option maxRecDepth 100000 in
set_option maxHeartbeats 4000000 in
theorem regFits_any (f : Fl) (p : Pl) (n : Nat) (B : Option Addr) (cb : Nat) (l : List Int) (w : World) (hin : FlIn w f p) (hlk : f.Kind.length ≤ 9223372036854775807) (hlo : f.Out.length ≤ 9223372036854775807) (hll : l.length ≤ 9223372036854775807) (hra : Row w w.heap.size B (ivs l)) :
    Calls Tryd.prog 16 #[f.val p, .slice B l.length cb, .int .i64 n] w fun e w' => e = .returned (.bool (fitB f n l)) ∧ Below w.heap.size w w' := by
  obtain ⟨rr, hrr⟩ : ∃ r : Bool, (r = true) ↔ f.ok := ⟨@decide f.ok (Classical.propDecidable _), @decide_eq_true_iff _ (Classical.propDecidable _)⟩
  obtain ⟨fw, hfw⟩ : ∃ b, b = (decide (f.Kind.length ≤ n) && decide (f.Out.length ≤ n)) := ⟨_, rfl⟩
  have HFE : Hid (∀ w', Calls Tryd.prog 31 #[f.val p, .int .i64 n] w' fun e w2 => e = .returned (.bool fw) ∧ Below w'.heap.size w' w2) := Lib.hid fun w' => by rw [hfw]; exact qFew_any f p n w' hlk hlo
  have HRI : Hid (∀ w', Below w.heap.size w w' → Calls Tryd.prog 32 #[f.val p] w' fun e w2 => e = .returned (.bool rr) ∧ Below w'.heap.size w' w2) := Lib.hid fun w' b => (right_any f p w' (hin.lift b) hlk hlo).mono fun e w2 ⟨r, he, hr, hb⟩ => by
    have : r = rr := by rw [Bool.eq_iff_iff, hr, hrr]
    rw [this] at he
    exact ⟨he, hb⟩
  have HRG := Lib.hid (fun w' (b : Below w.heap.size w w') => right_reg w' B cb l hll (hra.lift b))
  have hres : fitB f n l = (fw && rr && decide (l.length ≤ 200) && isReg l) := by
    rw [Bool.eq_iff_iff, fitB_iff, hfw]
    simp only [Bool.and_eq_true, decide_eq_true_iff]
    constructor
    · rintro ⟨h1, h2, h3, h4⟩
      exact ⟨⟨⟨⟨h2, by have := h1.kinds; have := h1.outs; omega⟩, hrr.2 h1⟩, h3⟩, h4⟩
    · rintro ⟨⟨⟨⟨h1, h2⟩, h3⟩, h4⟩, h5⟩
      exact ⟨hrr.1 h3, h1, h4, h5⟩
  rw [hres]
  have hll' : (l.length : Int) ≤ 9223372036854775807 := by omega
  clear hres hin hlk hlo hra hrr hfw hll
  generalize isReg l = rg at *
  obtain ⟨lb, hlb⟩ : ∃ b, b = decide (l.length ≤ 200) := ⟨_, rfl⟩
  rw [← hlb]
  have hlc : decide ((l.length : Int) ≤ 200) = lb := by rw [hlb, decide_eq_decide]; omega
  clear hlb
  generalize l.length = ll at *
  obtain ⟨A1, c1, A2, c2⟩ := p
  obtain ⟨W, H, D, K, O⟩ := f
  dsimp only [Fl.val] at *
  generalize K.length = n1 at *
  generalize O.length = n2 at *
  have HB0 : Hid (∀ w', Below (w.alloc (.cells (boxV W H D A1 n1 c1 A2 n2 c2) 31)).heap.size (w.alloc (.cells (boxV W H D A1 n1 c1 A2 n2 c2) 31)) w' → BoxS w.heap.size W H D A1 n1 c1 A2 n2 c2 w' ∧ Below w.heap.size w w') := Lib.hid fun w' b => ⟨boxS ((Blk.fresh w _ _).under b (by simp)), next_below ((Below.refl _ w).alloc (Nat.le_refl _) _) b⟩
  cases fw
  · go_enter Tryd.func16, Tryd.ntmps16
    go_wp2_with (go_at_call 31; refine (HFE.out _).mono ?_; rintro e w1 ⟨rfl, b1⟩; have B1 := Lib.hid (HB0.out _ b1))
    go_ret
    exact ⟨rfl, B1.out.2⟩
  · cases rr
    · go_enter Tryd.func16, Tryd.ntmps16
      go_wp2_with (first
        | (go_at_call 31; refine (HFE.out _).mono ?_; rintro e w1 ⟨rfl, b1⟩; obtain ⟨⟨m0, m1, m2, m3, m4⟩, hbw⟩ := HB0.out _ b1; have B1 := Lib.hid hbw; clear hbw)
        | (go_at_call 32; refine (HRI.out _ B1.out).mono ?_; rintro e w2 ⟨rfl, b2⟩; have B2 := Lib.hid (next_below B1.out b2)))
      go_ret
      exact ⟨rfl, B2.out⟩
    · cases lb
      · have hlc' : ¬ (ll : Int) ≤ 200 := of_decide_eq_false hlc
        go_enter Tryd.func16, Tryd.ntmps16
        go_wp2_with (first
          | (go_at_call 31; refine (HFE.out _).mono ?_; rintro e w1 ⟨rfl, b1⟩; obtain ⟨⟨m0, m1, m2, m3, m4⟩, hbw⟩ := HB0.out _ b1; have B1 := Lib.hid hbw; clear hbw)
          | (go_at_call 32; refine (HRI.out _ B1.out).mono ?_; rintro e w2 ⟨rfl, b2⟩; have B2 := Lib.hid (next_below B1.out b2)))
        go_ret
        exact ⟨rfl, B2.out⟩
      · have hlc' : (ll : Int) ≤ 200 := of_decide_eq_true hlc
        go_enter Tryd.func16, Tryd.ntmps16
        go_wp2_with (first
          | (go_at_call 31; refine (HFE.out _).mono ?_; rintro e w1 ⟨rfl, b1⟩; obtain ⟨⟨m0, m1, m2, m3, m4⟩, hbw⟩ := HB0.out _ b1; have B1 := Lib.hid hbw; clear hbw)
          | (go_at_call 32; refine (HRI.out _ B1.out).mono ?_; rintro e w2 ⟨rfl, b2⟩; have B2 := Lib.hid (next_below B1.out b2))
          | (go_at_call 13; refine (HRG.out _ B2.out).mono ?_; rintro e w3 ⟨rfl, rfl⟩))
        go_ret
        exact ⟨by simp, B2.out⟩
/-- A region that came in. -/
theorem reg_of {l : List Int} (h : isReg l = true) : ∃ a : List Nat, l = ivn a ∧ Reg a := by
  have h1 := of_decide_eq_true h
  have e : ivn (l.map Int.toNat) = l := by
    unfold ivn
    rw [List.map_map]
    exact (List.map_congr_left fun x hx => by have := (h1.2 x hx).1; simp; omega).trans (List.map_id' l)
  refine ⟨l.map Int.toNat, e.symm, ?_, fun x hx => ?_⟩
  · rw [List.pairwise_map]
    exact List.Pairwise.imp_of_mem (fun ha hb hab => by have := (h1.2 _ ha).1; have := (h1.2 _ hb).1; omega) h1.1
  · obtain ⟨y, hy, rfl⟩ := List.mem_map.1 hx
    have := h1.2 y hy
    omega
theorem isReg_reg {a : List Nat} (h : Reg a) : isReg (ivn a) = true := by
  refine decide_eq_true ⟨?_, fun x hx => ?_⟩
  · unfold ivn
    rw [List.pairwise_map]
    exact h.asc.imp fun h => by omega
  · obtain ⟨y, hy, rfl⟩ := List.mem_map.1 hx
    have := h.lt y hy
    omega
theorem hasB_nat {r : List Nat} {k : Nat} : hasB r (k : Int) = decide (k ∈ r) := by
  unfold hasB ivn
  rw [decide_eq_decide, List.mem_map]
  constructor
  · rintro ⟨y, hy, e⟩
    have : y = k := by omega
    rw [← this]
    exact hy
  · exact fun h => ⟨k, h, rfl⟩
theorem hasB_neg {r : List Nat} {x : Int} (h : x < 0) : hasB r x = false := by
  unfold hasB ivn
  refine decide_eq_false fun hm => ?_
  obtain ⟨y, hy, e⟩ := List.mem_map.1 hm
  omega
theorem hasB_toNat {r : List Nat} {x : Int} : hasB r x = true ↔ 0 ≤ x ∧ x.toNat ∈ r := by
  by_cases h : x < 0
  · rw [hasB_neg h]
    constructor
    · intro h; cases h
    · rintro ⟨h1, _⟩; omega
  · obtain ⟨k, rfl⟩ : ∃ k : Nat, x = k := ⟨x.toNat, by omega⟩
    rw [hasB_nat]
    simp
def edgeOf (f : Fl) (r : List Nat) : List Nat := r.filter (outB f r)
theorem edge_reg {f : Fl} {r : List Nat} (h : Reg r) : Reg (edgeOf f r) := ⟨h.asc.filter _, fun x hx => h.lt x (List.mem_filter.1 hx).1⟩
theorem edge_mem {f : Fl} {r : List Nat} {c : Nat} : c ∈ edgeOf f r ↔ c ∈ r ∧ outB f r c = true := List.mem_filter
theorem outB_iff {f : Fl} {r : List Nat} {c : Nat} : outB f r c = true ↔ ∃ d : Nat, d < 6 ∧ ∃ y, f.next c d = some y ∧ hasB r y = false := by
  unfold outB
  rw [List.any_eq_true]
  constructor
  · rintro ⟨d, hd, h⟩
    refine ⟨d, List.mem_range.1 hd, ?_⟩
    split at h
    · cases h
    · rename_i y e
      exact ⟨y, e, by simpa using h⟩
  · rintro ⟨d, hd, y, e, h⟩
    refine ⟨d, List.mem_range.2 hd, ?_⟩
    rw [e]
    show (!hasB r y) = true
    rw [h]
    rfl
abbrev uniR (a b : List Nat) : List Nat := regOf (uniB a b) 4096
abbrev intR (a b : List Nat) : List Nat := regOf (intB a b) 4096
abbrev difR (a b : List Nat) : List Nat := regOf (difB a b) 4096
theorem uni_mem {a b : List Nat} (ha : Reg a) (hb : Reg b) {x : Nat} : x ∈ uniR a b ↔ x ∈ a ∨ x ∈ b := by
  rw [regOf_mem]
  unfold uniB
  simp only [Bool.or_eq_true, decide_eq_true_iff]
  exact ⟨fun h => h.2, fun h => ⟨by rcases h with h | h; exact ha.lt x h; exact hb.lt x h, h⟩⟩
theorem int_mem {a b : List Nat} (ha : Reg a) {x : Nat} : x ∈ intR a b ↔ x ∈ a ∧ x ∈ b := by
  rw [regOf_mem]
  unfold intB
  simp only [Bool.and_eq_true, decide_eq_true_iff]
  exact ⟨fun h => h.2, fun h => ⟨ha.lt x h.1, h⟩⟩
theorem dif_mem {a b : List Nat} (ha : Reg a) {x : Nat} : x ∈ difR a b ↔ x ∈ a ∧ x ∉ b := by
  rw [regOf_mem]
  unfold difB
  simp only [Bool.and_eq_true, decide_eq_true_iff, Bool.not_eq_true', decide_eq_false_iff_not]
  exact ⟨fun h => h.2, fun h => ⟨ha.lt x h.1, h⟩⟩
theorem edge_has {f : Fl} {a : List Nat} {k : Nat} (h : k ∈ a) : hasB (edgeOf f a) (k : Int) = outB f a k := by
  rw [hasB_nat, Bool.eq_iff_iff, decide_eq_true_iff, edge_mem]
  exact ⟨fun h => h.2, fun e => ⟨h, e⟩⟩
theorem edge_sub {f : Fl} {a : List Nat} : subB (edgeOf f a) a = true := decide_eq_true fun x hx => (edge_mem.1 hx).1
theorem edge_all {f : Fl} (ho : f.ok) : edgeOf f (List.range f.Kind.length) = [] := by
  refine List.filter_eq_nil_iff.2 fun c _ h => ?_
  obtain ⟨d, hd, y, e, hy⟩ := outB_iff.1 h
  have h1 := Fl.is_bounds (Fl.next_is e).2.2.1
  have h2 := ho.kinds
  have : hasB (List.range f.Kind.length) y = true := hasB_toNat.2 ⟨h1.1, List.mem_range.2 (by omega)⟩
  rw [hy] at this
  cases this
theorem edge_uni {f : Fl} {a b : List Nat} (ha : Reg a) (hb : Reg b) : subB (edgeOf f (uniR a b)) (uniR (edgeOf f a) (edgeOf f b)) = true := by
  refine decide_eq_true fun x hx => ?_
  obtain ⟨h1, h2⟩ := edge_mem.1 hx
  obtain ⟨d, hd, y, e, hy⟩ := outB_iff.1 h2
  rw [uni_mem (edge_reg ha) (edge_reg hb)]
  have hn : ∀ r, (∀ z, z ∈ r → z ∈ uniR a b) → hasB r y = false := fun r hr => by
    cases hh : hasB r y with
    | false => rfl
    | true =>
      have := hasB_toNat.1 hh
      have h3 : hasB (uniR a b) y = true := hasB_toNat.2 ⟨this.1, hr _ this.2⟩
      rw [hy] at h3
      cases h3
  rcases (uni_mem ha hb).1 h1 with h | h
  · exact .inl (edge_mem.2 ⟨h, outB_iff.2 ⟨d, hd, y, e, hn a fun z hz => (uni_mem ha hb).2 (.inl hz)⟩⟩)
  · exact .inr (edge_mem.2 ⟨h, outB_iff.2 ⟨d, hd, y, e, hn b fun z hz => (uni_mem ha hb).2 (.inr hz)⟩⟩)
theorem newL_slice {w w' : World} {l : List Nat} {e : Ending} (h : NewL w l e w') : ∃ A c, e = .returned (.slice A l.length c) ∧ Row w' w'.heap.size A (qvs l) ∧ Below w.heap.size w w' := by
  obtain ⟨v, rfl, hs⟩ := h
  have hg := hs.grow 0 rfl
  obtain ⟨A, c, rfl⟩ := hg.slice
  exact ⟨A, c, rfl, row_of_any hg, hs.below⟩
/-- A list of cells comes back, to be read. -/
def GotL (w : World) (l : List Nat) (e : Ending) (w' : World) : Prop := ∃ A c, e = .returned (.slice A l.length c) ∧ Row w' w'.heap.size A (qvs l) ∧ Below w.heap.size w w'
theorem got_of {f : FuncId} {args : Array Value} {w : World} {l : List Nat} (h : Calls Tryd.prog f args w (NewL w l)) : Calls Tryd.prog f args w (GotL w l) := h.mono fun _ _ h => newL_slice h
end Rgn
end Go.Proofs.YtgophgnfiboefaaDoor

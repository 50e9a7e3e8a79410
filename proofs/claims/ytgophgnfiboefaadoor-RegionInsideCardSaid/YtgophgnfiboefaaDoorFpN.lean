/- The program's Path. -/
import Derived.Test.YtgophgnfiboefaaDoorFpL
namespace Go.Proofs.YtgophgnfiboefaaDoor
open Go.RowKit Wire
open Txt (Row)
open Own
open Dsk (Only nth)
set_option linter.unusedVariables false
set_option linter.unusedSimpArgs false
namespace Flo
/-- What Path returns, in memory. -/
def PathPost (f : Fl) (avoid : List Int) (a b : Int) (w : World) (e : Ending) (w' : World) : Prop :=
  ∃ A c l, e = .returned (.slice A (List.length l) c) ∧ PathIs f avoid a b l ∧ Row w' w'.heap.size A (ivs l) ∧ Below w.heap.size w w'
theorem pathIs_nocell {f : Fl} {avoid : List Int} {a b : Int} (ho : f.ok) (h : f.is b = false) : PathIs f avoid a b [] :=
  .inl ⟨rfl, fun a' b' _ hb k hto => by
    have h1 : Fw f avoid a' k b' := (fw_iff ho).2 hto
    have h2 := (walk_open ho h1).1
    have h3 := of_decide_eq_false h
    have h4 := ho.kinds
    omega⟩
theorem pathIs_noway {f : Fl} {avoid : List Int} {a : Int} {kb : Nat} {out : List Int} (ho : f.ok) (hb : kb < f.Kind.length) (hd : IsDist f.Kind.length (spSrc f [a] avoid) (spE f avoid false) out) (h : gt out kb = -1) : PathIs f avoid a kb [] :=
  .inl ⟨rfl, fun a' b' ha hb' k hto => by
    obtain rfl : kb = b' := by omega
    subst ha
    exact hd.none_ kb hb h k ((fw_iff ho).2 hto)⟩
/-- The way, and where it begins. -/
theorem Ex.path {f : Fl} {avoid : List Int} {a : Int} {kb k : Nat} {q : List Nat} {out bf : List Int} {s : Nat} {P D : Nat → Nat} (h : Ex f [a] avoid q out bf s q.length 0 P D) (ho : f.ok) (hb : kb < f.Kind.length) (hk : gt out kb = k) :
    PathIs f avoid a kb ((wayL bf kb k).map (fun c : Nat => (c : Int))) ∧ ∀ t, t ≤ k → anc bf kb t < f.Kind.length ∧ (t < k → gt bf (anc bf kb t) = anc bf kb (t + 1)) := by
  obtain ⟨x, _, hw, _⟩ := (h.dist (Nat.le_refl _)).some_ kb hb (by omega)
  have hsrc : ∀ {x c : Nat}, Walk (spSrc f [a] avoid) (spE f avoid false) x c → ∃ a' : Nat, spSrc f [a] avoid a' := by
    intro x c hw
    induction hw with
    | src h => exact ⟨_, h⟩
    | step _ _ ih => exact ih
  obtain ⟨a', ha'⟩ := hsrc hw
  have e : a = a' := by
    have := ha'.2.1
    simp at this
    exact this.symm
  subst e
  obtain ⟨_, h1, h2⟩ := spSrc_one.1 ha'
  have hD := h.done h1 h2
  refine ⟨.inr ⟨a', kb, _, rfl, rfl, rfl, hD.least ho hb hk⟩, fun t ht => ?_⟩
  obtain ⟨PP, DD, hO⟩ := hD.ord
  obtain ⟨⟨m1, _⟩, m2⟩ := hD.ahead hO hb hk t ht
  exact ⟨(hD.inq _ m1).1, fun h => (m2 h).1⟩
abbrev pthX (w : World) (fW fH fD : Int) (A1 : Option Addr) (n c1 : Nat) (A2 : Option Addr) (n2 c2 : Nat) (a : Int) (gd gb gS gc : Nat) (qv : Value) (out bf : List Int) : List Thing :=
  [BlkT w.heap.size 31 (boxV fW fH fD A1 n c1 A2 n2 c2), BlkT (w.heap.size + 1) 3 #[.int .i64 a], RowT 1 (slV gd n) n (ivs out), RowT 1 (slV gb n) n (ivs bf), BlkT gS 75 #[slV gc n, qv, slV gd n, slV gb n]]
/-- While the way is written down, from its end. -/
structure WayR (W : World) (X : List Thing) (gp k K1 : Nat) (bf : List Int) (kb : Nat) (bv iv : Value) (wr : World) (t : Nat) (ps : List Int) : Prop where
  iv : iv = .int .i64 t
  le : t ≤ K1
  bv : ∃ z : Int, bv = .int .i64 z ∧ (t ≤ k → z = anc bf kb t)
  sp : Sp W wr (X ++ [RowT 1 (slV gp K1) K1 (ivs ps)])
  len : ps.length = K1
  val : ∀ j : Nat, j < t → gt ps j = anc bf kb j
theorem way_rev {bf : List Int} {kb k : Nat} {ps : List Int} (hl : ps.length = k + 1) (hv : ∀ j : Nat, j < k + 1 → gt ps j = anc bf kb j) : ps.reverse = (wayL bf kb k).map (fun c : Nat => (c : Int)) := by
  refine List.ext_getElem? fun t => ?_
  by_cases ht : t ≤ k
  · rw [List.getElem?_map, wayL_at ht, List.getElem?_reverse (by omega), hl, gt_of (by omega), hv _ (by omega), show k + 1 - 1 - t = k - t from by omega]
    rfl
  · rw [List.getElem?_eq_none (by rw [List.length_reverse]; omega), List.getElem?_eq_none (by unfold wayL; simp; omega)]
end Flo
end Go.Proofs.YtgophgnfiboefaaDoor

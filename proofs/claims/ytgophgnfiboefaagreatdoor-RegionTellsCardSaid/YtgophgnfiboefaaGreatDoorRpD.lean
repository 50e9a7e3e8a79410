/- The program's Within. -/
import Derived.Test.YtgophgnfiboefaaGreatDoorRpC
namespace Go.Proofs.YtgophgnfiboefaaGreatDoor
open Go.RowKit Go.Shelf Wire
open Txt (Row)
open Go.Proofs.YtgophgnfiboefaaGreatDoor.Own Flo
open Dsk (Only nth)
set_option linter.unusedVariables false
set_option linter.unusedSimpArgs false
attribute [local go_sem] Oper.semAt_some
namespace Rgn
def subB (a b : List Nat) : Bool := decide (∀ x ∈ a, x ∈ b)
def onlyL (l : List Ow) : Bool := l.any fun x => x.2.1 && !x.2.2
theorem onlyL_snoc (pre : List Ow) (x : Ow) : onlyL (pre ++ [x]) = (onlyL pre || (x.2.1 && !x.2.2)) := by simp [onlyL]
theorem onlyL_all {a b : List Nat} (ha : a.Pairwise (· < ·)) (hb : b.Pairwise (· < ·)) : subB a b = !onlyL (mg a b) := by
  obtain ⟨h1, _⟩ := mg_has _ a b (Nat.le_refl _) ha hb
  rw [Bool.eq_iff_iff]
  unfold subB onlyL
  rw [decide_eq_true_iff, Bool.not_eq_true', List.any_eq_false]
  constructor
  · rintro h ⟨x, p, q⟩ hm
    obtain ⟨k1, k2, k3⟩ := (h1 x p q).1 hm
    simp only at k2 k3 ⊢
    rw [k2, k3]
    by_cases e : x ∈ a
    · simp [h x e]
    · simp [e]
  · intro h x hx
    have := h (x, true, decide (x ∈ b)) ((h1 x _ _).2 ⟨.inl hx, (decide_eq_true hx).symm, rfl⟩)
    simpa using this
theorem onlyL_some {a b : List Nat} {pre : List Ow} (h : pre <+: mg a b) (hm : onlyL pre = true) : onlyL (mg a b) = true := by
  obtain ⟨r, e⟩ := h
  rw [← e]
  unfold onlyL at hm ⊢
  rw [List.any_append, hm, Bool.true_or]
set_option maxRecDepth 100000 in
set_option maxHeartbeats 4000000 in
theorem within_any (w : World) (A B : Option Addr) (ca cb : Nat) (a b : List Nat) (ha : a.Pairwise (· < ·)) (hb : b.Pairwise (· < ·)) (hla : a.length ≤ 1000000) (hlb : b.length ≤ 1000000) (hra : Row w w.heap.size A (qvs a)) (hrb : Row w w.heap.size B (qvs b)) :
    Calls Tryz.prog 19 #[.slice A a.length ca, .slice B b.length cb] w fun e w' => e = .returned (.bool (subB a b)) ∧ Below w.heap.size w w' := by
  refine (callsIn_wide (n := 4)).1 ?_
  refine callsIn_of_wp_marks Tryz.func19 rfl trivial ?_ rfl
  simp only [Tryz.ntmps19, List.size_toArray, List.length_cons, List.length_nil, Nat.reduceAdd, Nat.reduceSub, Array.replicate_succ, Array.replicate_zero, List.push_toArray, List.append_toArray, List.nil_append, List.cons_append]
  gi_wp2_with (refine ⟨trivial, ?_⟩; gi_at_call 40; refine (callsIn_wide.2 (merge_any A B a.length b.length ca cb _)).mono ?_; rintro e w' ⟨rfl, rfl⟩)
  have b0 := ((Go.Boxed.new w 4 (.bool false)).alloc (.cells #[.slice A a.length ca] 22)).alloc (.cells #[.slice B b.length cb] 22)
  have b2 := (Go.Boxed.new (w.alloc (.cells #[.bool false] 4)) 22 (.slice A a.length ca)).alloc (.cells #[.slice B b.length cb] 22)
  have b3 := Go.Boxed.new ((w.alloc (.cells #[.bool false] 4)).alloc (.cells #[.slice A a.length ca] 22)) 22 (.slice B b.length cb)
  have hB0 : Below w.heap.size w (((w.alloc (.cells #[.bool false] 4)).alloc (.cells #[.slice A a.length ca] 22)).alloc (.cells #[.slice B b.length cb] 22)) := (((Below.refl _ w).alloc (Nat.le_refl _) _).alloc (by simp) _).alloc (by simp; omega) _
  have hsz : (((w.alloc (.cells #[.bool false] 4)).alloc (.cells #[.slice A a.length ca] 22)).alloc (.cells #[.slice B b.length cb] 22)).heap.size = w.heap.size + 3 := by simp
  simp only [World.size_alloc, Nat.add_assoc, Nat.reduceAdd] at b0 b2 b3
  obtain ⟨W0, hW0⟩ : ∃ W0, (((w.alloc (.cells #[.bool false] 4)).alloc (.cells #[.slice A a.length ca] 22)).alloc (.cells #[.slice B b.length cb] 22)) = W0 := ⟨_, rfl⟩
  rw [hW0] at b0 b2 b3 hB0 hsz ⊢
  clear hW0
  refine wpIn_rangeFunc_ownH rfl (by omega) (gf := 60) (lb := #[.pointer (some ⟨w.heap.size + 1, 0, none⟩), .pointer (some ⟨w.heap.size + 2, 0, none⟩)]) rfl trivial (enters_of Tryz.func60 (by kernel_rfl) rfl)
    (merge_stops 3 (by omega) (w.heap.size + 1) (w.heap.size + 2) w.heap.size (fun i => i = w.heap.size + 1 ∨ i = w.heap.size + 2) (.inl rfl) (.inr rfl) A B ca cb a b hla hlb W0 (fun i hi => by omega) (by omega) (hra.below hB0) (hrb.below hB0) b2 b3)
    kpS_t (kpS_b (by omega) (fun i hi => by omega)) (Below.refl _ _) (fun _ => rfl)
    (fun pre W => ((Go.Boxed W w.heap.size 4 (.bool false) ∧ Go.Boxed W (w.heap.size + 2) 22 (.slice B b.length cb)) ∧ onlyL pre = false) ∧ Below w.heap.size w W)
    (fun c pre W => ((c = .ret ∧ onlyL pre = true) ∧ Go.Boxed W w.heap.size 4 (.bool false)) ∧ Below w.heap.size w W)
    (OwnFrom.and (OwnFrom.and (OwnFrom.and (Go.Own.from (box_own _ _ _) _) (Go.Own.from (box_own _ _ _) _)) (ownFrom_pure _ _)) (ownFrom_below (Nat.le_refl _) (by omega)))
    (fun c => OwnFrom.and (OwnFrom.and (ownFrom_pure _ _) (Go.Own.from (box_own _ _ _) _)) (ownFrom_below (Nat.le_refl _) (by omega)))
    ⟨⟨⟨b0, b3⟩, rfl⟩, hB0⟩
    (fun x a' W => ∃ Bx, w.heap.size + 2 < Bx ∧ Blk W Bx 45 #[.bool x.2.1, .bool x.2.2] ∧ a' = { tmps := #[.slice A a.length ca, .slice B b.length cb, undef, undef, .pointer (some ⟨w.heap.size, 0, none⟩), undef, .pointer (some ⟨Bx, 0, none⟩), .slice A a.length ca, .slice B b.length cb, .func (.func 60) #[] #[.pointer (some ⟨w.heap.size + 1, 0, none⟩), .pointer (some ⟨w.heap.size + 2, 0, none⟩)], .int .i64 (x.1 : Nat), agB x.2.1 x.2.2, undef, undef], defers := [] })
    (fun x a' _ X Y row hs hg hr => by obtain ⟨Bx, h1, h2, h3⟩ := hs; exact ⟨Bx, h1, blk_own Bx 45 (fun (_ : Unit) => #[.bool x.2.1, .bool x.2.2]) () X Y row h2 hg (fun r e => (hr r e).2), h3⟩)
    ?assign ?body ?done ?stop
  case assign =>
    rintro l pre ⟨x, p, q⟩ W K ⟨⟨⟨h0, h3⟩, hm⟩, hB1⟩ hK
    gi_wp2
    exact hK _ _ ((KeepsOthers.alloc _ _).from _) (kpS_below hB1.size (fun i hi => by have := h3.lt; omega) ((Below.refl _ _).alloc (Nat.le_refl _) _)) ⟨⟨⟨h0.alloc _, h3.alloc _⟩, hm⟩, hB1.alloc hB1.size _⟩ ⟨W.heap.size, h3.lt, Blk.fresh W 45 #[.bool p, .bool q], rfl⟩
  case body =>
    rintro l pre ⟨x, p, q⟩ a' W hl _ ⟨⟨⟨h0, h3⟩, hm⟩, hB1⟩ ⟨Bx, hBx, bX, rfl⟩ hlt
    obtain ⟨bv, hbv⟩ : ∃ bv : Bool, bv = (p && !q) := ⟨_, rfl⟩
    have HC : Hid (∀ w, Calls Tryz.prog 38 #[agB p q] w fun e w' => e = .returned (.bool bv) ∧ Below w.heap.size w w') := Lib.hid (by intro w; rw [hbv]; exact only_any p q w)
    have HI : Hid (onlyL (pre ++ [(x, p, q)]) = bv) := Lib.hid (by rw [onlyL_snoc, hm, Bool.false_or, hbv])
    clear hbv
    have x0 := bX.at 0
    have x1 := bX.at 1
    cases bv
    · gi_wp2_with (refine ⟨trivial, ?_⟩; gi_at_call 38; refine (CallsIn.inRound l (callsIn_wide.2 (HC.out _))).mono ?_; rintro e w3 ⟨rfl, b3⟩)
      exact ⟨keeps_below _ b3, kpS_below hB1.size (fun i hi => by have := h3.lt; omega) b3, ⟨⟨boxed_below h0 b3, boxed_below h3 b3⟩, HI.out⟩, hB1.trans (b3.mono hB1.size)⟩
    · gi_wp2_with (refine ⟨trivial, ?_⟩; gi_at_call 38; refine (CallsIn.inRound l (callsIn_wide.2 (HC.out _))).mono ?_; rintro e w3 ⟨rfl, b3⟩; have h03 := boxed_below h0 b3; have cR := h03.cell; have fR := h03.frozen)
      exact ⟨keeps_trans (keeps_below _ b3) ((KeepsOthers.setCell _ _ _).from _), ⟨⟨rfl, HI.out⟩, h03.set _⟩, (hB1.trans (b3.mono hB1.size)).setCell (p := ⟨w.heap.size, 0, none⟩) (Nat.le_refl _) _⟩
  case done =>
    rintro D ys W hD rfl ⟨⟨⟨h0, h3⟩, hm⟩, hB1⟩ hK
    have cR := h0.cell
    have fR := h0.frozen
    gi_wp2
    have hK' := (KeepsOthers.setCell W ⟨w.heap.size, 0, none⟩ (.bool true)).same D _ hK rfl
    refine ⟨by simp, .inl ⟨_, _, rfl, run_takeDeferred hK', ?_⟩⟩
    have hc5 := cell_kept (World.cell?_setCell_same' W ⟨w.heap.size, 0, none⟩ (.bool true) (by rw [cR]; rfl)) (grownBy_putObj' _ D (.deferred none)) (fun r e => by cases e; exact ⟨_, hK', rfl⟩)
    refine ⟨.bool true, ?_, ?_, (hB1.setCell (p := ⟨w.heap.size, 0, none⟩) (Nat.le_refl _) _).trans (belowK_b (w := w) (Nat.le_refl _) _ D _ _ (by omega) hK' rfl rfl)⟩
    · simp [results, Tryz.f19, go_sem, hc5]
    · rw [onlyL_all ha hb, hm]
      rfl
  case stop =>
    rintro D c pre W hD hpre ⟨⟨⟨rfl, hm⟩, h0⟩, hB1⟩ hK
    have cR := h0.cell
    gi_wp2
    refine ⟨by simp, .inl ⟨_, _, rfl, run_takeDeferred hK, ?_⟩⟩
    have hc5 := cell_kept cR (grownBy_putObj' _ D (.deferred none)) (fun r e => by cases e; exact ⟨_, hK, rfl⟩)
    refine ⟨.bool false, ?_, ?_, hB1.trans (belowK_b (w := w) (Nat.le_refl _) W D _ _ (by omega) hK rfl rfl)⟩
    · simp [results, Tryz.f19, go_sem, hc5]
    · rw [onlyL_all ha hb, onlyL_some hpre hm]
      rfl
end Rgn
end Go.Proofs.YtgophgnfiboefaaGreatDoor

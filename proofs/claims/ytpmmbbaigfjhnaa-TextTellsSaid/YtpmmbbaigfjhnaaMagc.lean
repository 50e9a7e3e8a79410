import Derived.Test.YtpmmbbaigfjhnaaIter
namespace Go.Proofs.Ytpmmbbaigfjhnaa
open Go.RowKit Go.Shelf Wire
set_option linter.unusedVariables false
set_option linter.unusedSimpArgs false
attribute [local go_sem] Oper.semAt_some
namespace Txt

def mag (q : Pt) : Bool := !(q.kind == 0) && !(q.kind == 1)
theorem magic_eq (p : List UInt8) : magic p = (parse p).any mag := rfl

def anyMag (pre : List GPt) : Bool := pre.any fun x => mag x.1
theorem anyMag_snoc (pre : List GPt) (x : GPt) : anyMag (pre ++ [x]) = (anyMag pre || mag x.1) := by
  unfold anyMag
  rw [List.any_append]
  simp
theorem anyMag_all {ys : List GPt} {p : List UInt8} (h : ys.map (·.1) = parse p) : magic p = anyMag ys := by
  rw [magic_eq, ← h, List.any_map]
  rfl
theorem anyMag_some {ys : List GPt} {p : List UInt8} (h : ys.map (·.1) <+: parse p) (hm : anyMag ys = true) : magic p = true := by
  rw [magic_eq]
  obtain ⟨x, hx, hmx⟩ := List.any_eq_true.1 hm
  exact List.any_eq_true.2 ⟨x.1, h.subset (List.mem_map.2 ⟨x, hx, rfl⟩), hmx⟩

/-- The three cells of a part. -/
abbrev ptC (q : Pt) : Array Value := #[.int .i64 (q.kind : Nat), str q.src, str q.set]

theorem blk_own {β : Type} (B : Nat) (t : TypeId) (f : β → Array Value) : Own (fun s W => Blk W B t (f s)) := fun s X Y row hs hg hrow =>
  hs.past hg (fun e' => by obtain ⟨o, ho, hc⟩ := hrow B e'.symm; rw [show X.heap[B]? = _ from hs] at ho; cases ho; cases hc)

set_option maxRecDepth 100000 in
set_option maxHeartbeats 2000000 in
theorem magic_any (p : ByteArray) (hp : p.size ≤ 1000000) (w : World) :
    Calls Try.prog 26 #[.string p] w fun e w' => e = .returned (.bool (magic (bl p))) ∧ Below w.heap.size w w' := by
  refine (callsIn_wide (n := 4)).1 ?_
  refine callsIn_of_wp_marks Try.func26 rfl trivial ?_ rfl
  simp only [Try.ntmps26, List.size_toArray, List.length_cons, List.length_nil, Nat.reduceAdd, Nat.reduceSub, Array.replicate_succ, Array.replicate_zero, List.push_toArray, List.append_toArray, List.nil_append, List.cons_append]
  gi_wp2_with (refine ⟨trivial, ?_⟩; gi_at_call 41; refine (callsIn_wide.2 (parts_any p _)).mono ?_; rintro e w' ⟨rfl, rfl⟩)
  have bR := (Boxed.new w 4 (.bool false)).alloc (.cells #[.string p] 9)
  have bP : Blk ((w.alloc (.cells #[.bool false] 4)).alloc (.cells #[.string p] 9)) (w.heap.size + 1) 9 #[.string p] := by
    have := Blk.fresh (w.alloc (.cells #[.bool false] 4)) 9 #[.string p]
    rwa [World.size_alloc] at this
  have hB0 : Below w.heap.size w ((w.alloc (.cells #[.bool false] 4)).alloc (.cells #[.string p] 9)) := ((Below.refl _ w).alloc (Nat.le_refl _) _).alloc (by simp) _
  have hsz : ((w.alloc (.cells #[.bool false] 4)).alloc (.cells #[.string p] 9)).heap.size = w.heap.size + 2 := by simp
  obtain ⟨W0, hW0⟩ : ∃ W0, (w.alloc (.cells #[.bool false] 4)).alloc (.cells #[.string p] 9) = W0 := ⟨_, rfl⟩
  rw [hW0] at bR bP hB0 hsz ⊢
  clear hW0
  refine wpIn_rangeFunc_ownH rfl (by omega) (gf := 47) (lb := #[.pointer (some ⟨w.heap.size + 1, 0, none⟩)]) rfl trivial (enters_of Try.func47 (by kernel_rfl) rfl)
    (parts_stops 3 (by omega) (w.heap.size + 1) w.heap.size p hp W0 (by omega) bP) kpP_t (kpP_b (by omega)) (Below.refl _ _) (fun _ => rfl)
    (fun pre W => (Boxed W w.heap.size 4 (.bool false) ∧ anyMag pre = false) ∧ Below w.heap.size w W)
    (fun c pre W => ((c = .ret ∧ anyMag pre = true) ∧ Boxed W w.heap.size 4 (.bool true)) ∧ Below w.heap.size w W)
    (OwnFrom.and (OwnFrom.and (Own.from (boxed_own _ _ _) _) (ownFrom_pure _ _)) (ownFrom_below (Nat.le_refl _) (by omega)))
    (fun c => OwnFrom.and (OwnFrom.and (ownFrom_pure _ _) (Own.from (boxed_own _ _ _) _)) (ownFrom_below (Nat.le_refl _) (by omega)))
    ⟨⟨bR, rfl⟩, hB0⟩
    (fun x a' W => ∃ Bx, w.heap.size < Bx ∧ Blk W Bx 49 (ptC x.1) ∧ a' = { tmps := #[.string p, undef, .pointer (some ⟨w.heap.size, 0, none⟩), .pointer (some ⟨Bx, 0, none⟩), .string p, .func (.func 47) #[] #[.pointer (some ⟨w.heap.size + 1, 0, none⟩)], ptV x.1, undef, undef, undef, undef, undef, undef, undef, undef], defers := [] })
    (fun x a' _ X Y row hs hg hr => by obtain ⟨Bx, h1, h2, h3⟩ := hs; exact ⟨Bx, h1, blk_own Bx 49 (fun (_ : Unit) => ptC x.1) () X Y row h2 hg (fun r e => (hr r e).2), h3⟩)
    ?assign ?body ?done ?stop
  case assign =>
    rintro l pre x W K ⟨⟨bR1, hm⟩, hB1⟩ hK
    gi_wp2
    exact hK _ _ ((KeepsOthers.alloc _ _).from _) (kpP_alloc hB1.size _) ⟨⟨bR1.alloc _, hm⟩, hB1.alloc hB1.size _⟩ ⟨W.heap.size, bR1.lt, Blk.fresh W 49 (ptC x.1), rfl⟩
  case body =>
    rintro l pre ⟨⟨kd, a, b⟩, hg⟩ a' W hl _ ⟨⟨bR1, hm⟩, hB1⟩ ⟨Bx, hBx, bX, rfl⟩ hlt
    have c0 := bX.at 0
    have cR := bR1.cell
    have fR := bR1.frozen
    by_cases hk : kd = 0 ∨ kd = 1
    · have hm2 : mag ⟨kd, a, b⟩ = false := by rcases hk with h | h <;> subst h <;> rfl
      have hk2 : ((kd : Int) != 0) = false ∨ (((kd : Int) != 0) = true ∧ ((kd : Int) != 1) = false) := by rcases hk with h | h <;> subst h <;> decide
      clear hk
      rcases hk2 with h1 | ⟨h1, h2⟩
      all_goals
        gi_wp2
        exact ⟨KeepsFrom.refl _ _, kpP_refl _ _, ⟨bR1, by rw [anyMag_snoc, hm]; exact hm2⟩, hB1⟩
    · have hm2 : mag ⟨kd, a, b⟩ = true := by
        simp only [not_or] at hk
        simp [mag, hk.1, hk.2]
      have h1 : ((kd : Int) != 0) = true := by simp; omega
      have h2 : ((kd : Int) != 1) = true := by simp; omega
      clear hk
      gi_wp2
      exact ⟨(KeepsOthers.setCell _ _ _).from _, ⟨⟨rfl, by rw [anyMag_snoc, hm2, Bool.or_true]⟩, bR1.set _⟩, hB1.setCell (p := ⟨w.heap.size, 0, none⟩) (Nat.le_refl _) _⟩
  case done =>
    rintro D ys W hD hys ⟨⟨bR1, hm⟩, hB1⟩ hK
    have cR := bR1.cell
    have fR := bR1.frozen
    gi_wp2
    have hK' := (KeepsOthers.setCell W ⟨w.heap.size, 0, none⟩ (.bool false)).same D _ hK rfl
    refine ⟨by simp, .inl ⟨_, _, rfl, run_takeDeferred hK', ?_⟩⟩
    have hc5 := cell_kept (World.cell?_setCell_same' W ⟨w.heap.size, 0, none⟩ (.bool false) (by rw [cR]; rfl)) (grownBy_putObj' _ D (.deferred none)) (fun r e => by cases e; exact ⟨_, hK', rfl⟩)
    refine ⟨.bool false, ?_, ?_, (hB1.setCell (p := ⟨w.heap.size, 0, none⟩) (Nat.le_refl _) _).trans (belowK_b (w := w) (Nat.le_refl _) _ D _ _ (by omega) hK' rfl rfl)⟩
    · simp [results, Try.f26, go_sem, hc5]
    · rw [anyMag_all hys]
      exact congrArg (fun b => Ending.returned (.bool b)) hm.symm
  case stop =>
    rintro D c pre W hD hpre ⟨⟨⟨rfl, hm⟩, bR1⟩, hB1⟩ hK
    have cR := bR1.cell
    gi_wp2
    refine ⟨by simp, .inl ⟨_, _, rfl, run_takeDeferred hK, ?_⟩⟩
    have hc5 := cell_kept cR (grownBy_putObj' _ D (.deferred none)) (fun r e => by cases e; exact ⟨_, hK, rfl⟩)
    refine ⟨.bool true, ?_, ?_, hB1.trans (belowK_b (w := w) (Nat.le_refl _) W D _ _ (by omega) hK rfl rfl)⟩
    · simp [results, Try.f26, go_sem, hc5]
    · rw [anyMag_some hpre hm]
end Txt
end Go.Proofs.Ytpmmbbaigfjhnaa

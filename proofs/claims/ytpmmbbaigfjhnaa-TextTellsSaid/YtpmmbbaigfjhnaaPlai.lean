import Derived.Test.YtpmmbbaigfjhnaaMagc
import Derived.Test.YtpmmbbaigfjhnaaQuot
namespace Go.Proofs.Ytpmmbbaigfjhnaa
open Go.RowKit Go.Shelf Wire
set_option linter.unusedVariables false
set_option linter.unusedSimpArgs false
attribute [local go_sem] Oper.semAt_some
namespace Txt

section
variable {F : Fence} {nF : Nat} {P : Program} (w : World)
theorem wpListIn_append_src {ops : Array Oper} {rest : List Oper} {o : Oper} {a : Act} {Q : Exit → Act → World → Prop} (hgd : o.guard = none) (s xo : Operand) (t tx : TypeId)
    (ho : o.op = .call { callee := .builtin .append, args := #[s, xo], argTypes := #[t, tx] })
    (B : Nat) (e : TypeId) (i : TypeInfo) (z : Value) (size bytes : Nat) (ht : P.underlying t = some (.slice e)) (hi : P.info? e = some i) (hz : i.zero = some z)
    (hsize : i.size = size) (hby : i.bytes = bytes) (hzs : z.cells.size = size) (hsz : 0 < size)
    (v : Value) (n : Nat) (xs : List Value) (hsv : a.eval s = v) (hown : Grow w B size v n xs) (x : Value) (m : Nat) (news : List Value) (hxv : a.eval xo = x) (hs : Src P size tx x m news w)
    (h63 : n + m ≤ maxLen) (hbytes : (n + m) * bytes ≤ 140737488355328) (hB : B ≤ w.heap.size)
    (h : ∀ v' w', Grow w' B size v' (n + m) (xs ++ news) → w.grownBy w' v.ownBlock → (v'.ownBlock = v.ownBlock ∨ v'.ownBlock = some w.heap.size) → wpListIn F nF P ops Q rest (a.put o.dst v') w') : wpListIn F nF P ops Q (o :: rest) a w := by
  refine wpListIn_plain hgd fun K hK => ?_
  obtain ⟨v', w', hr, h2, h3, h4⟩ := run_append_src (P := P) w B t tx o.type e i z size bytes ht hi hz hsize hby hzs hsz v n xs hown x m news hs h63 hbytes hB
  unfold Oper.wpIn
  refine ⟨by simp [Oper.about, ho, resolve, Target.leads, Sem.run_pure], ?_⟩
  rw [Oper.semAt_plain F _ _ (by rw [ho]; intro c hc'; cases hc')]
  simp only [execOp, ho, resolve, invoke, builtin, Sem.run_bind, Sem.run_pure, Result.andThen_ok, List.map_toArray, List.map_cons, List.map_nil, hsv, hxv, hr]
  exact hK _ _ (h v' w' h2 h3 h4)
theorem stepIn_append_src {ops : Array Oper} {o : Oper} {a : Act} {K : Act → World → Prop} {Q : Exit → Act → World → Prop} {E : Prop} (hgd : o.guard = none) (s xo : Operand) (t tx : TypeId)
    (ho : o.op = .call { callee := .builtin .append, args := #[s, xo], argTypes := #[t, tx] })
    (B : Nat) (e : TypeId) (i : TypeInfo) (z : Value) (size bytes : Nat) (ht : P.underlying t = some (.slice e)) (hi : P.info? e = some i) (hz : i.zero = some z)
    (hsize : i.size = size) (hby : i.bytes = bytes) (hzs : z.cells.size = size) (hsz : 0 < size)
    (v : Value) (n : Nat) (xs : List Value) (hsv : a.eval s = v) (hown : Grow w B size v n xs) (x : Value) (m : Nat) (news : List Value) (hxv : a.eval xo = x) (hs : Src P size tx x m news w)
    (h63 : n + m ≤ maxLen) (hbytes : (n + m) * bytes ≤ 140737488355328) (hB : B ≤ w.heap.size)
    (h : ∀ v' w', Grow w' B size v' (n + m) (xs ++ news) → w.grownBy w' v.ownBlock → (v'.ownBlock = v.ownBlock ∨ v'.ownBlock = some w.heap.size) → K (a.put o.dst v') w') :
    if Region.wanted o (yielded ops a.tmps) = true then Oper.wpIn F nF P o a w K Q else E := by
  have hw : Region.wanted o (yielded ops a.tmps) = true := by simp [Region.wanted, hgd]
  rw [if_pos hw]
  obtain ⟨v', w', hr, h2, h3, h4⟩ := run_append_src (P := P) w B t tx o.type e i z size bytes ht hi hz hsize hby hzs hsz v n xs hown x m news hs h63 hbytes hB
  unfold Oper.wpIn
  refine ⟨by simp [Oper.about, ho, resolve, Target.leads, Sem.run_pure], ?_⟩
  rw [Oper.semAt_plain F _ _ (by rw [ho]; intro c hc'; cases hc')]
  simp only [execOp, ho, resolve, invoke, builtin, Sem.run_bind, Sem.run_pure, Result.andThen_ok, List.map_toArray, List.map_cons, List.map_nil, hsv, hxv, hr]
  exact h v' w' h2 h3 h4
end

def plains (pre : List GPt) : List UInt8 := pre.flatMap fun x => plainPt x.1
theorem plains_snoc (pre : List GPt) (x : GPt) : plains (pre ++ [x]) = plains pre ++ plainPt x.1 := by
  unfold plains
  rw [List.flatMap_append]
  simp
theorem two_of {a : List UInt8} (h : a.length = 2) : ∃ c d, a = [c, d] := by
  match a, h with
  | [c, d], _ => exact ⟨c, d, rfl⟩
theorem plains_two (pre : List GPt) (c d : UInt8) (b : List UInt8) (hg : Good ⟨1, [c, d], b⟩) : plains (pre ++ [(⟨⟨1, [c, d], b⟩, hg⟩ : GPt)]) = plains pre ++ [d] := plains_snoc _ _
theorem plains_all {ys : List GPt} {p : List UInt8} (h : ys.map (·.1) = parse p) : plains ys = plain p := by
  unfold plain plains
  rw [← h, List.flatMap_map]
theorem plains_len (pre : List GPt) : (plains pre).length ≤ pre.length * 1000000 := by
  induction pre with
  | nil => simp [plains]
  | cons x pre ih =>
    have h : (plainPt x.1).length ≤ 1000000 := by
      have := x.2.2.1
      unfold plainPt
      split
      · rw [List.length_drop]; omega
      · exact this
    have e : plains (x :: pre) = plainPt x.1 ++ plains pre := by simp [plains]
    rw [e, List.length_append, List.length_cons]
    omega

/-- The variable at block B0, and the row of bytes that it holds. -/
def OutAt (w : World) (W : World) (l : List UInt8) : Prop := ∃ v, Boxed W w.heap.size 39 v ∧ Grow W (w.heap.size + 1) 1 v l.length (byteCells ⟨l.toArray⟩) ∧ (v = .slice none 0 0 ∨ 0 < l.length)

theorem grow_own {W W' : World} {row : Option Nat} {B n : Nat} {v : Value} {xs : List Value} (h : Grow W B 1 v n xs) (hg : W.grownBy W' row) (hr : ∀ r, row = some r → ∃ o : Obj, W.heap[r]? = some o ∧ o.isCells = false) (h0 : v = .slice none 0 0 ∨ 0 < n) : Grow W' B 1 v n xs := by
  refine h.grown hg ?_
  rcases h0 with rfl | h0
  · exact .inl rfl
  · rcases h.form with ⟨rfl, _⟩ | ⟨g, cap, rfl, h1, h2, h3, h4, h5, h6, h7⟩
    · exact .inl rfl
    · right
      intro e
      obtain ⟨o, ho, hc⟩ := hr g (by rw [← e]; rfl)
      have hx := h5 0 (by omega)
      unfold World.cell? at hx
      simp only [ho] at hx
      cases o <;> simp_all [Obj.isCells]

/-- The block of a row that is not empty holds bytes. -/
theorem row_not_pin {W : World} {B : Nat} {v : Value} {l : List UInt8} (h : Grow W B 1 v l.length (byteCells ⟨l.toArray⟩)) (h0 : v = .slice none 0 0 ∨ 0 < l.length) : ∀ g, v.ownBlock = some g → ¬ Pin W g ∧ ∀ o : Obj, W.heap[g]? = some o → o.isCells = true := by
  intro g hg
  rcases h0 with rfl | h0
  · cases hg
  · rcases h.form with ⟨rfl, _⟩ | ⟨g', cap, rfl, h1, h2, h3, h4, h5, h6, h7⟩
    · cases hg
    · obtain rfl : g' = g := by simpa [Value.ownBlock] using hg
      obtain ⟨c, r, rfl⟩ : ∃ c r, l = c :: r := by
        cases l with
        | nil => simp at h0
        | cons c r => exact ⟨c, r, rfl⟩
      have hx := h7 0 (.int .u8 c.toNat) rfl
      constructor
      · rintro ⟨cs, t, fr, hh, hp⟩
        rw [cell_of_row W _ 0 _ _ _ hh] at hx
        rcases hp with ⟨k, a, b, rfl⟩ | ⟨a, rfl⟩
        · cases hx
        · cases hx
      · intro o ho
        unfold World.cell? at hx
        simp only [ho] at hx
        cases o <;> simp_all [Obj.isCells]

theorem out_step {w W w1 w4 : World} {v v4 : Value} {l x : List UInt8} {xs : List Value} {m B0 : Nat} (bR1 : Boxed W w.heap.size 39 v) (hgr : Grow W (w.heap.size + 1) 1 v l.length (byteCells ⟨l.toArray⟩))
    (h0 : v = .slice none 0 0 ∨ 0 < l.length) (hB1 : Below w.heap.size w W) (h1 : Below W.heap.size W w1) (hown4 : Grow w4 (w.heap.size + 1) 1 v4 (l.length + m) (byteCells ⟨l.toArray⟩ ++ xs)) (hg4 : w1.grownBy w4 v.ownBlock)
    (hx : xs = byteCells ⟨x.toArray⟩) (hn : m = x.length) (hpos : 0 < m) :
    KeepsFrom B0 W (w4.setCell ⟨w.heap.size, 0, none⟩ v4) ∧ KpP w.heap.size W (w4.setCell ⟨w.heap.size, 0, none⟩ v4) ∧ OutAt w (w4.setCell ⟨w.heap.size, 0, none⟩ v4) (l ++ x) ∧ Below w.heap.size w (w4.setCell ⟨w.heap.size, 0, none⟩ v4) := by
  subst hx hn
  have hlt := bR1.lt
  have g1 : W.grownBy w1 none := below_none h1 none
  have hgr1 := hgr.below h1
  have hp1 := row_not_pin hgr1 h0
  have hrow : ∀ g, v.ownBlock = some g → w.heap.size + 1 ≤ g := fun g hg => (hgr.block g hg).1
  have b1 : Boxed w1 w.heap.size 39 v := bR1.kept g1 (by simp)
  have b4 : Boxed w4 w.heap.size 39 v := b1.kept hg4 (fun e => by have := hrow _ e.symm; omega)
  have hz1 := h1.size
  have hz4 := hg4.size
  have hnp : ¬ Pin w4 w.heap.size := by
    rintro ⟨cs, t, fr, hh, hp⟩
    rw [show w4.heap[w.heap.size]? = _ from b4] at hh
    obtain ⟨A, c, hv⟩ := hgr.slice
    subst hv
    rcases hp with ⟨k, a, b, rfl⟩ | ⟨a, rfl⟩
    · cases hh
    · cases hh
  have K1 : KpP w.heap.size W w1 := kpP_grown g1 (by omega) (fun g e => by cases e)
  have K2 : KpP w.heap.size w1 w4 := kpP_grown hg4 (by omega) (fun g e => ⟨by have := hrow g e; omega, (hp1 g e).1⟩)
  have K3 : KpP w.heap.size w4 (w4.setCell ⟨w.heap.size, 0, none⟩ v4) := kpP_grown (grown_set w4 w.heap.size 0 v4) (by omega) (fun g e => by cases e; exact ⟨Nat.le_refl _, hnp⟩)
  have KK := kpP_t (kpP_t K1 K2) K3
  refine ⟨?_, KK, ⟨v4, b4.set v4, ?_, .inr (by rw [List.length_append]; omega)⟩, hB1.trans KK.1⟩
  · exact (((KeepsOthers.of_grownBy g1 (fun j o e => by cases e)).trans (KeepsOthers.of_grownBy hg4 (fun j o e ho => (hp1 j e).2 o ho))).trans (KeepsOthers.setCell _ _ _)).from _
  · rw [List.length_append, ← bytes_append]
    refine hown4.grown (grown_set w4 w.heap.size 0 v4) (.inr fun e => ?_)
    have := (hown4.block _ e).1
    omega

theorem outAt_own (w : World) : Own (fun pre W => OutAt w W (plains pre)) := by
  rintro s X Y row ⟨v, hv, hr, h0⟩ hg hrow
  refine ⟨v, hv.kept hg (fun e' => ?_), grow_own hr hg hrow h0, h0⟩
  obtain ⟨o, ho, hc⟩ := hrow _ e'.symm
  rw [show X.heap[w.heap.size]? = _ from hv] at ho
  cases ho
  cases hc

set_option maxRecDepth 100000 in
set_option maxHeartbeats 2000000 in
theorem plain_any (p : ByteArray) (hp : p.size ≤ 1000000) (w : World) :
    Calls Try.prog 28 #[.string p] w fun e w' => e = .returned (str (plain (bl p))) ∧ Below w.heap.size w w' := by
  obtain ⟨i0, hi0, hi1, hi2, hi3⟩ := info_parts info_byte
  refine (callsIn_wide (n := 4)).1 ?_
  refine callsIn_of_wp_marks Try.func28 rfl trivial ?_ rfl
  simp only [Try.ntmps28, List.size_toArray, List.length_cons, List.length_nil, Nat.reduceAdd, Nat.reduceSub, Array.replicate_succ, Array.replicate_zero, List.push_toArray, List.append_toArray, List.nil_append, List.cons_append]
  gi_wp2_with (refine ⟨trivial, ?_⟩; gi_at_call 41; refine (callsIn_wide.2 (parts_any p _)).mono ?_; rintro e w' ⟨rfl, rfl⟩)
  have bR := (Boxed.new w 39 (.slice none 0 0)).alloc (.cells #[.string p] 9)
  have bP : Blk ((w.alloc (.cells #[.slice none 0 0] 39)).alloc (.cells #[.string p] 9)) (w.heap.size + 1) 9 #[.string p] := by
    have := Blk.fresh (w.alloc (.cells #[.slice none 0 0] 39)) 9 #[.string p]
    rwa [World.size_alloc] at this
  have hB0 : Below w.heap.size w ((w.alloc (.cells #[.slice none 0 0] 39)).alloc (.cells #[.string p] 9)) := ((Below.refl _ w).alloc (Nat.le_refl _) _).alloc (by simp) _
  have hsz : ((w.alloc (.cells #[.slice none 0 0] 39)).alloc (.cells #[.string p] 9)).heap.size = w.heap.size + 2 := by simp
  obtain ⟨W0, hW0⟩ : ∃ W0, (w.alloc (.cells #[.slice none 0 0] 39)).alloc (.cells #[.string p] 9) = W0 := ⟨_, rfl⟩
  rw [hW0] at bR bP hB0 hsz ⊢
  clear hW0
  refine wpIn_rangeFunc_ownH rfl (by omega) (gf := 47) (lb := #[.pointer (some ⟨w.heap.size + 1, 0, none⟩)]) rfl trivial (enters_of Try.func47 (by kernel_rfl) rfl)
    (parts_stops 3 (by omega) (w.heap.size + 1) w.heap.size p hp W0 (by omega) bP) kpP_t (kpP_b (by omega)) (Below.refl _ _) (fun _ => rfl)
    (fun pre W => OutAt w W (plains pre) ∧ Below w.heap.size w W)
    (fun _ _ _ => False)
    (OwnFrom.and (Own.from (outAt_own w) _) (ownFrom_below (Nat.le_refl _) (by omega)))
    (fun _ _ _ _ _ hs _ _ => hs)
    ⟨⟨_, bR, Grow.nil _ _ _, .inl rfl⟩, hB0⟩
    (fun x a' W => ∃ Bx, w.heap.size < Bx ∧ Blk W Bx 49 (ptC x.1) ∧ a' = { tmps := #[.string p, undef, .string ⟨#[]⟩, .pointer (some ⟨w.heap.size, 0, none⟩), .pointer (some ⟨Bx, 0, none⟩), .string p, .func (.func 47) #[] #[.pointer (some ⟨w.heap.size + 1, 0, none⟩)], ptV x.1, undef, undef, undef, undef, undef, undef, undef, undef, undef, undef, undef, undef, undef, undef, undef], defers := [] })
    (fun x a' _ X Y row hs hg hr => by obtain ⟨Bx, h1, h2, h3⟩ := hs; exact ⟨Bx, h1, blk_own Bx 49 (fun (_ : Unit) => ptC x.1) () X Y row h2 hg (fun r e => (hr r e).2), h3⟩)
    ?assign ?body ?done ?stop
  case assign =>
    rintro l pre x W K ⟨⟨v, bR1, hgr, h0⟩, hB1⟩ hK
    gi_wp2
    exact hK _ _ ((KeepsOthers.alloc _ _).from _) (kpP_alloc hB1.size _) ⟨⟨v, bR1.alloc _, hgr.alloc _, h0⟩, hB1.alloc hB1.size _⟩ ⟨W.heap.size, bR1.lt, Blk.fresh W 49 (ptC x.1), rfl⟩
  case body =>
    rintro l pre ⟨⟨kd, a, b⟩, hg⟩ a' W hl _ ⟨⟨v, bR1, hgr, h0⟩, hB1⟩ ⟨Bx, hBx, bX, rfl⟩ hlt
    have c0 := bX.at 0
    have c1 := bX.at 1
    have cR := bR1.cell
    have fR := bR1.frozen
    have hpl := plains_len pre
    have hal := hg.2.1
    simp only at hal
    have hbl : w.heap.size + 1 ≤ W.heap.size := bR1.lt
    by_cases hk : kd = 1
    · subst hk
      obtain ⟨c, d, rfl⟩ := two_of (hg.2.2 rfl)
      have cRa : ∀ o, (W.alloc o).cell? ⟨w.heap.size, 0, none⟩ = some v := fun o => (bR1.alloc o).cell
      have hmx : Try.prog.follows .mixedOrders = true := by kernel_rfl
      have hR := Lib.hid (room (n := (plains pre).length) (m := 1) (by omega))
      gi_wp2
      refine wpIn_region_any hmx ?_
      change wpAnyIn _ _ _ _ _ _ _ _ _ (World.drew _)
      repeat (any_goals (first
        | exact AllReadyIn.nil
        | (refine wpAnyIn_ready (rs := [0, 1]) (by decide +kernel) (by simp) ?_)
        | (refine wpAnyIn_ready (rs := [0, 2]) (by decide +kernel) (by simp) ?_)
        | (refine wpAnyIn_ready (rs := [0, 3]) (by decide +kernel) (by simp) ?_)
        | (refine wpAnyIn_ready (rs := [0, 4]) (by decide +kernel) (by simp) ?_)
        | (refine wpAnyIn_ready (rs := [0]) (by decide +kernel) (by simp) ?_)
        | (refine wpAnyIn_ready (rs := [1]) (by decide +kernel) (by simp) ?_)
        | (refine wpAnyIn_ready (rs := [2]) (by decide +kernel) (by simp) ?_)
        | (refine wpAnyIn_ready (rs := [3]) (by decide +kernel) (by simp) ?_)
        | (refine wpAnyIn_ready (rs := [4]) (by decide +kernel) (by simp) ?_)
        | (refine AllReadyIn.cons rfl (fun K hK => ?_) ?_; all_goals (try (go_simp; refine hK _ _ ?_; clear hK K)))))
      all_goals
        refine wpAnyIn_ready (rs := [5]) (by decide +kernel) (by simp) ?_
        refine AllReadyIn.cons rfl (fun K hK => ?_) AllReadyIn.nil
        refine stepIn_append_src _ rfl (.tmp 11) (.tmp 15) _ _ rfl (w.heap.size + 1) 5 i0 _ 1 1 Try.underlying39 hi0 hi1 hi2 hi3 rfl (by omega) v (plains pre).length (byteCells ⟨(plains pre).toArray⟩) rfl ((hgr.alloc _).drew) _ 1 [.int .u8 d.toNat] rfl (Src.ofSlice _ Try.underlying39 ⟨W.heap.size, 0, none⟩ 1 1 [.int .u8 d.toNat] rfl (new_cells W _ [.int .u8 d.toNat]) (by simp [Value.oneCell'])) hR.out.1 hR.out.2 (Nat.le_trans hbl (by simp)) ?_
        intro v4 w4 hown4 hg4 hv4
        obtain ⟨A4, cp4, rfl⟩ := hown4.slice
        have hb4 : Boxed w4 w.heap.size 39 v := Boxed.kept (W := (W.alloc (.cells #[.int .u8 d.toNat] 5)).drew) (bR1.alloc _) hg4 (fun e => by have := (hgr.block _ e.symm).1; omega)
        have hc4 := hb4.cell
        have hf4 := hb4.frozen
        have hS := Lib.hid (out_step (B0 := W0.heap.size) bR1 hgr h0 hB1 (((Below.refl _ W).alloc (Nat.le_refl _) _).drew) hown4 hg4 (x := [d]) rfl rfl (by omega))
        refine hK _ _ ?_
        clear hK K hown4 hg4 hv4 hb4
        refine wpAnyIn_ready (rs := [6]) (by decide +kernel) (by simp) ?_
        refine AllReadyIn.cons rfl (fun K hK => ?_) AllReadyIn.nil
        go_simp
        refine hK _ _ ?_
        clear hK K
        refine wpAnyIn_done (by decide +kernel) ?_ _
        gi_wp2
        have hS1 := hS.out
        rw [← plains_two pre c d b hg] at hS1
        exact hS1
    · have hk2 : ((kd : Int) == 1) = false := by simp; omega
      have hR := Lib.hid (room (n := (plains pre).length) (m := (⟨a.toArray⟩ : ByteArray).size) (by rw [bytes_size]; omega))
      gi_wp2_with (gi_at_builtin; refine wpListIn_append_src _ rfl (.tmp 17) (.tmp 19) _ _ rfl (w.heap.size + 1) 5 i0 _ 1 1 Try.underlying39 hi0 hi1 hi2 hi3 rfl (by omega) v (plains pre).length (byteCells ⟨(plains pre).toArray⟩) rfl hgr _ _ _ rfl (Src.ofString _ Try.underlying9 _) hR.out.1 hR.out.2 hbl ?_; intro v4 w4 hown4 hg4 hv4; obtain ⟨A4, cp4, rfl⟩ := hown4.slice; have hb4 : Boxed w4 w.heap.size 39 v := bR1.kept hg4 (fun e => by have := (hgr.block _ e.symm).1; omega); have hc4 := hb4.cell; have hf4 := hb4.frozen)
      have hS := out_step (B0 := w.heap.size + 2) bR1 hgr h0 hB1 (Below.refl _ W) hown4 hg4 (x := a) rfl rfl hg.1
      have e : plains (pre ++ [(⟨⟨kd, a, b⟩, hg⟩ : GPt)]) = plains pre ++ a := by
        rw [plains_snoc, show plainPt (⟨⟨kd, a, b⟩, hg⟩ : GPt).1 = a from if_neg hk]
      rw [← e] at hS
      exact hS
  case done =>
    rintro D ys W hD hys ⟨⟨v, bR1, hgr, h0⟩, hB1⟩ hK
    have cR := bR1.cell
    rw [plains_all hys] at hgr
    have hrun := run_string_own (P := Try.prog) W 39 9 5 (w.heap.size + 1) v (plain (bl p)) hgr Try.underlying39 Try.underlying5 Try.underlying9
    gi_wp2
    refine ⟨by simp, .inl ⟨_, _, rfl, run_takeDeferred hK, ?_⟩⟩
    exact ⟨_, results_tmp rfl _ _ _, rfl, hB1.trans (belowK_b (w := w) (Nat.le_refl _) W D _ _ (by omega) hK rfl rfl)⟩
  case stop =>
    rintro D c pre W hD hpre h hK
    exact h.elim
end Txt
end Go.Proofs.Ytpmmbbaigfjhnaa

/- The program's Has, Same, Union, Inter, Diff. -/
import Derived.Test.YtgophgnfiboefaaGreatDoorRpB
import Derived.Test.YtgophgnfiboefaaGreatDoorShl
namespace Go.Proofs.YtgophgnfiboefaaGreatDoor
open Go.RowKit Go.Shelf Wire
open Txt (Row)
open Go.Proofs.YtgophgnfiboefaaGreatDoor.Own Flo
open Dsk (Only nth)
set_option linter.unusedVariables false
set_option linter.unusedSimpArgs false
attribute [local go_sem] Oper.semAt_some
namespace Rgn
abbrev ivn (l : List Nat) : List Int := l.map (fun c : Nat => (c : Int))
theorem ivs_ivn (l : List Nat) : ivs (ivn l) = qvs l := by simp [ivs, qvs, ivn]
def hasB (r : List Nat) (x : Int) : Bool := decide (x ∈ ivn r)
theorem row_at {w : World} {B : Nat} {A : Option Addr} {l : List Int} (h : Row w B A (ivs l)) (hl : 0 < l.length) : ∃ b o, A = some ⟨b, o, none⟩ ∧ ∀ j, j < l.length → w.cell? ⟨b, o + j, none⟩ = some (.int .i64 (l.getD j 0)) := by
  obtain ⟨b, o, e, _, _⟩ := h 0 (.int .i64 l[0]) (by rw [List.getElem?_map, List.getElem?_eq_getElem hl]; rfl)
  refine ⟨b, o, e, fun j hj => ?_⟩
  obtain ⟨b', o', e', _, hc⟩ := h j (.int .i64 l[j]) (by rw [List.getElem?_map, List.getElem?_eq_getElem hj]; rfl)
  rw [e] at e'
  injection e' with e'
  injection e' with e1 e2
  subst e1 e2
  rw [List.getD_eq_getElem?_getD, List.getElem?_eq_getElem hj]
  exact hc
theorem search_any (w : World) (A : Option Addr) (c : Nat) (r : List Nat) (x : Int) (hr : r.Pairwise (· < ·)) (hl : r.length ≤ 1000000) (h : Row w w.heap.size A (qvs r)) :
    Calls Tryz.prog 39 #[.slice A r.length c, .int .i64 x] w fun e w' => (∃ k : Int, e = .returned (.tuple #[.int .i64 k, .bool (hasB r x)])) ∧ Below w.heap.size w w' := by
  by_cases h0 : r.length = 0
  · obtain rfl : r = [] := List.eq_nil_of_length_eq_zero h0
    refine (Tryz.slices_BinarySearch_int_empty A c x w).mono ?_
    rintro e w' ⟨rfl, rfl⟩
    exact ⟨⟨_, rfl⟩, Below.refl _ _⟩
  · obtain ⟨b, o, rfl, hc⟩ := row_at (l := ivn r) (by rw [ivs_ivn]; exact h) (by simp; omega)
    have hlen : (ivn r).length = r.length := by simp
    have ht : (ivn r).take r.length = ivn r := by rw [← hlen, List.take_length]
    refine (Tryz.slices_BinarySearch_int b o r.length c (ivn r) x w (by omega) (by omega) hc (by rw [ht, List.pairwise_map]; exact hr.imp fun h => by omega)).mono ?_
    rintro e w' ⟨rfl, q, rfl⟩
    rw [ht]
    refine ⟨⟨((ivn r).countP (· < x) : Nat), ?_⟩, drewN_below w q⟩
    rw [show (ivn r).contains x = hasB r x from by unfold hasB; rw [Bool.eq_iff_iff]; simp]
set_option maxHeartbeats 1000000 in
theorem regHas_any (w : World) (A : Option Addr) (c : Nat) (r : List Nat) (x : Int) (hr : r.Pairwise (· < ·)) (hl : r.length ≤ 1000000) (h : Row w w.heap.size A (qvs r)) :
    Calls Tryz.prog 17 #[.slice A r.length c, .int .i64 x] w fun e w' => e = .returned (.bool (hasB r x)) ∧ Below w.heap.size w w' := by
  have HS := Lib.hid (search_any w A c r x hr hl h)
  clear hr hl h
  generalize hasB r x = v at *
  generalize r.length = n at *
  go_enter Tryz.func17, Tryz.ntmps17
  go_wp2_with (go_at_call 39; refine HS.out.mono ?_; rintro e w1 ⟨⟨k, rfl⟩, b1⟩)
  go_ret
  exact ⟨rfl, b1⟩
theorem equal_any (w : World) (A B : Option Addr) (c d : Nat) (l m : List Int) (hl : l.length ≤ 1000000) (hm : m.length ≤ 1000000) (ha : Row w w.heap.size A (ivs l)) (hb : Row w w.heap.size B (ivs m)) :
    Calls Tryz.prog 41 #[.slice A l.length c, .slice B m.length d] w fun e w' => e = .returned (.bool (decide (l = m))) ∧ Below w.heap.size w w' := by
  by_cases e : l.length = m.length
  · by_cases h0 : l.length = 0
    · obtain rfl : l = [] := List.eq_nil_of_length_eq_zero h0
      obtain rfl : m = [] := List.eq_nil_of_length_eq_zero (by rw [← e]; rfl)
      refine (Tryz.slices_Equal_int_empty A B c 0 d w (by omega)).mono ?_
      rintro e w' ⟨rfl, rfl⟩
      exact ⟨by simp, Below.refl _ _⟩
    · obtain ⟨b1, o1, rfl, h1⟩ := row_at ha (by omega)
      obtain ⟨b2, o2, rfl, h2⟩ := row_at hb (by omega)
      refine (Tryz.slices_Equal_int b1 o1 l.length c b2 o2 m.length d l m w (Nat.le_refl _) (Nat.le_refl _) (by omega) (by omega) h1 h2).mono ?_
      rintro e w' ⟨rfl, q, rfl⟩
      rw [List.take_length, List.take_length]
      refine ⟨?_, drewN_below w q⟩
      rw [show (l == m) = decide (l = m) from by rw [Bool.eq_iff_iff]; simp]
  · refine (Tryz.slices_Equal_int_lens A B l.length c m.length d w e).mono ?_
    rintro e' w' ⟨rfl, rfl⟩
    refine ⟨?_, Below.refl _ _⟩
    rw [show decide (l = m) = false from decide_eq_false fun k => e (by rw [k])]
set_option maxHeartbeats 1000000 in
theorem regSame_any (w : World) (A B : Option Addr) (c d : Nat) (l m : List Int) (hl : l.length ≤ 1000000) (hm : m.length ≤ 1000000) (ha : Row w w.heap.size A (ivs l)) (hb : Row w w.heap.size B (ivs m)) :
    Calls Tryz.prog 21 #[.slice A l.length c, .slice B m.length d] w fun e w' => e = .returned (.bool (decide (l = m))) ∧ Below w.heap.size w w' := by
  have HS := Lib.hid (equal_any w A B c d l m hl hm ha hb)
  clear hl hm ha hb
  generalize decide (l = m) = v at *
  generalize l.length = n at *
  generalize m.length = n2 at *
  go_enter Tryz.func21, Tryz.ntmps21
  go_wp2_with (go_at_call 41; refine HS.out.mono ?_; rintro e w1 ⟨rfl, b1⟩)
  go_ret
  exact ⟨rfl, b1⟩
abbrev agB (p q : Bool) : Value := .agg #[.bool p, .bool q]
set_option maxHeartbeats 1000000 in
theorem only_any (p q : Bool) (w : World) : Calls Tryz.prog 38 #[agB p q] w fun e w' => e = .returned (.bool (p && !q)) ∧ Below w.heap.size w w' := by
  have HB : Hid (∀ o, Below w.heap.size w (w.alloc o)) := Lib.hid fun o => (Below.refl _ w).alloc (Nat.le_refl _) o
  cases p <;> cases q
  all_goals
    go_enter Tryz.func38, Tryz.ntmps38
    go_wp2_with fail
    go_ret
    exact ⟨rfl, HB.out _⟩
set_option maxHeartbeats 1000000 in
theorem union1_any (p q : Bool) (w : World) : Calls Tryz.prog 36 #[agB p q] w fun e w' => e = .returned (.bool true) ∧ Below w.heap.size w w' := by
  have HB : Hid (∀ o, Below w.heap.size w (w.alloc o)) := Lib.hid fun o => (Below.refl _ w).alloc (Nat.le_refl _) o
  go_enter Tryz.func36, Tryz.ntmps36
  go_wp2_with fail
  go_ret
  exact ⟨rfl, HB.out _⟩
set_option maxHeartbeats 1000000 in
theorem inter1_any (p q : Bool) (w : World) : Calls Tryz.prog 37 #[agB p q] w fun e w' => e = .returned (.bool (p && q)) ∧ Below w.heap.size w w' := by
  have HB : Hid (∀ o, Below w.heap.size w (w.alloc o)) := Lib.hid fun o => (Below.refl _ w).alloc (Nat.le_refl _) o
  cases p <;> cases q
  all_goals
    go_enter Tryz.func37, Tryz.ntmps37
    go_wp2_with fail
    go_ret
    exact ⟨rfl, HB.out _⟩
/-- Those that are wanted. -/
def wtd (wf : Bool → Bool → Bool) (l : List Ow) : List Nat := (l.filter fun x => wf x.2.1 x.2.2).map (·.1)
theorem wtd_hit {wf : Bool → Bool → Bool} (pre : List Ow) {x : Ow} (h : wf x.2.1 x.2.2 = true) : wtd wf (pre ++ [x]) = wtd wf pre ++ [x.1] := by simp [wtd, h]
theorem wtd_miss {wf : Bool → Bool → Bool} (pre : List Ow) {x : Ow} (h : wf x.2.1 x.2.2 = false) : wtd wf (pre ++ [x]) = wtd wf pre := by simp [wtd, h]
theorem wtd_len (wf : Bool → Bool → Bool) (l : List Ow) : (wtd wf l).length ≤ l.length := by
  unfold wtd
  rw [List.length_map]
  exact List.length_filter_le _ _
theorem blk_own {β : Type} (B : Nat) (t : TypeId) (f : β → Array Value) : Go.Own (fun s W => Blk W B t (f s)) := fun s X Y row hs hg hrow =>
  (hg.block B (Array.getElem?_eq_some_iff.1 (show X.heap[B]? = _ from hs)).1 (fun e' => by obtain ⟨o, ho, hc⟩ := hrow B e'.symm; rw [show X.heap[B]? = _ from hs] at ho; cases ho; cases hc)).trans hs
theorem box_own {β : Type} (B : Nat) (t : TypeId) (v : Value) : Go.Own (fun (_ : β) W => Go.Boxed W B t v) := fun s X Y row hs hg hrow =>
  (hg.block B (Array.getElem?_eq_some_iff.1 (show X.heap[B]? = _ from hs)).1 (fun e' => by obtain ⟨o, ho, hc⟩ := hrow B e'.symm; rw [show X.heap[B]? = _ from hs] at ho; cases ho; cases hc)).trans hs
theorem owns_below {w w' : World} {B : Nat} {e : TypeId} {v : Value} {n : Nat} {xs : List Value} (h : w.ownsRow B e 1 v n xs) (b : Below w.heap.size w w') : w'.ownsRow B e 1 v n xs := by
  refine ⟨h.1, ?_⟩
  rcases h.2 with h1 | ⟨g, cap, cur, e1, h2, h3, h4⟩
  · exact .inl h1
  · exact .inr ⟨g, cap, cur, e1, h2, (b.block g (Array.getElem?_eq_some_iff.1 h3).1).trans h3, h4⟩
theorem boxed_below {w w' : World} {B : Nat} {t : TypeId} {v : Value} (h : Go.Boxed w B t v) (b : Below w.heap.size w w') : Go.Boxed w' B t v := (b.block B h.lt).trans h
theorem keeps_below {w w' : World} (n : Nat) (b : Below w.heap.size w w') : KeepsFrom n w w' := ⟨b.size, fun k o _ hk _ => (b.block k (Array.getElem?_eq_some_iff.1 hk).1).trans hk⟩
theorem keeps_trans {n : Nat} {a b c : World} (h : KeepsFrom n a b) (k : KeepsFrom n b c) : KeepsFrom n a c := ⟨Nat.le_trans h.size k.size, fun i o hi ho hc => k.same i o hi (h.same i o hi ho hc) hc⟩
theorem grow_of_owns {w : World} {B : Nat} {e : TypeId} {v : Value} {n : Nat} {xs : List Value} (h : w.ownsRow B e 1 v n xs) : Grow w B 1 v n xs := by
  refine ⟨h.1, ?_⟩
  rcases h.2 with h1 | ⟨g, cap, cur, e1, h2, h3, h4, h5, h6, h7⟩
  · exact .inl h1
  · refine .inr ⟨g, cap, e1, h2, (Array.getElem?_eq_some_iff.1 h3).1, h4, h5, fun j hj => ?_, fun j hj => ?_, fun j u hu => ?_⟩
    · simp only [World.cell?, h3]
      have : j < cur.size := by omega
      simp [this]
    · simp [World.frozen?, h3]
    · have hj : j < n := by
        have := (List.getElem?_eq_some_iff.1 hu).1
        rw [h.1] at this
        omega
      rw [← h7, Nat.mul_one, List.getElem?_take, if_pos hj] at hu
      simp only [World.cell?, h3]
      simpa using hu
set_option maxRecDepth 100000 in
set_option maxHeartbeats 4000000 in
theorem choose_union (w : World) (A B : Option Addr) (ca cb : Nat) (a b : List Nat) (hla : a.length ≤ 1000000) (hlb : b.length ≤ 1000000) (hra : Row w w.heap.size A (qvs a)) (hrb : Row w w.heap.size B (qvs b)) :
    Calls Tryz.prog 35 #[.slice A a.length ca, .slice B b.length cb, .func (.func 36) #[] #[]] w (NewL w (wtd (fun _ _ => true) (mg a b))) := by
  obtain ⟨i0, hi, hz0, hz1, hz2⟩ := info_parts Dsk.info_int
  refine (callsIn_wide (n := 4)).1 ?_
  refine callsIn_of_wp_marks Tryz.func35 rfl trivial ?_ rfl
  simp only [Tryz.ntmps35, List.size_toArray, List.length_cons, List.length_nil, Nat.reduceAdd, Nat.reduceSub, Array.replicate_succ, Array.replicate_zero, List.push_toArray, List.append_toArray, List.nil_append, List.cons_append]
  gi_wp2_with (refine ⟨trivial, ?_⟩; gi_at_call 40; refine (callsIn_wide.2 (merge_any A B a.length b.length ca cb _)).mono ?_; rintro e w' ⟨rfl, rfl⟩)
  obtain ⟨fv, hfv⟩ : ∃ fv : Value, fv = .func (.func 36) #[] #[] := ⟨_, rfl⟩
  have b0 := ((Go.Boxed.new w 46 fv).alloc (.cells #[.slice none 0 0] 22)).alloc (.cells #[.slice A a.length ca] 22) |>.alloc (.cells #[.slice B b.length cb] 22)
  have b1 := ((Go.Boxed.new (w.alloc (.cells #[fv] 46)) 22 (.slice none 0 0)).alloc (.cells #[.slice A a.length ca] 22)).alloc (.cells #[.slice B b.length cb] 22)
  have b2 := (Go.Boxed.new ((w.alloc (.cells #[fv] 46)).alloc (.cells #[.slice none 0 0] 22)) 22 (.slice A a.length ca)).alloc (.cells #[.slice B b.length cb] 22)
  have b3 := Go.Boxed.new (((w.alloc (.cells #[fv] 46)).alloc (.cells #[.slice none 0 0] 22)).alloc (.cells #[.slice A a.length ca] 22)) 22 (.slice B b.length cb)
  have hB0 : Below w.heap.size w ((((w.alloc (.cells #[fv] 46)).alloc (.cells #[.slice none 0 0] 22)).alloc (.cells #[.slice A a.length ca] 22)).alloc (.cells #[.slice B b.length cb] 22)) := ((((Below.refl _ w).alloc (Nat.le_refl _) _).alloc (by simp) _).alloc (by simp; omega) _).alloc (by simp; omega) _
  have hsz : ((((w.alloc (.cells #[fv] 46)).alloc (.cells #[.slice none 0 0] 22)).alloc (.cells #[.slice A a.length ca] 22)).alloc (.cells #[.slice B b.length cb] 22)).heap.size = w.heap.size + 4 := by simp
  simp only [World.size_alloc, Nat.add_assoc, Nat.reduceAdd] at b0 b1 b2 b3
  rw [← hfv]
  obtain ⟨W0, hW0⟩ : ∃ W0, ((((w.alloc (.cells #[fv] 46)).alloc (.cells #[.slice none 0 0] 22)).alloc (.cells #[.slice A a.length ca] 22)).alloc (.cells #[.slice B b.length cb] 22)) = W0 := ⟨_, rfl⟩
  rw [hW0] at b0 b1 b2 b3 hB0 hsz ⊢
  clear hW0
  refine wpIn_rangeFunc_ownH rfl (by omega) (gf := 60) (lb := #[.pointer (some ⟨w.heap.size + 2, 0, none⟩), .pointer (some ⟨w.heap.size + 3, 0, none⟩)]) rfl trivial (enters_of Tryz.func60 (by kernel_rfl) rfl)
    (merge_stops 3 (by omega) (w.heap.size + 2) (w.heap.size + 3) w.heap.size (fun i => i = w.heap.size ∨ i = w.heap.size + 2 ∨ i = w.heap.size + 3) (.inr (.inl rfl)) (.inr (.inr rfl)) A B ca cb a b hla hlb W0 (fun i hi => by omega) (by omega) (hra.below hB0) (hrb.below hB0) b2 b3)
    kpS_t (kpS_b (by omega) (fun i hi => by omega)) (Below.refl _ _) (fun _ => rfl)
    (fun pre W => ((∃ v, Go.Boxed W (w.heap.size + 1) 22 v ∧ W.ownsRow w.heap.size 3 1 v (wtd (fun _ _ => true) pre).length (qvs (wtd (fun _ _ => true) pre)) ∧ True) ∧ Go.Boxed W w.heap.size 46 fv ∧ Go.Boxed W (w.heap.size + 2) 22 (.slice A a.length ca) ∧ Go.Boxed W (w.heap.size + 3) 22 (.slice B b.length cb)) ∧ Below w.heap.size w W)
    (fun _ _ _ => False)
    (OwnFrom.and (OwnFrom.and (Go.Own.from (holdsRow_own w.heap.size (w.heap.size + 1) 22 3 1 (fun pre => (wtd (fun _ _ => true) pre).length) (fun pre => qvs (wtd (fun _ _ => true) pre)) (fun _ _ => True)) _) (OwnFrom.and (Go.Own.from (box_own _ _ _) _) (OwnFrom.and (Go.Own.from (box_own _ _ _) _) (Go.Own.from (box_own _ _ _) _)))) (ownFrom_below (Nat.le_refl _) (by omega)))
    (fun _ _ _ _ _ hs _ _ => hs)
    ⟨⟨⟨_, b1, World.ownsRow_nil _ _ _ _, trivial⟩, b0, b2, b3⟩, hB0⟩
    (fun x a' W => ∃ Bx, w.heap.size + 3 < Bx ∧ Blk W Bx 45 #[.bool x.2.1, .bool x.2.2] ∧ a' = { tmps := #[.slice A a.length ca, .slice B b.length cb, fv, undef, undef, .pointer (some ⟨w.heap.size, 0, none⟩), .slice none 0 0, .pointer (some ⟨w.heap.size + 1, 0, none⟩), .int .i64 (x.1 : Nat), .pointer (some ⟨Bx, 0, none⟩), .slice A a.length ca, .slice B b.length cb, .func (.func 60) #[] #[.pointer (some ⟨w.heap.size + 2, 0, none⟩), .pointer (some ⟨w.heap.size + 3, 0, none⟩)], .int .i64 (x.1 : Nat), agB x.2.1 x.2.2, undef, undef, undef, undef, undef, undef, undef, undef], defers := [] })
    (fun x a' _ X Y row hs hg hr => by obtain ⟨Bx, h1, h2, h3⟩ := hs; exact ⟨Bx, h1, blk_own Bx 45 (fun (_ : Unit) => #[.bool x.2.1, .bool x.2.2]) () X Y row h2 hg (fun r e => (hr r e).2), h3⟩)
    ?assign ?body ?done ?stop
  case assign =>
    rintro l pre ⟨x, p, q⟩ W K ⟨⟨⟨v, hv, hrow, _⟩, h0, h2, h3⟩, hB1⟩ hK
    gi_wp2
    exact hK _ _ ((KeepsOthers.alloc _ _).from _) (kpS_below hB1.size (fun i hi => by have := h3.lt; omega) ((Below.refl _ _).alloc (Nat.le_refl _) _)) ⟨⟨⟨v, hv.alloc _, hrow.alloc _, trivial⟩, h0.alloc _, h2.alloc _, h3.alloc _⟩, hB1.alloc hB1.size _⟩ ⟨W.heap.size, h3.lt, Blk.fresh W 45 #[.bool p, .bool q], by rw [hfv]⟩
  case body =>
    rintro l pre ⟨x, p, q⟩ a' W hl _ ⟨⟨⟨v, hv, hrow, _⟩, h0, h2, h3⟩, hB1⟩ ⟨Bx, hBx, bX, rfl⟩ hlt
    subst hfv
    obtain ⟨bv, hbv⟩ : ∃ bv : Bool, bv = (fun _ _ => true) p q := ⟨_, rfl⟩
    have HC : Hid (∀ w, Calls Tryz.prog 36 #[agB p q] w fun e w' => e = .returned (.bool bv) ∧ Below w.heap.size w w') := Lib.hid (by intro w; rw [hbv]; exact union1_any p q w)
    have hpl : (wtd (fun _ _ => true) pre).length ≤ pre.length := wtd_len _ _
    have HI : Hid (wtd (fun _ _ => true) (pre ++ [(x, p, q)]) = if bv then wtd (fun _ _ => true) pre ++ [x] else wtd (fun _ _ => true) pre) := Lib.hid (by
      cases bv
      · exact wtd_miss pre hbv.symm
      · exact wtd_hit pre hbv.symm)
    clear hbv
    have hc := hv.cell
    have c0 := h0.cell
    have x0 := bX.at 0
    have x1 := bX.at 1
    cases bv
    · gi_wp2_with (refine ⟨trivial, ?_⟩; gi_at_call 36; refine (CallsIn.inRound l (callsIn_wide.2 (HC.out _))).mono ?_; rintro e w3 ⟨rfl, b3⟩)
      refine ⟨keeps_below _ b3, kpS_below hB1.size (fun i hi => by have := h3.lt; omega) b3, ⟨⟨v, boxed_below hv b3, ?_, trivial⟩, boxed_below h0 b3, boxed_below h2 b3, boxed_below h3 b3⟩, hB1.trans (b3.mono hB1.size)⟩
      rw [HI.out]
      exact owns_below hrow b3
    · gi_wp2_with (first
        | (refine ⟨trivial, ?_⟩; gi_at_call 36; refine (CallsIn.inRound l (callsIn_wide.2 (HC.out _))).mono ?_; rintro e w3 ⟨rfl, b3⟩; have hv3 := boxed_below hv b3; have hc3 := hv3.cell; have hrow3 := owns_below hrow b3; have hz3 := b3.size)
        | (gi_at_builtin; refine wpListIn_append_own _ rfl _ _ 22 rfl w.heap.size 3 i0 (.int .i64 0) 1 8 Tryz.underlying22 hi hz0 hz1 hz2 rfl (by decide) _ _ _ rfl (hrow3.alloc _) ⟨w3.heap.size, 0, none⟩ 1 1 [.int .i64 (x : Nat)] rfl rfl (cell_one_new _ _ _) (by simp [Value.oneCell']) (by unfold maxLen; omega) (by omega) (by have := hB1.size; simp; omega) ?_; intro v' w5 hown' hgrow _; obtain ⟨g', cap', rfl⟩ := ownsRow_succ hown'; obtain ⟨hv1, hv2, hr2, hk2, hb2⟩ := hv3.appended (by decide) hrow3 (by have := hB1.size; omega) (by omega) hown' hgrow; have hc1 := hv1.cell; have hf1 := hv1.frozen; have HK : Hid (∀ B t u, Go.Boxed w3 B t u → t ≠ 3 → B ≠ w.heap.size + 1 → Go.Boxed (w5.setCell ⟨w.heap.size + 1, 0, none⟩ (.slice (some ⟨g', 0, none⟩) ((wtd (fun _ _ => true) pre).length + 1) cap')) B t u) := Lib.hid fun B t u hb hte hne => ((hb.alloc _).kept hgrow (hb.not_row hte hrow3)).other hne _; clear hgrow))
      have k0 := HK.out _ _ _ (boxed_below h0 b3) (by decide) (by omega)
      have k2 := HK.out _ _ _ (boxed_below h2 b3) (by decide) (by omega)
      have k3 := HK.out _ _ _ (boxed_below h3 b3) (by decide) (by omega)
      refine ⟨keeps_trans (keeps_below _ b3) (hk2.from _), ⟨(b3.mono hB1.size).trans hb2, fun i hi => ?_⟩, ⟨⟨_, hv2, ?_, trivial⟩, k0, k2, k3⟩, hB1.trans ((b3.mono hB1.size).trans hb2)⟩
      · rcases hi with rfl | rfl | rfl
        · exact Eq.trans k0 (Eq.symm h0)
        · exact Eq.trans k2 (Eq.symm h2)
        · exact Eq.trans k3 (Eq.symm h3)
      · rw [HI.out]
        simp only [if_true, List.length_append, List.length_singleton]
        rw [show qvs (wtd (fun _ _ => true) pre ++ [x]) = qvs (wtd (fun _ _ => true) pre) ++ [.int .i64 (x : Nat)] from List.map_append ..]
        exact hr2
  case done =>
    rintro D ys W hD rfl ⟨⟨⟨v, hv, hrow, _⟩, h0, h2, h3⟩, hB1⟩ hK
    have hc := hv.cell
    gi_wp2
    refine ⟨by simp, .inl ⟨_, _, rfl, run_takeDeferred hK, ?_⟩⟩
    exact ⟨_, results_tmp rfl _ _ _, v, rfl, (Sp.nil (Below.refl w.heap.size w)).new_row (hB1.trans (belowK_b (w := w) (Nat.le_refl _) W D _ _ (by omega) hK rfl rfl)) (grow_of_owns (ownsRow_putObj hrow _ hK rfl))⟩
  case stop =>
    rintro D c pre W _ _ h _
    exact h.elim
set_option maxRecDepth 100000 in
set_option maxHeartbeats 4000000 in
theorem choose_inter (w : World) (A B : Option Addr) (ca cb : Nat) (a b : List Nat) (hla : a.length ≤ 1000000) (hlb : b.length ≤ 1000000) (hra : Row w w.heap.size A (qvs a)) (hrb : Row w w.heap.size B (qvs b)) :
    Calls Tryz.prog 35 #[.slice A a.length ca, .slice B b.length cb, .func (.func 37) #[] #[]] w (NewL w (wtd (fun p q => p && q) (mg a b))) := by
  obtain ⟨i0, hi, hz0, hz1, hz2⟩ := info_parts Dsk.info_int
  refine (callsIn_wide (n := 4)).1 ?_
  refine callsIn_of_wp_marks Tryz.func35 rfl trivial ?_ rfl
  simp only [Tryz.ntmps35, List.size_toArray, List.length_cons, List.length_nil, Nat.reduceAdd, Nat.reduceSub, Array.replicate_succ, Array.replicate_zero, List.push_toArray, List.append_toArray, List.nil_append, List.cons_append]
  gi_wp2_with (refine ⟨trivial, ?_⟩; gi_at_call 40; refine (callsIn_wide.2 (merge_any A B a.length b.length ca cb _)).mono ?_; rintro e w' ⟨rfl, rfl⟩)
  obtain ⟨fv, hfv⟩ : ∃ fv : Value, fv = .func (.func 37) #[] #[] := ⟨_, rfl⟩
  have b0 := ((Go.Boxed.new w 46 fv).alloc (.cells #[.slice none 0 0] 22)).alloc (.cells #[.slice A a.length ca] 22) |>.alloc (.cells #[.slice B b.length cb] 22)
  have b1 := ((Go.Boxed.new (w.alloc (.cells #[fv] 46)) 22 (.slice none 0 0)).alloc (.cells #[.slice A a.length ca] 22)).alloc (.cells #[.slice B b.length cb] 22)
  have b2 := (Go.Boxed.new ((w.alloc (.cells #[fv] 46)).alloc (.cells #[.slice none 0 0] 22)) 22 (.slice A a.length ca)).alloc (.cells #[.slice B b.length cb] 22)
  have b3 := Go.Boxed.new (((w.alloc (.cells #[fv] 46)).alloc (.cells #[.slice none 0 0] 22)).alloc (.cells #[.slice A a.length ca] 22)) 22 (.slice B b.length cb)
  have hB0 : Below w.heap.size w ((((w.alloc (.cells #[fv] 46)).alloc (.cells #[.slice none 0 0] 22)).alloc (.cells #[.slice A a.length ca] 22)).alloc (.cells #[.slice B b.length cb] 22)) := ((((Below.refl _ w).alloc (Nat.le_refl _) _).alloc (by simp) _).alloc (by simp; omega) _).alloc (by simp; omega) _
  have hsz : ((((w.alloc (.cells #[fv] 46)).alloc (.cells #[.slice none 0 0] 22)).alloc (.cells #[.slice A a.length ca] 22)).alloc (.cells #[.slice B b.length cb] 22)).heap.size = w.heap.size + 4 := by simp
  simp only [World.size_alloc, Nat.add_assoc, Nat.reduceAdd] at b0 b1 b2 b3
  rw [← hfv]
  obtain ⟨W0, hW0⟩ : ∃ W0, ((((w.alloc (.cells #[fv] 46)).alloc (.cells #[.slice none 0 0] 22)).alloc (.cells #[.slice A a.length ca] 22)).alloc (.cells #[.slice B b.length cb] 22)) = W0 := ⟨_, rfl⟩
  rw [hW0] at b0 b1 b2 b3 hB0 hsz ⊢
  clear hW0
  refine wpIn_rangeFunc_ownH rfl (by omega) (gf := 60) (lb := #[.pointer (some ⟨w.heap.size + 2, 0, none⟩), .pointer (some ⟨w.heap.size + 3, 0, none⟩)]) rfl trivial (enters_of Tryz.func60 (by kernel_rfl) rfl)
    (merge_stops 3 (by omega) (w.heap.size + 2) (w.heap.size + 3) w.heap.size (fun i => i = w.heap.size ∨ i = w.heap.size + 2 ∨ i = w.heap.size + 3) (.inr (.inl rfl)) (.inr (.inr rfl)) A B ca cb a b hla hlb W0 (fun i hi => by omega) (by omega) (hra.below hB0) (hrb.below hB0) b2 b3)
    kpS_t (kpS_b (by omega) (fun i hi => by omega)) (Below.refl _ _) (fun _ => rfl)
    (fun pre W => ((∃ v, Go.Boxed W (w.heap.size + 1) 22 v ∧ W.ownsRow w.heap.size 3 1 v (wtd (fun p q => p && q) pre).length (qvs (wtd (fun p q => p && q) pre)) ∧ True) ∧ Go.Boxed W w.heap.size 46 fv ∧ Go.Boxed W (w.heap.size + 2) 22 (.slice A a.length ca) ∧ Go.Boxed W (w.heap.size + 3) 22 (.slice B b.length cb)) ∧ Below w.heap.size w W)
    (fun _ _ _ => False)
    (OwnFrom.and (OwnFrom.and (Go.Own.from (holdsRow_own w.heap.size (w.heap.size + 1) 22 3 1 (fun pre => (wtd (fun p q => p && q) pre).length) (fun pre => qvs (wtd (fun p q => p && q) pre)) (fun _ _ => True)) _) (OwnFrom.and (Go.Own.from (box_own _ _ _) _) (OwnFrom.and (Go.Own.from (box_own _ _ _) _) (Go.Own.from (box_own _ _ _) _)))) (ownFrom_below (Nat.le_refl _) (by omega)))
    (fun _ _ _ _ _ hs _ _ => hs)
    ⟨⟨⟨_, b1, World.ownsRow_nil _ _ _ _, trivial⟩, b0, b2, b3⟩, hB0⟩
    (fun x a' W => ∃ Bx, w.heap.size + 3 < Bx ∧ Blk W Bx 45 #[.bool x.2.1, .bool x.2.2] ∧ a' = { tmps := #[.slice A a.length ca, .slice B b.length cb, fv, undef, undef, .pointer (some ⟨w.heap.size, 0, none⟩), .slice none 0 0, .pointer (some ⟨w.heap.size + 1, 0, none⟩), .int .i64 (x.1 : Nat), .pointer (some ⟨Bx, 0, none⟩), .slice A a.length ca, .slice B b.length cb, .func (.func 60) #[] #[.pointer (some ⟨w.heap.size + 2, 0, none⟩), .pointer (some ⟨w.heap.size + 3, 0, none⟩)], .int .i64 (x.1 : Nat), agB x.2.1 x.2.2, undef, undef, undef, undef, undef, undef, undef, undef], defers := [] })
    (fun x a' _ X Y row hs hg hr => by obtain ⟨Bx, h1, h2, h3⟩ := hs; exact ⟨Bx, h1, blk_own Bx 45 (fun (_ : Unit) => #[.bool x.2.1, .bool x.2.2]) () X Y row h2 hg (fun r e => (hr r e).2), h3⟩)
    ?assign ?body ?done ?stop
  case assign =>
    rintro l pre ⟨x, p, q⟩ W K ⟨⟨⟨v, hv, hrow, _⟩, h0, h2, h3⟩, hB1⟩ hK
    gi_wp2
    exact hK _ _ ((KeepsOthers.alloc _ _).from _) (kpS_below hB1.size (fun i hi => by have := h3.lt; omega) ((Below.refl _ _).alloc (Nat.le_refl _) _)) ⟨⟨⟨v, hv.alloc _, hrow.alloc _, trivial⟩, h0.alloc _, h2.alloc _, h3.alloc _⟩, hB1.alloc hB1.size _⟩ ⟨W.heap.size, h3.lt, Blk.fresh W 45 #[.bool p, .bool q], by rw [hfv]⟩
  case body =>
    rintro l pre ⟨x, p, q⟩ a' W hl _ ⟨⟨⟨v, hv, hrow, _⟩, h0, h2, h3⟩, hB1⟩ ⟨Bx, hBx, bX, rfl⟩ hlt
    subst hfv
    obtain ⟨bv, hbv⟩ : ∃ bv : Bool, bv = (fun p q => p && q) p q := ⟨_, rfl⟩
    have HC : Hid (∀ w, Calls Tryz.prog 37 #[agB p q] w fun e w' => e = .returned (.bool bv) ∧ Below w.heap.size w w') := Lib.hid (by intro w; rw [hbv]; exact inter1_any p q w)
    have hpl : (wtd (fun p q => p && q) pre).length ≤ pre.length := wtd_len _ _
    have HI : Hid (wtd (fun p q => p && q) (pre ++ [(x, p, q)]) = if bv then wtd (fun p q => p && q) pre ++ [x] else wtd (fun p q => p && q) pre) := Lib.hid (by
      cases bv
      · exact wtd_miss pre hbv.symm
      · exact wtd_hit pre hbv.symm)
    clear hbv
    have hc := hv.cell
    have c0 := h0.cell
    have x0 := bX.at 0
    have x1 := bX.at 1
    cases bv
    · gi_wp2_with (refine ⟨trivial, ?_⟩; gi_at_call 37; refine (CallsIn.inRound l (callsIn_wide.2 (HC.out _))).mono ?_; rintro e w3 ⟨rfl, b3⟩)
      refine ⟨keeps_below _ b3, kpS_below hB1.size (fun i hi => by have := h3.lt; omega) b3, ⟨⟨v, boxed_below hv b3, ?_, trivial⟩, boxed_below h0 b3, boxed_below h2 b3, boxed_below h3 b3⟩, hB1.trans (b3.mono hB1.size)⟩
      rw [HI.out]
      exact owns_below hrow b3
    · gi_wp2_with (first
        | (refine ⟨trivial, ?_⟩; gi_at_call 37; refine (CallsIn.inRound l (callsIn_wide.2 (HC.out _))).mono ?_; rintro e w3 ⟨rfl, b3⟩; have hv3 := boxed_below hv b3; have hc3 := hv3.cell; have hrow3 := owns_below hrow b3; have hz3 := b3.size)
        | (gi_at_builtin; refine wpListIn_append_own _ rfl _ _ 22 rfl w.heap.size 3 i0 (.int .i64 0) 1 8 Tryz.underlying22 hi hz0 hz1 hz2 rfl (by decide) _ _ _ rfl (hrow3.alloc _) ⟨w3.heap.size, 0, none⟩ 1 1 [.int .i64 (x : Nat)] rfl rfl (cell_one_new _ _ _) (by simp [Value.oneCell']) (by unfold maxLen; omega) (by omega) (by have := hB1.size; simp; omega) ?_; intro v' w5 hown' hgrow _; obtain ⟨g', cap', rfl⟩ := ownsRow_succ hown'; obtain ⟨hv1, hv2, hr2, hk2, hb2⟩ := hv3.appended (by decide) hrow3 (by have := hB1.size; omega) (by omega) hown' hgrow; have hc1 := hv1.cell; have hf1 := hv1.frozen; have HK : Hid (∀ B t u, Go.Boxed w3 B t u → t ≠ 3 → B ≠ w.heap.size + 1 → Go.Boxed (w5.setCell ⟨w.heap.size + 1, 0, none⟩ (.slice (some ⟨g', 0, none⟩) ((wtd (fun p q => p && q) pre).length + 1) cap')) B t u) := Lib.hid fun B t u hb hte hne => ((hb.alloc _).kept hgrow (hb.not_row hte hrow3)).other hne _; clear hgrow))
      have k0 := HK.out _ _ _ (boxed_below h0 b3) (by decide) (by omega)
      have k2 := HK.out _ _ _ (boxed_below h2 b3) (by decide) (by omega)
      have k3 := HK.out _ _ _ (boxed_below h3 b3) (by decide) (by omega)
      refine ⟨keeps_trans (keeps_below _ b3) (hk2.from _), ⟨(b3.mono hB1.size).trans hb2, fun i hi => ?_⟩, ⟨⟨_, hv2, ?_, trivial⟩, k0, k2, k3⟩, hB1.trans ((b3.mono hB1.size).trans hb2)⟩
      · rcases hi with rfl | rfl | rfl
        · exact Eq.trans k0 (Eq.symm h0)
        · exact Eq.trans k2 (Eq.symm h2)
        · exact Eq.trans k3 (Eq.symm h3)
      · rw [HI.out]
        simp only [if_true, List.length_append, List.length_singleton]
        rw [show qvs (wtd (fun p q => p && q) pre ++ [x]) = qvs (wtd (fun p q => p && q) pre) ++ [.int .i64 (x : Nat)] from List.map_append ..]
        exact hr2
  case done =>
    rintro D ys W hD rfl ⟨⟨⟨v, hv, hrow, _⟩, h0, h2, h3⟩, hB1⟩ hK
    have hc := hv.cell
    gi_wp2
    refine ⟨by simp, .inl ⟨_, _, rfl, run_takeDeferred hK, ?_⟩⟩
    exact ⟨_, results_tmp rfl _ _ _, v, rfl, (Sp.nil (Below.refl w.heap.size w)).new_row (hB1.trans (belowK_b (w := w) (Nat.le_refl _) W D _ _ (by omega) hK rfl rfl)) (grow_of_owns (ownsRow_putObj hrow _ hK rfl))⟩
  case stop =>
    rintro D c pre W _ _ h _
    exact h.elim
set_option maxRecDepth 100000 in
set_option maxHeartbeats 4000000 in
theorem choose_diff (w : World) (A B : Option Addr) (ca cb : Nat) (a b : List Nat) (hla : a.length ≤ 1000000) (hlb : b.length ≤ 1000000) (hra : Row w w.heap.size A (qvs a)) (hrb : Row w w.heap.size B (qvs b)) :
    Calls Tryz.prog 35 #[.slice A a.length ca, .slice B b.length cb, .func (.func 38) #[] #[]] w (NewL w (wtd (fun p q => p && !q) (mg a b))) := by
  obtain ⟨i0, hi, hz0, hz1, hz2⟩ := info_parts Dsk.info_int
  refine (callsIn_wide (n := 4)).1 ?_
  refine callsIn_of_wp_marks Tryz.func35 rfl trivial ?_ rfl
  simp only [Tryz.ntmps35, List.size_toArray, List.length_cons, List.length_nil, Nat.reduceAdd, Nat.reduceSub, Array.replicate_succ, Array.replicate_zero, List.push_toArray, List.append_toArray, List.nil_append, List.cons_append]
  gi_wp2_with (refine ⟨trivial, ?_⟩; gi_at_call 40; refine (callsIn_wide.2 (merge_any A B a.length b.length ca cb _)).mono ?_; rintro e w' ⟨rfl, rfl⟩)
  obtain ⟨fv, hfv⟩ : ∃ fv : Value, fv = .func (.func 38) #[] #[] := ⟨_, rfl⟩
  have b0 := ((Go.Boxed.new w 46 fv).alloc (.cells #[.slice none 0 0] 22)).alloc (.cells #[.slice A a.length ca] 22) |>.alloc (.cells #[.slice B b.length cb] 22)
  have b1 := ((Go.Boxed.new (w.alloc (.cells #[fv] 46)) 22 (.slice none 0 0)).alloc (.cells #[.slice A a.length ca] 22)).alloc (.cells #[.slice B b.length cb] 22)
  have b2 := (Go.Boxed.new ((w.alloc (.cells #[fv] 46)).alloc (.cells #[.slice none 0 0] 22)) 22 (.slice A a.length ca)).alloc (.cells #[.slice B b.length cb] 22)
  have b3 := Go.Boxed.new (((w.alloc (.cells #[fv] 46)).alloc (.cells #[.slice none 0 0] 22)).alloc (.cells #[.slice A a.length ca] 22)) 22 (.slice B b.length cb)
  have hB0 : Below w.heap.size w ((((w.alloc (.cells #[fv] 46)).alloc (.cells #[.slice none 0 0] 22)).alloc (.cells #[.slice A a.length ca] 22)).alloc (.cells #[.slice B b.length cb] 22)) := ((((Below.refl _ w).alloc (Nat.le_refl _) _).alloc (by simp) _).alloc (by simp; omega) _).alloc (by simp; omega) _
  have hsz : ((((w.alloc (.cells #[fv] 46)).alloc (.cells #[.slice none 0 0] 22)).alloc (.cells #[.slice A a.length ca] 22)).alloc (.cells #[.slice B b.length cb] 22)).heap.size = w.heap.size + 4 := by simp
  simp only [World.size_alloc, Nat.add_assoc, Nat.reduceAdd] at b0 b1 b2 b3
  rw [← hfv]
  obtain ⟨W0, hW0⟩ : ∃ W0, ((((w.alloc (.cells #[fv] 46)).alloc (.cells #[.slice none 0 0] 22)).alloc (.cells #[.slice A a.length ca] 22)).alloc (.cells #[.slice B b.length cb] 22)) = W0 := ⟨_, rfl⟩
  rw [hW0] at b0 b1 b2 b3 hB0 hsz ⊢
  clear hW0
  refine wpIn_rangeFunc_ownH rfl (by omega) (gf := 60) (lb := #[.pointer (some ⟨w.heap.size + 2, 0, none⟩), .pointer (some ⟨w.heap.size + 3, 0, none⟩)]) rfl trivial (enters_of Tryz.func60 (by kernel_rfl) rfl)
    (merge_stops 3 (by omega) (w.heap.size + 2) (w.heap.size + 3) w.heap.size (fun i => i = w.heap.size ∨ i = w.heap.size + 2 ∨ i = w.heap.size + 3) (.inr (.inl rfl)) (.inr (.inr rfl)) A B ca cb a b hla hlb W0 (fun i hi => by omega) (by omega) (hra.below hB0) (hrb.below hB0) b2 b3)
    kpS_t (kpS_b (by omega) (fun i hi => by omega)) (Below.refl _ _) (fun _ => rfl)
    (fun pre W => ((∃ v, Go.Boxed W (w.heap.size + 1) 22 v ∧ W.ownsRow w.heap.size 3 1 v (wtd (fun p q => p && !q) pre).length (qvs (wtd (fun p q => p && !q) pre)) ∧ True) ∧ Go.Boxed W w.heap.size 46 fv ∧ Go.Boxed W (w.heap.size + 2) 22 (.slice A a.length ca) ∧ Go.Boxed W (w.heap.size + 3) 22 (.slice B b.length cb)) ∧ Below w.heap.size w W)
    (fun _ _ _ => False)
    (OwnFrom.and (OwnFrom.and (Go.Own.from (holdsRow_own w.heap.size (w.heap.size + 1) 22 3 1 (fun pre => (wtd (fun p q => p && !q) pre).length) (fun pre => qvs (wtd (fun p q => p && !q) pre)) (fun _ _ => True)) _) (OwnFrom.and (Go.Own.from (box_own _ _ _) _) (OwnFrom.and (Go.Own.from (box_own _ _ _) _) (Go.Own.from (box_own _ _ _) _)))) (ownFrom_below (Nat.le_refl _) (by omega)))
    (fun _ _ _ _ _ hs _ _ => hs)
    ⟨⟨⟨_, b1, World.ownsRow_nil _ _ _ _, trivial⟩, b0, b2, b3⟩, hB0⟩
    (fun x a' W => ∃ Bx, w.heap.size + 3 < Bx ∧ Blk W Bx 45 #[.bool x.2.1, .bool x.2.2] ∧ a' = { tmps := #[.slice A a.length ca, .slice B b.length cb, fv, undef, undef, .pointer (some ⟨w.heap.size, 0, none⟩), .slice none 0 0, .pointer (some ⟨w.heap.size + 1, 0, none⟩), .int .i64 (x.1 : Nat), .pointer (some ⟨Bx, 0, none⟩), .slice A a.length ca, .slice B b.length cb, .func (.func 60) #[] #[.pointer (some ⟨w.heap.size + 2, 0, none⟩), .pointer (some ⟨w.heap.size + 3, 0, none⟩)], .int .i64 (x.1 : Nat), agB x.2.1 x.2.2, undef, undef, undef, undef, undef, undef, undef, undef], defers := [] })
    (fun x a' _ X Y row hs hg hr => by obtain ⟨Bx, h1, h2, h3⟩ := hs; exact ⟨Bx, h1, blk_own Bx 45 (fun (_ : Unit) => #[.bool x.2.1, .bool x.2.2]) () X Y row h2 hg (fun r e => (hr r e).2), h3⟩)
    ?assign ?body ?done ?stop
  case assign =>
    rintro l pre ⟨x, p, q⟩ W K ⟨⟨⟨v, hv, hrow, _⟩, h0, h2, h3⟩, hB1⟩ hK
    gi_wp2
    exact hK _ _ ((KeepsOthers.alloc _ _).from _) (kpS_below hB1.size (fun i hi => by have := h3.lt; omega) ((Below.refl _ _).alloc (Nat.le_refl _) _)) ⟨⟨⟨v, hv.alloc _, hrow.alloc _, trivial⟩, h0.alloc _, h2.alloc _, h3.alloc _⟩, hB1.alloc hB1.size _⟩ ⟨W.heap.size, h3.lt, Blk.fresh W 45 #[.bool p, .bool q], by rw [hfv]⟩
  case body =>
    rintro l pre ⟨x, p, q⟩ a' W hl _ ⟨⟨⟨v, hv, hrow, _⟩, h0, h2, h3⟩, hB1⟩ ⟨Bx, hBx, bX, rfl⟩ hlt
    subst hfv
    obtain ⟨bv, hbv⟩ : ∃ bv : Bool, bv = (fun p q => p && !q) p q := ⟨_, rfl⟩
    have HC : Hid (∀ w, Calls Tryz.prog 38 #[agB p q] w fun e w' => e = .returned (.bool bv) ∧ Below w.heap.size w w') := Lib.hid (by intro w; rw [hbv]; exact only_any p q w)
    have hpl : (wtd (fun p q => p && !q) pre).length ≤ pre.length := wtd_len _ _
    have HI : Hid (wtd (fun p q => p && !q) (pre ++ [(x, p, q)]) = if bv then wtd (fun p q => p && !q) pre ++ [x] else wtd (fun p q => p && !q) pre) := Lib.hid (by
      cases bv
      · exact wtd_miss pre hbv.symm
      · exact wtd_hit pre hbv.symm)
    clear hbv
    have hc := hv.cell
    have c0 := h0.cell
    have x0 := bX.at 0
    have x1 := bX.at 1
    cases bv
    · gi_wp2_with (refine ⟨trivial, ?_⟩; gi_at_call 38; refine (CallsIn.inRound l (callsIn_wide.2 (HC.out _))).mono ?_; rintro e w3 ⟨rfl, b3⟩)
      refine ⟨keeps_below _ b3, kpS_below hB1.size (fun i hi => by have := h3.lt; omega) b3, ⟨⟨v, boxed_below hv b3, ?_, trivial⟩, boxed_below h0 b3, boxed_below h2 b3, boxed_below h3 b3⟩, hB1.trans (b3.mono hB1.size)⟩
      rw [HI.out]
      exact owns_below hrow b3
    · gi_wp2_with (first
        | (refine ⟨trivial, ?_⟩; gi_at_call 38; refine (CallsIn.inRound l (callsIn_wide.2 (HC.out _))).mono ?_; rintro e w3 ⟨rfl, b3⟩; have hv3 := boxed_below hv b3; have hc3 := hv3.cell; have hrow3 := owns_below hrow b3; have hz3 := b3.size)
        | (gi_at_builtin; refine wpListIn_append_own _ rfl _ _ 22 rfl w.heap.size 3 i0 (.int .i64 0) 1 8 Tryz.underlying22 hi hz0 hz1 hz2 rfl (by decide) _ _ _ rfl (hrow3.alloc _) ⟨w3.heap.size, 0, none⟩ 1 1 [.int .i64 (x : Nat)] rfl rfl (cell_one_new _ _ _) (by simp [Value.oneCell']) (by unfold maxLen; omega) (by omega) (by have := hB1.size; simp; omega) ?_; intro v' w5 hown' hgrow _; obtain ⟨g', cap', rfl⟩ := ownsRow_succ hown'; obtain ⟨hv1, hv2, hr2, hk2, hb2⟩ := hv3.appended (by decide) hrow3 (by have := hB1.size; omega) (by omega) hown' hgrow; have hc1 := hv1.cell; have hf1 := hv1.frozen; have HK : Hid (∀ B t u, Go.Boxed w3 B t u → t ≠ 3 → B ≠ w.heap.size + 1 → Go.Boxed (w5.setCell ⟨w.heap.size + 1, 0, none⟩ (.slice (some ⟨g', 0, none⟩) ((wtd (fun p q => p && !q) pre).length + 1) cap')) B t u) := Lib.hid fun B t u hb hte hne => ((hb.alloc _).kept hgrow (hb.not_row hte hrow3)).other hne _; clear hgrow))
      have k0 := HK.out _ _ _ (boxed_below h0 b3) (by decide) (by omega)
      have k2 := HK.out _ _ _ (boxed_below h2 b3) (by decide) (by omega)
      have k3 := HK.out _ _ _ (boxed_below h3 b3) (by decide) (by omega)
      refine ⟨keeps_trans (keeps_below _ b3) (hk2.from _), ⟨(b3.mono hB1.size).trans hb2, fun i hi => ?_⟩, ⟨⟨_, hv2, ?_, trivial⟩, k0, k2, k3⟩, hB1.trans ((b3.mono hB1.size).trans hb2)⟩
      · rcases hi with rfl | rfl | rfl
        · exact Eq.trans k0 (Eq.symm h0)
        · exact Eq.trans k2 (Eq.symm h2)
        · exact Eq.trans k3 (Eq.symm h3)
      · rw [HI.out]
        simp only [if_true, List.length_append, List.length_singleton]
        rw [show qvs (wtd (fun p q => p && !q) pre ++ [x]) = qvs (wtd (fun p q => p && !q) pre) ++ [.int .i64 (x : Nat)] from List.map_append ..]
        exact hr2
  case done =>
    rintro D ys W hD rfl ⟨⟨⟨v, hv, hrow, _⟩, h0, h2, h3⟩, hB1⟩ hK
    have hc := hv.cell
    gi_wp2
    refine ⟨by simp, .inl ⟨_, _, rfl, run_takeDeferred hK, ?_⟩⟩
    exact ⟨_, results_tmp rfl _ _ _, v, rfl, (Sp.nil (Below.refl w.heap.size w)).new_row (hB1.trans (belowK_b (w := w) (Nat.le_refl _) W D _ _ (by omega) hK rfl rfl)) (grow_of_owns (ownsRow_putObj hrow _ hK rfl))⟩
  case stop =>
    rintro D c pre W _ _ h _
    exact h.elim
theorem wtd_mem {wf : Bool → Bool → Bool} {a b : List Nat} (ha : a.Pairwise (· < ·)) (hb : b.Pairwise (· < ·)) (x : Nat) : x ∈ wtd wf (mg a b) ↔ (x ∈ a ∨ x ∈ b) ∧ wf (decide (x ∈ a)) (decide (x ∈ b)) = true := by
  obtain ⟨h1, h2⟩ := mg_has _ a b (Nat.le_refl _) ha hb
  unfold wtd
  rw [List.mem_map]
  constructor
  · rintro ⟨⟨x', p, q⟩, hm, rfl⟩
    rw [List.mem_filter] at hm
    obtain ⟨k1, rfl, rfl⟩ := (h1 x' p q).1 hm.1
    exact ⟨k1, hm.2⟩
  · rintro ⟨k1, k2⟩
    exact ⟨(x, _, _), List.mem_filter.2 ⟨(h1 x _ _).2 ⟨k1, rfl, rfl⟩, k2⟩, rfl⟩
theorem wtd_asc {wf : Bool → Bool → Bool} {a b : List Nat} (ha : a.Pairwise (· < ·)) (hb : b.Pairwise (· < ·)) : (wtd wf (mg a b)).Pairwise (· < ·) :=
  List.Pairwise.sublist (List.Sublist.map _ (List.filter_sublist ..)) (mg_has _ a b (Nat.le_refl _) ha hb).2
/-- A region. -/
structure Reg (l : List Nat) : Prop where
  asc : l.Pairwise (· < ·)
  lt : ∀ x ∈ l, x < 4096
theorem Reg.len {l : List Nat} (h : Reg l) : l.length ≤ 4096 := asc_len h.asc h.lt
theorem Reg.of (p : Nat → Bool) : Reg (regOf p 4096) := ⟨regOf_asc _ _, fun x hx => (regOf_mem.1 hx).1⟩
/-- A region is what it has. -/
theorem Reg.eq {l : List Nat} (h : Reg l) (p : Nat → Bool) (hp : ∀ x, x < 4096 → (p x = true ↔ x ∈ l)) : l = regOf p 4096 := by
  refine asc_unique h.asc (regOf_asc _ _) fun a => ?_
  rw [regOf_mem]
  exact ⟨fun ha => ⟨h.lt a ha, (hp a (h.lt a ha)).2 ha⟩, fun ha => (hp a ha.1).1 ha.2⟩
def uniB (a b : List Nat) (c : Nat) : Bool := decide (c ∈ a) || decide (c ∈ b)
def intB (a b : List Nat) (c : Nat) : Bool := decide (c ∈ a) && decide (c ∈ b)
def difB (a b : List Nat) (c : Nat) : Bool := decide (c ∈ a) && !decide (c ∈ b)
theorem wtd_reg {wf : Bool → Bool → Bool} {a b : List Nat} (ha : Reg a) (hb : Reg b) : Reg (wtd wf (mg a b)) := ⟨wtd_asc ha.asc hb.asc, fun x hx => by
  rcases ((wtd_mem ha.asc hb.asc x).1 hx).1 with h | h
  · exact ha.lt x h
  · exact hb.lt x h⟩
set_option maxHeartbeats 1000000 in
theorem uni_any (w : World) (A B : Option Addr) (ca cb : Nat) (a b : List Nat) (ha : Reg a) (hb : Reg b) (hra : Row w w.heap.size A (qvs a)) (hrb : Row w w.heap.size B (qvs b)) :
    Calls Tryz.prog 11 #[.slice A a.length ca, .slice B b.length cb] w (NewL w (regOf (uniB a b) 4096)) := by
  have HS := Lib.hid (choose_union w A B ca cb a b (by have := ha.len; omega) (by have := hb.len; omega) hra hrb)
  have e : wtd (fun _ _ => true) (mg a b) = regOf (uniB a b) 4096 := (wtd_reg ha hb).eq _ fun x _ => by
    rw [wtd_mem ha.asc hb.asc]
    unfold uniB
    by_cases h1 : x ∈ a <;> by_cases h2 : x ∈ b <;> simp [h1, h2]
  rw [e] at HS
  clear e ha hb hra hrb
  generalize a.length = n at *
  generalize b.length = m at *
  have HV : Hid (∀ e w1, NewL w (regOf (uniB a b) 4096) e w1 → ∃ v, e = .returned v) := Lib.hid fun e w1 h => ⟨_, h.choose_spec.1⟩
  generalize NewL w (regOf (uniB a b) 4096) = Q at *
  go_enter Tryz.func11, Tryz.ntmps11
  go_wp2_with (go_at_call 35; refine HS.out.mono ?_; rintro e w1 hq; obtain ⟨v, rfl⟩ : ∃ v, e = .returned v := HV.out _ _ hq)
  exact hq
set_option maxHeartbeats 1000000 in
theorem int_any (w : World) (A B : Option Addr) (ca cb : Nat) (a b : List Nat) (ha : Reg a) (hb : Reg b) (hra : Row w w.heap.size A (qvs a)) (hrb : Row w w.heap.size B (qvs b)) :
    Calls Tryz.prog 13 #[.slice A a.length ca, .slice B b.length cb] w (NewL w (regOf (intB a b) 4096)) := by
  have HS := Lib.hid (choose_inter w A B ca cb a b (by have := ha.len; omega) (by have := hb.len; omega) hra hrb)
  have e : wtd (fun p q => p && q) (mg a b) = regOf (intB a b) 4096 := (wtd_reg ha hb).eq _ fun x _ => by
    rw [wtd_mem ha.asc hb.asc]
    unfold intB
    by_cases h1 : x ∈ a <;> by_cases h2 : x ∈ b <;> simp [h1, h2]
  rw [e] at HS
  clear e ha hb hra hrb
  generalize a.length = n at *
  generalize b.length = m at *
  have HV : Hid (∀ e w1, NewL w (regOf (intB a b) 4096) e w1 → ∃ v, e = .returned v) := Lib.hid fun e w1 h => ⟨_, h.choose_spec.1⟩
  generalize NewL w (regOf (intB a b) 4096) = Q at *
  go_enter Tryz.func13, Tryz.ntmps13
  go_wp2_with (go_at_call 35; refine HS.out.mono ?_; rintro e w1 hq; obtain ⟨v, rfl⟩ : ∃ v, e = .returned v := HV.out _ _ hq)
  exact hq
set_option maxHeartbeats 1000000 in
theorem dif_any (w : World) (A B : Option Addr) (ca cb : Nat) (a b : List Nat) (ha : Reg a) (hb : Reg b) (hra : Row w w.heap.size A (qvs a)) (hrb : Row w w.heap.size B (qvs b)) :
    Calls Tryz.prog 15 #[.slice A a.length ca, .slice B b.length cb] w (NewL w (regOf (difB a b) 4096)) := by
  have HS := Lib.hid (choose_diff w A B ca cb a b (by have := ha.len; omega) (by have := hb.len; omega) hra hrb)
  have e : wtd (fun p q => p && !q) (mg a b) = regOf (difB a b) 4096 := (wtd_reg ha hb).eq _ fun x _ => by
    rw [wtd_mem ha.asc hb.asc]
    unfold difB
    by_cases h1 : x ∈ a <;> by_cases h2 : x ∈ b <;> simp [h1, h2]
  rw [e] at HS
  clear e ha hb hra hrb
  generalize a.length = n at *
  generalize b.length = m at *
  have HV : Hid (∀ e w1, NewL w (regOf (difB a b) 4096) e w1 → ∃ v, e = .returned v) := Lib.hid fun e w1 h => ⟨_, h.choose_spec.1⟩
  generalize NewL w (regOf (difB a b) 4096) = Q at *
  go_enter Tryz.func15, Tryz.ntmps15
  go_wp2_with (go_at_call 35; refine HS.out.mono ?_; rintro e w1 hq; obtain ⟨v, rfl⟩ : ∃ v, e = .returned v := HV.out _ _ hq)
  exact hq
end Rgn
end Go.Proofs.YtgophgnfiboefaaGreatDoor

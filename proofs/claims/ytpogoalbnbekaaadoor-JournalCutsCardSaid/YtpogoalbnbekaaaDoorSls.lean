/- Lists of strings: slices.Clone, slices.Delete of the end. -/
import Derived.Test.YtpogoalbnbekaaaDoorDskC
namespace Go.Proofs.YtpogoalbnbekaaaDoor
open Go.RowKit Wire
open Txt (str Row info_str)
set_option linter.unusedVariables false
set_option linter.unusedSimpArgs false
namespace Sls

abbrev strs (l : List ByteArray) : List Value := l.map Value.string

theorem one_strs (l : List ByteArray) : ∀ u ∈ strs l, u.oneCell' = true := by
  intro u hu
  obtain ⟨s, _, rfl⟩ := List.mem_map.1 hu
  rfl
theorem Grow.row {w : World} {B : Nat} {v : Value} {n : Nat} {xs : List Value} (h : Grow w B 1 v n xs) : ∃ A c, v = .slice A n c ∧ Row w w.heap.size A xs := by
  rcases h.form with ⟨rfl, rfl⟩ | ⟨g, cap, rfl, h1, h2, h3, h4, h5, h6, h7⟩
  · have hx : xs = [] := List.eq_nil_of_length_eq_zero (by simpa using h.len)
    subst hx
    exact ⟨none, 0, rfl, fun k u hu => by simp at hu⟩
  · exact ⟨_, _, rfl, fun k u hu => ⟨g, 0, rfl, h2, by rw [Nat.zero_add]; exact h7 k u hu⟩⟩
/-- What an append of a list reads. -/
theorem src_row {w : World} {A : Option Addr} {c : Nat} {l : List ByteArray} (h : Row w w.heap.size A (strs l)) : (A = none → c = 0) → Src Tryd.prog 1 32 (.slice A l.length c) l.length (strs l) w := by
  intro hc
  cases A with
  | none =>
    obtain rfl : l = [] := by
      cases l with
      | nil => rfl
      | cons s r =>
        obtain ⟨b, o, e, _⟩ := h 0 _ rfl
        cases e
    rw [hc rfl]
    exact Src.ofNil _ Tryd.underlying32 _
  | some a =>
    refine Src.ofSlice _ Tryd.underlying32 a _ _ _ (by simp) (fun j u hu => ?_) (one_strs l)
    obtain ⟨b, o, e, _, hcell⟩ := h j u hu
    injection e with e
    subst e
    rw [row_add']
    exact hcell
theorem src_row' {w : World} {A : Option Addr} {c : Nat} {l : List ByteArray} (h : Row w w.heap.size A (strs l)) : Src Tryd.prog 1 32 (.slice A l.length c) l.length (strs l) w := by
  cases A with
  | none =>
    obtain rfl : l = [] := by
      cases l with
      | nil => rfl
      | cons s r =>
        obtain ⟨b, o, e, _⟩ := h 0 _ rfl
        cases e
    exact Src.ofNil _ Tryd.underlying32 c
  | some a => exact src_row h (fun e => by cases e)

set_option maxHeartbeats 1000000 in
theorem clone_any (A : Option Addr) (c : Nat) (l : List ByteArray) (w : World) (hl : l.length ≤ 1000000000) (h : Row w w.heap.size A (strs l)) :
    Calls Tryd.prog 42 #[.slice A l.length c] w fun e w' => ∃ v', e = .returned v' ∧ Grow w' w.heap.size 1 v' l.length (strs l) ∧ Below w.heap.size w w' := by
  obtain ⟨i0, hi, hz0, hz1, hz2⟩ := info_parts info_str
  have HL := Lib.hid (small_max (n := l.length) (by omega))
  have HB := Lib.hid (show l.length * 16 ≤ 140737488355328 from by omega)
  cases A with
  | none =>
    have hn : l = [] := by
      cases l with
      | nil => rfl
      | cons x r =>
        obtain ⟨b, o, e, _⟩ := h 0 _ rfl
        cases e
    subst hn
    have hq : ∀ w, (binOp .eql 32 (.slice none 0 c) (.slice none 0 0)).run Tryd.prog w = .ok (.bool true) w := fun w => Lib.run_eql_slice_nil w 32 9 none 0 c 0 0 Tryd.underlying32
    clear HL HB h hl
    simp only [List.length_nil]
    go_enter Tryd.func42, Tryd.ntmps42
    go_wp2_with fail
    go_ret
    exact ⟨_, rfl, Grow.nil _ _ _, Below.refl _ _⟩
  | some a =>
    have hq : ∀ w n, (binOp .eql 32 (.slice (some a) n c) (.slice none 0 0)).run Tryd.prog w = .ok (.bool false) w := fun w n => Lib.run_eql_slice_nil w 32 9 (some a) n c 0 0 Tryd.underlying32
    have HS := Lib.hid (src_row' (c := c) (h.lift ((Below.refl _ w).alloc (Nat.le_refl _) (.cells #[] 9))))
    clear h
    go_enter Tryd.func42, Tryd.ntmps42
    go_wp2_with (at_builtin; refine wpList_append_src _ rfl (.tmp 5) (.tmp 6) _ _ rfl w.heap.size 9 i0 _ 1 16 Tryd.underlying32 hi hz0 hz1 hz2 rfl (by omega) _ 0 [] rfl (Dsk.Grow.bare w 9 1) _ l.length _ rfl HS.out (by rw [Nat.zero_add]; exact HL.out) (by rw [Nat.zero_add]; exact HB.out) (by simp) ?_; intro v1 w1 hown hg _)
    go_ret
    simp only [Nat.zero_add, List.nil_append] at hown
    exact ⟨_, rfl, hown, Dsk.below_of_grown ((Below.refl _ w).alloc (Nat.le_refl _) _) hg (Nat.le_refl _)⟩

theorem zero_str (w : World) : (zeroValue 9).run Tryd.prog w = .ok (.string ⟨#[]⟩) w := by kernel_rfl
/-- A builtin whose run is known. -/
theorem wp_append_run {P : Program} {o : Oper} {a : Act} {w w' : World} {K : Act → World → Prop} {Q : Exit → Act → World → Prop} (s x : Operand) (t tx : TypeId) {v y v' : Value}
    (ho : o.op = .call { callee := .builtin .append, args := #[s, x], argTypes := #[t, tx] }) (hs : a.eval s = v) (hx : a.eval x = y) (hr : (Builtin.append_ #[t, tx] o.type #[v, y]).run P w = .ok v' w') (h : K (a.put o.dst v') w') : Oper.wp P o a w K Q := by
  unfold Oper.wp execOp
  simp only [ho, resolve, invoke, builtin, Sem.run_bind, Sem.run_pure, Result.andThen_ok, List.map_toArray, List.map_cons, List.map_nil, hs, hx, hr]
  exact h
theorem wp_clear_run {P : Program} {o : Oper} {a : Act} {w w' : World} {K : Act → World → Prop} {Q : Exit → Act → World → Prop} (s : Operand) (t : TypeId) {v v' : Value}
    (ho : o.op = .call { callee := .builtin .clear, args := #[s], argTypes := #[t] }) (hs : a.eval s = v) (hr : (Builtin.clear_ #[t] o.type #[v]).run P w = .ok v' w') (h : K (a.put o.dst v') w') : Oper.wp P o a w K Q := by
  unfold Oper.wp execOp
  simp only [ho, resolve, invoke, builtin, Sem.run_bind, Sem.run_pure, Result.andThen_ok, List.map_toArray, List.map_cons, List.map_nil, hs, hr]
  exact h
/-- The list's end is cut off where it lies. -/
def DelPost (w : World) (B k : Nat) (v : Value) (L : List ByteArray) (e : Ending) (w' : World) : Prop :=
  ∃ v', e = .returned v' ∧ Grow w' B 1 v' k (strs (L.take k)) ∧ w.grownBy w' v.ownBlock ∧ v'.ownBlock = v.ownBlock

theorem cut_row {w : World} {B g n cap k : Nat} {L : List ByteArray} (h : Grow w B 1 (.slice (some ⟨g, 0, none⟩) n cap) n (strs L)) (vs : List Value) (hk : k ≤ n) (hl : k + vs.length ≤ cap) :
    Grow (w.drew.setCells g k vs) B 1 (.slice (some ⟨g, 0, none⟩) k cap) k (strs (L.take k)) := by
  have hlen := h.len
  rw [Nat.mul_one, List.length_map] at hlen
  refine ⟨by rw [List.length_map, List.length_take]; omega, ?_⟩
  rcases h.form with ⟨e, _⟩ | ⟨g', cap', e, h1, h2, h3, h4, h5, h6, h7⟩
  · cases e
  · injection e with e1 _ e3
    injection e1 with e1
    injection e1 with e1 _ _
    subst e1 e3
    have hin := World.cell?_setCells_in g vs k w.drew (fun j hj => h5 _ (by omega))
    have hout := World.cell?_setCells_out g vs k w.drew
    refine .inr ⟨g, cap, rfl, h1, by rw [size_setCells_own]; exact h2, by omega, h4, fun j hj => ?_, fun j hj => ?_, fun j u hu => ?_⟩
    · by_cases hj2 : k ≤ j ∧ j < k + vs.length
      · obtain ⟨d, rfl⟩ : ∃ d, j = k + d := ⟨j - k, by omega⟩
        rw [hin d (by omega)]
        rfl
      · rw [hout ⟨g, j, none⟩ (fun _ _ => by show j < _ ∨ _ ≤ j; omega)]
        exact h5 j hj
    · rw [World.frozen?_setCells]
      exact h6 j hj
    · have hj : j < k := by
        have := (List.getElem?_eq_some_iff.1 hu).1
        rw [List.length_map, List.length_take] at this
        omega
      rw [show strs (L.take k) = (strs L).take k from List.map_take, List.getElem?_take_of_lt hj] at hu
      rw [hout ⟨g, j, none⟩ (fun _ _ => Or.inl hj)]
      exact h7 j u hu

set_option maxRecDepth 8000 in
set_option maxHeartbeats 2000000 in
theorem delete_any (B k : Nat) (v : Value) (L : List ByteArray) (w : World) (hL : L.length ≤ 1000000000) (hk : k < L.length) (h : Grow w B 1 v L.length (strs L)) :
    Calls Tryd.prog 41 #[v, .int .i64 k, .int .i64 L.length] w (DelPost w B k v L) := by
  obtain ⟨g, cap, rfl, h1, h2, h3, h4, h5, h6, h7⟩ := h.form.resolve_left (fun e => by omega)
  unfold maxLen at h4
  generalize hn : L.length = n at *
  have hne : ((k : Int) == (n : Int)) = false := beq_eq_false_iff_ne.2 (by omega)
  go_enter Tryd.func41, Tryd.ntmps41
  have hA : ∀ (W : World) (X : Option Addr) (c' : Nat) (ty : TypeId), (Builtin.append_ #[32, 32] ty #[.slice (some ⟨g, 0, none⟩) k cap, .slice X 0 c']).run Tryd.prog W = .ok (.slice (some ⟨g, 0, none⟩) k cap) W := fun W X c' ty => by
    obtain ⟨i0, hi, hz0, hz1, hz2⟩ := info_parts info_str
    have hs : Src Tryd.prog i0.size 32 (.slice X 0 c') 0 [] W := by
      cases X with
      | none => exact Src.ofNil _ Tryd.underlying32 _
      | some a => exact Src.ofSlice _ Tryd.underlying32 a _ _ _ (by simp) (fun j u hu => by simp at hu) (fun u hu => by cases hu)
    have hr := run_append_room_src (P := Tryd.prog) W 32 32 ty 9 i0 Tryd.underlying32 hi g 0 k cap _ 0 [] hs (by omega) (fun j hj => by cases hj) (fun j hj => by cases hj)
    exact hr
  have hkc : (k : Int) ≤ cap := by omega
  go_upto_region 5 with (fail)
  try go_frame
  refine Dsk.wp_region_sorted (fun _ => True) [0, 1, 2, 3, 4, 5] [6, 7] (by kernel_rfl) (by kernel_rfl) trivial ?_
  repeat refine Dsk.RD.next rfl rfl (by intro w' hS; go_simp; with_reducible rfl) ?_
  refine Dsk.RD.done ?_
  refine Dsk.CH.next rfl rfl fun K hK => ?_
  refine wp_append_run (v := .slice (some ⟨g, 0, none⟩) k cap) (y := .slice (if cap = n then some ⟨g, 0, none⟩ else some ⟨g, n, none⟩) 0 (cap - n)) _ _ _ _ rfl (by simp [go_sem]) (by simp [go_sem]) (hA _ _ _ _) ?_
  refine hK _ _ trivial ?_
  clear hK
  refine Dsk.CH.next rfl rfl fun K hK => ?_
  go_simp
  refine hK _ _ trivial ?_
  clear hK
  refine Dsk.CH.done (NoPanic.normal ?_)
  try go_frame
  clear hA
  have hC := Lib.run_clear_slice (P := Tryd.prog) w.drew 32 9 0 (.string ⟨#[]⟩) Tryd.underlying32 zero_str rfl rfl g k (n - k) (cap - k) (by omega) (fun j hj => h5 _ (by omega)) (fun j hj => h6 _ (by omega))
  have hck : ¬ cap = k := by omega
  have HG := Lib.hid (cut_row (k := k) h (List.replicate (n - k) (Value.string ⟨#[]⟩)) (by omega) (by rw [List.length_replicate]; omega))
  have HW : Hid (w.grownBy (w.drew.setCells g k (List.replicate (n - k) (Value.string ⟨#[]⟩))) (some g)) := Lib.hid (have e := grown_setCells g (List.replicate (n - k) (Value.string ⟨#[]⟩)) k w.drew; ⟨e.os, e.tape, e.output, e.size, e.block⟩)
  clear h h1 h2 h4 h5 h6 h7
  go_wp2_with fail
  all_goals
    first
      | (subst h; go_ret; exact ⟨_, rfl, HG.out, HW.out, rfl⟩)
      | (go_ret; exact ⟨_, rfl, HG.out, HW.out, rfl⟩)
end Sls
end Go.Proofs.YtpogoalbnbekaaaDoor

/- Rows of packets: slices.Clone, slices.Delete. A network in memory. -/
import Derived.Test.YtmhnifcohkamaaaNtB
namespace Go.Proofs.Ytmhnifcohkamaaa
open Go.RowKit Wire
open Txt (Row)
open Dsk (Only below_of_grown Grow.bare)
set_option linter.unusedVariables false
set_option linter.unusedSimpArgs false
namespace Ntw

theorem Grow.row {w : World} {B : Nat} {v : Value} {l : List Pk} (h : Grow w B 3 v l.length (pks l)) : ∃ A c, v = .slice A l.length c ∧ Row w w.heap.size A (pks l) := by
  rcases h.form with ⟨rfl, h0⟩ | ⟨g, cap, rfl, h1, h2, h3, h4, h5, h6, h7⟩
  · have hx : l = [] := List.eq_nil_of_length_eq_zero h0
    subst hx
    exact ⟨none, 0, rfl, fun k u hu => by simp [pks] at hu⟩
  · exact ⟨_, _, rfl, fun k u hu => ⟨g, 0, rfl, h2, by rw [Nat.zero_add]; exact h7 k u hu⟩⟩
theorem src_row {w : World} {A : Option Addr} {c : Nat} {l : List Pk} (h : Row w w.heap.size A (pks l)) : Src Try.prog 3 27 (.slice A l.length c) l.length (pks l) w := by
  cases A with
  | none =>
    obtain rfl : l = [] := by
      cases l with
      | nil => rfl
      | cons s r =>
        obtain ⟨b, o, e, _⟩ := h 0 _ rfl
        cases e
    exact Src.ofNil _ Try.underlying27 c
  | some a =>
    refine Src.ofSlice _ Try.underlying27 a _ _ _ (pks_len l) (fun j u hu => ?_) (one_pks l)
    obtain ⟨b, o, e, _, hcell⟩ := h j u hu
    injection e with e
    subst e
    rw [row_add']
    exact hcell
/-- A row's end. -/
theorem row_drop {w : World} {g o : Nat} {l : List Pk} (h : Row w w.heap.size (some ⟨g, o, none⟩) (pks l)) (k : Nat) : Row w w.heap.size (some ⟨g, o + k * 3, none⟩) (pks (l.drop k)) := by
  intro j u hu
  rw [← pks_drop, List.getElem?_drop] at hu
  obtain ⟨b, o', e, h1, h2⟩ := h _ u hu
  injection e with e
  injection e with e1 e2
  subst e1 e2
  exact ⟨_, _, rfl, h1, by rw [Nat.add_assoc]; exact h2⟩
theorem row_take {w : World} {B : Nat} {A : Option Addr} {l : List Pk} (h : Row w B A (pks l)) (k : Nat) : Row w B A (pks (l.take k)) := by
  intro j u hu
  rw [← pks_take] at hu
  have hj : j < k * 3 := by
    have := (List.getElem?_eq_some_iff.1 hu).1
    rw [List.length_take] at this
    omega
  rw [List.getElem?_take_of_lt hj] at hu
  exact h j u hu
/-- A packet of a row. -/
theorem row_pk {w w' : World} {A : Option Addr} {l : List Pk} (h : Row w w.heap.size A (pks l)) (hb : Below w.heap.size w w') {i : Nat} {p : Pk} (hp : l[i]? = some p) : ∃ b o, A = some ⟨b, o, none⟩ ∧ b < w.heap.size ∧
    ∀ w', Below w.heap.size w w' → w'.cell? ⟨b, o + i * 3, none⟩ = some (.int .i64 p.src) ∧ w'.cell? ⟨b, o + i * 3 + 1, none⟩ = some (.int .i64 p.dst) ∧ w'.cell? ⟨b, o + i * 3 + 2, none⟩ = some (.string p.body) := by
  obtain ⟨h0, h1, h2⟩ := pks_at hp
  obtain ⟨b, o, rfl, hb0, c0⟩ := h _ _ h0
  obtain ⟨b1, o1, e1, _, c1⟩ := h _ _ h1
  injection e1 with e1
  injection e1 with e1 e2
  subst e1 e2
  obtain ⟨b2, o2, e1, _, c2⟩ := h _ _ h2
  injection e1 with e1
  injection e1 with e1 e2
  subst e1 e2
  refine ⟨b, o, rfl, hb0, fun w' hb' => ⟨(hb'.cell (p := ⟨b, _, none⟩) hb0).trans c0, (hb'.cell (p := ⟨b, _, none⟩) hb0).trans ?_, (hb'.cell (p := ⟨b, _, none⟩) hb0).trans ?_⟩⟩
  · rw [Nat.add_assoc]; exact c1
  · rw [Nat.add_assoc]; exact c2

set_option maxHeartbeats 1000000 in
theorem clone_any (A : Option Addr) (c : Nat) (l : List Pk) (w : World) (hl : l.length ≤ 1000000000) (h : Row w w.heap.size A (pks l)) :
    Calls Try.prog 34 #[.slice A l.length c] w fun e w' => ∃ v', e = .returned v' ∧ Grow w' w.heap.size 3 v' l.length (pks l) ∧ Below w.heap.size w w' := by
  obtain ⟨i0, hi, hz0, hz1, hz2⟩ := info_parts info_pk
  have HL := Lib.hid (small_max (n := l.length) (by omega))
  have HB := Lib.hid (show l.length * 32 ≤ 140737488355328 from by omega)
  cases A with
  | none =>
    have hn : l = [] := by
      cases l with
      | nil => rfl
      | cons x r =>
        obtain ⟨b, o, e, _⟩ := h 0 _ rfl
        cases e
    subst hn
    have hq : ∀ w, (binOp .eql 27 (.slice none 0 c) (.slice none 0 0)).run Try.prog w = .ok (.bool true) w := fun w => Lib.run_eql_slice_nil w 27 33 none 0 c 0 0 Try.underlying27
    clear HL HB h hl
    simp only [List.length_nil]
    go_enter Try.func34, Try.ntmps34
    go_wp2_with fail
    go_ret
    exact ⟨_, rfl, Grow.nil _ _ _, Below.refl _ _⟩
  | some a =>
    have hq : ∀ w n, (binOp .eql 27 (.slice (some a) n c) (.slice none 0 0)).run Try.prog w = .ok (.bool false) w := fun w n => Lib.run_eql_slice_nil w 27 33 (some a) n c 0 0 Try.underlying27
    have HS := Lib.hid (src_row (c := c) (h.lift ((Below.refl _ w).alloc (Nat.le_refl _) (.cells #[] 33))))
    clear h hl
    generalize HX : pks l = xs at *
    clear HX
    go_enter Try.func34, Try.ntmps34
    go_wp2_with (at_builtin; refine wpList_append_src _ rfl (.tmp 5) (.tmp 6) _ _ rfl w.heap.size 33 i0 _ 3 32 Try.underlying27 hi hz0 hz1 hz2 rfl (by omega) _ 0 [] rfl (Grow.bare w 33 3) _ l.length _ rfl HS.out (by rw [Nat.zero_add]; exact HL.out) (by rw [Nat.zero_add]; exact HB.out) (by simp) ?_; intro v1 w1 hown hg _)
    go_ret
    simp only [Nat.zero_add, List.nil_append] at hown
    exact ⟨_, rfl, hown, below_of_grown ((Below.refl _ w).alloc (Nat.le_refl _) _) hg (Nat.le_refl _)⟩

/-! slices.Delete of one packet. -/
theorem zero_pk (w : World) : (zeroValue 33).run Try.prog w = .ok (.agg #[.int .i64 0, .int .i64 0, .string ⟨#[]⟩]) w := by kernel_rfl
theorem wp_append_run {P : Program} {o : Oper} {a : Act} {w w' : World} {K : Act → World → Prop} {Q : Exit → Act → World → Prop} (s x : Operand) (t tx : TypeId) {v y v' : Value}
    (ho : o.op = .call { callee := .builtin .append, args := #[s, x], argTypes := #[t, tx] }) (hs : a.eval s = v) (hx : a.eval x = y) (hr : (Builtin.append_ #[t, tx] o.type #[v, y]).run P w = .ok v' w') (h : K (a.put o.dst v') w') : Oper.wp P o a w K Q := by
  unfold Oper.wp execOp
  simp only [ho, resolve, invoke, builtin, Sem.run_bind, Sem.run_pure, Result.andThen_ok, List.map_toArray, List.map_cons, List.map_nil, hs, hx, hr]
  exact h
/-- The element is gone from where the list lies. -/
def DelPost (w : World) (B i : Nat) (v : Value) (L : List Pk) (e : Ending) (w' : World) : Prop :=
  ∃ v', e = .returned v' ∧ Grow w' B 3 v' (L.eraseIdx i).length (pks (L.eraseIdx i)) ∧ w.grownBy w' v.ownBlock ∧ v'.ownBlock = v.ownBlock
theorem zcells_pk : (Builtin.zeroCells (Value.agg #[.int .i64 0, .int .i64 0, .string ⟨#[]⟩]).cells 1).toList = [.int .i64 0, .int .i64 0, .string ⟨#[]⟩] := by kernel_rfl
theorem run_clear_pk (w : World) (ty : TypeId) (g o c : Nat) (hc : ∀ j, j < 3 → (w.cell? ⟨g, o + j, none⟩).isSome = true) (hf : ∀ j, j < 3 → w.frozen? ⟨g, o + j, none⟩ = false) :
    (Builtin.clear_ #[27] ty #[.slice (some ⟨g, o, none⟩) 1 c]).run Try.prog w = .ok (.tuple #[]) (w.setCells g o [.int .i64 0, .int .i64 0, .string ⟨#[]⟩]) := by
  have hst := run_storeCells_cells (P := Try.prog) g o [.int .i64 0, .int .i64 0, .string ⟨#[]⟩] 0 w (by simpa using hc) (by simpa using hf) (by intro v hv; simp at hv; rcases hv with rfl | rfl | rfl <;> rfl)
  simp only [Nat.add_zero] at hst
  simp [Builtin.clear_, run_underlying Try.underlying27, zero_pk, zcells_pk, hst]

/-- A cell of a row after the packets behind it have come one ahead. -/
theorem cut_row {w : World} {B g n cap i : Nat} {L : List Pk} (hn : n = L.length) (hi : i < n) (h : Grow w B 3 (.slice (some ⟨g, 0, none⟩) n cap) n (pks L)) :
    Grow ((w.drew.setCells g (i * 3) (pks (L.drop (i + 1)))).setCells g ((n - 1) * 3) [.int .i64 0, .int .i64 0, .string ⟨#[]⟩]) B 3 (.slice (some ⟨g, 0, none⟩) (n - 1) cap) (n - 1) (pks (L.eraseIdx i)) := by
  have hle : (L.eraseIdx i).length = n - 1 := by rw [List.length_eraseIdx_of_lt (by omega)]; omega
  refine ⟨by rw [pks_len, hle], ?_⟩
  rcases h.form with ⟨e, _⟩ | ⟨g', cap', e, h1, h2, h3, h4, h5, h6, h7⟩
  · cases e
  · injection e with e1 _ e3
    injection e1 with e1
    injection e1 with e1 _ _
    subst e1 e3
    have hld : (pks (L.drop (i + 1))).length = (n - (i + 1)) * 3 := by rw [pks_len, List.length_drop, ← hn]
    have hin := World.cell?_setCells_in g (pks (L.drop (i + 1))) (i * 3) w.drew (fun j hj => h5 _ (by omega))
    have hout := World.cell?_setCells_out g (pks (L.drop (i + 1))) (i * 3) w.drew
    have there1 : ∀ j, j < cap * 3 → ((w.drew.setCells g (i * 3) (pks (L.drop (i + 1)))).cell? ⟨g, j, none⟩).isSome = true := fun j hj => by
      by_cases hj2 : i * 3 ≤ j ∧ j < i * 3 + (pks (L.drop (i + 1))).length
      · obtain ⟨d, rfl⟩ : ∃ d, j = i * 3 + d := ⟨j - i * 3, by omega⟩
        rw [hin d (by omega)]
        rfl
      · rw [hout ⟨g, j, none⟩ (fun _ _ => by show j < _ ∨ _ ≤ j; omega)]
        exact h5 j hj
    have hin2 := World.cell?_setCells_in g [.int .i64 0, .int .i64 0, .string ⟨#[]⟩] ((n - 1) * 3) (w.drew.setCells g (i * 3) (pks (L.drop (i + 1)))) (fun j hj => there1 _ (by simp at hj; omega))
    have hout2 := World.cell?_setCells_out g [.int .i64 0, .int .i64 0, .string ⟨#[]⟩] ((n - 1) * 3) (w.drew.setCells g (i * 3) (pks (L.drop (i + 1))))
    have h3' : ([Value.int .i64 0, .int .i64 0, .string ⟨#[]⟩] : List Value).length = 3 := rfl
    refine .inr ⟨g, cap, rfl, h1, by rw [size_setCells_own, size_setCells_own]; exact h2, by omega, h4, fun j hj => ?_, fun j hj => ?_, fun j u hu => ?_⟩
    · by_cases hj2 : (n - 1) * 3 ≤ j ∧ j < (n - 1) * 3 + 3
      · obtain ⟨d, rfl⟩ : ∃ d, j = (n - 1) * 3 + d := ⟨j - (n - 1) * 3, by omega⟩
        rw [hin2 d (by rw [h3']; omega)]
        rfl
      · rw [hout2 ⟨g, j, none⟩ (fun _ _ => by show j < _ ∨ _ ≤ j; rw [h3']; omega)]
        exact there1 j hj
    · rw [World.frozen?_setCells, World.frozen?_setCells]
      exact h6 j hj
    · have hj : j < (n - 1) * 3 := by
        have := (List.getElem?_eq_some_iff.1 hu).1
        rw [pks_len, hle] at this
        omega
      rw [hout2 ⟨g, j, none⟩ (fun _ _ => Or.inl hj)]
      rw [List.eraseIdx_eq_take_drop_succ, pks_append, ← pks_take] at hu
      have hlt : ((pks L).take (i * 3)).length = i * 3 := by rw [List.length_take, pks_len]; omega
      by_cases hj2 : j < i * 3
      · rw [List.getElem?_append_left (by omega), List.getElem?_take_of_lt hj2] at hu
        rw [hout ⟨g, j, none⟩ (fun _ _ => Or.inl hj2)]
        exact h7 j u hu
      · rw [List.getElem?_append_right (by omega), hlt] at hu
        obtain ⟨d, rfl⟩ : ∃ d, j = i * 3 + d := ⟨j - i * 3, by omega⟩
        rw [Nat.add_sub_cancel_left] at hu
        obtain ⟨hd, hd2⟩ := List.getElem?_eq_some_iff.1 hu
        rw [hin d hd, hd2]

set_option maxRecDepth 8000 in
set_option maxHeartbeats 2000000 in
theorem delete_any (B i j : Nat) (hj : j = i + 1) (v : Value) (L : List Pk) (w : World) (hL : L.length ≤ 1000000000) (hi : i < L.length) (h : Grow w B 3 v L.length (pks L)) :
    Calls Try.prog 38 #[v, .int .i64 i, .int .i64 j] w (DelPost w B i v L) := by
  obtain ⟨g, cap, rfl, h1, h2, h3, h4, h5, h6, h7⟩ := h.form.resolve_left (fun e => by omega)
  unfold maxLen at h4
  have hle : (L.eraseIdx i).length = L.length - 1 := by rw [List.length_eraseIdx_of_lt (by omega)]
  have HCUT := Lib.hid (cut_row (i := i) (n := L.length) rfl hi h)
  have HSRC : Hid (∀ W X, W = w.drew → X = (if cap = j then some (⟨g, 0, none⟩ : Addr) else some ⟨g, j * 3, none⟩) → Src Try.prog 3 27 (.slice X (L.length - j) (cap - j)) (L.length - j) (pks (L.drop j)) W) := Lib.hid fun W X hW hX => by
    subst hW
    have hld : (L.drop j).length = L.length - j := List.length_drop
    by_cases e : cap = j
    · rw [if_pos e] at hX
      have h0 : L.drop j = [] := List.eq_nil_of_length_eq_zero (by omega)
      rw [h0, show L.length - j = 0 from by omega, hX]
      exact Src.ofSlice _ Try.underlying27 _ _ _ _ rfl (fun k u hu => by simp [pks] at hu) (fun u hu => by simp [pks] at hu)
    · rw [if_neg e] at hX
      rw [hX]
      refine Src.ofSlice _ Try.underlying27 _ _ _ _ (by rw [pks_len, hld]) (fun k u hu => ?_) (one_pks _)
      rw [← pks_drop, List.getElem?_drop] at hu
      rw [row_add']
      exact h7 _ u hu
  have HLD : Hid ((pks (L.drop j)).length = (L.length - j) * 3) := Lib.hid (by rw [pks_len, List.length_drop])
  rw [← hj] at HCUT
  clear h h7
  unfold DelPost
  generalize pks (L.drop j) = news at *
  generalize pks (L.eraseIdx i) = outs at *
  generalize (L.eraseIdx i).length = k at *
  generalize L.length = n at *
  have hne : ((i : Int) == (j : Int)) = false := beq_eq_false_iff_ne.2 (by omega)
  have hij : (i : Int) ≤ j := by omega
  have hic : (j : Int) ≤ cap := by omega
  have hic0 : (i : Int) ≤ cap := by omega
  have hin : (j : Int) ≤ n := by omega
  have hkn : (k : Int) ≤ n := by omega
  have hnc : (n : Int) ≤ cap := by omega
  have hni : ¬ n = i := by omega
  have HJ := Lib.hid hj
  have HK := Lib.hid hle
  have HI := Lib.hid hi
  clear hj hle hi
  go_enter Try.func38, Try.ntmps38
  have hA : ∀ (X : Option Addr) (ty : TypeId), X = (if cap = j then some (⟨g, 0, none⟩ : Addr) else some ⟨g, j * 3, none⟩) → (Builtin.append_ #[27, 27] ty #[.slice (some ⟨g, 0, none⟩) i cap, .slice X (n - j) (cap - j)]).run Try.prog w.drew = .ok (.slice (some ⟨g, 0, none⟩) k cap) (w.drew.setCells g (i * 3) news) := fun X ty hX => by
    obtain ⟨i0, hi, hz0, hz1, hz2⟩ := info_parts info_pk
    have hHI := HI.out
    have hHJ := HJ.out
    have hHK := HK.out
    have hHL := HLD.out
    have hr := run_append_room_src (P := Try.prog) w.drew 27 27 ty 33 i0 Try.underlying27 hi g 0 i cap _ (n - j) news (by rw [hz1]; exact HSRC.out _ X rfl hX) (by omega) (fun j hj => by rw [hz1]; exact h5 _ (by omega)) (fun j hj => by rw [hz1]; exact h6 _ (by omega))
    rw [hz1, Nat.zero_add, show i + (n - j) = k from by omega] at hr
    exact hr
  go_upto_region 5 with (fail)
  try go_frame
  refine Dsk.wp_region_sorted (fun _ => True) [0, 1, 2, 3, 4, 5] [6, 7] (by kernel_rfl) (by kernel_rfl) trivial ?_
  repeat refine Dsk.RD.next rfl rfl (by intro w' hS; go_simp; with_reducible rfl) ?_
  refine Dsk.RD.done ?_
  refine Dsk.CH.next rfl rfl fun K hK => ?_
  refine wp_append_run (v := .slice (some ⟨g, 0, none⟩) i cap) (y := .slice (if cap = j then some ⟨g, 0, none⟩ else some ⟨g, j * 3, none⟩) (n - j) (cap - j)) _ _ _ _ rfl (by simp [go_sem]) (by simp [go_sem]) (hA _ _ rfl) ?_
  refine hK _ _ trivial ?_
  clear hK
  refine Dsk.CH.next rfl rfl fun K hK => ?_
  go_simp
  refine hK _ _ trivial ?_
  clear hK
  refine Dsk.CH.done (NoPanic.normal ?_)
  try go_frame
  clear hA
  have hC : ∀ ty c, (Builtin.clear_ #[27] ty #[.slice (some ⟨g, k * 3, none⟩) (n - k) c]).run Try.prog (w.drew.setCells g (i * 3) news) = .ok (.tuple #[]) ((w.drew.setCells g (i * 3) news).setCells g (k * 3) [.int .i64 0, .int .i64 0, .string ⟨#[]⟩]) := fun ty c => by
    have hHI := HI.out
    have hHJ := HJ.out
    have hHK := HK.out
    have hHL := HLD.out
    rw [show n - k = 1 from by omega]
    refine run_clear_pk _ ty g (k * 3) c (fun j2 hj2 => ?_) (fun j2 hj2 => ?_)
    · by_cases hj3 : i * 3 ≤ k * 3 + j2 ∧ k * 3 + j2 < i * 3 + news.length
      · obtain ⟨d, hd⟩ : ∃ d, k * 3 + j2 = i * 3 + d := ⟨k * 3 + j2 - i * 3, by omega⟩
        rw [hd, World.cell?_setCells_in g news (i * 3) w.drew (fun j hj => h5 _ (by omega)) d (by omega)]
        rfl
      · rw [World.cell?_setCells_out g news (i * 3) w.drew ⟨g, k * 3 + j2, none⟩ (fun _ _ => by show k * 3 + j2 < _ ∨ _ ≤ k * 3 + j2; omega)]
        exact h5 _ (by omega)
    · rw [World.frozen?_setCells]
      exact h6 _ (by omega)
  have hck : ¬ cap = k := by have := HK.out; have := HI.out; omega
  have HG : Hid (Grow ((w.drew.setCells g (i * 3) news).setCells g (k * 3) [.int .i64 0, .int .i64 0, .string ⟨#[]⟩]) B 3 (.slice (some ⟨g, 0, none⟩) k cap) k outs) := Lib.hid (by rw [HK.out]; exact HCUT.out)
  have HW : Hid (w.grownBy ((w.drew.setCells g (i * 3) news).setCells g (k * 3) [.int .i64 0, .int .i64 0, .string ⟨#[]⟩]) (some g)) := Lib.hid (grown_trans (have e := grown_setCells g news (i * 3) w.drew; ⟨e.os, e.tape, e.output, e.size, e.block⟩) (grown_setCells g _ (k * 3) _))
  clear h1 h2 h4 h5 h6 HSRC
  go_wp2_with fail
  all_goals
    first
      | (subst h; go_ret; exact ⟨_, rfl, HG.out, HW.out, rfl⟩)
      | (go_ret; exact ⟨_, rfl, HG.out, HW.out, rfl⟩)
end Ntw
end Go.Proofs.Ytmhnifcohkamaaa

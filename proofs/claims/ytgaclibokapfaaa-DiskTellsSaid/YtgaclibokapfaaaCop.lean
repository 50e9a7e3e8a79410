/- New and Copy. -/
import Derived.Test.YtgaclibokapfaaaTru
namespace Go.Proofs.Ytgaclibokapfaaa
open Go.RowKit Wire
set_option linter.unusedVariables false
set_option linter.unusedSimpArgs false
open Txt
namespace Dsk

/-- A disk's cells. -/
def diskL (D : Own) (S : St) : List Value := conL D.m1 S.now ++ (conL D.m2 S.last ++ ([D.qv, .map (some D.mh)] ++ ([.bool S.down, .int .i64 S.lost, .int .i64 S.calls] ++ [D.kv])))
theorem diskL_len (D : Own) (S : St) : (diskL D S).length = 40 := by unfold diskL; simp [conL_len]

theorem range_app {w : World} {g o : Nat} {a b : List Value} : w.rangeAt g o (a ++ b) ↔ w.rangeAt g o a ∧ w.rangeAt g (o + a.length) b := by
  constructor
  · intro h
    refine ⟨fun j v hv => h j v ?_, fun j v hv => ?_⟩
    · rw [List.getElem?_append_left (List.getElem?_eq_some_iff.1 hv).1]
      exact hv
    · rw [Nat.add_assoc]
      exact h (a.length + j) v (by rw [List.getElem?_append_right (by omega), Nat.add_sub_cancel_left]; exact hv)
  · rintro ⟨h1, h2⟩ j v hv
    by_cases hj : j < a.length
    · rw [List.getElem?_append_left hj] at hv
      exact h1 j v hv
    · rw [List.getElem?_append_right (by omega)] at hv
      have := h2 (j - a.length) v hv
      rwa [show o + a.length + (j - a.length) = o + j from by omega] at this
theorem there_sub {w : World} {g o n i m : Nat} (h : w.there g o n) (hm : i + m ≤ n) : w.there g (o + i) m := fun j hj => by
  rw [Nat.add_assoc]
  exact h (i + j) (by omega)

theorem DiskAt.of_cells {w : World} {D : Own} {S : St} (h : Lie w D.p 0 (diskL D S)) (h1 : MapC w D.m1 S.now) (h2 : MapC w D.m2 S.last) (h3 : IsMap w D.mh (hasL S.queue)) (h4 : Grow w 0 2 D.qv S.queue.length (S.queue.flatMap secL)) (h5 : Grow w 0 1 D.kv S.keep.length (S.keep.map (Value.int .i64))) (hs : D.Sep) : DiskAt w D S := by
  obtain ⟨hc, ht⟩ := h
  rw [diskL_len] at ht
  unfold diskL at hc
  obtain ⟨c1, hc⟩ := range_app.1 hc
  obtain ⟨c2, hc⟩ := range_app.1 hc
  obtain ⟨c3, hc⟩ := range_app.1 hc
  obtain ⟨c4, c5⟩ := range_app.1 hc
  simp only [conL_len, Nat.zero_add, List.length_cons, List.length_nil] at c1 c2 c3 c4 c5
  exact ⟨⟨c1, fun j hj => ht j (by omega), h1⟩, ⟨c2, fun j hj => by have := ht (17 + j) (by omega); rwa [Nat.zero_add] at this, h2⟩,
    ⟨c3 0 _ rfl, c3 1 _ rfl, fun j hj => by have := ht (34 + j) (by omega); rwa [Nat.zero_add] at this, h4, h3⟩, c4 0 _ rfl, c4 1 _ rfl, c4 2 _ rfl, c5 0 _ rfl, h5, ht, hs⟩
theorem DiskAt.cells {w : World} {D : Own} {S : St} (h : DiskAt w D S) : w.rangeAt D.p 0 (diskL D S) := by
  unfold diskL
  rw [range_app, range_app, range_app, range_app]
  simp only [conL_len, Nat.zero_add, List.length_cons, List.length_nil]
  refine ⟨h.now.cells, h.last.cells, ?_, ?_, ?_⟩
  · intro j v hv
    match j, hv with
    | 0, hv => cases hv; exact h.que.ptr
    | 1, hv => cases hv; exact h.que.has
  · intro j v hv
    match j, hv with
    | 0, hv => cases hv; exact h.down
    | 1, hv => cases hv; exact h.lost
    | 2, hv => cases hv; exact h.calls
  · intro j v hv
    match j, hv with
    | 0, hv => cases hv; exact h.keep
theorem one_app {a b : List Value} (ha : ∀ v ∈ a, v.oneCell' = true) (hb : ∀ v ∈ b, v.oneCell' = true) : ∀ v ∈ a ++ b, v.oneCell' = true := fun v hv => (List.mem_append.1 hv).elim (ha v) (hb v)
theorem diskL_one {D : Own} {S : St} (hq : D.qv.oneCell' = true) (hk : D.kv.oneCell' = true) : ∀ v ∈ diskL D S, v.oneCell' = true := by
  unfold diskL
  refine one_app (conL_one _ _) (one_app (conL_one _ _) (one_app ?_ (one_app ?_ ?_)))
  · intro v hv
    simp at hv
    rcases hv with rfl | rfl
    · exact hq
    · rfl
  · intro v hv
    simp at hv
    rcases hv with rfl | rfl | rfl <;> rfl
  · intro v hv
    simp at hv
    subst hv
    exact hk

theorem Lie.replace {w : World} {g : Nat} {a b b' c : List Value} (h : Lie w g 0 (a ++ (b ++ c))) (hl : b'.length = b.length) : Lie (w.setCells g a.length b') g 0 (a ++ (b' ++ c)) := by
  have := Lie.part (i := a.length) (news := b') h (ds := a ++ (b' ++ c)) (by simp [hl]) (by simp [hl]) (fun j hj => ?_)
  · rwa [Nat.zero_add] at this
  · by_cases h1 : j < a.length
    · rw [if_neg (by omega), List.getElem?_append_left (l₂ := b' ++ c) h1, List.getElem?_append_left (l₂ := b ++ c) h1]
    · rw [List.getElem?_append_right (l₁ := a) (l₂ := b' ++ c) (by omega), List.getElem?_append_right (l₁ := a) (l₂ := b ++ c) (by omega)]
      by_cases h2 : j - a.length < b'.length
      · rw [if_pos (by omega), List.getElem?_append_left (l₂ := c) h2]
      · rw [if_neg (by omega), List.getElem?_append_right (l₁ := b') (l₂ := c) (by omega), List.getElem?_append_right (l₁ := b) (l₂ := c) (by omega), hl]

theorem conL_none (m : Nat) : (conL m Con.none).toArray = #[.map (some m), .int .i64 0, .int .i64 0, .int .i64 0, .int .i64 0, .int .i64 0, .int .i64 0, .int .i64 0, .int .i64 0, .int .i64 0, .int .i64 0, .int .i64 0, .int .i64 0, .int .i64 0, .int .i64 0, .int .i64 0, .int .i64 0] := rfl
theorem build_lit (w : World) (m1 m2 mh : Nat) : (Instr.build 63 #[(0, .agg #[.map (some m1), .int .i64 0, .int .i64 0, .int .i64 0, .int .i64 0, .int .i64 0, .int .i64 0, .int .i64 0, .int .i64 0, .int .i64 0, .int .i64 0, .int .i64 0, .int .i64 0, .int .i64 0, .int .i64 0, .int .i64 0, .int .i64 0]), (1, .agg #[.map (some m2), .int .i64 0, .int .i64 0, .int .i64 0, .int .i64 0, .int .i64 0, .int .i64 0, .int .i64 0, .int .i64 0, .int .i64 0, .int .i64 0, .int .i64 0, .int .i64 0, .int .i64 0, .int .i64 0, .int .i64 0, .int .i64 0]), (2, .agg #[.slice none 0 0, .map (some mh)])]).run Try.prog w =
    .ok (.agg #[.map (some m1), .int .i64 0, .int .i64 0, .int .i64 0, .int .i64 0, .int .i64 0, .int .i64 0, .int .i64 0, .int .i64 0, .int .i64 0, .int .i64 0, .int .i64 0, .int .i64 0, .int .i64 0, .int .i64 0, .int .i64 0, .int .i64 0, .map (some m2), .int .i64 0, .int .i64 0, .int .i64 0, .int .i64 0, .int .i64 0, .int .i64 0, .int .i64 0, .int .i64 0, .int .i64 0, .int .i64 0, .int .i64 0, .int .i64 0, .int .i64 0, .int .i64 0, .int .i64 0, .int .i64 0, .slice none 0 0, .map (some mh), .bool false, .int .i64 0, .int .i64 0, .slice none 0 0]) w := by kernel_rfl
theorem build_new (w : World) (m1 m2 mh : Nat) : (Instr.build 63 #[(0, .agg (conL m1 Con.none).toArray), (1, .agg (conL m2 Con.none).toArray), (2, .agg #[.slice none 0 0, .map (some mh)])]).run Try.prog w =
    .ok (.agg (diskL ⟨0, m1, m2, mh, .slice none 0 0, .slice none 0 0⟩ St.new).toArray) w := by
  rw [conL_none, conL_none, build_lit]
  rfl

theorem wpList_of_run {w w' : World} {ops : Array Oper} {rest : List Oper} {o : Oper} {a : Act} {Q : Exit → Act → World → Prop} {v : Value} (hgd : o.guard = none) (hr : (execOp a.eval o).run Try.prog w = .ok (.value v) w') (h : wpList Try.prog ops Q rest (a.put o.dst v) w') : wpList Try.prog ops Q (o :: rest) a w :=
  wpList_plain hgd fun K hK => by
    unfold Oper.wp
    rw [hr, Oper.upon_value]
    exact hK _ _ h

set_option maxRecDepth 8000 in
set_option maxHeartbeats 1000000 in
theorem New_any (w : World) : Calls Try.prog 10 #[] w fun e w' => ∃ D, e = .returned (.pointer (some ⟨D.p, 0, none⟩)) ∧ DiskAt w' D St.new ∧ (∀ b, D.has b → w.heap.size ≤ b) ∧ Below w.heap.size w w' := by
  go_enter Try.func10, Try.ntmps10
  go_wp2_with fail
  refine (empty_any w).mono ?_
  rintro e w1 ⟨m1, rfl, hm1, hb1, hg1⟩
  go_wp2_with fail
  refine (empty_any w1).mono ?_
  rintro e w2 ⟨m2, rfl, hm2, hb2, hg2⟩
  go_wp2_with fail
  refine (newQueue_any w2).mono ?_
  rintro e w3 ⟨mh, rfl, hmh, hb3, hg3⟩
  obtain ⟨L, hL⟩ : ∃ L, L = diskL ⟨0, m1, m2, mh, .slice none 0 0, .slice none 0 0⟩ St.new := ⟨_, rfl⟩
  have hbn := build_new w3 m1 m2 mh
  rw [← hL] at hbn
  have HBN := Lib.hid hbn
  have HL := Lib.hid hL
  obtain ⟨X1, hX1⟩ : ∃ X, X = (conL m1 Con.none).toArray := ⟨_, rfl⟩
  obtain ⟨X2, hX2⟩ : ∃ X, X = (conL m2 Con.none).toArray := ⟨_, rfl⟩
  rw [← hX1, ← hX2] at HBN
  rw [← hX1, ← hX2]
  clear hbn hL hX1 hX2
  go_wp2_with ((refine wpList_of_run (v := .agg L.toArray) rfl (run_build_op [(0, .agg X1), (1, .agg X2), (2, .agg #[.slice none 0 0, .map (some mh)])] rfl rfl HBN.out) ?_))
  have hl : Lie (w3.alloc (.cells L.toArray 63)) w3.heap.size 0 L := ⟨fun j v hv => by
      rw [Nat.zero_add, (Blk.fresh w3 _ _).at, List.getElem?_toArray]
      exact hv, fun j hj => by
      rw [Nat.zero_add, (Blk.fresh w3 _ _).at, (Blk.fresh w3 _ _).thaw, List.getElem?_toArray, List.getElem?_eq_getElem hj]
      exact ⟨rfl, rfl⟩⟩
  have b3 : Below w3.heap.size w3 (w3.alloc (.cells L.toArray 63)) := (Below.refl _ w3).alloc (Nat.le_refl _) _
  rw [HL.out] at hl b3 ⊢
  have hs1 := hb1.size
  have hs2 := hb2.size
  have hs3 := hb3.size
  have l1 := hm1.lt
  have l2 := hm2.lt
  have l3 := hmh.lt
  go_ret
  refine ⟨⟨w3.heap.size, m1, m2, mh, .slice none 0 0, .slice none 0 0⟩, rfl, DiskAt.of_cells hl ?_ ?_ ?_ (Grow.nil _ _ _) (Grow.nil _ _ _) ?_, ?_, ?_⟩
  · exact ((hm1.keep (hb2.block _ l1)).keep (hb3.block m1 (by omega))).keep (b3.block m1 (by omega))
  · exact (hm2.keep (hb3.block m2 l2)).keep (b3.block m2 (by omega))
  · have : (fun _ _ => none : Nat → Nat → Option Value) = hasL [] := by funext f n; unfold hasL; simp
    rw [this] at hmh
    exact hmh.keep (b3.block mh l3)
  · refine ⟨?_, ?_, ?_, ?_, ?_, ?_, (fun b hb => by cases hb), (fun b hb => by cases hb), (fun x hx => by cases hx)⟩ <;> simp only <;> omega
  · rintro b (e | e | e | e | e | e)
    · simp only at e; omega
    · simp only at e; omega
    · simp only at e; omega
    · simp only at e; omega
    · cases e
    · cases e
  · exact ((hb1.trans (hb2.mono hs1)).trans (hb3.mono (by omega))).trans (b3.mono (by omega))

/-- 'c := *d': a new disk's block. -/
theorem wpList_alloc_dsk {w : World} {ops : Array Oper} {rest : List Oper} {o : Oper} {a : Act} {Q : Exit → Act → World → Prop} (hgd : o.guard = none) (ho : o.op = .alloc 63)
    (h : ∀ w', w'.there w.heap.size 0 40 → Below w.heap.size w w' → w'.heap.size = w.heap.size + 1 → wpList Try.prog ops Q rest (a.put o.dst (.pointer (some ⟨w.heap.size, 0, none⟩))) w') : wpList Try.prog ops Q (o :: rest) a w :=
  wpList_plain hgd fun K hK => by
    have hr : ∃ cs : Array Value, cs.size = 40 ∧ (execOp a.eval o).run Try.prog w = .ok (.value (.pointer (some ⟨w.heap.size, 0, none⟩))) (w.alloc (.cells cs 63)) := by
      refine ⟨#[.map none, .int .i64 0, .int .i64 0, .int .i64 0, .int .i64 0, .int .i64 0, .int .i64 0, .int .i64 0, .int .i64 0, .int .i64 0, .int .i64 0, .int .i64 0, .int .i64 0, .int .i64 0, .int .i64 0, .int .i64 0, .int .i64 0, .map none, .int .i64 0, .int .i64 0, .int .i64 0, .int .i64 0, .int .i64 0, .int .i64 0, .int .i64 0, .int .i64 0, .int .i64 0, .int .i64 0, .int .i64 0, .int .i64 0, .int .i64 0, .int .i64 0, .int .i64 0, .int .i64 0, .slice none 0 0, .map none, .bool false, .int .i64 0, .int .i64 0, .slice none 0 0], rfl, ?_⟩
      unfold execOp
      simp only [ho]
      kernel_rfl
    obtain ⟨cs, hcs, hr⟩ := hr
    have hb : Blk (w.alloc (.cells cs 63)) w.heap.size _ _ := Blk.fresh w _ _
    unfold Oper.wp
    rw [hr]
    refine hK _ _ (h _ (fun j hj => ?_) ((Below.refl _ w).alloc (Nat.le_refl _) _) (by simp))
    rw [Nat.zero_add, hb.at, hb.thaw]
    exact ⟨by rw [Array.getElem?_eq_getElem (by omega)]; rfl, rfl⟩

set_option maxRecDepth 8000 in
set_option maxHeartbeats 2000000 in
theorem Copy_any (w : World) (D : Own) (S : St) (h : DiskAt w D S) (hk : S.ok) : Calls Try.prog 18 #[.pointer (some ⟨D.p, 0, none⟩)] w fun e w' => ∃ D', e = .returned (.pointer (some ⟨D'.p, 0, none⟩)) ∧ DiskAt w' D' S ∧ (∀ b, D'.has b → w.heap.size ≤ b) ∧ Below w.heap.size w w' := by
  have H := Lib.hid h
  have hcells := h.cells
  have hone : ∀ v ∈ diskL D S, v.oneCell' = true := diskL_one (by obtain ⟨A, c, e⟩ := h.que.row.slice; rw [e]; rfl) (by obtain ⟨A, c, e⟩ := h.kept.slice; rw [e]; rfl)
  have hlen := diskL_len D S
  obtain ⟨L, hL⟩ : ∃ L, L = diskL D S := ⟨_, rfl⟩
  rw [← hL] at hcells hone hlen
  have HL := Lib.hid hL
  have HC := Lib.hid hcells
  have HLN := Lib.hid hlen
  clear h hL hcells hlen
  go_enter Try.func18, Try.ntmps18
  go_wp2_with (first
    | (refine wpList_load_mid rfl 63 _ rfl D.p 0 rfl L _ HC.out Try.underlying63 rfl (by rw [HLN.out]; kernel_rfl) ?_)
    | (refine wpList_alloc_dsk rfl rfl ?_; intro w1 ht1 hb1 hs1)
    | (refine wpList_store_cells rfl 63 _ _ rfl w.heap.size 0 40 L rfl rfl HLN.out ht1 (by kernel_rfl) hone ?_; intro w2 hw2; have hl2 := Lie.all (w := w1) (g := w.heap.size) (o := 0) ht1 HLN.out; have hg2 := grown_cells w.heap.size L 0 w1; rw [← hw2] at hl2 hg2; clear hw2))
  rw [HL.out] at hl2
  have HB2 := Lib.hid (hb1.trans (grown_below hg2 (Nat.le_refl _) (by omega)))
  have hz2 : w.heap.size < w2.heap.size := by have := hg2.size; omega
  have HL2 := Lib.hid hl2
  clear hl2 hg2 hb1 hs1 ht1 hone
  have hd2 := H.out.below HB2.out
  refine (ccl_any D.p 0 D.m1 S.now w2 hd2.now).mono ?_
  rintro e w3 ⟨m1, rfl, hm1, hb3, hq1⟩
  have hl3 : Lie w3 w.heap.size 0 (diskL D S) := HL2.out.keep (hb3.block _ hz2)
  have ht3 : w3.there w.heap.size 0 17 := fun j hj => hl3.there j (by rw [diskL_len]; omega)
  have HL4 := Lib.hid (Lie.replace (a := []) (b := conL D.m1 S.now) (b' := conL m1 S.now) (c := conL D.m2 S.last ++ ([D.qv, .map (some D.mh)] ++ ([.bool S.down, .int .i64 S.lost, .int .i64 S.calls] ++ [D.kv]))) hl3 (by rw [conL_len, conL_len]))
  have HG4 := Lib.hid (grown_cells w.heap.size (conL m1 S.now) 0 w3)
  have HB3 := Lib.hid (HB2.out.trans (hb3.mono HB2.out.size))
  have HM1 := Lib.hid hm1
  have hz3 := hb3.size
  clear hl3 hd2 hm1 hb3
  go_wp2_with ((refine wpList_store_cells rfl 55 _ _ rfl w.heap.size 0 17 (conL m1 S.now) rfl rfl (conL_len _ _) ht3 (by kernel_rfl) (conL_one _ _) ?_; intro w4 hw4; rw [List.length_nil, ← hw4] at HL4; rw [← hw4] at HG4; clear hw4 ht3))
  have HB4 := Lib.hid (HB3.out.trans (grown_below HG4.out (Nat.le_refl _) HB3.out.size))
  have HM14 := Lib.hid (HM1.out.keep (HG4.out.block m1 HM1.out.lt (by intro e; injection e with e; omega)))
  have hz4 := HG4.out.size
  clear HM1 HG4 HB3
  have hd4 := H.out.below HB4.out
  refine (ccl_any D.p 17 D.m2 S.last w4 hd4.last).mono ?_
  rintro e w5 ⟨m2, rfl, hm2, hb5, hq2⟩
  have hl5 := HL4.out.keep (hb5.block _ (by omega))
  have ht5 : w5.there w.heap.size 17 17 := fun j hj => by have := hl5.there (17 + j) (by simp [conL_len]; omega); rwa [Nat.zero_add] at this
  have HL6 := Lib.hid (Lie.replace (a := conL m1 S.now) (b := conL D.m2 S.last) (b' := conL m2 S.last) (c := [D.qv, .map (some D.mh)] ++ ([.bool S.down, .int .i64 S.lost, .int .i64 S.calls] ++ [D.kv])) hl5 (by rw [conL_len, conL_len]))
  have HG6 := Lib.hid (grown_cells w.heap.size (conL m2 S.last) 17 w5)
  have HB5 := Lib.hid (HB4.out.trans (hb5.mono HB4.out.size))
  have HM15 := Lib.hid (HM14.out.keep (hb5.block m1 HM14.out.lt))
  have HM2 := Lib.hid hm2
  have hz5 := hb5.size
  have hlt1 := HM14.out.lt
  clear hl5 hd4 hm2 hb5 HM14 HL4
  go_wp2_with ((refine wpList_store_cells rfl 55 _ _ rfl w.heap.size 17 17 (conL m2 S.last) rfl rfl (conL_len _ _) ht5 (by kernel_rfl) (conL_one _ _) ?_; intro w6 hw6; rw [conL_len, ← hw6] at HL6; rw [← hw6] at HG6; clear hw6 ht5))
  have HB6 := Lib.hid (HB5.out.trans (grown_below HG6.out (Nat.le_refl _) HB5.out.size))
  have HM16 := Lib.hid (HM15.out.keep (HG6.out.block m1 HM15.out.lt (by intro e; injection e with e; omega)))
  have HM26 := Lib.hid (HM2.out.keep (HG6.out.block m2 HM2.out.lt (by intro e; injection e with e; omega)))
  have hz6 := HG6.out.size
  have hlt2 := HM2.out.lt
  clear HM2 HM15 HG6 HB5
  have hd6 := H.out.below HB6.out
  refine (qcl_any D.p 34 D.mh D.qv S.queue w6 hd6.que (by have := hk.qlen; omega)).mono ?_
  rintro e w7 ⟨v7, mh, rfl, hv7, hmh, hb7, hq3, hne7⟩
  have hl7 := HL6.out.keep (hb7.block _ (by omega))
  rw [← List.append_assoc] at hl7
  have ht7 : w7.there w.heap.size 34 2 := fun j hj => by have := hl7.there (34 + j) (by simp [conL_len]; omega); rwa [Nat.zero_add] at this
  have HL8 := Lib.hid (Lie.replace (a := conL m1 S.now ++ conL m2 S.last) (b := [D.qv, .map (some D.mh)]) (b' := [v7, .map (some mh)]) (c := [.bool S.down, .int .i64 S.lost, .int .i64 S.calls] ++ [D.kv]) hl7 rfl)
  have HG8 := Lib.hid (grown_cells w.heap.size [v7, .map (some mh)] 34 w7)
  have HB7 := Lib.hid (HB6.out.trans (hb7.mono HB6.out.size))
  have HM17 := Lib.hid (HM16.out.keep (hb7.block m1 HM16.out.lt))
  have HM27 := Lib.hid (HM26.out.keep (hb7.block m2 HM26.out.lt))
  have HMH := Lib.hid hmh
  have HV7 := Lib.hid hv7
  have HNE := Lib.hid hne7
  have hz7 := hb7.size
  obtain ⟨A7, c7, rfl⟩ := hv7.slice
  clear hl7 hd6 hmh hv7 hb7 hne7 HM16 HM26 HL6
  go_wp2_with ((refine wpList_store_cells rfl 60 _ _ rfl w.heap.size 34 2 [.slice A7 S.queue.length c7, .map (some mh)] rfl rfl rfl ht7 (by kernel_rfl) (by simp [Value.oneCell']) ?_; intro w8 hw8; rw [List.length_append, conL_len, conL_len, ← hw8] at HL8; rw [← hw8] at HG8; clear hw8 ht7; have HB8 := Lib.hid (HB7.out.trans (grown_below HG8.out (Nat.le_refl _) HB7.out.size)); have hkv := (H.out.below HB8.out).keep))
  have hz8 := HG8.out.size
  refine (cloneInts_any D.kv S.keep hk.keep w8 (kv_ints (H.out.below HB8.out)).1).mono ?_
  rintro e w9 ⟨v9, rfl, hv9, hb9⟩
  have hl9 := HL8.out.keep (hb9.block _ (by omega))
  have hc9 : w9.cell? ⟨w.heap.size, 39, none⟩ = some D.kv := by
    have := hl9.cells 39 D.kv (by simp [conL_len])
    rwa [Nat.zero_add] at this
  have hf9 : w9.frozen? ⟨w.heap.size, 39, none⟩ = false := by
    have := (hl9.there 39 (by simp [conL_len])).2
    rwa [Nat.zero_add] at this
  have HL9 := Lib.hid hl9
  have HV9 := Lib.hid hv9
  have HB9 := Lib.hid hb9
  obtain ⟨A9, c9, rfl⟩ := hv9.slice
  obtain ⟨A0, c0, ek⟩ := H.out.kept.slice
  have HP : Hid (∃ D', D'.p = w.heap.size ∧ DiskAt (w9.setCell ⟨w.heap.size, 39, none⟩ (.slice A9 S.keep.length c9)) D' S ∧ (∀ b, D'.has b → w.heap.size ≤ b) ∧ Below w.heap.size w (w9.setCell ⟨w.heap.size, 39, none⟩ (.slice A9 S.keep.length c9))) := Lib.hid (by
    have hfin : Lie (w9.setCell ⟨w.heap.size, 39, none⟩ (.slice A9 S.keep.length c9)) w.heap.size 0 (diskL ⟨w.heap.size, m1, m2, mh, .slice A7 S.queue.length c7, .slice A9 S.keep.length c9⟩ S) := by
      have h0 := HL9.out
      have e1 : conL m1 S.now ++ conL m2 S.last ++ ([Value.slice A7 S.queue.length c7, .map (some mh)] ++ ([Value.bool S.down, Value.int .i64 S.lost, Value.int .i64 S.calls] ++ [D.kv])) =
        (conL m1 S.now ++ conL m2 S.last ++ [Value.slice A7 S.queue.length c7, .map (some mh)] ++ [Value.bool S.down, Value.int .i64 S.lost, Value.int .i64 S.calls]) ++ ([D.kv] ++ []) := by simp
      rw [e1] at h0
      have h1 := Lie.replace (b' := [.slice A9 S.keep.length c9]) h0 rfl
      have e2 : (conL m1 S.now ++ conL m2 S.last ++ [Value.slice A7 S.queue.length c7, .map (some mh)] ++ [Value.bool S.down, Value.int .i64 S.lost, Value.int .i64 S.calls]).length = 39 := by simp [conL_len]
      rw [e2] at h1
      have e3 : diskL ⟨w.heap.size, m1, m2, mh, .slice A7 S.queue.length c7, .slice A9 S.keep.length c9⟩ S = (conL m1 S.now ++ conL m2 S.last ++ [Value.slice A7 S.queue.length c7, .map (some mh)] ++ [Value.bool S.down, Value.int .i64 S.lost, Value.int .i64 S.calls]) ++ ([.slice A9 S.keep.length c9] ++ []) := by unfold diskL; simp
      rw [e3]
      exact h1
    have hst : ∀ b, b ≠ w.heap.size → (w9.setCell ⟨w.heap.size, 39, none⟩ (.slice A9 S.keep.length c9)).heap[b]? = w9.heap[b]? := fun b hb => Below.heap_setCell _ _ _ _ hb
    have g8 : ∀ b, b < w7.heap.size → b ≠ w.heap.size → w8.heap[b]? = w7.heap[b]? := fun b h1 h2 => HG8.out.block b h1 (by intro e; injection e with e; exact h2 e)
    have all : ∀ b, b < w7.heap.size → b ≠ w.heap.size → (w9.setCell ⟨w.heap.size, 39, none⟩ (.slice A9 S.keep.length c9)).heap[b]? = w7.heap[b]? := fun b h1 h2 => (hst b h2).trans ((HB9.out.block b (by omega)).trans (g8 b h1 h2))
    have hsz9 : w9.heap.size ≤ (w9.setCell ⟨w.heap.size, 39, none⟩ (.slice A9 S.keep.length c9)).heap.size := by simp [World.setCell]
    have hlh := HMH.out.lt
    refine ⟨⟨w.heap.size, m1, m2, mh, .slice A7 S.queue.length c7, .slice A9 S.keep.length c9⟩, rfl, DiskAt.of_cells hfin (HM17.out.keep (all m1 (by omega) (by omega))) (HM27.out.keep (all m2 (by omega) (by omega))) (HMH.out.keep (all mh hlh (by omega))) ?_ ?_ ?_, ?_, ?_⟩
    · exact (HV7.out.lower (Nat.zero_le _)).keep (by have := HB9.out.size; omega) fun b hb => all b (HV7.out.block b hb).2 (by have := (HV7.out.block b hb).1; omega)
    · exact (HV9.out.lower (Nat.zero_le _)).keep hsz9 fun b hb => hst b (by have := (HV9.out.block b hb).1; omega)
    · refine ⟨by simp only; omega, by simp only; omega, by simp only; omega, by simp only; omega, by simp only; omega, by simp only; omega, fun b hb => ?_, fun b hb => ?_, fun x hx hy => ?_⟩
      · have := (HV7.out.block b hb).1
        refine ⟨?_, ?_, ?_, fun e => HNE.out (by have e' : b = mh := e; rw [← e']; exact hb)⟩ <;> simp only <;> omega
      · have := (HV9.out.block b hb).1
        refine ⟨?_, ?_, ?_, ?_⟩ <;> simp only <;> omega
      · have := (HV7.out.block x hx).2
        have := (HV9.out.block x hy).1
        omega
    · rintro b (e | e | e | e | e | e)
      · simp only at e; omega
      · simp only at e; omega
      · simp only at e; omega
      · simp only at e; omega
      · have := (HV7.out.block b e).1; omega
      · have := (HV9.out.block b e).1; omega
    · have b9 : Below w.heap.size w w9 := HB8.out.trans (HB9.out.mono HB8.out.size)
      exact b9.trans (grown_below (grown_set w9 w.heap.size 39 _) (Nat.le_refl _) b9.size))
  rw [ek] at hc9
  clear hl9 hv9 hb9 ek hkv
  go_wp2_with fail
  go_ret
  obtain ⟨D', hp, h1, h2, h3⟩ := HP.out
  exact ⟨D', by rw [hp]; rfl, h1, h2, h3⟩
end Dsk
end Go.Proofs.Ytgaclibokapfaaa

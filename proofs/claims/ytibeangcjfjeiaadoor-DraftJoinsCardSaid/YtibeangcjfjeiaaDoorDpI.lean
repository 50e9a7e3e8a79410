/- What reads a line, by its word. -/
import Derived.Test.YtibeangcjfjeiaaDoorDpH
namespace Go.Proofs.YtibeangcjfjeiaaDoor
open Go.RowKit Txt Wire Lx
set_option linter.unusedVariables false
set_option maxRecDepth 100000
set_option linter.unusedSimpArgs false
namespace Drf

section
variable {P : Program} {w : World} {ops : Array Oper} {rest : List Oper} {o : Oper} {a : Act} {Q : Exit → Act → World → Prop}
theorem wpList_map_insert (hg : o.guard = none) (m x v : Operand) (T K E : TypeId) (hop : o.op = Op.insert T m x v) (hT : P.underlying T = some (.map K E)) (hK : P.underlying K = some .string) (M : Nat) (l : List (ByteArray × Value)) (s : ByteArray) (val : Value)
    (hM : MapAt w M l) (hm : a.eval m = .map (some M)) (hx : a.eval x = .string s) (hv : a.eval v = val) (hs : lookE s l = none)
    (h : ∀ w', MapAt w' M (l ++ [(s, val)]) → Chg (fun k => k = M) w w' → wpList P ops Q rest (a.put o.dst undef) w') : wpList P ops Q (o :: rest) a w := by
  refine wpList_plain hg fun K' hK' => ?_
  have hrun := hM.put (P := P) hT hK hs val
  unfold Oper.wp
  simp [execOp, hop, hm, hx, hv, hrun, Result.andThen]
  exact hK' _ _ (h _ (hM.now s val) (chg_setBlock (F := fun k => k = M) rfl _))
theorem wpList_map_put (hg : o.guard = none) (m x v : Operand) (T K E : TypeId) (hop : o.op = Op.mapUpdate T m x v) (hT : P.underlying T = some (.map K E)) (hK : P.underlying K = some .string) (M : Nat) (l : List (ByteArray × Value)) (s : ByteArray) (val : Value)
    (hM : MapAt w M l) (hm : a.eval m = .map (some M)) (hx : a.eval x = .string s) (hv : a.eval v = val) (hs : lookE s l = none)
    (h : ∀ w', MapAt w' M (l ++ [(s, val)]) → Chg (fun k => k = M) w w' → wpList P ops Q rest (a.put o.dst undef) w') : wpList P ops Q (o :: rest) a w := by
  refine wpList_plain hg fun K' hK' => ?_
  have hrun := hM.put (P := P) hT hK hs val
  unfold Oper.wp
  simp [execOp, hop, hm, hx, hv, hrun, Result.andThen]
  exact hK' _ _ (h _ (hM.now s val) (chg_setBlock (F := fun k => k = M) rfl _))
end

def wordS (k : Nat) : ByteArray := ⟨(wordOf k).toArray⟩
/-- The map's first i + 2 entries. -/
def entsL (b q : Nat) (ks : Nat → Nat) (i : Nat) : List (ByteArray × Value) :=
  [(⟨#[100, 101, 99, 107]⟩, .func (.func 65) #[ptr b] #[]), (⟨#[114, 111, 119]⟩, .func (.func 66) #[ptr b] #[])] ++ (List.range i).map fun k => (wordS k, .func (.func 67) #[] #[ptr q, ptr (ks k)])
/-- What lines has laid, behind W. -/
structure LinR (W w : World) (b M q : Nat) (ks : Nat → Nat) (i : Nat) : Prop where
  le : i ≤ 6
  below : Below W.heap.size W w
  map : MapAt w M (entsL b q ks i)
  new : W.heap.size ≤ M
  box : Blk w q 79 #[ptr b]
  boxn : W.heap.size ≤ q
  each : ∀ k, k < i → Blk w (ks k) 3 #[.int .i64 k] ∧ W.heap.size ≤ ks k
theorem blk_map {w : World} {M g : Nat} {l : List (ByteArray × Value)} {t : TypeId} {cs : Array Value} (h : MapAt w M l) (hb : Blk w g t cs) : g ≠ M := by
  rintro rfl
  unfold MapAt at h
  unfold Blk at hb
  rw [h] at hb
  cases hb
theorem entsL_succ (b q : Nat) (ks : Nat → Nat) (i g : Nat) : entsL b q (fun k => if k = i then g else ks k) (i + 1) = entsL b q ks i ++ [(wordS i, .func (.func 67) #[] #[ptr q, ptr g])] := by
  unfold entsL
  rw [List.range_succ, List.map_append, List.append_assoc]
  congr 1
  congr 1
  · apply List.map_congr_left
    intro k hk
    have := List.mem_range.1 hk
    simp only [if_neg (show ¬ k = i by omega)]
  · simp
/-- A round: the number of the kind, its form, and the map. -/
theorem LinR.next {W w w1 w' : World} {b M q i : Nat} {ks : Nat → Nat} (h : LinR W w b M q ks i) (hi : i < 6) (hb : Below w.heap.size w w1) (hk : Blk w1 w.heap.size 3 #[.int .i64 i])
    (hm : MapAt w' M (entsL b q ks i ++ [(wordS i, .func (.func 67) #[] #[ptr q, ptr w.heap.size])])) (hc : Chg (fun k => k = M) w1 w') : LinR W w' b M q (fun k => if k = i then w.heap.size else ks k) (i + 1) := by
  have hlt := h.map.lt
  have hM1 : MapAt w1 M (entsL b q ks i) := h.map.keep (hb.block M hlt)
  refine ⟨hi, ?_, ?_, h.new, hc.blk (h.box.under hb h.box.inside) (blk_map h.map h.box), h.boxn, fun k hk2 => ?_⟩
  · have h1 := next_below h.below hb
    exact h1.trans (hc.below (by have := h1.size; exact this) fun k e => by have := h.new; omega)
  · rw [entsL_succ]
    exact hm
  · by_cases e : k = i
    · subst e
      rw [if_pos rfl]
      exact ⟨hc.blk hk (by omega), h.below.size⟩
    · rw [if_neg e]
      obtain ⟨h1, h2⟩ := h.each k (by omega)
      exact ⟨hc.blk (h1.under hb h1.inside) (blk_map h.map h1), h2⟩
theorem word_new : ∀ (b q : Nat) (ks : Nat → Nat), lookE (wordS 0) (entsL b q ks 0) = none ∧ lookE (wordS 1) (entsL b q ks 1) = none ∧ lookE (wordS 2) (entsL b q ks 2) = none ∧ lookE (wordS 3) (entsL b q ks 3) = none ∧ lookE (wordS 4) (entsL b q ks 4) = none ∧ lookE (wordS 5) (entsL b q ks 5) = none := fun b q ks => ⟨rfl, rfl, rfl, rfl, rfl, rfl⟩

set_option maxHeartbeats 1000000 in
theorem lines_any (b : Nat) (w : World) (hf : VF w) : Calls Tryd.prog 46 #[ptr b] w fun e w' => ∃ M q ks, e = .returned (.map (some M)) ∧ LinR w w' b M q ks 6 := by
  have HF := Lib.hid hf
  have hlt := hf.lt
  have hmm := @run_makeMap Tryd.prog
  have hmf : ∀ fn first cap w, (Instr.makeFunc fn first cap).run Tryd.prog w = .ok (.func fn first cap) w := fun _ _ _ _ => rfl
  clear hf
  have hM0 : MapAt ((w.alloc (.cells #[ptr b] 79)).alloc (.map #[] 0)) (w.heap.size + 1) [] := by
    have := (MapKept.heap_alloc (w.alloc (.cells #[ptr b] 79)) (.map #[] 0)).1
    unfold MapAt
    simpa [entsF] using this
  have hq0 : Blk ((w.alloc (.cells #[ptr b] 79)).alloc (.map #[] 0)) w.heap.size 79 #[ptr b] := (Blk.fresh w _ _).kept _
  have hb0 : Below w.heap.size w ((w.alloc (.cells #[ptr b] 79)).alloc (.map #[] 0)) := ((Below.refl _ w).alloc (Nat.le_refl _) _).alloc (by simp) _
  have HM0 := Lib.hid hM0
  have HQ0 := Lib.hid hq0
  have HB0 := Lib.hid hb0
  clear hM0 hq0 hb0
  go_enter Tryd.func46, Tryd.ntmps46
  go_wp2_with (first
    | (refine wpList_map_insert rfl _ _ _ _ _ _ rfl Tryd.underlying82 Tryd.underlying9 (w.heap.size + 1) _ _ _ HM1.out rfl rfl rfl rfl ?_; intro w3 hM3 hc3
       have hq3 := hc3.blk HQ1.out (by omega)
       have hb3 : Below w.heap.size w w3 := HB1.out.trans (hc3.below (HB1.out.size) fun k e => by omega)
       have hf3 : VF w3 := HF.out.lift hb3
       have c0 : w3.cell? ⟨0, 0, none⟩ = some (.string ⟨#[122, 111, 110, 101]⟩) := (hf3 0 (by omega)).1
       have c1 : w3.cell? ⟨0, 1, none⟩ = some (.string ⟨#[110, 49, 49, 49, 49, 49, 49, 49]⟩) := (hf3 0 (by omega)).2
       have c2 : w3.cell? ⟨0, 2, none⟩ = some (.string ⟨#[115, 104, 105, 102, 116]⟩) := (hf3 1 (by omega)).1
       have c3 : w3.cell? ⟨0, 3, none⟩ = some (.string ⟨#[110, 49, 49]⟩) := (hf3 1 (by omega)).2
       have c4 : w3.cell? ⟨0, 4, none⟩ = some (.string ⟨#[111, 110, 101, 119, 97, 121]⟩) := (hf3 2 (by omega)).1
       have c5 : w3.cell? ⟨0, 5, none⟩ = some (.string ⟨#[49, 49, 49, 100]⟩) := (hf3 2 (by omega)).2
       have c6 : w3.cell? ⟨0, 6, none⟩ = some (.string ⟨#[97, 112, 97, 114, 116]⟩) := (hf3 3 (by omega)).1
       have c7 : w3.cell? ⟨0, 7, none⟩ = some (.string ⟨#[110, 111]⟩) := (hf3 3 (by omega)).2
       have c8 : w3.cell? ⟨0, 8, none⟩ = some (.string ⟨#[115, 104, 101, 108, 102]⟩) := (hf3 4 (by omega)).1
       have c9 : w3.cell? ⟨0, 9, none⟩ = some (.string ⟨#[49, 49, 49, 99]⟩) := (hf3 4 (by omega)).2
       have c10 : w3.cell? ⟨0, 10, none⟩ = some (.string ⟨#[114, 111, 98, 111, 116]⟩) := (hf3 5 (by omega)).1
       have c11 : w3.cell? ⟨0, 11, none⟩ = some (.string ⟨#[49, 49, 49, 49]⟩) := (hf3 5 (by omega)).2
       have hlt3 : 0 < w3.heap.size := Nat.lt_of_lt_of_le hlt hb3.size
       have HL : Hid (LinR w w3 b (w.heap.size + 1) w.heap.size (fun _ => 0) 0) := Lib.hid ⟨by omega, hb3, hM3, by omega, hq3, Nat.le_refl _, fun k hk => by omega⟩
       clear hM3 hc3 hq3 hb3 hf3)
    | (refine wpList_map_insert rfl _ _ _ _ _ _ rfl Tryd.underlying82 Tryd.underlying9 (w.heap.size + 1) _ _ _ HM0.out rfl rfl rfl rfl ?_; intro w2 hM2 hc2
       have HM1 := Lib.hid hM2
       have hq2 := hc2.blk HQ0.out (by omega)
       have HQ1 := Lib.hid hq2
       have k0 : w2.cell? ⟨w.heap.size, 0, none⟩ = some (ptr b) := hq2.at 0
       have HB1 : Hid (Below w.heap.size w w2) := Lib.hid (HB0.out.trans (hc2.below (HB0.out.size) fun k e => by omega))
       clear hM2 hc2 hq2))
  go_loopw [13] (fun iv wr => ∃ (i : Nat) (ks : Nat → Nat), iv = .int .i64 i ∧ LinR w wr b (w.heap.size + 1) w.heap.size ks i) (fun iv _ => 6 - (intOf iv).toNat)
  case atStart => exact ⟨0, _, rfl, HL.out⟩
  case round =>
    obtain ⟨i, ks, rfl, hL⟩ := hrel
    have hi := hL.le
    have HW := Lib.hid (word_new b w.heap.size ks)
    have k0 : wr.cell? ⟨w.heap.size, 0, none⟩ = some (ptr b) := hL.box.at 0
    have HM : Hid (∀ o1 o2, MapAt ((wr.alloc o1).alloc o2) (w.heap.size + 1) (entsL b w.heap.size ks i)) := Lib.hid fun o1 o2 => hL.map.keep ((((Below.refl _ wr).alloc (Nat.le_refl _) o1).alloc (by simp) o2).block _ hL.map.lt)
    have HL := Lib.hid hL
    have hqs := hL.box.inside
    clear hL
    obtain rfl | rfl | rfl | rfl | rfl | rfl | rfl : i = 0 ∨ i = 1 ∨ i = 2 ∨ i = 3 ∨ i = 4 ∨ i = 5 ∨ i = 6 := by omega
    · have hix : ∀ w, Sem.run Tryd.prog (Instr.index 90 (.agg #[.string ⟨#[122, 111, 110, 101]⟩, .string ⟨#[110, 49, 49, 49, 49, 49, 49, 49]⟩, .string ⟨#[115, 104, 105, 102, 116]⟩, .string ⟨#[110, 49, 49]⟩, .string ⟨#[111, 110, 101, 119, 97, 121]⟩, .string ⟨#[49, 49, 49, 100]⟩, .string ⟨#[97, 112, 97, 114, 116]⟩, .string ⟨#[110, 111]⟩, .string ⟨#[115, 104, 101, 108, 102]⟩, .string ⟨#[49, 49, 49, 99]⟩, .string ⟨#[114, 111, 98, 111, 116]⟩, .string ⟨#[49, 49, 49, 49]⟩]) (.int .i64 0)) w = .ok (.agg #[.string ⟨#[122, 111, 110, 101]⟩, .string ⟨#[110, 49, 49, 49, 49, 49, 49, 49]⟩]) w := fun w => (by kernel_rfl)
      go_wp2_with (at_mapUpdate; go_must (
        refine wpList_map_put rfl _ _ _ _ _ _ rfl Tryd.underlying82 Tryd.underlying9 (w.heap.size + 1) _ _ _ (HM.out _ _) rfl rfl rfl (HW.out.1) ?_; intro w2 hM2 hc2
        have H2 := Lib.hid (HL.out.next (by omega) (((Below.refl _ wr).alloc (Nat.le_refl _) _).alloc (by simp) _) ((Blk.fresh wr _ _).kept _) hM2 hc2)
        clear hM2 hc2))
      go_roundw
      case rel => exact ⟨1, _, rfl, H2.out⟩
      case measure => simp [intOf]
    · have hix : ∀ w, Sem.run Tryd.prog (Instr.index 90 (.agg #[.string ⟨#[122, 111, 110, 101]⟩, .string ⟨#[110, 49, 49, 49, 49, 49, 49, 49]⟩, .string ⟨#[115, 104, 105, 102, 116]⟩, .string ⟨#[110, 49, 49]⟩, .string ⟨#[111, 110, 101, 119, 97, 121]⟩, .string ⟨#[49, 49, 49, 100]⟩, .string ⟨#[97, 112, 97, 114, 116]⟩, .string ⟨#[110, 111]⟩, .string ⟨#[115, 104, 101, 108, 102]⟩, .string ⟨#[49, 49, 49, 99]⟩, .string ⟨#[114, 111, 98, 111, 116]⟩, .string ⟨#[49, 49, 49, 49]⟩]) (.int .i64 1)) w = .ok (.agg #[.string ⟨#[115, 104, 105, 102, 116]⟩, .string ⟨#[110, 49, 49]⟩]) w := fun w => (by kernel_rfl)
      go_wp2_with (at_mapUpdate; go_must (
        refine wpList_map_put rfl _ _ _ _ _ _ rfl Tryd.underlying82 Tryd.underlying9 (w.heap.size + 1) _ _ _ (HM.out _ _) rfl rfl rfl (HW.out.2.1) ?_; intro w2 hM2 hc2
        have H2 := Lib.hid (HL.out.next (by omega) (((Below.refl _ wr).alloc (Nat.le_refl _) _).alloc (by simp) _) ((Blk.fresh wr _ _).kept _) hM2 hc2)
        clear hM2 hc2))
      go_roundw
      case rel => exact ⟨2, _, rfl, H2.out⟩
      case measure => simp [intOf]
    · have hix : ∀ w, Sem.run Tryd.prog (Instr.index 90 (.agg #[.string ⟨#[122, 111, 110, 101]⟩, .string ⟨#[110, 49, 49, 49, 49, 49, 49, 49]⟩, .string ⟨#[115, 104, 105, 102, 116]⟩, .string ⟨#[110, 49, 49]⟩, .string ⟨#[111, 110, 101, 119, 97, 121]⟩, .string ⟨#[49, 49, 49, 100]⟩, .string ⟨#[97, 112, 97, 114, 116]⟩, .string ⟨#[110, 111]⟩, .string ⟨#[115, 104, 101, 108, 102]⟩, .string ⟨#[49, 49, 49, 99]⟩, .string ⟨#[114, 111, 98, 111, 116]⟩, .string ⟨#[49, 49, 49, 49]⟩]) (.int .i64 2)) w = .ok (.agg #[.string ⟨#[111, 110, 101, 119, 97, 121]⟩, .string ⟨#[49, 49, 49, 100]⟩]) w := fun w => (by kernel_rfl)
      go_wp2_with (at_mapUpdate; go_must (
        refine wpList_map_put rfl _ _ _ _ _ _ rfl Tryd.underlying82 Tryd.underlying9 (w.heap.size + 1) _ _ _ (HM.out _ _) rfl rfl rfl (HW.out.2.2.1) ?_; intro w2 hM2 hc2
        have H2 := Lib.hid (HL.out.next (by omega) (((Below.refl _ wr).alloc (Nat.le_refl _) _).alloc (by simp) _) ((Blk.fresh wr _ _).kept _) hM2 hc2)
        clear hM2 hc2))
      go_roundw
      case rel => exact ⟨3, _, rfl, H2.out⟩
      case measure => simp [intOf]
    · have hix : ∀ w, Sem.run Tryd.prog (Instr.index 90 (.agg #[.string ⟨#[122, 111, 110, 101]⟩, .string ⟨#[110, 49, 49, 49, 49, 49, 49, 49]⟩, .string ⟨#[115, 104, 105, 102, 116]⟩, .string ⟨#[110, 49, 49]⟩, .string ⟨#[111, 110, 101, 119, 97, 121]⟩, .string ⟨#[49, 49, 49, 100]⟩, .string ⟨#[97, 112, 97, 114, 116]⟩, .string ⟨#[110, 111]⟩, .string ⟨#[115, 104, 101, 108, 102]⟩, .string ⟨#[49, 49, 49, 99]⟩, .string ⟨#[114, 111, 98, 111, 116]⟩, .string ⟨#[49, 49, 49, 49]⟩]) (.int .i64 3)) w = .ok (.agg #[.string ⟨#[97, 112, 97, 114, 116]⟩, .string ⟨#[110, 111]⟩]) w := fun w => (by kernel_rfl)
      go_wp2_with (at_mapUpdate; go_must (
        refine wpList_map_put rfl _ _ _ _ _ _ rfl Tryd.underlying82 Tryd.underlying9 (w.heap.size + 1) _ _ _ (HM.out _ _) rfl rfl rfl (HW.out.2.2.2.1) ?_; intro w2 hM2 hc2
        have H2 := Lib.hid (HL.out.next (by omega) (((Below.refl _ wr).alloc (Nat.le_refl _) _).alloc (by simp) _) ((Blk.fresh wr _ _).kept _) hM2 hc2)
        clear hM2 hc2))
      go_roundw
      case rel => exact ⟨4, _, rfl, H2.out⟩
      case measure => simp [intOf]
    · have hix : ∀ w, Sem.run Tryd.prog (Instr.index 90 (.agg #[.string ⟨#[122, 111, 110, 101]⟩, .string ⟨#[110, 49, 49, 49, 49, 49, 49, 49]⟩, .string ⟨#[115, 104, 105, 102, 116]⟩, .string ⟨#[110, 49, 49]⟩, .string ⟨#[111, 110, 101, 119, 97, 121]⟩, .string ⟨#[49, 49, 49, 100]⟩, .string ⟨#[97, 112, 97, 114, 116]⟩, .string ⟨#[110, 111]⟩, .string ⟨#[115, 104, 101, 108, 102]⟩, .string ⟨#[49, 49, 49, 99]⟩, .string ⟨#[114, 111, 98, 111, 116]⟩, .string ⟨#[49, 49, 49, 49]⟩]) (.int .i64 4)) w = .ok (.agg #[.string ⟨#[115, 104, 101, 108, 102]⟩, .string ⟨#[49, 49, 49, 99]⟩]) w := fun w => (by kernel_rfl)
      go_wp2_with (at_mapUpdate; go_must (
        refine wpList_map_put rfl _ _ _ _ _ _ rfl Tryd.underlying82 Tryd.underlying9 (w.heap.size + 1) _ _ _ (HM.out _ _) rfl rfl rfl (HW.out.2.2.2.2.1) ?_; intro w2 hM2 hc2
        have H2 := Lib.hid (HL.out.next (by omega) (((Below.refl _ wr).alloc (Nat.le_refl _) _).alloc (by simp) _) ((Blk.fresh wr _ _).kept _) hM2 hc2)
        clear hM2 hc2))
      go_roundw
      case rel => exact ⟨5, _, rfl, H2.out⟩
      case measure => simp [intOf]
    · have hix : ∀ w, Sem.run Tryd.prog (Instr.index 90 (.agg #[.string ⟨#[122, 111, 110, 101]⟩, .string ⟨#[110, 49, 49, 49, 49, 49, 49, 49]⟩, .string ⟨#[115, 104, 105, 102, 116]⟩, .string ⟨#[110, 49, 49]⟩, .string ⟨#[111, 110, 101, 119, 97, 121]⟩, .string ⟨#[49, 49, 49, 100]⟩, .string ⟨#[97, 112, 97, 114, 116]⟩, .string ⟨#[110, 111]⟩, .string ⟨#[115, 104, 101, 108, 102]⟩, .string ⟨#[49, 49, 49, 99]⟩, .string ⟨#[114, 111, 98, 111, 116]⟩, .string ⟨#[49, 49, 49, 49]⟩]) (.int .i64 5)) w = .ok (.agg #[.string ⟨#[114, 111, 98, 111, 116]⟩, .string ⟨#[49, 49, 49, 49]⟩]) w := fun w => (by kernel_rfl)
      go_wp2_with (at_mapUpdate; go_must (
        refine wpList_map_put rfl _ _ _ _ _ _ rfl Tryd.underlying82 Tryd.underlying9 (w.heap.size + 1) _ _ _ (HM.out _ _) rfl rfl rfl (HW.out.2.2.2.2.2) ?_; intro w2 hM2 hc2
        have H2 := Lib.hid (HL.out.next (by omega) (((Below.refl _ wr).alloc (Nat.le_refl _) _).alloc (by simp) _) ((Blk.fresh wr _ _).kept _) hM2 hc2)
        clear hM2 hc2))
      go_roundw
      case rel => exact ⟨6, _, rfl, H2.out⟩
      case measure => simp [intOf]
    · go_wp2_with fail
      go_ret
      exact ⟨_, _, _, rfl, HL.out⟩
end Drf
end Go.Proofs.YtibeangcjfjeiaaDoor

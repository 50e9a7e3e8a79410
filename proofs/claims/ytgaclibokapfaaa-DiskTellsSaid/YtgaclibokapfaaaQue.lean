/- The queue of pending sectors. -/
import Derived.Test.YtgaclibokapfaaaRed
namespace Go.Proofs.Ytgaclibokapfaaa
open Go.RowKit Wire
set_option linter.unusedVariables false
set_option linter.unusedSimpArgs false
open Txt
namespace Dsk

/-- What the map of a queue says. -/
def hasL (l : List (Nat × Nat)) (f n : Nat) : Option Value := if (f, n) ∈ l then some (.bool true) else none
theorem hasL_in {l : List (Nat × Nat)} {f n : Nat} (h : (f, n) ∈ l) : hasL l f n = some (.bool true) := by unfold hasL; rw [if_pos h]
theorem hasL_out {l : List (Nat × Nat)} {f n : Nat} (h : ¬ (f, n) ∈ l) : hasL l f n = none := by unfold hasL; rw [if_neg h]

/-- A queue lies at offset o of block g. -/
structure QueAt (w : World) (g o mh : Nat) (v : Value) (l : List (Nat × Nat)) : Prop where
  ptr : w.cell? ⟨g, o, none⟩ = some v
  has : w.cell? ⟨g, o + 1, none⟩ = some (.map (some mh))
  there : w.there g o 2
  row : Grow w 0 2 v l.length (l.flatMap secL)
  map : IsMap w mh (hasL l)

section
variable {w w' : World} {g o mh : Nat} {v : Value} {l : List (Nat × Nat)}
theorem QueAt.lt (h : QueAt w g o mh v l) : g < w.heap.size := World.block_lt_of_cell? w _ h.ptr
theorem QueAt.keep (h : QueAt w g o mh v l) (hs : w.heap.size ≤ w'.heap.size) (e : w'.heap[g]? = w.heap[g]?) (k : w'.heap[mh]? = w.heap[mh]?) (r : ∀ b, v.ownBlock = some b → w'.heap[b]? = w.heap[b]?) : QueAt w' g o mh v l :=
  ⟨(World.cell?_of_block (a := ⟨g, o, none⟩) e).trans h.ptr, (World.cell?_of_block (a := ⟨g, o + 1, none⟩) e).trans h.has, there_keep h.there e, h.row.keep hs r, h.map.keep k⟩
theorem QueAt.below (h : QueAt w g o mh v l) (b : Below w.heap.size w w') : QueAt w' g o mh v l :=
  h.keep b.size (b.block g h.lt) (b.block mh h.map.lt) fun c hc => b.block c (h.row.block c hc).2
end


/-- An append as an operation. -/
theorem wp_append_src {P : Program} {w : World} {o : Oper} {a : Act} {K : Act → World → Prop} {Q : Exit → Act → World → Prop} (s xo : Operand) (t tx : TypeId)
    (ho : o.op = .call { callee := .builtin .append, args := #[s, xo], argTypes := #[t, tx] })
    (B : Nat) (e : TypeId) (i : TypeInfo) (z : Value) (size bytes : Nat) (ht : P.underlying t = some (.slice e)) (hi : P.info? e = some i) (hz : i.zero = some z)
    (hsize : i.size = size) (hby : i.bytes = bytes) (hzs : z.cells.size = size) (hsz : 0 < size)
    (v : Value) (n : Nat) (xs : List Value) (hsv : a.eval s = v) (hown : Grow w B size v n xs) (x : Value) (m : Nat) (news : List Value) (hxv : a.eval xo = x) (hs : Src P size tx x m news w)
    (h63 : n + m ≤ maxLen) (hbytes : (n + m) * bytes ≤ 140737488355328) (hB : B ≤ w.heap.size)
    (h : ∀ v' w', Grow w' B size v' (n + m) (xs ++ news) → w.grownBy w' v.ownBlock → (v'.ownBlock = v.ownBlock ∨ v'.ownBlock = some w.heap.size) → K (a.put o.dst v') w') : Oper.wp P o a w K Q := by
  obtain ⟨v', w', hr, h2, h3, h4⟩ := run_append_src (P := P) w B t tx o.type e i z size bytes ht hi hz hsize hby hzs hsz v n xs hown x m news hs h63 hbytes hB
  unfold Oper.wp execOp
  simp only [ho, resolve, invoke, builtin, Sem.run_bind, Sem.run_pure, Result.andThen_ok, List.map_toArray, List.map_cons, List.map_nil, hsv, hxv, hr]
  exact h v' w' h2 h3 h4

/-- What a call leaves of a queue. -/
structure QuePost (g o mh : Nat) (v : Value) (l : List (Nat × Nat)) (w w' : World) : Prop where
  que : ∃ v', QueAt w' g o mh v' l ∧ (v'.ownBlock = v.ownBlock ∨ ∀ b, v'.ownBlock = some b → w.heap.size ≤ b)
  keep : Keeps w w' g o 2
  only : Only (fun b => b = g ∨ b = mh ∨ v.ownBlock = some b) w w'

theorem hasL_snoc {l : List (Nat × Nat)} {f n : Nat} : upd (hasL l) f n (.bool true) = hasL (l ++ [(f, n)]) := by
  funext g k
  unfold upd hasL
  by_cases e : g = f ∧ k = n
  · rw [if_pos e, if_pos]
    simp [e.1, e.2]
  · rw [if_neg e]
    have e2 : ¬ (g, k) = (f, n) := fun h => e ⟨congrArg Prod.fst h, congrArg Prod.snd h⟩
    simp [e2]
abbrev Lka (A g o f n : Nat) (v : Value) (w' : World) : Prop := w'.cell? ⟨g, o, none⟩ = some v ∧ w'.cell? ⟨A, 0, none⟩ = some (.int .i64 f) ∧ w'.cell? ⟨A, 1, none⟩ = some (.int .i64 n)
abbrev Lkm (A g o mh f n : Nat) (w' : World) : Prop := w'.cell? ⟨g, o + 1, none⟩ = some (.map (some mh)) ∧ w'.cell? ⟨A, 0, none⟩ = some (.int .i64 f) ∧ w'.cell? ⟨A, 1, none⟩ = some (.int .i64 n)
abbrev Lkq (A g o mh f n : Nat) (b : Bool) (w' : World) : Prop := w'.cell? ⟨g, o + 1, none⟩ = some (.map (some mh)) ∧ w'.cell? ⟨A, 0, none⟩ = some (.int .i64 f) ∧ w'.cell? ⟨A, 1, none⟩ = some (.int .i64 n) ∧
  (Instr.lookup 58 (.map (some mh)) (.agg #[.int .i64 f, .int .i64 n]) false).run Try.prog w' = .ok (.bool b) w'

set_option maxRecDepth 8000 in
set_option maxHeartbeats 1000000 in
theorem add_any (g o mh f n : Nat) (v : Value) (l : List (Nat × Nat)) (w : World) (h : QueAt w g o mh v l) (hf : f < 16) (hn : n ≤ 262144) (hl : l.length ≤ 1000000000) (h1 : g ≠ mh) (h2 : v.ownBlock ≠ some g) (h3 : v.ownBlock ≠ some mh) :
    Calls Try.prog 65 #[.pointer (some ⟨g, o, none⟩), .agg #[.int .i64 f, .int .i64 n]] w fun e w' => e = .returned (.tuple #[]) ∧ QuePost g o mh v (addL l (f, n)) w w' := by
  have hb0 := ((Below.refl _ w).alloc (Nat.le_refl _) (.cells #[.int .i64 f, .int .i64 n] 76)).drew
  have hq0 := h.below hb0
  have hx0 : Blk (w.alloc (.cells #[.int .i64 f, .int .i64 n] 76)).drew w.heap.size 76 #[.int .i64 f, .int .i64 n] := Blk.fresh w _ _
  have hlt := h.lt
  have hml := h.map.lt
  have HV := Lib.hid (fun b e => (h.row.block b e).2 : ∀ b, v.ownBlock = some b → b < w.heap.size)
  by_cases hin : (f, n) ∈ l
  · have hlk := hq0.map.lookup hf hn Try.underlying58 zero_bool
    rw [hasL_in hin] at hlk
    have HL : Hid (Lkq w.heap.size g o mh f n true (w.alloc (.cells #[.int .i64 f, .int .i64 n] 76)).drew) := Lib.hid ⟨hq0.has, by rw [hx0.at]; rfl, by rw [hx0.at]; rfl, hlk⟩
    have HP : Hid (QuePost g o mh v (addL l (f, n)) w (w.alloc (.cells #[.int .i64 f, .int .i64 n] 76)).drew) := Lib.hid (by
      unfold addL
      rw [if_pos hin]
      exact ⟨⟨v, hq0, .inl rfl⟩, Keeps.block (hb0.block g hlt), Only.of_below hb0⟩)
    clear hlk hq0 hx0 hb0 hin h
    go_enter Try.func65, Try.ntmps65
    go_wp2_with fail
    refine wp_region_sorted (Lkq w.heap.size g o mh f n true) [0, 1, 2, 3, 4, 5, 6] [] (by kernel_rfl) (by kernel_rfl) HL.out ?_
    repeat refine RD.next rfl rfl (by intro w' hS; simp only [Lkq] at hS; go_simp; with_reducible rfl) ?_
    refine RD.done ?_
    refine CH.done (NoPanic.normal ?_)
    try go_frame
    generalize (w.alloc (.cells #[.int .i64 f, .int .i64 n] 76)).drew = w1 at *
    go_wp2_with fail
    go_returns
    exact ⟨rfl, HP.out⟩
  · have hlk := hq0.map.lookup hf hn Try.underlying58 zero_bool
    rw [hasL_out hin] at hlk
    have HL : Hid (Lkq w.heap.size g o mh f n false (w.alloc (.cells #[.int .i64 f, .int .i64 n] 76)).drew) := Lib.hid ⟨hq0.has, by rw [hx0.at]; rfl, by rw [hx0.at]; rfl, hlk⟩
    have hap : addL l (f, n) = l ++ [(f, n)] := by unfold addL; rw [if_neg hin]
    rw [hap]
    have HQ0 := Lib.hid hq0
    have HX0 := Lib.hid hx0
    have HB0 := Lib.hid hb0
    clear hlk hq0 hx0 hb0 hin h hap
    go_enter Try.func65, Try.ntmps65
    go_wp2_with fail
    refine wp_region_sorted (Lkq w.heap.size g o mh f n false) [0, 1, 2, 3, 4, 5, 6] [] (by kernel_rfl) (by kernel_rfl) HL.out ?_
    repeat refine RD.next rfl rfl (by intro w' hS; simp only [Lkq] at hS; go_simp; with_reducible rfl) ?_
    refine RD.done ?_
    refine CH.done (NoPanic.normal ?_)
    try go_frame
    generalize (w.alloc (.cells #[.int .i64 f, .int .i64 n] 76)).drew = w1 at *
    obtain ⟨w2, hup, hm2, hg2⟩ := (HQ0.out.map.keep (w' := w1.drew) rfl).store hf hn Try.underlying58 (.bool true)
    rw [hasL_snoc] at hm2
    unfold keyV at hup
    have HUP := Lib.hid hup
    have HL2 : Hid (Lkm w.heap.size g o mh f n w1.drew) := Lib.hid ⟨HL.out.1, HL.out.2.1, HL.out.2.2.1⟩
    clear hup
    go_wp2_with fail
    refine wp_region_late (Lkm w.heap.size g o mh f n) [0, 1, 2, 3, 4] [] [5] (by kernel_rfl) (by kernel_rfl) (by kernel_rfl) HL2.out ?_
    repeat refine RD.next rfl rfl (by intro w' hS; simp only [Lkm] at hS; go_simp; with_reducible rfl) ?_
    refine RD.done ?_
    refine CHW.done ?_
    refine CH.next rfl rfl fun K hK => ?_
    have hup := HUP.out
    go_simp
    clear hup
    refine hK _ _ trivial ?_
    clear hK
    refine CH.done (NoPanic.normal ?_)
    try go_frame
    have hs1 := HB0.out.size
    have hbx := HX0.out.inside
    have hg2' : w1.grownBy w2 (some mh) := ⟨hg2.os, hg2.tape, hg2.output, hg2.size, hg2.block⟩
    have eg : w2.heap[g]? = w1.heap[g]? := hg2'.block g (by omega) (by intro e; injection e with e; exact h1 e)
    have ex : w2.heap[w.heap.size]? = w1.heap[w.heap.size]? := hg2'.block _ hbx (by intro e; injection e with e; omega)
    have hrow2 : Grow w2 0 2 v l.length (l.flatMap secL) := HQ0.out.row.grown hg2' (.inr h3)
    have hx2 : Blk w2 w.heap.size 76 #[.int .i64 f, .int .i64 n] := ex.trans HX0.out
    have hp2 : w2.cell? ⟨g, o, none⟩ = some v := (World.cell?_of_block (a := ⟨g, o, none⟩) eg).trans HQ0.out.ptr
    have HL3 : Hid (Lka w.heap.size g o f n v w2.drew) := Lib.hid ⟨hp2, by rw [World.cell?_drew, hx2.at]; rfl, by rw [World.cell?_drew, hx2.at]; rfl⟩
    have HROW := Lib.hid hrow2
    have HX2 := Lib.hid hx2
    have HEG := Lib.hid eg
    have HG2 := Lib.hid hg2'
    have hs2 := hg2'.size
    have HM2 := Lib.hid hm2
    clear hp2 hx2 hrow2 eg ex hg2 hg2' hm2
    go_wp2_with fail
    refine wp_region_late (Lka w.heap.size g o f n v) [0, 1, 2, 3, 4, 5] [6, 7, 8, 9] [10] (by kernel_rfl) (by kernel_rfl) (by kernel_rfl) HL3.out ?_
    repeat refine RD.next rfl rfl (by intro w' hS; simp only [Lka] at hS; go_simp; with_reducible rfl) ?_
    refine RD.done ?_
    refine CHW.next rfl rfl fun K hK => ?_
    go_simp
    have ba : Below w2.heap.size w2 (w2.alloc (.cells #[.int .i64 f, .int .i64 n] 76)).drew := ((Below.refl _ w2).alloc (Nat.le_refl _) _).drew
    have hnew : ∀ j u, (secL (f, n))[j]? = some u → (w2.alloc (.cells #[.int .i64 f, .int .i64 n] 76)).drew.cell? ((⟨w2.heap.size, 0, none⟩ : Addr).add j) = some u := new_cells w2 _ (secL (f, n))
    have hga : Grow (w2.alloc (.cells #[.int .i64 f, .int .i64 n] 76)).drew 0 2 v l.length (l.flatMap secL) := HROW.out.below ba
    have hza : w2.heap.size < (w2.alloc (.cells #[.int .i64 f, .int .i64 n] 76)).drew.heap.size := by simp
    generalize (w2.alloc (.cells #[.int .i64 f, .int .i64 n] 76)).drew = w3 at *
    have kp : ∀ w', Below w2.heap.size w2 w' → Lka w.heap.size g o f n v w' := fun w' b => ⟨(b.cell (p := ⟨g, o, none⟩) (by show g < _; omega)).trans HL3.out.1, (b.cell (p := ⟨w.heap.size, 0, none⟩) (by show w.heap.size < _; omega)).trans HL3.out.2.1, (b.cell (p := ⟨w.heap.size, 1, none⟩) (by show w.heap.size < _; omega)).trans HL3.out.2.2⟩
    refine hK _ _ (kp _ ba) ?_
    clear hK
    refine CHW.next rfl rfl fun K hK => ?_
    have hsrc := Src.ofSlice (P := Try.prog) (size := 2) w3 Try.underlying57 ⟨w2.heap.size, 0, none⟩ 1 1 (secL (f, n)) rfl hnew (fun u hu => one_secs [(f, n)] u (by simpa using hu))
    obtain ⟨i0, hi, hz0, hz1, hz2⟩ := info_parts info_sector
    refine wp_append_src _ _ _ _ rfl 0 76 i0 _ 2 16 Try.underlying57 hi hz0 hz1 hz2 rfl (by omega) v l.length _ rfl hga _ 1 (secL (f, n)) rfl hsrc (small_max (by omega)) (by omega) (Nat.zero_le _) ?_
    intro v4 w4 hown4 hg4 hv4
    have e4 : ∀ b, b < w2.heap.size → v.ownBlock ≠ some b → w4.heap[b]? = w2.heap[b]? := fun b hb hne => (hg4.block b (by omega) (fun e => hne e.symm)).trans (ba.block b hb)
    have eA : v.ownBlock ≠ some w.heap.size := fun e => Nat.lt_irrefl _ (HV.out _ e)
    obtain ⟨A4, c4, rfl⟩ := hown4.slice
    have HLA : Hid (Lka w.heap.size g o f n v w4) := Lib.hid ⟨(World.cell?_of_block (a := ⟨g, o, none⟩) (e4 g (by omega) h2)).trans HL3.out.1, (World.cell?_of_block (a := ⟨w.heap.size, 0, none⟩) (e4 w.heap.size (by omega) eA)).trans HL3.out.2.1, (World.cell?_of_block (a := ⟨w.heap.size, 1, none⟩) (e4 w.heap.size (by omega) eA)).trans HL3.out.2.2⟩
    refine hK _ _ HLA.out ?_
    clear hK
    iterate 2
      refine CHW.next rfl rfl fun K hK => ?_
      go_simp
      refine hK _ _ HLA.out ?_
      clear hK
    refine CHW.done ?_
    refine CH.next rfl rfl fun K hK => ?_
    have eg4 : w4.heap[g]? = w2.heap[g]? := e4 g (by omega) h2
    have hth := there_keep HQ0.out.there HEG.out
    have hth4 := there_keep hth eg4
    have hfz : w4.frozen? ⟨g, o, none⟩ = false := (hth4 0 (by omega)).2
    have hcc := HLA.out.1
    go_simp
    have HF : Hid (QuePost g o mh v (l ++ [(f, n)]) w (w4.setCell ⟨g, o, none⟩ (.slice A4 (l.length + 1) c4))) := Lib.hid (by
      have hne : Value.ownBlock (.slice A4 (l.length + 1) c4) ≠ some g := fun e => by
        rcases hv4 with h | h
        · exact h2 (h.symm.trans e)
        · rw [h] at e
          injection e with e
          omega
      have em4 : w4.heap[mh]? = w2.heap[mh]? := e4 mh HM2.out.lt h3
      have o1 : Only (fun b => b = g ∨ b = mh ∨ v.ownBlock = some b) w w1 := Only.of_below HB0.out
      have o2 : Only (fun b => b = g ∨ b = mh ∨ v.ownBlock = some b) w1 w2 := Only.of_grown HG2.out (.inl (.inr (.inl rfl)))
      have o3 : Only (fun b => b = g ∨ b = mh ∨ v.ownBlock = some b) w2 w3 := Only.of_below ba
      have o4 : Only (fun b => b = g ∨ b = mh ∨ v.ownBlock = some b) w3 w4 := Only.of_grown' hg4 fun x hx => .inl (.inr (.inr hx))
      have o5 : Only (fun b => b = g ∨ b = mh ∨ v.ownBlock = some b) w4 (w4.setCell ⟨g, o, none⟩ (.slice A4 (l.length + 1) c4)) := Only.set _ _ _ _ (.inl rfl)
      refine ⟨⟨.slice A4 (l.length + 1) c4, ⟨?_, ?_, there_put hth4 _ _, ?_, ?_⟩, ?_⟩, ?_, (((o1.same o2).same o3).same o4).same o5⟩
      · exact World.cell?_setCell_same' _ _ _ (by rw [hcc]; rfl)
      · rw [World.cell?_setCell_other _ _ _ _ (by intro e; simp at e)]
        exact (World.cell?_of_block (a := ⟨g, o + 1, none⟩) eg4).trans ((World.cell?_of_block (a := ⟨g, o + 1, none⟩) HEG.out).trans HQ0.out.has)
      · rw [List.length_append, List.flatMap_append]
        have e1 : [(f, n)].flatMap secL = secL (f, n) := by simp
        rw [e1]
        exact hown4.keep (by simp [World.setCell]) fun b hb => Below.heap_setCell _ _ _ _ fun e => hne (hb.trans (congrArg some e))
      · exact HM2.out.keep ((Below.heap_setCell _ _ _ _ fun e => h1 e.symm).trans em4)
      · rcases hv4 with h | h
        · exact .inl h
        · refine .inr fun b hb => ?_
          rw [h] at hb
          injection hb with hb
          omega
      · exact (((Keeps.block (HB0.out.block g hlt)).trans (Keeps.block HEG.out)).trans (Keeps.block eg4)).trans (Keeps.put _ (Nat.le_refl _) (by omega)))
    generalize w4.setCell ⟨g, o, none⟩ (.slice A4 (l.length + 1) c4) = w5 at *
    refine hK _ _ trivial ?_
    clear hK
    refine CH.done (NoPanic.normal ?_)
    try go_frame
    clear hg4 hv4 hown4 hcc hfz hth4 hth e4 eg4
    go_wp2_with fail
    go_returns
    exact ⟨rfl, HF.out⟩
end Dsk
end Go.Proofs.Ytgaclibokapfaaa

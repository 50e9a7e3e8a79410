/- How a cell lies in memory; otherSlot, offset, settle. -/
import Derived.Test.YtlokgmpdighfaaaDoorPlC
import Derived.Test.YtlokgmpdighfaaaDoorDskD
namespace Go.Proofs.YtlokgmpdighfaaaDoor
open Go.RowKit Wire
set_option linter.unusedVariables false
set_option linter.unusedSimpArgs false
open Txt
namespace Dsk

/-- The five cells of a cell in block q; its disk is at p. -/
structure CellAt (w : World) (q p : Nat) (c : Cl) : Prop where
  k0 : w.cell? ⟨q, 0, none⟩ = some (ptr p)
  k1 : w.cell? ⟨q, 1, none⟩ = some (.int .i64 c.file)
  k2 : w.cell? ⟨q, 2, none⟩ = some (.int .i64 c.slot)
  k3 : w.cell? ⟨q, 3, none⟩ = some (str c.value)
  k4 : w.cell? ⟨q, 4, none⟩ = some (.bool c.sure)
  there : w.there q 0 5
/-- The offsets of the slots. -/
structure Off (w : World) : Prop where
  o0 : w.cell? ⟨0, 0, none⟩ = some (.int .i64 64)
  o1 : w.cell? ⟨0, 1, none⟩ = some (.int .i64 131072)

section
variable {w w' w0 : World} {q p : Nat} {c c' : Cl} {D : Own} {S S' : St}
theorem CellAt.lt (h : CellAt w q p c) : q < w.heap.size := World.block_lt_of_cell? w _ h.k0
theorem CellAt.free (h : CellAt w q p c) {j : Nat} (hj : j < 5) : w.frozen? ⟨q, j, none⟩ = false := by have := (h.there j hj).2; rwa [Nat.zero_add] at this
theorem CellAt.isSome (h : CellAt w q p c) {j : Nat} (hj : j < 5) : (w.cell? ⟨q, j, none⟩).isSome = true := by have := (h.there j hj).1; rwa [Nat.zero_add] at this
theorem CellAt.still (h : CellAt w q p c) (e : w'.heap[q]? = w.heap[q]?) : CellAt w' q p c :=
  ⟨(World.cell?_of_block (a := ⟨q, 0, none⟩) e).trans h.k0, (World.cell?_of_block (a := ⟨q, 1, none⟩) e).trans h.k1, (World.cell?_of_block (a := ⟨q, 2, none⟩) e).trans h.k2,
    (World.cell?_of_block (a := ⟨q, 3, none⟩) e).trans h.k3, (World.cell?_of_block (a := ⟨q, 4, none⟩) e).trans h.k4, there_keep h.there e⟩
theorem CellAt.below (h : CellAt w q p c) (b : Below w.heap.size w w') : CellAt w' q p c := h.still (b.block q h.lt)
theorem CellAt.only {F : Nat → Prop} (h : CellAt w q p c) (o : Only F w w') (hF : ¬ F q) : CellAt w' q p c := h.still (o.block q h.lt hF)
theorem CellAt.drew (h : CellAt w q p c) : CellAt w.drew q p c := h.still rfl
theorem CellAt.set_sure (h : CellAt w q p c) (b : Bool) : CellAt (w.setCell ⟨q, 4, none⟩ (.bool b)) q p { c with sure := b } :=
  ⟨by rw [set_cell_other (by omega)]; exact h.k0, by rw [set_cell_other (by omega)]; exact h.k1, by rw [set_cell_other (by omega)]; exact h.k2, by rw [set_cell_other (by omega)]; exact h.k3, set_cell_same (h.isSome (by omega)), there_put h.there _ _⟩
theorem CellAt.set_value (h : CellAt w q p c) (l : List UInt8) : CellAt (w.setCell ⟨q, 3, none⟩ (str l)) q p { c with value := l } :=
  ⟨by rw [set_cell_other (by omega)]; exact h.k0, by rw [set_cell_other (by omega)]; exact h.k1, by rw [set_cell_other (by omega)]; exact h.k2, set_cell_same (h.isSome (by omega)), by rw [set_cell_other (by omega)]; exact h.k4, there_put h.there _ _⟩
theorem CellAt.set_slot (h : CellAt w q p c) (k : Nat) : CellAt (w.setCell ⟨q, 2, none⟩ (.int .i64 k)) q p { c with slot := k } :=
  ⟨by rw [set_cell_other (by omega)]; exact h.k0, by rw [set_cell_other (by omega)]; exact h.k1, set_cell_same (h.isSome (by omega)), by rw [set_cell_other (by omega)]; exact h.k3, by rw [set_cell_other (by omega)]; exact h.k4, there_put h.there _ _⟩

theorem Off.lt (h : Off w) : 0 < w.heap.size := World.block_lt_of_cell? w _ h.o0
theorem Off.still (h : Off w) (e : w'.heap[0]? = w.heap[0]?) : Off w' :=
  ⟨(World.cell?_of_block (a := ⟨0, 0, none⟩) e).trans h.o0, (World.cell?_of_block (a := ⟨0, 1, none⟩) e).trans h.o1⟩
theorem Off.below {B : Nat} (h : Off w) (b : Below B w w') (hB : 0 < B) : Off w' := h.still (b.block _ hB)
theorem Off.only {F : Nat → Prop} (h : Off w) (o : Only F w w') (hF : ¬ F 0) : Off w' := h.still (o.block _ h.lt hF)

/-- A disk and one of its cells, as a call that began in w0 has them. -/
structure CC (D : Own) (q : Nat) (w0 w : World) (S : St) (c : Cl) : Prop where
  ok : S.ok
  disk : ∃ D', DiskAt w D' S ∧ D'.p = D.p ∧ ∀ b, D'.has b → D.has b ∨ w0.heap.size ≤ b
  cell : CellAt w q D.p c
  off : Off w
  only : Only (fun b => D.has b ∨ b = q) w0 w
  apart : ¬ D.has q
  old : q < w0.heap.size
  goff : ¬ D.has 0 ∧ q ≠ 0 ∧ 0 < w0.heap.size

theorem CC.init (hd : DiskAt w D S) (hk : S.ok) (hc : CellAt w q D.p c) (ho : Off w) (ha : ¬ D.has q) (hg : ¬ D.has 0) (hq : q ≠ 0) : CC D q w w S c :=
  ⟨hk, ⟨D, hd, rfl, fun _ h => .inl h⟩, hc, ho, Only.refl _ _, ha, hc.lt, hg, hq, ho.lt⟩
theorem CC.below (h : CC D q w0 w S c) (b : Below w.heap.size w w') : CC D q w0 w' S c := by
  obtain ⟨hk, ⟨D', hd, hp, hh⟩, hc, ho, hn, ha, hl, hg, hq, hgl⟩ := h
  exact ⟨hk, ⟨D', hd.below b, hp, hh⟩, hc.below b, ho.below b ho.lt, hn.same (Only.of_below b), ha, hl, hg, hq, hgl⟩
theorem CC.step {f : FuncId} {args : Array Value} {R : Ending} (h : CC D q w0 w S c) (hk : S'.ok) (hc : ∀ D', D'.p = D.p → DiskAt w D' S → Calls Tryd.prog f args w fun e w' => e = R ∧ Post D' S' w w') :
    Calls Tryd.prog f args w fun e w' => e = R ∧ CC D q w0 w' S' c := by
  obtain ⟨_, ⟨D', hd, hp, hh⟩, hcl, ho, hn, ha, hl, hg, hq, hgl⟩ := h
  refine (hc D' hp hd).mono ?_
  rintro e w' ⟨he, ⟨D2, hd2, hp2, hh2⟩, ho2⟩
  have hs := hn.size
  have nq : ¬ D'.has q := fun e => by rcases hh _ e with h1 | h1; exact ha h1; omega
  have ng : ¬ D'.has 0 := fun e => by rcases hh _ e with h1 | h1; exact hg h1; omega
  refine ⟨he, hk, ⟨D2, hd2, hp2.trans hp, fun b hb => ?_⟩, hcl.only ho2 nq, ho.only ho2 ng, hn.trans ho2 (fun x hx => ?_), ha, hl, hg, hq, hgl⟩
  · rcases hh2 b hb with h1 | h1
    · exact hh b h1
    · exact .inr (by omega)
  · rcases hh x hx with h1 | h1
    · exact .inl (.inl h1)
    · exact .inr h1
/-- A call that begins with just this disk. -/
theorem CC.call {f : FuncId} {args : Array Value} {R : Ending} (h : CC D q w0 w S c) (k : ∀ D', D'.p = D.p → DiskAt w D' S → S.ok → CellAt w q D'.p c → Off w → ¬ D'.has q → ¬ D'.has 0 → q ≠ 0 → Calls Tryd.prog f args w fun e w' => e = R ∧ CC D' q w w' S' c') :
    Calls Tryd.prog f args w fun e w' => e = R ∧ CC D q w0 w' S' c' := by
  obtain ⟨hk, ⟨D', hd, hp, hh⟩, hcl, ho, hn, ha, hl, hg, hq, hgl⟩ := h
  have hs := hn.size
  have nq : ¬ D'.has q := fun e => by rcases hh _ e with h1 | h1; exact ha h1; omega
  have ng : ¬ D'.has 0 := fun e => by rcases hh _ e with h1 | h1; exact hg h1; omega
  refine (k D' hp hd hk (by rw [hp]; exact hcl) ho nq ng hq).mono ?_
  rintro e w' ⟨he, ⟨hk2, ⟨D2, hd2, hp2, hh2⟩, hcl2, ho2, hn2, _, _, _, _, _⟩⟩
  refine ⟨he, hk2, ⟨D2, hd2, hp2.trans hp, fun b hb => ?_⟩, by rw [← hp]; exact hcl2, ho2, hn.trans hn2 (fun x hx => ?_), ha, hl, hg, hq, hgl⟩
  · rcases hh2 b hb with h1 | h1
    · exact hh b h1
    · exact .inr (by omega)
  · rcases hx with h1 | h1
    · rcases hh x h1 with h2 | h2
      · exact .inl (.inl h2)
      · exact .inr h2
    · exact .inl (.inr h1)
/-- What began a little earlier. -/
theorem CC.ahead {w1 : World} (h : CC D q w1 w S c) (b : Below w0.heap.size w0 w1) (hq : q < w0.heap.size) (hg : 0 < w0.heap.size) : CC D q w0 w S c := by
  obtain ⟨hk, ⟨D', hd, hp, hh⟩, hcl, ho, hn, ha, hl, hgg, hq2, hgl⟩ := h
  have hs := b.size
  exact ⟨hk, ⟨D', hd, hp, fun x hx => by rcases hh x hx with h1 | h1; exact .inl h1; exact .inr (by omega)⟩, hcl, ho, (Only.of_below b).same hn, ha, hq, hgg, hq2, hg⟩
theorem CC.put {i : Nat} {v : Value} (h : CC D q w0 w S c) (hc : CellAt (w.setCell ⟨q, i, none⟩ v) q D.p c') : CC D q w0 (w.setCell ⟨q, i, none⟩ v) S c' := by
  obtain ⟨hk, ⟨D', hd, hp, hh⟩, _, ho, hn, ha, hl, hg, hq, hgl⟩ := h
  have o : Only (fun b => b = q) w (w.setCell ⟨q, i, none⟩ v) := Only.set _ _ _ _ rfl
  have hs := hn.size
  refine ⟨hk, ⟨D', hd.only o (fun b hb e => ?_), hp, hh⟩, hc, ho.only o (fun e => hq e.symm), hn.trans o (fun x hx => .inl (.inr hx)), ha, hl, hg, hq, hgl⟩
  subst e
  rcases hh _ hb with h1 | h1
  · exact ha h1
  · omega

theorem CC.sync (h : CC D q w0 w S c) (f : Int) : Calls Tryd.prog 57 #[ptr D.p, .int .i64 f] w fun e w' => e = .returned (.int .i64 (S.Sync f).2) ∧ CC D q w0 w' (S.Sync f).1 c :=
  h.step (h.ok.Sync f) fun D' hp hd => by rw [← hp]; exact Sync_any w D' S hd h.ok f
theorem CC.write (h : CC D q w0 w S c) (f a : Int) (s : ByteArray) (hs : s.size ≤ maxLen) : Calls Tryd.prog 31 #[ptr D.p, .int .i64 f, .int .i64 a, .string s] w fun e w' => e = .returned (.int .i64 (S.Write f a (bl s)).2) ∧ CC D q w0 w' (S.Write f a (bl s)).1 c :=
  h.step (h.ok.Write f a (bl s)) fun D' hp hd => by rw [← hp]; exact Write_any w D' S hd h.ok f a s hs
end

theorem bne_of {a b : Int} (h : (a == b) = false) : (a != b) = true := by rw [bne, h]; rfl
theorem otherSlot_any (k : Nat) (w : World) : Calls Tryd.prog 58 #[.int .i64 k] w fun e w' => e = .returned (.int .i64 (othK k : Nat)) ∧ w = w' := by
  unfold othK
  by_cases h : k = 1
  · subst h
    rw [if_pos rfl]
    go_enter Tryd.func58, Tryd.ntmps58
    go_wp2_with fail
    go_ret
    exact ⟨rfl, rfl⟩
  · rw [if_neg h]
    have hq : ((k : Int) == 1) = false := beq_eq_false_iff_ne.2 (by omega)
    clear h
    go_enter Tryd.func58, Tryd.ntmps58
    go_wp2_with fail
    go_ret
    exact ⟨rfl, rfl⟩
theorem offset_any {w : World} (h : Off w) {k : Nat} (hk : k = 1 ∨ k = 2) : Calls Tryd.prog 37 #[.int .i64 k] w fun e w' => e = .returned (.int .i64 (beg k : Nat)) ∧ w = w' := by
  have h0 := h.o0
  have h1 := h.o1
  clear h
  rcases hk with rfl | rfl
  · rw [show beg 1 = 64 from rfl]
    go_enter Tryd.func37, Tryd.ntmps37
    go_wp2_with fail
    go_ret
    exact ⟨rfl, rfl⟩
  · rw [show beg 2 = 131072 from rfl]
    go_enter Tryd.func37, Tryd.ntmps37
    go_wp2_with fail
    go_ret
    exact ⟨rfl, rfl⟩

section
variable {w w' w0 : World} {q p : Nat} {c c' : Cl} {D : Own} {S S' : St}
/-- What the regions of a cell's calls read. -/
abbrev Two0 (q p : Nat) (f : Int) (w : World) : Prop := w.cell? ⟨q, 0, none⟩ = some (ptr p) ∧ w.cell? ⟨q, 1, none⟩ = some (.int .i64 f)
theorem CellAt.two (h : CellAt w q p c) : Two0 q p c.file w := ⟨h.k0, h.k1⟩

set_option maxHeartbeats 1000000 in
theorem settle_any' (h : CC D q w0 w S c) : Calls Tryd.prog 39 #[ptr q] w fun e w' => e = .returned (.int .i64 (c.settle S).1) ∧ CC D q w0 w' (c.settle S).2.2 (c.settle S).2.1 := by
  obtain ⟨k0, k1, k2, k3, k4, ht⟩ := h.cell
  clear ht k3
  have H := Lib.hid h
  clear h
  obtain ⟨R, hR⟩ : ∃ R, R = c.settle S := ⟨_, rfl⟩
  rw [← hR]
  have HRR := Lib.hid hR
  clear hR
  cases hs : c.sure with
  | true =>
    rw [hs] at k4
    have e : R = (0, c, S) := by rw [HRR.out]; unfold Cl.settle; rw [if_pos (.inl hs)]
    subst e
    clear hs HRR
    go_enter Tryd.func39, Tryd.ntmps39
    go_wp2_with fail
    go_ret
    exact ⟨rfl, H.out⟩
  | false =>
    rw [hs] at k4
    by_cases h0 : c.slot = 0
    · have e : R = (0, c, S) := by rw [HRR.out]; unfold Cl.settle; rw [if_pos (.inr h0)]
      subst e
      rw [h0] at k2
      clear hs HRR
      go_enter Tryd.func39, Tryd.ntmps39
      go_wp2_with fail
      go_ret
      exact ⟨rfl, H.out⟩
    · have e : R = ((S.Sync c.file).2, { c with sure := (S.Sync c.file).2 == 0 }, (S.Sync c.file).1) := by rw [HRR.out]; unfold Cl.settle; rw [if_neg (by rw [hs]; simp [h0])]
      subst e
      have hq : ((c.slot : Int) == 0) = false := beq_eq_false_iff_ne.2 (by omega)
      have H0 := Lib.hid (H.out.below ((Below.refl _ w).drew))
      have HSY := Lib.hid (fun w' (h : CC D q w0 w' S c) => h.sync c.file)
      have HTW := Lib.hid (H.out.cell.two)
      generalize (S.Sync c.file).2 = er at *
      generalize (S.Sync c.file).1 = S1 at *
      clear hs HRR h0
      go_enter Tryd.func39, Tryd.ntmps39
      go_upto_region 3 with (fail)
      go_region_held3 (fun w' => Two0 q D.p c.file w') (first | exact H0.out.cell.two | exact h5.cell.two | go_keep)
        (first
          | (go_at_call 57; refine (HSY.out _ H0.out).mono ?_; rintro e w5 ⟨rfl, h5⟩))
      have f5 := h5.cell.free (j := 4) (by omega)
      have i5 := h5.cell.k4
      have H5 := Lib.hid h5
      clear h5
      go_wp2_with fail
      go_ret
      exact ⟨rfl, H5.out.put (H5.out.cell.set_sure _)⟩
end
end Dsk
end Go.Proofs.YtlokgmpdighfaaaDoor

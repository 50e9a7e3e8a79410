/- A journal as a plain value: other journals on the disk; what a list of operations keeps. -/
import Derived.Test.YtpogoalbnbekaaaDoorJnB
namespace Go.Proofs.YtpogoalbnbekaaaDoor
set_option linter.unusedVariables false
set_option linter.unusedSimpArgs false
namespace Dsk

section
variable {f : Nat} {S T : St} {A B : List ByteArray → Prop} {J K : Jl}
/-! Other files. -/
theorem RelJ.Sync_other (h : RelJ f S J) {g : Int} (hg : g ≠ (f + 1 : Nat)) (hd : (S.Sync g).1.down = false) : RelJ f (S.Sync g).1 J :=
  ⟨h.base, h.lt, h.good, h.cell.Sync_other hg, h.log.Sync g, h.room, hd⟩
theorem RelJ.Write_other (h : RelJ f S J) {g : Int} (hg : g ≠ (f : Nat)) (hg1 : g ≠ (f + 1 : Nat)) (a : Int) (m : List UInt8) (hd : (S.Write g a m).1.down = false) : RelJ f (S.Write g a m).1 J :=
  ⟨h.base, h.lt, h.good, h.cell.Write_other hg1 a m, h.log.Write (.inl hg) m, h.room, hd⟩
theorem RelJ.set_other (h : RelJ f S J) (d : Cl) (hg : d.file ≠ (f : Nat)) (hg1 : d.file ≠ (f + 1 : Nat)) (s : List UInt8) (hd : (d.set S s).2.2.down = false) : RelJ f (d.set S s).2.2 J :=
  ⟨h.base, h.lt, h.good, h.cell.other d hg1 s, h.log.cell_set hg s, h.room, hd⟩
theorem RelJ.note_other (h : RelJ f S J) (hg : K.c.file ≠ (f : Nat)) (hg1 : K.c.file ≠ (f + 1 : Nat)) (X : List ByteArray) (hd : (K.note S X).2.2.down = false) : RelJ f (K.note S X).2.2 J := by
  have e : (K.note S X).2.2 = (K.c.set S (noteB X)).2.2 := by unfold Jl.note; split <;> rfl
  rw [e] at hd ⊢
  exact h.set_other K.c hg hg1 _ hd
theorem RelJ.cut_other (h : RelJ f S J) (hg : K.c.file ≠ (f : Nat)) (hg1 : K.c.file ≠ (f + 1 : Nat)) (n : Int) (hd : (K.cut S n).2.2.down = false) : RelJ f (K.cut S n).2.2 J := by
  unfold Jl.cut at hd ⊢
  split
  · exact h
  · rename_i e1
    rw [if_neg e1] at hd
    split
    · exact h
    · rename_i e2
      rw [if_neg e2] at hd
      split
      · exact h
      · rename_i e3
        rw [if_neg e3] at hd
        exact h.note_other hg hg1 _ hd
/-- Where nothing fails, what another journal appends is nothing to this one. -/
theorem RelJ.append_other (h : RelJ f S J) {g : Nat} (hK : RelJ g S K) (hc : Calm S) (hg : g ≠ f ∧ g ≠ f + 1 ∧ g + 1 ≠ f) (l : List ByteArray) (hr : (form (K.L ++ l)).length ≤ 1048576) : RelJ f (K.append S l).2.2 J := by
  by_cases hl : l = []
  · rw [hl, hK.append_nil]
    exact h
  have hlt := hK.lt
  have hf0 : isF (g : Int) = true := by unfold isF; exact decide_eq_true (by omega)
  have hfa := form_append K.L l
  have hrr := hr
  rw [hfa, List.length_append] at hrr
  have hfile := hK.cell.file
  have hq := (hK.append l hl hr).2 hc
  have w := hc.Write hf0 (a := ((form K.L).length : Int)) (by omega) (form l) (by omega)
  have s := w.2.Sync hf0
  unfold Jl.append at hq ⊢
  rw [if_neg (by rw [hK.good]; simp), if_neg hl, if_neg (by omega), hK.base, if_neg (by simpa using w.1), if_neg (by simpa using s.1)] at hq ⊢
  exact ((h.Write_other (by omega) (by omega) _ _ w.2.down).Sync_other (by omega) s.2.down).note_other (by rw [hfile]; omega) (by rw [hfile]; omega) _ hq.2.down

/-! What a list of operations keeps: the files hold what is sure, or what a call that failed would have left. -/
structure LInv (f : Nat) (S : St) (j : Option Jl) (sure maybe : List ByteArray) (failed : Bool) : Prop where
  can : CanJ f S (fun X => X = sure ∨ (failed = true ∧ X = maybe))
  own : ∀ J, j = some J → J.L = sure ∧ (J.bad = false → RelJ f S J ∧ failed = false)
variable {j : Option Jl} {sure maybe : List ByteArray} {failed : Bool}
theorem LInv.lose (h : LInv f S j sure maybe failed) {n : Int} (hn : n ≤ 9223372036854775807) : LInv f (S.lose n) j sure maybe failed :=
  ⟨h.can.lose hn, fun J e => ⟨(h.own J e).1, fun hb => ⟨((h.own J e).2 hb).1.lose hn, ((h.own J e).2 hb).2⟩⟩⟩
theorem LInv.arm (h : LInv f S j sure maybe failed) {n : Int} {ks : List Int} (hn : n ≤ 9223372036854775807) (hk : ks.length ≤ 1000000000) : LInv f (S.arm n ks) j sure maybe failed :=
  ⟨h.can.arm hn hk, fun J e => ⟨(h.own J e).1, fun hb => ⟨((h.own J e).2 hb).1.arm hn hk, ((h.own J e).2 hb).2⟩⟩⟩
theorem LInv.of (h : RelJ f S J) (maybe : List ByteArray) : LInv f S (some J) J.L maybe false :=
  ⟨h.can.mono fun X k => .inl k, fun K e => by injection e with e; subst e; exact ⟨rfl, fun _ => ⟨h, rfl⟩⟩⟩
/-- What a call that changes the list leaves. -/
structure Went (f : Nat) (sure maybe next : List ByteArray) (failed : Bool) (R : Int × Jl × St) : Prop where
  ok : R.1 = 0 → LInv f R.2.2 (some R.2.1) next maybe failed
  dsk : R.1 = 9 ∨ R.1 = 10 → LInv f R.2.2 (some R.2.1) sure next true
  els : ¬ (R.1 = 0 ∨ R.1 = 9 ∨ R.1 = 10) → LInv f R.2.2 (some R.2.1) sure maybe failed
theorem Left.went (h : LInv f S (some J) sure maybe failed) (hb : J.bad = false) {X : List ByteArray} {R : Int × Jl × St} (k : Left f J X R) : Went f sure maybe X failed R := by
  obtain ⟨hL, hg⟩ := h.own J rfl
  have hf := (hg hb).2
  rcases k with ⟨k1, k2, k3⟩ | ⟨k1, k2, k3, k4⟩
  · refine ⟨fun _ => ?_, fun e => by omega, fun e => absurd (.inl k1) e⟩
    subst k2
    rw [hf]
    exact LInv.of k3 maybe
  · refine ⟨fun e => by omega, fun _ => ⟨k4.mono fun Y hY => ?_, fun K e => ?_⟩, fun e => absurd (.inr k1) e⟩
    · rw [hL] at hY
      rcases hY with hY | hY
      · exact .inl hY
      · exact .inr ⟨rfl, hY⟩
    · injection e with e
      subst e
      exact ⟨k2.trans hL, fun e => by rw [k3] at e; cases e⟩
theorem LInv.stay (h : LInv f S (some J) sure maybe failed) {e : Int} (he : ¬ (e = 0 ∨ e = 9 ∨ e = 10)) (next : List ByteArray) : Went f sure maybe next failed (e, J, S) :=
  ⟨fun k => absurd (.inl k) he, fun k => absurd (.inr k) he, fun _ => h⟩
theorem LInv.none_ (h : LInv f S (some J) sure maybe failed) : Went f sure maybe sure failed (0, J, S) :=
  ⟨fun _ => h, fun k => (by have k' : (0 : Int) = 9 ∨ (0 : Int) = 10 := k; omega), fun k => absurd (Or.inl rfl) k⟩
theorem LInv.append (h : LInv f S (some J) sure maybe failed) (l : List ByteArray) : Went f sure maybe (sure ++ l) failed (J.append S l) := by
  obtain ⟨hL, hg⟩ := h.own J rfl
  cases hb : J.bad with
  | true =>
    rw [append_bad hb]
    exact h.stay (by omega) _
  | false =>
    have hR := (hg hb).1
    by_cases hl : l = []
    · rw [hl, hR.append_nil, List.append_nil]
      exact h.none_
    · by_cases hr : (form (J.L ++ l)).length ≤ 1048576
      · have := Left.went h hb (hR.append l hl hr).1
        rwa [hL] at this
      · rw [hR.append_full l hl (by omega)]
        exact h.stay (by omega) _
theorem LInv.cut (h : LInv f S (some J) sure maybe failed) (n : Int) : Went f sure maybe (sure.take (max 0 (min n sure.length)).toNat) failed (J.cut S n) := by
  obtain ⟨hL, hg⟩ := h.own J rfl
  cases hb : J.bad with
  | true =>
    rw [cut_bad hb]
    exact h.stay (by omega) _
  | false =>
    have hR := (hg hb).1
    by_cases ho : n < 0 ∨ (J.L.length : Int) < n
    · rw [hR.cut_out n ho]
      exact h.stay (by omega) _
    · have hn : ((n.toNat : Nat) : Int) = n := by omega
      by_cases ha : n = (J.L.length : Int)
      · have e : sure.take (max 0 (min n sure.length)).toNat = sure := by
          rw [ha, hL, List.take_of_length_le (by omega)]
        rw [e, ha, hR.cut_all]
        exact h.none_
      · have e : (max 0 (min n sure.length)).toNat = n.toNat := by rw [← hL]; omega
        have := Left.went h hb (hR.cut n.toNat (by omega)).1
        rw [hn, hL] at this
        rwa [e]
/-- Opening again: the list that is read is sure, or what failed; it fails only where something fails. -/
theorem LInv.opn (h : LInv f S j sure maybe failed) (hf : f ≤ 14) :
    ((jopn S f).2.1 = none ∧ ((jopn S f).1 = 9 ∨ (jopn S f).1 = 10) ∧ LInv f (jopn S f).2.2 none sure maybe failed ∧ ¬ Calm S) ∨
    ∃ J, (jopn S f).1 = 0 ∧ (jopn S f).2.1 = some J ∧ (J.L = sure ∨ (failed = true ∧ J.L = maybe)) ∧ LInv f (jopn S f).2.2 (some J) J.L maybe false ∧ RelJ f (jopn S f).2.2 J := by
  rcases h.can.opn hf with ⟨k1, k2, k3, k4⟩ | ⟨J, k1, k2, k3, k4⟩
  · exact .inl ⟨k1, k2, ⟨k3, fun J e => by cases e⟩, k4⟩
  · exact .inr ⟨J, k1, k2, k3, LInv.of k4 maybe, k4⟩
/-- .. behind a restart, with or without a crash. -/
theorem LInv.crash (h : LInv f S j sure maybe failed) (ks : List Int) : LInv f (S.crash ks).start none sure maybe failed := ⟨(h.can.crash ks).start, fun J e => by cases e⟩
theorem LInv.start (h : LInv f S j sure maybe failed) : LInv f S.start none sure maybe failed := ⟨h.can.start, fun J e => by cases e⟩
theorem LInv.new (hf : f ≤ 14) (maybe : List ByteArray) : LInv f St.new none [] maybe false := ⟨(CanJ.new hf).mono fun X k => .inl k, fun J e => by cases e⟩
/-- A crash ends what was lost or scheduled: Open is calm then, if no sync is lost. -/
theorem Calm.crash (hl : S.lost = 0) (hc : S.calls = 0) (ks : List Int) : Calm (S.crash ks).start := by
  unfold St.crash
  split
  · exact ⟨rfl, hc, hl⟩
  · exact ⟨rfl, rfl, hl⟩
end
end Dsk
end Go.Proofs.YtpogoalbnbekaaaDoor

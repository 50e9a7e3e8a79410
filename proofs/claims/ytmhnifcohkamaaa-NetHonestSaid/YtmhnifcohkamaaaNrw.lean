/- Rows of packets that a statement builds. -/
import Derived.Test.YtmhnifcohkamaaaNsd
namespace Go.Proofs.Ytmhnifcohkamaaa
open Go.RowKit Wire
open Txt (Row)
open Dsk (Only below_of_grown Grow.bare)
set_option linter.unusedVariables false
set_option linter.unusedSimpArgs false
namespace Ntw
/-- A row of packets. -/
abbrev PkT (v : Value) (X : List Pk) : Thing := RowT 3 v X.length (pks X)
theorem Sp.row {W w : World} {T : List Thing} {v : Value} {X : List Pk} (h : Sp W w T) (i : Nat) (hi : T[i]? = some (PkT v X)) : Grow w 0 3 v X.length (pks X) := by
  obtain ⟨F, hF, _⟩ := h.get i hi
  exact hF.1
theorem Sp.slice {W w : World} {T : List Thing} {v : Value} {X : List Pk} (h : Sp W w T) (i : Nat) (hi : T[i]? = some (PkT v X)) : ∃ A c, v = .slice A X.length c ∧ Row w w.heap.size A (pks X) := Grow.row (h.row i hi)
/-- A row that begins as nil. -/
theorem Sp.nil_row {W w : World} {T : List Thing} (h : Sp W w T) : Sp W w (T ++ [PkT (.slice none 0 0) []]) :=
  h.new (Below.refl _ w) (F := fun _ => False) ⟨Grow.nil w 0 3, fun x => ⟨fun e => e.elim, fun e => by cases e⟩⟩ fun x hx => hx.elim
/-- A new row beside what was there. -/
theorem Sp.new_row {W w w' : World} {T : List Thing} {v : Value} {X : List Pk} (h : Sp W w T) (b : Below w.heap.size w w') (hg : Grow w' w.heap.size 3 v X.length (pks X)) : Sp W w' (T ++ [PkT v X]) :=
  h.new b (F := fun x => v.ownBlock = some x) ⟨hg.lower (Nat.zero_le _), fun x => Iff.rfl⟩ fun x hx => hg.block x hx
/-- A packet behind a row. -/
theorem Sp.push {W w : World} {T : List Thing} {v : Value} {X : List Pk} (h : Sp W w T) (i : Nat) (hi : T[i]? = some (PkT v X)) (q : Pk) (hl : X.length ≤ 10000) (tb : TypeId) :
    ∃ v' w', (Builtin.append_ #[27, 27] 27 #[v, .slice (some ⟨w.heap.size, 0, none⟩) 1 1]).run Try.prog (w.alloc (.cells #[.int .i64 q.src, .int .i64 q.dst, .string q.body] tb)) = .ok v' w' ∧ Sp W w' (T.set i (PkT v' (X ++ [q]))) := by
  obtain ⟨i0, hi0, hz0, hz1, hz2⟩ := info_parts info_pk
  have h1 := h.keep ((Below.refl _ w).alloc (Nat.le_refl _) (.cells #[.int .i64 q.src, .int .i64 q.dst, .string q.body] tb))
  have hx : Blk (w.alloc (.cells #[.int .i64 q.src, .int .i64 q.dst, .string q.body] tb)) w.heap.size tb #[.int .i64 q.src, .int .i64 q.dst, .string q.body] := Blk.fresh w tb _
  generalize w.alloc (.cells #[.int .i64 q.src, .int .i64 q.dst, .string q.body] tb) = w1 at *
  have hsrc : Src Try.prog 3 27 (.slice (some ⟨w.heap.size, 0, none⟩) 1 1) 1 (pks [q]) w1 := Src.ofSlice w1 Try.underlying27 ⟨w.heap.size, 0, none⟩ 1 1 (pks [q]) rfl (fun j u hu => by
    rw [row_add', Nat.zero_add, hx.at]
    rw [pks_one] at hu
    simpa using hu) (one_pks _)
  obtain ⟨v', w', hr, hg', hgr, hv⟩ := run_append_src (P := Try.prog) w1 0 27 27 27 33 i0 _ 3 32 Try.underlying27 hi0 hz0 hz1 hz2 rfl (by omega) v X.length (pks X) (h1.row i hi) _ 1 (pks [q]) hsrc (by unfold maxLen; omega) (by omega) (Nat.zero_le _)
  rw [← pks_append] at hg'
  refine ⟨v', w', hr, h1.turn i hi fun F hF hlt => ⟨fun x => v'.ownBlock = some x, ⟨by rw [List.length_append]; exact hg', fun x => Iff.rfl⟩, fun b hb => ?_, Only.of_grown' hgr fun m hm => .inl ((hF.2 m).2 hm)⟩⟩
  have := (hg'.block b hb).2
  rcases hv with e | e
  · exact .inl ((hF.2 b).2 (by rw [← e]; exact hb))
  · rw [e] at hb
    injection hb with hb
    exact .inr (by omega)
/-- Two rows in a new one. -/
theorem join_run {w w3 w4 : World} {A1 A2 : Option Addr} {c1 c2 : Nat} {X Y : List Pk} {v0 : Value} (b : Below w.heap.size w w3) (h0 : Grow w3 w.heap.size 3 v0 0 []) (h1 : Row w w.heap.size A1 (pks X)) (hl : X.length ≤ 10000) :
    ∃ v1 w1, (Builtin.append_ #[27, 27] 27 #[v0, .slice A1 X.length c1]).run Try.prog w3 = .ok v1 w1 ∧ Below w.heap.size w w1 ∧ Grow w1 w.heap.size 3 v1 X.length (pks X) := by
  obtain ⟨v1, w1, r1, g1, _, b1⟩ := app_run (X := []) h0 b.size (src_row (c := c1) (h1.lift b)) (by omega)
  exact ⟨v1, w1, r1, b.trans b1, by simpa using g1⟩
/-- A row without one of its packets. -/
theorem erase_row {w w3 : World} {i g cap : Nat} {X : List Pk} {B : Nat} (h : Grow w B 3 (.slice (some ⟨g, 0, none⟩) X.length cap) X.length (pks X)) (hl : X.length ≤ 10000) (hi : i < X.length) (b : Below w.heap.size w w3) {v0 : Value} (h0 : Grow w3 w.heap.size 3 v0 0 []) :
    ∃ v1 w1 v2 w2, (Builtin.append_ #[27, 27] 27 #[v0, .slice (some ⟨g, 0, none⟩) i cap]).run Try.prog w3 = .ok v1 w1 ∧ Below w.heap.size w w1 ∧
      (Builtin.append_ #[27, 27] 27 #[v1, .slice (if cap = i + 1 then some ⟨g, 0, none⟩ else some ⟨g, (i + 1) * 3, none⟩) (X.length - (i + 1)) (cap - (i + 1))]).run Try.prog w1 = .ok v2 w2 ∧ Below w.heap.size w w2 ∧
      Grow w2 w.heap.size 3 v2 (X.eraseIdx i).length (pks (X.eraseIdx i)) := by
  have hr : ∀ w', Below w.heap.size w w' → Row w' w'.heap.size (some ⟨g, 0, none⟩) (pks X) := fun w' b => by
    obtain ⟨A, c, e, hrow⟩ := Grow.row h
    injection e with e1 e2 e3
    rw [e1]
    exact hrow.lift b
  have hlt : (X.take i).length = i := by rw [List.length_take]; omega
  have hld : (X.drop (i + 1)).length = X.length - (i + 1) := List.length_drop
  have s1 := src_row (c := cap) (row_take (hr _ b) i)
  rw [hlt] at s1
  obtain ⟨v1, w1, r1, g1, _, b1⟩ := app_run (X := []) h0 b.size s1 (by omega)
  have B1 := b.trans b1
  have s2 : Src Try.prog 3 27 (.slice (if cap = i + 1 then some ⟨g, 0, none⟩ else some ⟨g, (i + 1) * 3, none⟩) (X.length - (i + 1)) (cap - (i + 1))) (X.length - (i + 1)) (pks (X.drop (i + 1))) w1 := by
    by_cases e : cap = i + 1
    · rw [if_pos e]
      have hcap : X.length ≤ cap := by
        rcases h.form with ⟨e, _⟩ | ⟨g', cap', e, _, _, h3, _⟩
        · cases e
        · injection e with _ _ e3
          omega
      have h0 : X.drop (i + 1) = [] := List.eq_nil_of_length_eq_zero (by omega)
      rw [h0, show X.length - (i + 1) = 0 from by omega]
      exact Src.ofSlice _ Try.underlying27 _ _ _ _ rfl (fun k u hu => by simp [pks] at hu) (fun u hu => by simp [pks] at hu)
    · rw [if_neg e, ← hld]
      have := row_drop (hr _ B1) (i + 1)
      rw [Nat.zero_add] at this
      exact src_row this
  obtain ⟨v2, w2, r2, g2, _, b2⟩ := app_run (by simpa using g1) B1.size s2 (by omega)
  refine ⟨v1, w1, v2, w2, r1, B1, r2, B1.trans b2, ?_⟩
  have e : X.take i ++ X.drop (i + 1) = X.eraseIdx i := (List.eraseIdx_eq_take_drop_succ ..).symm
  rw [← e, List.length_append, hlt, hld]
  simpa using g2
theorem deliver_zero {S : Nt} {k : Nat} {q : Pk} (ho : S.ok) (hm : S.m = 0) (hq : S.L[k]? = some q) : S.deliver (k : Int) = (some q, 0, { S with L := S.L.eraseIdx k }) := by
  have hlt := (List.getElem?_eq_some_iff.1 hq).1
  have hhas : S.has k = true := decide_eq_true (by omega)
  obtain ⟨h1, h2, _⟩ := ho.at hq
  have hh : S.hear q.src q.dst = true := by
    unfold Nt.hear
    rw [h1, h2, hm, side_zero, side_zero]
    rfl
  unfold Nt.deliver
  rw [if_neg (by simp [hhas])]
  have e2 : (k : Int).toNat = k := by simp
  simp only [e2, hq]
  rw [if_pos hh]
end Ntw
end Go.Proofs.Ytmhnifcohkamaaa

/- The program's find. -/
import Derived.Test.YtgophgnfiboefaaGreatDoorFpF
import Derived.Test.YtgophgnfiboefaaGreatDoorFpM
namespace Go.Proofs.YtgophgnfiboefaaGreatDoor
open Go.RowKit Wire
open Txt (Row)
open Own
open Dsk (Only)
set_option linter.unusedVariables false
set_option linter.unusedSimpArgs false
namespace Flo
/-- A store into a block that is known whole. -/
theorem Sp.poke {W w : World} {T : List Thing} {g : Nat} {ty : TypeId} {cs : Array Value} (h : Sp W w T) (i : Nat) (hi : T[i]? = some (BlkT g ty cs)) (k : Nat) (u : Value) : Sp W (w.setCell ⟨g, k, none⟩ u) (T.set i (BlkT g ty (cs.setIfInBounds k u))) :=
  h.turn i hi fun F hF hlt => ⟨F, ⟨hF.1.put k u, hF.2⟩, fun b hb => .inl hb, Only.set F w ⟨g, k, none⟩ u ((hF.2 g).2 rfl)⟩
abbrev ptrV (g : Nat) : Value := .pointer (some ⟨g, 0, none⟩)
abbrev slV (g n : Nat) : Value := .slice (some ⟨g, 0, none⟩) n n
/-- A search: the struct at g, its four rows, and other things. -/
abbrev SchT (g gc gd gb n : Nat) (qv : Value) (cl : List Bool) (q : List Nat) (out bf : List Int) (R : List Thing) : List Thing :=
  BlkT g 78 #[slV gc n, qv, slV gd n, slV gb n] :: RowT 1 (slV gc n) n (bvs cl) :: RowT 1 qv q.length (qvs q) :: RowT 1 (slV gd n) n (ivs out) :: RowT 1 (slV gb n) n (ivs bf) :: R
section
variable {W w : World} {g gc gd gb n : Nat} {qv : Value} {cl : List Bool} {q : List Nat} {out bf : List Int} {R : List Thing}
theorem SchT.cells (h : Sp W w (SchT g gc gd gb n qv cl q out bf R)) : w.cell? ⟨g, 0, none⟩ = some (slV gc n) ∧ w.cell? ⟨g, 1, none⟩ = some qv ∧ w.cell? ⟨g, 2, none⟩ = some (slV gd n) ∧ w.cell? ⟨g, 3, none⟩ = some (slV gb n) :=
  ⟨(h.blk 0 rfl).at 0, (h.blk 0 rfl).at 1, (h.blk 0 rfl).at 2, (h.blk 0 rfl).at 3⟩
theorem SchT.thaw (h : Sp W w (SchT g gc gd gb n qv cl q out bf R)) (k : Nat) : w.frozen? ⟨g, k, none⟩ = false := (h.blk 0 rfl).thaw k
set_option maxRecDepth 100000 in
set_option maxHeartbeats 4000000 in
theorem find_shut (h : Sp W w (SchT g gc gd gb n qv cl q out bf R)) (hl : cl.length = n) {c : Nat} (hc : c < n) (hn : n ≤ 4096) (hs : cl.getD c false = true) (b z : Int) :
    Calls Tryz.prog 99 #[ptrV g, .int .i64 c, .int .i64 b, .int .i64 z] w fun e w' => e = .returned (.tuple #[]) ∧ w' = w := by
  obtain ⟨k0, k1, k2, k3⟩ := SchT.cells h
  obtain ⟨x0, x1⟩ := Grow.cell (h.grow 1 rfl) (bvs_at (l := cl) (k := c) (by omega))
  rw [hs] at x0
  clear h hs hl
  go_enter Tryz.func99, Tryz.ntmps99
  go_wp2_with fail
  exact bodyPost_ret (v := .tuple #[]) (by simp [results, Tryz.results99, go_sem]) rfl ⟨rfl, rfl⟩
set_option maxRecDepth 100000 in
set_option maxHeartbeats 4000000 in
theorem find_new (h : Sp W w (SchT g gc gd gb n qv cl q out bf R)) (hl : cl.length = n) (hlo : out.length = n) (hlb : bf.length = n) {c : Nat} (hc : c < n) (hn : n ≤ 4096) (hq : q.length ≤ 100000) (hs : cl.getD c false = false) (b z : Int) :
    Calls Tryz.prog 99 #[ptrV g, .int .i64 c, .int .i64 b, .int .i64 z] w fun e w' => e = .returned (.tuple #[]) ∧ ∃ qv', Sp W w' (SchT g gc gd gb n qv' (cl.set c true) (q ++ [c]) (out.set c z) (bf.set c b) R) := by
  obtain ⟨k0, k1, k2, k3⟩ := SchT.cells h
  obtain ⟨x0, x1⟩ := Grow.cell (h.grow 1 rfl) (bvs_at (l := cl) (k := c) (by omega))
  rw [hs] at x0
  have h1 := h.store 1 rfl c hc (.bool true)
  rw [bvs_set] at h1
  have h1' : Sp W (w.setCell ⟨gc, c, none⟩ (.bool true)) (SchT g gc gd gb n qv (cl.set c true) q out bf R) := h1
  obtain ⟨l0, l1, l2, l3⟩ := SchT.cells h1'
  have H1 := Lib.hid h1'
  have hlo' : out.length = n := hlo
  have HO := Lib.hid (ivs_at (l := out) (k := c) (by omega))
  have HF := Lib.hid (ivs_at (l := bf) (k := c) (by omega))
  have HQ := Lib.hid hq
  have HC := Lib.hid hc
  have HP := Lib.hid (push_int H1.out 2 rfl c HQ.out 3)
  clear h h1 h1' hs hl hlo hlb hlo' hq H1
  generalize q ++ [c] = q' at *
  go_enter Tryz.func99, Tryz.ntmps99
  go_wp2_with ((at_builtin; obtain ⟨v7, w7, r7, h7⟩ := HP.out; obtain ⟨A7, c7, e7⟩ := (h7.grow 2 rfl).slice; subst e7; refine wpList_append_run rfl _ _ _ _ rfl (by simp [go_sem]) (by simp [go_sem]) r7 ?_; have h7' : Sp W w7 (BlkT g 78 #[slV gc n, qv, slV gd n, slV gb n] :: RowT 1 (slV gc n) n (bvs (cl.set c true)) :: RowT 1 (.slice A7 q'.length c7) q'.length (qvs q') :: RowT 1 (slV gd n) n (ivs out) :: RowT 1 (slV gb n) n (ivs bf) :: R) := h7; have m0 := (h7'.blk 0 rfl).at 0; have m1 := (h7'.blk 0 rfl).at 1; have m2 := (h7'.blk 0 rfl).at 2; have m3 := (h7'.blk 0 rfl).at 3; have m4 := (h7'.blk 0 rfl).thaw 1; have h8 : Sp W (w7.setCell ⟨g, 1, none⟩ (.slice A7 q'.length c7)) (SchT g gc gd gb n (.slice A7 q'.length c7) (cl.set c true) q' out bf R) := Sp.poke h7' 0 rfl 1 _; obtain ⟨n0, n1, n2, n3⟩ := SchT.cells h8; obtain ⟨y0, y1⟩ := Grow.cell (h8.grow 3 rfl) HO.out; have h9 : Sp W ((w7.setCell ⟨g, 1, none⟩ (.slice A7 q'.length c7)).setCell ⟨gd, c, none⟩ (.int .i64 z)) (SchT g gc gd gb n (.slice A7 q'.length c7) (cl.set c true) q' (out.set c z) bf R) := (by have := h8.store 3 rfl c HC.out (.int .i64 z); rw [ivs_set] at this; exact this); obtain ⟨p0, p1, p2, p3⟩ := SchT.cells h9; obtain ⟨u0, u1⟩ := Grow.cell (h9.grow 4 rfl) HF.out; have H10 : Hid (Sp W (((w7.setCell ⟨g, 1, none⟩ (.slice A7 q'.length c7)).setCell ⟨gd, c, none⟩ (.int .i64 z)).setCell ⟨gb, c, none⟩ (.int .i64 b)) (SchT g gc gd gb n (.slice A7 q'.length c7) (cl.set c true) q' (out.set c z) (bf.set c b) R)) := Lib.hid (by have := h9.store 4 rfl c HC.out (.int .i64 b); rw [ivs_set] at this; exact this); clear r7 h7 h7' h8 h9))
  go_end0
  exact ⟨rfl, _, H10.out⟩
end
end Flo
end Go.Proofs.YtgophgnfiboefaaGreatDoor

/- The reference's spread: breadth first. -/
import Derived.Test.YtgophgnfiboefaaGreatDoorMgL
import Derived.Test.YtgophgnfiboefaaGreatDoorSepA
import Derived.Deep.DeepCutAuto
namespace Go.Proofs.YtgophgnfiboefaaGreatDoor
open Go.RowKit Wire
open Txt (Row)
open Own
set_option linter.unusedVariables false
set_option linter.unusedSimpArgs false
namespace Flo
/-- Neither a wall nor avoided? -/
def shutB (f : Fl) (avoid : List Int) (c : Nat) : Bool := decide ((c : Int) ∈ avoid) || f.kindAt c == 0
def stp (f : Fl) (back : Bool) (c d : Int) : Option Int := if back then f.back c d else f.next c d
def spE (f : Fl) (avoid : List Int) (back : Bool) (c n : Nat) : Prop := ∃ d : Nat, d < 6 ∧ stp f back c d = some (n : Int) ∧ shutB f avoid n = false
def spSrc (f : Fl) (src avoid : List Int) (c : Nat) : Prop := c < f.Kind.length ∧ (c : Int) ∈ src ∧ shutB f avoid c = false
abbrev bvs (l : List Bool) : List Value := l.map Value.bool
abbrev ivs (l : List Int) : List Value := l.map (Value.int .i64)
abbrev qvs (l : List Nat) : List Value := l.map (fun c : Nat => Value.int .i64 (c : Int))
theorem bvs_set (l : List Bool) (k : Nat) (b : Bool) : (bvs l).set k (.bool b) = bvs (l.set k b) := by simp [bvs]
theorem ivs_set (l : List Int) (k : Nat) (z : Int) : (ivs l).set k (.int .i64 z) = ivs (l.set k z) := by simp [ivs]
theorem getD_set {α : Type} (l : List α) (k : Nat) (v dflt : α) (h : k < l.length) (c : Nat) : (l.set k v).getD c dflt = if c = k then v else l.getD c dflt := by
  rw [List.getD_eq_getElem?_getD, List.getD_eq_getElem?_getD, List.getElem?_set]
  by_cases e : k = c
  · rw [if_pos e, if_pos e.symm, if_pos (by omega)]
    rfl
  · rw [if_neg e, if_neg (Ne.symm e)]
theorem bvs_at {l : List Bool} {k : Nat} (h : k < l.length) : (bvs l)[k]? = some (.bool (l.getD k false)) := by
  rw [List.getElem?_map, List.getD_eq_getElem?_getD, List.getElem?_eq_getElem h]
  rfl
theorem ivs_at {l : List Int} {k : Nat} (h : k < l.length) : (ivs l)[k]? = some (.int .i64 (gt l k)) := by
  rw [List.getElem?_map, gt_of h]
  rfl
theorem mem_take_next {l : List Int} {i : Nat} (h : i < l.length) (c : Int) : decide (c ∈ l.take (i + 1)) = (decide (c ∈ l.take i) || decide (l.getD i 0 = c)) := by
  rw [List.take_succ_eq_append_getElem h, List.getD_eq_getElem?_getD, List.getElem?_eq_getElem h]
  simp only [List.mem_append, List.mem_singleton, Option.getD_some, Bool.decide_or]
  congr 1
  simp [eq_comm]
abbrev boxV (W H D : Int) (A1 : Option Addr) (n1 c1 : Nat) (A2 : Option Addr) (n2 c2 : Nat) : Array Value := #[.int .i64 W, .int .i64 H, .int .i64 D, .slice A1 n1 c1, .slice A2 n2 c2]
structure Sp1 (W : World) (g4 g9 n : Nat) (box : Array Value) (avoid : List Int) (iv : Value) (wr : World) (i : Nat) (bs : List Bool) : Prop where
  iv : iv = .int .i64 i
  le : i ≤ avoid.length
  sp : Sp W wr [BlkT g4 24 box, RowT 1 (.slice (some ⟨g9, 0, none⟩) n n) n (bvs bs)]
  len : bs.length = n
  val : ∀ c : Nat, c < n → bs.getD c false = decide ((c : Int) ∈ avoid.take i)
structure Sp2 (W : World) (f : Fl) (g4 g9 g11 n : Nat) (box : Array Value) (avoid : List Int) (iv : Value) (wr : World) (i : Nat) (bs : List Bool) (out : List Int) : Prop where
  iv : iv = .int .i64 i
  le : i ≤ n
  sp : Sp W wr [BlkT g4 24 box, RowT 1 (.slice (some ⟨g9, 0, none⟩) n n) n (bvs bs), RowT 1 (.slice (some ⟨g11, 0, none⟩) n n) n (ivs out)]
  len : bs.length = n
  lout : out.length = n
  val : ∀ c : Nat, c < n → bs.getD c false = if c < i then shutB f avoid c else decide ((c : Int) ∈ avoid)
  outs : ∀ c : Nat, c < i → gt out c = -1
structure Sp3 (W : World) (f : Fl) (g4 g9 g11 n : Nat) (box : Array Value) (src avoid : List Int) (bs : List Bool) (qv iv : Value) (wr : World) (i : Nat) (out : List Int) (q : List Nat) : Prop where
  iv : iv = .int .i64 i
  le : i ≤ src.length
  sp : Sp W wr [BlkT g4 24 box, RowT 1 (.slice (some ⟨g9, 0, none⟩) n n) n (bvs bs), RowT 1 (.slice (some ⟨g11, 0, none⟩) n n) n (ivs out), RowT 1 qv q.length (qvs q)]
  srcs : Srcs n (spSrc f src avoid) out q
  done : ∀ (j c : Nat), j < i → src.getD j 0 = c → spSrc f src avoid c → c ∈ q
structure Sp4 (W : World) (f : Fl) (g4 g9 g11 n : Nat) (box : Array Value) (src avoid : List Int) (back : Bool) (bs : List Bool) (qv iv : Value) (wr : World) (i : Nat) (out : List Int) (q : List Nat) : Prop where
  iv : iv = .int .i64 i
  le : i ≤ q.length
  sp : Sp W wr [BlkT g4 24 box, RowT 1 (.slice (some ⟨g9, 0, none⟩) n n) n (bvs bs), RowT 1 (.slice (some ⟨g11, 0, none⟩) n n) n (ivs out), RowT 1 qv q.length (qvs q)]
  bfs : Bfs n (spSrc f src avoid) (spE f avoid back) out q i
structure Sp5 (W : World) (f : Fl) (g4 g9 g11 n : Nat) (box : Array Value) (src avoid : List Int) (back : Bool) (bs : List Bool) (i c : Nat) (qv jv : Value) (wr : World) (j : Nat) (out : List Int) (q : List Nat) : Prop where
  jv : jv = .int .i64 j
  le : j ≤ 6
  sp : Sp W wr [BlkT g4 24 box, RowT 1 (.slice (some ⟨g9, 0, none⟩) n n) n (bvs bs), RowT 1 (.slice (some ⟨g11, 0, none⟩) n n) n (ivs out), RowT 1 qv q.length (qvs q)]
  bfs : Bfs n (spSrc f src avoid) (spE f avoid back) out q i
  at_ : q[i]? = some c
  seen : ∀ (d m : Nat), d < j → stp f back c d = some (m : Int) → shutB f avoid m = false → 0 ≤ gt out m
theorem done_next {src : List Int} {S : Nat → Prop} {i : Nat} {q q' : List Nat} (h : ∀ (j c : Nat), j < i → src.getD j 0 = c → S c → c ∈ q) (hq : ∀ c, c ∈ q → c ∈ q') (hi : ∀ c : Nat, src.getD i 0 = c → S c → c ∈ q') : ∀ (j c : Nat), j < i + 1 → src.getD j 0 = c → S c → c ∈ q' := by
  intro j c hj e hs
  by_cases e2 : j = i
  · subst e2
    exact hi c e hs
  · exact hq c (h j c (by omega) e hs)
/-- A number behind a row. -/
theorem push_int {W w : World} {T : List Thing} {v : Value} {q : List Nat} (h : Sp W w T) (i : Nat) (hi : T[i]? = some (RowT 1 v q.length (qvs q))) (c : Nat) (hl : q.length ≤ 100000) (tb : TypeId) :
    ∃ v' w', (Builtin.append_ #[22, 22] 22 #[v, .slice (some ⟨w.heap.size, 0, none⟩) 1 1]).run Tryz.prog (w.alloc (.cells #[.int .i64 (c : Int)] tb)) = .ok v' w' ∧ Sp W w' (T.set i (RowT 1 v' (q ++ [c]).length (qvs (q ++ [c])))) := by
  obtain ⟨i0, hi0, hz0, hz1, hz2⟩ := info_parts Dsk.info_int
  have h1 := h.keep ((Below.refl _ w).alloc (Nat.le_refl _) (.cells #[.int .i64 (c : Int)] tb))
  have hx : Blk (w.alloc (.cells #[.int .i64 (c : Int)] tb)) w.heap.size tb #[.int .i64 (c : Int)] := Blk.fresh w tb _
  generalize w.alloc (.cells #[.int .i64 (c : Int)] tb) = w1 at *
  have hsrc : Src Tryz.prog 1 22 (.slice (some ⟨w.heap.size, 0, none⟩) 1 1) 1 (qvs [c]) w1 := Src.ofSlice w1 Tryz.underlying22 ⟨w.heap.size, 0, none⟩ 1 1 (qvs [c]) rfl (fun j u hu => by
    rw [row_add', Nat.zero_add, hx.at]
    simpa using hu) (fun u hu => by simp at hu; rw [hu]; rfl)
  obtain ⟨v', w', hr, hg', hgr, hv⟩ := run_append_src (P := Tryz.prog) w1 0 22 22 22 3 i0 _ 1 8 Tryz.underlying22 hi0 hz0 hz1 hz2 rfl (by omega) v q.length (qvs q) (h1.grow i hi) _ 1 (qvs [c]) hsrc (by unfold maxLen; omega) (by omega) (Nat.zero_le _)
  rw [show qvs q ++ qvs [c] = qvs (q ++ [c]) from (List.map_append ..).symm] at hg'
  refine ⟨v', w', hr, h1.turn i hi fun F hF hlt => ⟨fun x => v'.ownBlock = some x, ⟨by rw [List.length_append]; exact hg', fun x => Iff.rfl⟩, fun b hb => ?_, Dsk.Only.of_grown' hgr fun m hm => .inl ((hF.2 m).2 hm)⟩⟩
  have := (hg'.block b hb).2
  rcases hv with e | e
  · exact .inl ((hF.2 b).2 (by rw [← e]; exact hb))
  · rw [e] at hb
    injection hb with hb
    exact .inr (by omega)
theorem wpList_append_run {P : Program} {ops : Array Oper} {rest : List Oper} {o : Oper} {a : Act} {w w' : World} {Q : Exit → Act → World → Prop} (hgd : o.guard = none) (s x : Operand) (t tx : TypeId) {v y v' : Value}
    (ho : o.op = .call { callee := .builtin .append, args := #[s, x], argTypes := #[t, tx] }) (hs : a.eval s = v) (hx : a.eval x = y) (hr : (Builtin.append_ #[t, tx] o.type #[v, y]).run P w = .ok v' w') (h : wpList P ops Q rest (a.put o.dst v') w') : wpList P ops Q (o :: rest) a w :=
  wpList_plain hgd fun K hK => by
    unfold Oper.wp execOp
    simp only [ho, resolve, invoke, builtin, Sem.run_bind, Sem.run_pure, Result.andThen_ok, List.map_toArray, List.map_cons, List.map_nil, hs, hx, hr]
    exact hK _ _ h
/-- What spread answers. -/
def SpreadPost (f : Fl) (src avoid : List Int) (back : Bool) (w : World) (e : Ending) (w' : World) : Prop :=
  ∃ A c l, e = .returned (.slice A f.Kind.length c) ∧ IsDist f.Kind.length (spSrc f src avoid) (spE f avoid back) l ∧ Row w' w'.heap.size A (ivs l) ∧ Below w.heap.size w w'
theorem info_bool : (Tryz.prog.info? 4).map (fun i => (i.zero, i.size, i.bytes)) = some (some (.bool false), 1, 1) := by kernel_rfl
end Flo
end Go.Proofs.YtgophgnfiboefaaGreatDoor

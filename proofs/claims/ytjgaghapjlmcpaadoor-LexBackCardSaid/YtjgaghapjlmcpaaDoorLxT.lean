/- Tokens in memory; what a call that changes one block of its caller's leaves. -/
import Derived.Test.YtjgaghapjlmcpaaDoorBase
import Derived.Test.YtjgaghapjlmcpaaDoorLxC
namespace Go.Proofs.YtjgaghapjlmcpaaDoor
open Go.RowKit Wire Txt
set_option linter.unusedVariables false
set_option linter.unusedSimpArgs false
namespace Lx

def Tk.cells (t : Tk) : List Value := [.int .i64 t.kind, str t.text, .int .i64 t.n, .int .i64 t.line]
abbrev Tk.val (t : Tk) : Value := .agg #[.int .i64 t.kind, str t.text, .int .i64 t.n, .int .i64 t.line]
def tks (l : List Tk) : List Value := l.flatMap Tk.cells
theorem tks_nil : tks [] = [] := rfl
theorem tks_cons (t : Tk) (l : List Tk) : tks (t :: l) = [.int .i64 t.kind, str t.text, .int .i64 t.n, .int .i64 t.line] ++ tks l := rfl
theorem tks_append (a b : List Tk) : tks (a ++ b) = tks a ++ tks b := List.flatMap_append
theorem tks_one (t : Tk) : tks [t] = [.int .i64 t.kind, str t.text, .int .i64 t.n, .int .i64 t.line] := rfl
theorem tks_len (l : List Tk) : (tks l).length = l.length * 4 := by
  induction l with
  | nil => rfl
  | cons p r ih =>
    rw [tks_cons, List.length_append, ih]
    simp
    omega
theorem tks_drop (l : List Tk) (k : Nat) : (tks l).drop (k * 4) = tks (l.drop k) := by
  induction l generalizing k with
  | nil => simp [tks]
  | cons p r ih =>
    cases k with
    | zero => simp
    | succ k =>
      rw [List.drop_succ_cons, ← ih k, tks_cons, show (k + 1) * 4 = 4 + k * 4 from by omega, ← List.drop_drop]
      rfl
theorem tks_take (l : List Tk) (k : Nat) : (tks l).take (k * 4) = tks (l.take k) := by
  induction l generalizing k with
  | nil => simp [tks]
  | cons p r ih =>
    cases k with
    | zero => simp [tks]
    | succ k =>
      rw [List.take_succ_cons, tks_cons, tks_cons, ← ih k, show (k + 1) * 4 = k * 4 + 1 + 1 + 1 + 1 from by omega]
      rfl
theorem tks_at {l : List Tk} {i : Nat} {t : Tk} (h : l[i]? = some t) : (tks l)[i * 4]? = some (.int .i64 t.kind) ∧ (tks l)[i * 4 + 1]? = some (str t.text) ∧ (tks l)[i * 4 + 2]? = some (.int .i64 t.n) ∧ (tks l)[i * 4 + 3]? = some (.int .i64 t.line) := by
  have hlt := (List.getElem?_eq_some_iff.1 h).1
  have e : l.drop i = t :: l.drop (i + 1) := by
    rw [List.drop_eq_getElem_cons hlt]
    congr 1
    exact (List.getElem?_eq_some_iff.1 h).2
  have g : ∀ j, (tks l)[i * 4 + j]? = (tks (t :: l.drop (i + 1)))[j]? := fun j => by rw [← e, ← tks_drop, List.getElem?_drop]
  refine ⟨?_, ?_, ?_, ?_⟩
  · have := g 0; rw [Nat.add_zero] at this; rw [this]; rfl
  · rw [g 1]; rfl
  · rw [g 2]; rfl
  · rw [g 3]; rfl
theorem one_tks (l : List Tk) : ∀ u ∈ tks l, u.oneCell' = true := by
  intro u hu
  obtain ⟨p, _, hu⟩ := List.mem_flatMap.1 hu
  simp [Tk.cells] at hu
  rcases hu with rfl | rfl | rfl | rfl <;> rfl
theorem info_tk : (Tryd.prog.info? 31).map (fun i => (i.zero, i.size, i.bytes)) = some (some (.agg #[.int .i64 0, .string ⟨#[]⟩, .int .i64 0, .int .i64 0]), 4, 40) := by kernel_rfl
theorem eql_bool (p q : Tk) : (decide (p = q)) = (((p.kind : Int) == (q.kind : Int)) && (((⟨p.text.toArray⟩ : ByteArray).toList == (⟨q.text.toArray⟩ : ByteArray).toList) && ((p.n == q.n) && ((p.line : Int) == (q.line : Int))))) := by
  obtain ⟨a, b, c, d⟩ := p
  obtain ⟨e, f, g, h⟩ := q
  rw [Bool.eq_iff_iff]
  simp only [decide_eq_true_eq, Tk.mk.injEq, Bool.and_eq_true, beq_iff_eq, ByteArray.toList_eq, Int.natCast_inj]
theorem eql_tk (p q : Tk) (w : World) : (binOp .eql 31 p.val q.val).run Tryd.prog w = .ok (.bool (decide (p = q))) w := by
  rw [eql_bool]
  by_cases h1 : (p.kind : Int) = (q.kind : Int) <;> by_cases h2 : p.text = q.text <;> by_cases h3 : p.n = q.n <;> by_cases h4 : (p.line : Int) = (q.line : Int) <;> simp [go_sem, h1, h2, h3, h4]
theorem neq_tk (p q : Tk) (w : World) : (binOp .neq 31 p.val q.val).run Tryd.prog w = .ok (.bool (!decide (p = q))) w := by
  rw [eql_bool]
  by_cases h1 : (p.kind : Int) = (q.kind : Int) <;> by_cases h2 : p.text = q.text <;> by_cases h3 : p.n = q.n <;> by_cases h4 : (p.line : Int) = (q.line : Int) <;> simp [go_sem, h1, h2, h3, h4]

theorem Grow.tks {w : World} {B : Nat} {v : Value} {l : List Tk} (h : Grow w B 4 v l.length (tks l)) : ∃ A c, v = .slice A l.length c ∧ l.length ≤ c ∧ Row w w.heap.size A (tks l) := by
  rcases h.form with ⟨rfl, h0⟩ | ⟨g, cap, rfl, h1, h2, h3, h4, h5, h6, h7⟩
  · have hx : l = [] := List.eq_nil_of_length_eq_zero h0
    subst hx
    exact ⟨none, 0, rfl, Nat.le_refl _, fun k u hu => by simp [Lx.tks] at hu⟩
  · exact ⟨_, _, rfl, h3, fun k u hu => ⟨g, 0, rfl, h2, by rw [Nat.zero_add]; exact h7 k u hu⟩⟩
/-- A row's end, and its beginning. -/
theorem row_drop {w : World} {B g o : Nat} {l : List Tk} (h : Row w B (some ⟨g, o, none⟩) (tks l)) (k : Nat) : Row w B (some ⟨g, o + k * 4, none⟩) (tks (l.drop k)) := by
  intro j u hu
  rw [← tks_drop, List.getElem?_drop] at hu
  obtain ⟨b, o', e, h1, h2⟩ := h _ u hu
  injection e with e
  injection e with e1 e2
  subst e1 e2
  exact ⟨_, _, rfl, h1, by rw [Nat.add_assoc]; exact h2⟩
theorem row_take {w : World} {B : Nat} {A : Option Addr} {l : List Tk} (h : Row w B A (tks l)) (k : Nat) : Row w B A (tks (l.take k)) := by
  intro j u hu
  rw [← tks_take] at hu
  have hj : j < k * 4 := by
    have := (List.getElem?_eq_some_iff.1 hu).1
    rw [List.length_take] at this
    omega
  rw [List.getElem?_take_of_lt hj] at hu
  exact h j u hu
/-- A token of a row. -/
theorem row_tk {w : World} {B : Nat} {A : Option Addr} {l : List Tk} (h : Row w B A (tks l)) {i : Nat} {t : Tk} (ht : l[i]? = some t) : ∃ b o, A = some ⟨b, o, none⟩ ∧ b < B ∧
    w.cell? ⟨b, o + i * 4, none⟩ = some (.int .i64 t.kind) ∧ w.cell? ⟨b, o + i * 4 + 1, none⟩ = some (str t.text) ∧ w.cell? ⟨b, o + i * 4 + 2, none⟩ = some (.int .i64 t.n) ∧ w.cell? ⟨b, o + i * 4 + 3, none⟩ = some (.int .i64 t.line) := by
  obtain ⟨h0, h1, h2, h3⟩ := tks_at ht
  obtain ⟨b, o, rfl, hb0, c0⟩ := h _ _ h0
  have same : ∀ k u, (tks l)[k]? = some u → w.cell? ⟨b, o + k, none⟩ = some u := by
    intro k u hu
    obtain ⟨b1, o1, e1, _, c1⟩ := h _ _ hu
    injection e1 with e1
    injection e1 with e1 e2
    subst e1 e2
    exact c1
  exact ⟨b, o, rfl, hb0, c0, by rw [Nat.add_assoc]; exact same _ _ h1, by rw [Nat.add_assoc]; exact same _ _ h2, by rw [Nat.add_assoc]; exact same _ _ h3⟩

/-! A list of tokens as an answer. -/
/-- v is a slice of these tokens, which can be read. -/
structure Has (w : World) (v : Value) (l : List Tk) : Prop where
  is : ∃ A c, v = .slice A l.length c ∧ l.length ≤ c ∧ Row w w.heap.size A (tks l)
theorem Has.keep {w w' : World} {v : Value} {l : List Tk} (h : Has w v l) (b : Below w.heap.size w w') : Has w' v l := by
  obtain ⟨A, c, e, h1, h2⟩ := h.is
  exact ⟨A, c, e, h1, h2.lift b⟩

/-! A block of the caller's own changes. -/
theorem only_one {w w' : World} {g : Nat} (h : Below w.heap.size w w') : w.grownBy w' (some g) := below_none h _
theorem only_set {w : World} {g i : Nat} {u : Value} : w.grownBy (w.setCell ⟨g, i, none⟩ u) (some g) := grown_set w g i u
theorem blk_only {w w' : World} {g h : Nat} {t : TypeId} {cs : Array Value} (hb : Blk w h t cs) (hg : w.grownBy w' (some g)) (hne : h ≠ g) : Blk w' h t cs := hb.past hg (fun e => hne (Option.some.inj e))

end Lx
end Go.Proofs.YtjgaghapjlmcpaaDoor

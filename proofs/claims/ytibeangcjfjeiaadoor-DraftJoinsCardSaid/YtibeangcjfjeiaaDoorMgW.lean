/- strings.Builder: WriteString, Len, String, over the library's own words for a builder. Package lex: Write. -/
import Derived.Test.YtibeangcjfjeiaaDoorMgH
import Derived.Lib.Builder
import Derived.Lib.AppendStr
import Derived.Lib.UnsafeStr
import Derived.Test.YtibeangcjfjeiaaDoorLxU
import Derived.Test.YtibeangcjfjeiaaDoorQuot
namespace Go.Proofs.YtibeangcjfjeiaaDoor
open Go.RowKit Wire
open Txt (str info_byte)
set_option linter.unusedVariables false
set_option maxRecDepth 100000
set_option linter.unusedSimpArgs false
namespace Bld

/-- A builder of the call's own (from block B on) that holds these bytes. -/
abbrev Is (B b : Nat) (l : List UInt8) (w : World) : Prop := Lib.IsBuilder 61 5 B b (Lib.byteCells l) w
abbrev ptr (b : Nat) : Value := .pointer (some ⟨b, 0, none⟩)

theorem size_builder : (Tryd.prog.info? 61).map (·.size) = some 2 := by kernel_rfl
theorem lies_builder : liesAt Tryd.prog Tryd.prog.depth 61 (2 / Tryd.prog.cellsOf 61) 0 61 1 = true := by kernel_rfl
theorem cells_byte : Tryd.prog.cellsOf 5 = 1 := by kernel_rfl
theorem ne_byte : (61 : TypeId) ≠ 5 := by decide

section
variable {w w' : World} {B b : Nat} {l : List UInt8}
theorem Is.some (h : Is B b l w) : ∃ p, Lib.BuilderAt 61 5 B b p (Lib.byteCells l) w := by
  rcases h with h | h
  · exact ⟨_, h⟩
  · exact ⟨_, h⟩
theorem at_keep {p : Value} {bs : List Value} (h : Lib.BuilderAt 61 5 B b p bs w) (k : Below w.heap.size w w') : Lib.BuilderAt 61 5 B b p bs w' := by
  have hlt := h.lt
  obtain ⟨hB, v, hb, hown, hne⟩ := h
  exact ⟨hB, v, (k.block b hlt).trans hb, hown.kept (below_none k (some b)) (.inr hne), hne⟩
/-- What only adds blocks leaves a builder as it is. -/
theorem Is.keep (h : Is B b l w) (k : Below w.heap.size w w') : Is B b l w' := by
  rcases h with h | h
  · exact .inl (at_keep h k)
  · exact .inr (at_keep h k)
theorem Is.fresh (w : World) : Is w.heap.size w.heap.size [] (w.alloc (.cells #[.pointer none, .slice none 0 0] 61)) := Lib.fresh_isBuilder _ _ w
end

theorem run_same (w : World) (b : Nat) : (binOp .neq 58 (ptr b) (ptr b)).run Tryd.prog w = .ok (.bool false) w := by
  obtain ⟨j, hj, _⟩ := Option.map_eq_some_iff.1 size_builder
  exact Lib.run_neq_ptr_same w ⟨b, 0, none⟩ Tryd.underlying58 hj
theorem run_noescape (w : World) (v : Value) : (callFunc 75 #[v]).run Tryd.prog w = .ok (.value v) w := by
  rw [run_callFunc_extern (fn := Tryd.f75) (by kernel_rfl) (by kernel_rfl) (by kernel_rfl) (by kernel_rfl) (e := Extern.AbiNoEscape.same) (by kernel_rfl), Lib.run_noEscape]
  rfl

set_option maxRecDepth 100000 in
set_option maxHeartbeats 1000000 in
theorem check_used (b : Nat) (w : World) (h0 : w.cell? ⟨b, 0, none⟩ = some (ptr b)) : Calls Tryd.prog 52 #[ptr b] w fun e w' => e = .returned (.tuple #[]) ∧ w = w' := by
  have hs := run_same w b
  go_enter Tryd.func52, Tryd.ntmps52
  go_wp2_with fail
  go_end0
  exact ⟨rfl, rfl⟩

set_option maxRecDepth 100000 in
set_option maxHeartbeats 1000000 in
theorem check_fresh (b : Nat) (w : World) (h0 : w.cell? ⟨b, 0, none⟩ = some (.pointer none)) (hsh : w.shape? b = some (61, 2)) (hfz : w.frozen? ⟨b, 0, none⟩ = false) :
    Calls Tryd.prog 52 #[ptr b] w fun e w' => e = .returned (.tuple #[]) ∧ w' = w.setCell ⟨b, 0, none⟩ (ptr b) := by
  obtain ⟨j, hj, hjs⟩ := Option.map_eq_some_iff.1 size_builder
  have h1 := Lib.run_to_unsafe (P := Tryd.prog) w ⟨b, 0, none⟩ Tryd.underlying58 Tryd.underlying109 hj (by rw [hjs]; decide) hsh (Nat.zero_lt_succ 1)
  have h2 := Lib.run_from_unsafe (P := Tryd.prog) w ⟨b, 0, none⟩ Tryd.underlying109 Tryd.underlying58 hj hsh lies_builder
  have h3 := run_noescape w (ptr b)
  have h4 := run_same (w.setCell ⟨b, 0, none⟩ (ptr b)) b
  clear hj hjs hsh
  go_enter Tryd.func52, Tryd.ntmps52
  go_wp2_with fail
  go_end0
  exact ⟨rfl, rfl⟩

theorem check_any {B b : Nat} {l : List UInt8} {w : World} (h : Is B b l w) : Calls Tryd.prog 52 #[ptr b] w fun e w' => e = .returned (.tuple #[]) ∧ Lib.BuilderAt 61 5 B b (ptr b) (Lib.byteCells l) w' ∧ Below B w w' := by
  rcases h with h | h
  · refine (check_fresh b w h.cell0 h.shape h.frozen0).mono ?_
    rintro e w' ⟨rfl, rfl⟩
    exact ⟨rfl, h.used _, (Below.refl B w).setCell (p := ⟨b, 0, none⟩) h.1 _⟩
  · refine (check_used b w h.cell0).mono ?_
    rintro e w' ⟨rfl, rfl⟩
    exact ⟨rfl, h, Below.refl B _⟩

section
variable {w w' : World} {B b : Nat} {l : List UInt8}
theorem opened (h : Lib.BuilderAt 61 5 B b (ptr b) (Lib.byteCells l) w) : ∃ v, w.heap[b]? = some (.cells #[ptr b, v] 61 (0, 0)) ∧ w.ownsRow B 5 1 v l.length (Lib.byteCells l) ∧ w.cell? ⟨b, 0, none⟩ = some (ptr b) ∧ w.cell? ⟨b, 1, none⟩ = some v := by
  obtain ⟨hB, v, hb, hown, hne⟩ := h
  rw [Lib.byteCells_length] at hown
  exact ⟨v, hb, hown, by rw [Lib.cell_of_heap hb]; rfl, by rw [Lib.cell_of_heap hb]; rfl⟩
theorem own_slice {e : TypeId} {n : Nat} {v : Value} {xs : List Value} (h : w.ownsRow B e 1 v n xs) : ∃ a c, v = .slice a n c := by
  rcases h.2 with ⟨hv, h0⟩ | ⟨g, cap, cur, hv, _⟩
  · exact ⟨none, 0, by rw [hv, h0]⟩
  · exact ⟨_, _, hv⟩
theorem grown {v : Value} (h : Lib.BuilderAt 61 5 B b (ptr b) (Lib.byteCells l) w) (ho : w.ownsRow B 5 1 v l.length (Lib.byteCells l)) (hv : w.heap[b]? = some (.cells #[ptr b, v] 61 (0, 0))) (hg : w.grownBy w' v.ownBlock) :
    w'.cell? ⟨b, 0, none⟩ = some (ptr b) ∧ w'.cell? ⟨b, 1, none⟩ = some v ∧ w'.frozen? ⟨b, 1, none⟩ = false ∧ ∀ v2 (bs : List Value), w'.ownsRow B 5 1 v2 bs.length bs → Lib.BuilderAt 61 5 B b (ptr b) bs (w'.setCell ⟨b, 1, none⟩ v2) := by
  have hne := Lib.ownBlock_ne ho hv ne_byte
  have hb2 := (hg.block b h.lt (fun e => hne e.symm)).trans hv
  exact ⟨by rw [Lib.cell_of_heap hb2]; rfl, by rw [Lib.cell_of_heap hb2]; rfl, Lib.frozen_of_heap hb2 1, fun v2 bs k => Lib.BuilderAt.put h.1 hb2 k ne_byte⟩
end

set_option maxRecDepth 100000 in
set_option maxHeartbeats 2000000 in
theorem write_any {B b : Nat} {l : List UInt8} {w : World} (m : List UInt8) (h : Is B b l w) (hlen : l.length + m.length ≤ 140737488355328) (hB : B ≤ w.heap.size) :
    Calls Tryd.prog 28 #[ptr b, str m] w fun e w' => e = .returned (.tuple #[.int .i64 m.length, .nilIface]) ∧ Is B b (l ++ m) w' ∧ Below B w w' := by
  obtain ⟨i0, hi, hz0, hz1, hz2⟩ := info_parts info_byte
  have hsz : (⟨m.toArray⟩ : ByteArray).size = m.length := rfl
  have hsc : Lib.strCells ⟨m.toArray⟩ = Lib.byteCells m := rfl
  unfold str
  generalize (⟨m.toArray⟩ : ByteArray) = s at *
  go_enter Tryd.func28, Tryd.ntmps28
  have HC := Lib.hid (check_any h)
  clear h
  go_wp2_with (first
    | (go_at_call 52; refine HC.out.mono ?_; rintro e w1 ⟨rfl, h1, hb1⟩
       obtain ⟨v, hb2, hown, c0, c1⟩ := opened h1
       have hs1 := hb1.size)
    | (at_builtin; refine Lib.wpList_append_own_string _ rfl _ _ 59 9 rfl B 5 i0 Tryd.underlying59 Tryd.underlying9 hi hz0 hz1 hz2 _ _ _ rfl hown s rfl (by unfold maxLen; omega) (by omega) (by omega) ?_; intro v2 w2 hown2 hg _; obtain ⟨ao, cp, rfl⟩ := own_slice hown2
       obtain ⟨d0, d1, f1, hput⟩ := grown h1 hown hb2 hg))
  go_returns
  rw [hsz] at hown2
  exact ⟨rfl, .inr (hput _ _ (by rw [hsc, ← Lib.byteCells_append] at hown2; rw [Lib.byteCells_length, List.length_append]; exact hown2)), (hb1.grown hg (by omega) (fun k hk => (hown.lt k hk).1)).setCell (p := ⟨b, 1, none⟩) h1.1 _⟩

theorem str_none (w : World) (q : Option Addr) : (Builtin.unsafeString_ #[95, 3] 9 #[.pointer q, .int .i64 0]).run Tryd.prog w = .ok (.string .empty) w := Lib.run_unsafeString_none w _ _ _ q

set_option maxRecDepth 100000 in
set_option maxHeartbeats 2000000 in
theorem string_some {B b : Nat} {l : List UInt8} {w : World} (h : Is B b l w) (h0 : l ≠ []) : Calls Tryd.prog 32 #[ptr b] w fun e w' => e = .returned (str l) ∧ Below B w w' := by
  obtain ⟨p, hB, v, hbk, hown, hne⟩ := h.some
  have hl0 : l.length ≠ 0 := by simpa using h0
  rw [Lib.byteCells_length] at hown
  obtain ⟨g, cap, cur, rfl, hbg, hg, hnc, hcm, hcs, htake⟩ := hown.2.resolve_left (fun e => hl0 e.2)
  have c1 : w.cell? ⟨b, 1, none⟩ = some (.slice (some ⟨g, 0, none⟩) l.length cap) := by rw [Lib.cell_of_heap hbk]; rfl
  have hSD : (Builtin.unsafeSliceData_ #[59] 95 #[.slice (some ⟨g, 0, none⟩) l.length cap]).run Tryd.prog w.drew = .ok (.pointer (some ⟨g, 0, none⟩)) w.drew := Lib.run_unsafeSliceData_row _ _ _ _ _ _ (by omega)
  have hUS : (Builtin.unsafeString_ #[95, 3] 9 #[.pointer (some ⟨g, 0, none⟩), .int .i64 l.length]).run Tryd.prog w.drew = .ok (str l) (w.drew.freeze ⟨g, 0, none⟩ l.length) := by
    refine Lib.run_unsafeString_row w.drew 95 3 9 5 Tryd.underlying95 cells_byte g cur.size (by have hg2 : w.drew.heap[g]? = some (.cells cur 5 (0, 0)) := hg; simp [World.shape?, hg2]) l h0 (by omega) (by unfold maxLen at hcm; omega) ?_
    intro j x hx
    exact hown.cells (g := g) rfl j (.int .u8 x.toNat) (by simp [Lib.byteCells, hx])
  have HB := Lib.hid (Lib.below_freeze (Below.drew (Below.refl B w)) (p := ⟨g, 0, none⟩) hbg l.length)
  clear h hbk hown hne hg hcs htake hB hbg
  unfold str at hUS ⊢
  generalize (⟨l.toArray⟩ : ByteArray) = s at *
  go_enter Tryd.func32, Tryd.ntmps32
  go_wp2_with fail
  go_region
  all_goals (go_wp2_with fail; go_ret; exact ⟨rfl, HB.out⟩)

set_option maxRecDepth 100000 in
set_option maxHeartbeats 2000000 in
theorem string_none {B b : Nat} {w : World} (h : Is B b [] w) (hBw : B ≤ w.heap.size) : Calls Tryd.prog 32 #[ptr b] w fun e w' => e = .returned (str []) ∧ Below B w w' := by
  obtain ⟨p, hB, v, hbk, hown, hne⟩ := h.some
  have hlt : b < w.heap.size := World.block_lt_of_cell? w ⟨b, 1, none⟩ (u := v) (by rw [Lib.cell_of_heap hbk]; rfl)
  have hUS := str_none
  rcases hown.2 with ⟨rfl, _⟩ | ⟨g, cap, cur, rfl, hbg, hg, _, _, _, _⟩
  · have c1 : w.cell? ⟨b, 1, none⟩ = some (.slice none 0 0) := by rw [Lib.cell_of_heap hbk]; rfl
    have hSD : (Builtin.unsafeSliceData_ #[59] 95 #[.slice none 0 0]).run Tryd.prog w.drew = .ok (.pointer none) w.drew := rfl
    clear h hbk hown hne
    go_enter Tryd.func32, Tryd.ntmps32
    go_wp2_with fail
    go_region
    all_goals (go_wp2_with fail; go_ret; exact ⟨rfl, Below.drew (Below.refl B w)⟩)
  · by_cases hc : cap = 0
    · subst hc
      have c0 : w.cell? ⟨b, 1, none⟩ = some (.slice (some ⟨g, 0, none⟩) 0 0) := by rw [Lib.cell_of_heap hbk]; rfl
      have hSD : (Builtin.unsafeSliceData_ #[59] 95 #[.slice (some ⟨g, 0, none⟩) 0 0]).run Tryd.prog w.drew = .ok (.pointer (some ⟨w.drew.heap.size, 0, none⟩)) (w.drew.alloc (.view ⟨g, 0, none⟩ 5)) :=
        Lib.run_unsafeSliceData_zero w.drew _ _ 5 Tryd.underlying95 ⟨g, 0, none⟩ 0 (5, cur.size) (by have hg2 : w.drew.heap[g]? = some (.cells cur 5 (0, 0)) := hg; simp [World.shape?, hg2])
      have c2 : (w.alloc (.view ⟨g, 0, none⟩ 5)).cell? ⟨b, 1, none⟩ = some (.slice (some ⟨g, 0, none⟩) 0 0) := by
        have e : (w.alloc (.view ⟨g, 0, none⟩ 5)).heap[b]? = _ := (Lib.alloc_old w _ b hlt).trans hbk
        rw [Lib.cell_of_heap e]; rfl
      clear h hbk hown hne hg
      go_enter Tryd.func32, Tryd.ntmps32
      go_wp2_with fail
      go_region
      all_goals (go_wp2_with fail; go_ret; exact ⟨rfl, (Below.drew (Below.refl B w)).alloc hBw _⟩)
    · have c1 : w.cell? ⟨b, 1, none⟩ = some (.slice (some ⟨g, 0, none⟩) 0 cap) := by rw [Lib.cell_of_heap hbk]; rfl
      have hSD : (Builtin.unsafeSliceData_ #[59] 95 #[.slice (some ⟨g, 0, none⟩) 0 cap]).run Tryd.prog w.drew = .ok (.pointer (some ⟨g, 0, none⟩)) w.drew := Lib.run_unsafeSliceData_row _ _ _ _ _ _ hc
      clear h hbk hown hne hg hc
      go_enter Tryd.func32, Tryd.ntmps32
      go_wp2_with fail
      go_region
      all_goals (go_wp2_with fail; go_ret; exact ⟨rfl, Below.drew (Below.refl B w)⟩)
theorem string_any {B b : Nat} {l : List UInt8} {w : World} (h : Is B b l w) (hBw : B ≤ w.heap.size) : Calls Tryd.prog 32 #[ptr b] w fun e w' => e = .returned (str l) ∧ Below B w w' := by
  cases l with
  | nil => exact string_none h hBw
  | cons x r => exact string_some h (by simp)
end Bld
end Go.Proofs.YtibeangcjfjeiaaDoor

namespace Go.Proofs.YtibeangcjfjeiaaDoor
open Go.RowKit Wire Txt
set_option linter.unusedVariables false
set_option maxRecDepth 100000
set_option linter.unusedSimpArgs false
namespace Lx

/-- Tokens that are not too long. -/
def Short (l : List Tk) : Prop := l.length ≤ 100000 ∧ ∀ t ∈ l, t.text.length ≤ 100000 ∧ t.kind ≤ 4
theorem wr1_len {t : Tk} (h : t.text.length ≤ 100000) : (wr1 t).length ≤ 400010 := by
  have hq := quo_len t.text
  unfold wr1
  split
  · simp; omega
  · split
    · simp; omega
    · split <;> simp
theorem wr_room {l : List Tk} (h : Short l) (i : Nat) : (wrP (l.take i)).length ≤ 400010 * 100000 := by
  have key : ∀ (l : List Tk), (∀ t ∈ l, t.text.length ≤ 100000 ∧ t.kind ≤ 4) → (wrP l).length ≤ 400010 * l.length := by
    intro l
    induction l with
    | nil => intro _; simp [wrP]
    | cons t l ih =>
      intro h
      have h1 := wr1_len (h t (by simp)).1
      have h2 := ih fun u hu => h u (by simp [hu])
      show (wr1 t ++ wrP l).length ≤ _
      rw [List.length_append, List.length_cons]
      omega
  have h1 := key (l.take i) fun t ht => h.2 t (List.mem_of_mem_take ht)
  have h2 : (l.take i).length ≤ 100000 := by rw [List.length_take]; have := h.1; omega
  omega
theorem wr_next {l : List Tk} {i : Nat} {t : Tk} (h : l[i]? = some t) : wrP (l.take (i + 1)) = wrP (l.take i) ++ wr1 t := by
  obtain ⟨hi, rfl⟩ := List.getElem?_eq_some_iff.1 h
  rw [List.take_succ_eq_append_getElem hi]
  unfold wrP
  rw [List.flatMap_append]
  simp

structure WRel (W : World) (A : Option Addr) (l : List Tk) (w : World) (i : Nat) : Prop where
  out : Bld.Is W.heap.size W.heap.size (wrP (l.take i)) w
  row : Row w W.heap.size A (tks l)
  le : i ≤ l.length
  below : Below W.heap.size W w
theorem WRel.next {W w w1 : World} {A : Option Addr} {l : List Tk} {i : Nat} {t : Tk} {o : Obj} (h : WRel W A l w i) (ht : l[i]? = some t) (h1 : Bld.Is W.heap.size W.heap.size (wrP (l.take i) ++ wr1 t) w1) (b : Below W.heap.size (w.alloc o) w1) : WRel W A l w1 (i + 1) := by
  have hlt := (List.getElem?_eq_some_iff.1 ht).1
  have b2 : Below W.heap.size w w1 := ((Below.refl _ w).alloc h.below.size o).trans b
  refine ⟨by rw [wr_next ht]; exact h1, h.row.below b2, hlt, h.below.trans b2⟩
theorem WRel.same {W w : World} {A : Option Addr} {l : List Tk} {i : Nat} {t : Tk} {o : Obj} (h : WRel W A l w i) (ht : l[i]? = some t) (h4 : wr1 t = []) : WRel W A l (w.alloc o) (i + 1) := by
  have b2 : Below w.heap.size w (w.alloc o) := (Below.refl _ w).alloc (Nat.le_refl _) o
  refine h.next ht ?_ (Below.refl _ _) (o := o)
  rw [h4, List.append_nil]
  exact h.out.keep b2
theorem cat_b (x y : ByteArray) : Value.string (x ++ y) = str (bl x ++ bl y) := by
  obtain ⟨⟨a⟩⟩ := x
  obtain ⟨⟨b⟩⟩ := y
  exact congrArg Value.string (cat_bytes a b)

end Lx
end Go.Proofs.YtibeangcjfjeiaaDoor

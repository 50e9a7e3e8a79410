/- Package lex: the reader's lineFeed and text. How a draft that came in reads. The parser in memory; take. The parser's deck. -/
import Derived.Test.YtibeangcjfjeiaaDoorMgJ
import Derived.Test.YtibeangcjfjeiaaDoorUnqt
import Derived.Test.YtibeangcjfjeiaaDoorMgH
import Derived.ProofKit
import Derived.Deep.Fields
import Derived.Deep.Slices
import Derived.SliceStrings
import Derived.OpenShut
import Derived.Test.YtibeangcjfjeiaaDoorDpA
import Derived.Deep.DeepMust
namespace Go.Proofs.YtibeangcjfjeiaaDoor
open Go.RowKit Wire Txt
set_option linter.unusedVariables false
set_option maxRecDepth 100000
set_option linter.unusedSimpArgs false
namespace Lx

section
variable {w w1 w2 : World} {b : Nat} {row : Option Nat}
theorem ch_alloc (h : w.grownBy w1 row) (o : Obj) : w.grownBy (w1.alloc o) row := grown_trans h (below_none ((Below.refl _ _).alloc (Nat.le_refl _) _) _)
theorem ch_below (h : w.grownBy w1 row) (b1 : Below w1.heap.size w1 w2) : w.grownBy w2 row := grown_trans h (below_none b1 _)
theorem ch_refl (w : World) (row : Option Nat) : w.grownBy w row := below_none (Below.refl _ _) _
theorem ch_poke (h : w.grownBy w1 (some b)) {r : Nat} (hr : w.heap.size ≤ r) (i : Nat) (u : Value) : w.grownBy (w1.setCell ⟨r, i, none⟩ u) (some b) := by
  refine ⟨h.os, h.tape, h.output, by have := h.size; simp [World.setCell]; exact this, fun k hk hne => ?_⟩
  rw [← h.block k hk hne]
  exact Below.heap_setCell _ _ _ _ (fun e => by have : k = r := e; omega)
theorem rd_lt {l : List UInt8} {L : Nat} (h : RD w b l L) : b < w.heap.size := h.inside
theorem rd_alloc {l : List UInt8} {L : Nat} (h : RD w b l L) (o : Obj) : RD (w.alloc o) b l L := h.kept o
theorem rd_below {l : List UInt8} {L : Nat} (h : RD w b l L) (b1 : Below w.heap.size w w1) : RD w1 b l L := h.under b1 h.inside
theorem rd_poke {l : List UInt8} {L r : Nat} (h : RD w b l L) (hr : b ≠ r) (i : Nat) (u : Value) : RD (w.setCell ⟨r, i, none⟩ u) b l L := h.aside (p := ⟨r, i, none⟩) hr u
theorem ch_poke4 (h : w.grownBy w1 (some b)) {r : Nat} (hr : w.heap.size ≤ r) (u0 u1 u2 u3 : Value) : w.grownBy ((((w1.setCell ⟨r, 0, none⟩ u0).setCell ⟨r, 1, none⟩ u1).setCell ⟨r, 2, none⟩ u2).setCell ⟨r, 3, none⟩ u3) (some b) := ch_poke (ch_poke (ch_poke (ch_poke h hr 0 u0) hr 1 u1) hr 2 u2) hr 3 u3
theorem rd_poke4 {l : List UInt8} {L r : Nat} (h : RD w b l L) (hr : b ≠ r) (u0 u1 u2 u3 : Value) : RD ((((w.setCell ⟨r, 0, none⟩ u0).setCell ⟨r, 1, none⟩ u1).setCell ⟨r, 2, none⟩ u2).setCell ⟨r, 3, none⟩ u3) b l L := rd_poke (rd_poke (rd_poke (rd_poke h hr 0 u0) hr 1 u1) hr 2 u2) hr 3 u3
/-- A token's block that is not the reader's. -/
abbrev TB (w : World) (r : Nat) (cs : Array Value) : Prop := Blk w r 42 cs
theorem tb_past {r : Nat} {cs : Array Value} (h : TB w r cs) (g : w.grownBy w1 (some b)) (hr : r ≠ b) : TB w1 r cs := h.past g (fun e => hr (Option.some.inj e))
end

abbrev zeroTk : Value := .agg #[.int .i64 0, .string ⟨#[]⟩, .int .i64 0, .int .i64 0]
/-- What reading one token leaves. -/
def ROut (w : World) (b L : Nat) (T : Tr) (e : Ending) (w' : World) : Prop := w.grownBy w' (some b) ∧
  match T with
  | .bad er => e = .returned (.tuple #[zeroTk, .int .i64 er]) ∧ ∃ l, RD w' b l L
  | .got kind text n rest => e = .returned (.tuple #[Tk.val ⟨kind, text, n, L⟩, .int .i64 0]) ∧ RD w' b rest (nxt kind L)

set_option maxHeartbeats 1000000 in
theorem lineFeed_any {w : World} {b : Nat} {r : List UInt8} {L : Nat} (h : RD w b (10 :: r) L) (hl : r.length ≤ 900000000) (hL : L ≤ 1000000000) :
    Calls Tryd.prog 42 #[ptr b] w (ROut w b L (.got 3 [] 0 r)) := by
  have hlt := rd_lt h
  have c1 : w.cell? ⟨b, 1, none⟩ = some (.int .i64 L) := h.at 1
  have HR : Hid (∀ o o2, RD ((w.alloc o).alloc o2) b (10 :: r) L) := Lib.hid fun o o2 => rd_alloc (rd_alloc h o) o2
  have HT : Hid (∀ w1, RD w1 b (10 :: r) L → Calls Tryd.prog 61 #[ptr b, .int .i64 1] w1 fun e w' => e = .returned (str [10]) ∧ RD w' b r L ∧ w1.grownBy w' (some b)) := Lib.hid fun w1 h1 => take_any h1 (n := 1) (by simp) (by simp only [List.length_cons]; omega)
  clear h
  go_enter Tryd.func42, Tryd.ntmps42
  go_wp2_with (go_at_call 61; refine (HT.out _ (HR.out _ _)).mono ?_; rintro e w3 ⟨rfl, h3, g3⟩
               have H3 := Lib.hid h3
               have G3 := Lib.hid (grown_trans (ch_alloc (ch_alloc (ch_refl w (some b)) _) _) g3)
               have r3 := tb_past (Blk.kept (Blk.fresh w _ _) _) g3 (by omega)
               have q3 := tb_past (r := w.heap.size + 1) (by have := Blk.fresh (w.alloc (.cells #[.int .i64 0, .string ⟨#[]⟩, .int .i64 0, .int .i64 0] 42)) 42 #[.int .i64 3, .string ⟨#[]⟩, .int .i64 0, .int .i64 L]; simpa using this) g3 (by omega)
               have d1 := h3.at 1
               have e1 := h3.thaw 1
               have t0 := r3.at 0
               have t1 := r3.at 1
               have t2 := r3.at 2
               have t3 := r3.at 3
               have f0 := r3.thaw 0
               have f1 := r3.thaw 1
               have f2 := r3.thaw 2
               have f3 := r3.thaw 3
               have k0 := q3.at 0
               have k1 := q3.at 1
               have k2 := q3.at 2
               have k3 := q3.at 3
               clear h3 g3 r3 q3)
  have hz : RD (w3.setCell ⟨b, 1, none⟩ (.int .i64 ((L : Int) + 1))) b r (L + 1) := Blk.put H3.out 1 (.int .i64 ((L : Int) + 1))
  have hg : w.grownBy (w3.setCell ⟨b, 1, none⟩ (.int .i64 ((L : Int) + 1))) (some b) := grown_trans G3.out only_set
  exact bodyPost_ret (v := .tuple #[Tk.val ⟨3, [], 0, L⟩, .int .i64 0]) (by simp [results, Tryd.results42, go_sem, t0, t1, t2, t3]) rfl ⟨ch_poke4 hg (Nat.le_refl _) _ _ _ _, rfl, rd_poke4 hz (by omega) _ _ _ _⟩

/-- A text, by the number of bytes that the program takes. -/
theorem text_n (r : List UInt8) : ∃ n, tsz (r.length + 1) 1 (clo false r) = n ∧ n ≤ r.length + 1 ∧ textT r = if unqB ((34 :: r).take n) = true then .got 2 (unqV ((34 :: r).take n)) 0 ((34 :: r).drop n) else .bad 11 := by
  unfold textT
  cases hk : clo false r with
  | none =>
    refine ⟨r.length + 1, rfl, Nat.le_refl _, ?_⟩
    have e : (34 :: r).take (r.length + 1) = 34 :: r := List.take_of_length_le (by simp)
    rw [e, if_neg (by rw [clo_none hk]; decide)]
  | some k =>
    have := clo_le _ _ _ hk
    refine ⟨1 + k, rfl, by omega, ?_⟩
    rw [Nat.add_comm 1 k]
    rfl

set_option maxHeartbeats 1000000 in
theorem text_any {w : World} {b : Nat} {r : List UInt8} {L : Nat} (h : RD w b (34 :: r) L) (hl : r.length ≤ 900000000) :
    Calls Tryd.prog 43 #[ptr b] w (ROut w b L (textT r)) := by
  obtain ⟨n, hz, hn, hT⟩ := text_n r
  rw [hT]
  obtain ⟨s, hs⟩ := mk_bl (34 :: r)
  have hsz : s.size = r.length + 1 := by rw [← bl_len, hs]; rfl
  have hlt := rd_lt h
  have c0 : w.cell? ⟨b, 0, none⟩ = some (.string s) := by have := h.at 0; rw [← hs] at this; exact this
  have c1 : w.cell? ⟨b, 1, none⟩ = some (.int .i64 L) := h.at 1
  have HS := Lib.hid (fun w => textSize_any s w (by omega) (by omega))
  rw [show (bl s).drop 1 = r by rw [hs]; rfl, hsz, hz] at HS
  obtain ⟨x, hx⟩ := mk_bl ((34 :: r).take n)
  have hxl : x.size ≤ r.length + 1 := by rw [← bl_len, hx, List.length_take]; simp; omega
  have HR : Hid (∀ o, RD (w.alloc o) b (34 :: r) L) := Lib.hid fun o => rd_alloc h o
  have HT : Hid (∀ w1, RD w1 b (34 :: r) L → Calls Tryd.prog 61 #[ptr b, .int .i64 n] w1 fun e w' => e = .returned (.string x) ∧ RD w' b ((34 :: r).drop n) L ∧ w1.grownBy w' (some b)) := Lib.hid fun w1 h1 => by
    have := take_any h1 (n := n) (by simp only [List.length_cons]; omega) (by simp only [List.length_cons]; omega)
    rw [← hx] at this
    exact this
  have HU := Lib.hid (fun w => unquote_any x (by omega) w)
  rw [← hx]
  generalize (34 :: r).drop n = rest at HT ⊢
  generalize unqB (bl x) = ub at HU ⊢
  generalize unqV (bl x) = uv at HU ⊢
  have HLT := Lib.hid hlt
  clear h hs hsz hz hn hT hx hxl hl
  cases ub with
  | false =>
    go_enter Tryd.func43, Tryd.ntmps43
    go_wp2_with (first
      | (go_at_call 63; refine (HS.out _).mono ?_; rintro e w2 ⟨rfl, rfl⟩)
      | (go_at_call 61; refine (HT.out _ (HR.out _)).mono ?_; rintro e w3 ⟨rfl, h3, g3⟩
         have H3 := Lib.hid h3
         have G3 := Lib.hid (grown_trans (ch_alloc (ch_refl w (some b)) _) g3)
         have R3 := Lib.hid (tb_past (Blk.fresh w _ _) g3 (by omega))
         clear h3 g3)
      | (go_at_call 62; refine (HU.out _).mono ?_; rintro e w4 ⟨rfl, b4⟩
         have H4 := Lib.hid (rd_below H3.out b4)
         have G4 := Lib.hid (ch_below G3.out b4)
         have r4 := R3.out.under b4 R3.out.inside
         have d1 := H4.out.at 1
         have t0 := r4.at 0
         have t1 := r4.at 1
         have t2 := r4.at 2
         have t3 := r4.at 3
         have f0 := r4.thaw 0
         have f1 := r4.thaw 1
         have f2 := r4.thaw 2
         have f3 := r4.thaw 3
         clear b4 r4))
    exact bodyPost_ret (v := .tuple #[zeroTk, .int .i64 11]) (by simp [results, Tryd.results43, go_sem, t0, t1, t2, t3, zeroTk]) rfl ⟨ch_poke4 G4.out (Nat.le_refl _) _ _ _ _, rfl, _, rd_poke4 H4.out (by have := HLT.out; omega) _ _ _ _⟩
  | true =>
    go_enter Tryd.func43, Tryd.ntmps43
    go_wp2_with (first
      | (go_at_call 63; refine (HS.out _).mono ?_; rintro e w2 ⟨rfl, rfl⟩)
      | (go_at_call 61; refine (HT.out _ (HR.out _)).mono ?_; rintro e w3 ⟨rfl, h3, g3⟩
         have H3 := Lib.hid h3
         have G3 := Lib.hid (grown_trans (ch_alloc (ch_refl w (some b)) _) g3)
         have R3 := Lib.hid (tb_past (Blk.fresh w _ _) g3 (by omega))
         clear h3 g3)
      | (go_at_call 62; refine (HU.out _).mono ?_; rintro e w4 ⟨rfl, b4⟩
         have H4 := Lib.hid (rd_below H3.out b4)
         have G4 := Lib.hid (ch_below G3.out b4)
         have r4 := R3.out.under b4 R3.out.inside
         have d1 := H4.out.at 1
         have t0 := r4.at 0
         have t1 := r4.at 1
         have t2 := r4.at 2
         have t3 := r4.at 3
         have f0 := r4.thaw 0
         have f1 := r4.thaw 1
         have f2 := r4.thaw 2
         have f3 := r4.thaw 3
         clear b4 r4))
    exact bodyPost_ret (v := .tuple #[Tk.val ⟨2, uv, 0, L⟩, .int .i64 0]) (by simp [results, Tryd.results43, go_sem, t0, t1, t2, t3]) rfl ⟨ch_poke4 G4.out (Nat.le_refl _) _ _ _ _, rfl, rd_poke4 H4.out (by have := HLT.out; omega) _ _ _ _⟩
end Lx
end Go.Proofs.YtibeangcjfjeiaaDoor

namespace Go.Proofs.YtibeangcjfjeiaaDoor
open Go.ChangeShapes Go.WideShapes Go.ChangeAt Go.RowKit Go.Deep Txt Wire Lx
set_option linter.unusedVariables false
set_option maxRecDepth 100000
set_option linter.unusedSimpArgs false
namespace Drf

theorem c_int : Tryd.prog.cellsOf 3 = 1 := by kernel_rfl
theorem c_string : Tryd.prog.cellsOf 9 = 1 := by kernel_rfl
theorem c_strings : Tryd.prog.cellsOf 45 = 1 := by kernel_rfl
theorem c_item : Tryd.prog.cellsOf 34 = 5 := by kernel_rfl
theorem c_draft : Tryd.prog.cellsOf 25 = 2 := by kernel_rfl
theorem spot_none {w : World} {a : Addr} {v : Value} (h : w.cell? a = some v) : ∃ b o, a = ⟨b, o, none⟩ := by
  obtain ⟨b, o, s⟩ := a
  have hs : s = none := by simpa using World.cell?_spot h
  subst hs
  exact ⟨b, o, rfl⟩
theorem choose_list {α : Type} {P : Nat → α → Prop} : ∀ n, (∀ i, i < n → ∃ v, P i v) → ∃ vs : List α, vs.length = n ∧ ∀ i v, vs[i]? = some v → P i v
  | 0, _ => ⟨[], rfl, fun i v h => by simp at h⟩
  | n + 1, h => by
    obtain ⟨vs, h1, h2⟩ := choose_list n (fun i hi => h i (by omega))
    obtain ⟨v, hv⟩ := h n (by omega)
    refine ⟨vs ++ [v], by simp [h1], fun i u hu => ?_⟩
    rcases Nat.lt_or_ge i n with hi | hi
    · rw [List.getElem?_append_left (by omega)] at hu
      exact h2 i u hu
    · have hlt := (List.getElem?_eq_some_iff.1 hu).1
      simp [h1] at hlt
      obtain rfl : i = n := by omega
      rw [List.getElem?_append_right (by omega), h1] at hu
      simp at hu
      subst hu
      exact hv
section
variable {H : Type} {enc : TypeId × Value → H} {w : World} {held : Bool} {fuel : Nat} {cs : List Value} {x : DataW H × List MemPlace}
/-- Cells one behind the other are a row. -/
theorem row_cells {A : Addr} {xs : List Value} (h : ∀ i u, xs[i]? = some u → w.cell? (A.add i) = some u) : Row w w.heap.size (some A) xs := by
  intro k u hu
  have hc := h k u hu
  have hlt := (List.getElem?_eq_some_iff.1 hu).1
  have hb : A.block < w.heap.size := by
    have := World.block_lt_of_cell? w _ hc
    rwa [show (A.add k).block = A.block from by unfold Addr.add; split <;> rfl] at this
  have h0 := h 0 _ (List.getElem?_eq_getElem (show 0 < xs.length by omega))
  obtain ⟨b, o, e⟩ := spot_none (a := A) (by simpa [Addr.add] using h0)
  subst e
  exact ⟨b, o, rfl, hb, by rw [← row_add']; exact hc⟩
/-- A slice of one-cell elements that came in, each of which is something. -/
theorem open_ones {t e : TypeId} {α : Type} {K : Value → α → Prop} (ht : Tryd.prog.underlying t = some (.slice e)) (hc : Tryd.prog.cellsOf e = 1)
    (hk : ∀ {n : Nat} {v : Value} {y : DataW H × List MemPlace}, DataW.trod enc Tryd.prog w 0 (fun _ => true) held n e [v] = some y → ∃ a, K v a)
    (h : DataW.trod enc Tryd.prog w 0 (fun _ => true) held fuel t cs = some x) :
    ∃ (v : Value) (vs : List Value) (l : List α), cs = [v] ∧ vs.length = l.length ∧ l.length ≤ maxLen ∧ Sl w v l.length vs ∧ ∀ (i : Nat) (u : Value) (a : α), vs[i]? = some u → l[i]? = some a → K u a := by
  rcases open_slice1 ht hc h with ⟨rfl, _⟩ | ⟨a, len, cap, m, n, V, D, Pl, rfl, _, hl, hm, hmm, _, hi⟩
  · exact ⟨_, [], [], rfl, rfl, Nat.zero_le _, Sl.nil w, fun i u a h => by simp at h⟩
  · have hmc : m = cap := by simpa using hmm
    obtain ⟨vs, h1, h2⟩ := choose_list (P := fun i v => w.cell? (a.add i) = some v ∧ ∃ b, K v b) len (fun i hlt => by
      obtain ⟨g1, g2⟩ := hi i (by omega)
      exact ⟨V i, g1, hk g2⟩)
    obtain ⟨l, l1, l2⟩ := choose_list (P := fun i b => ∀ v, vs[i]? = some v → K v b) len (fun i hlt => by
      obtain ⟨_, b, hb⟩ := h2 i _ (List.getElem?_eq_getElem (show i < vs.length by omega))
      exact ⟨b, fun v hv => by rw [List.getElem?_eq_getElem (show i < vs.length by omega)] at hv; cases hv; exact hb⟩)
    refine ⟨_, vs, l, rfl, by omega, by omega, ⟨some a, cap, by rw [l1], by omega, row_cells fun i u hu => (h2 i u hu).1⟩, fun i u b hu hb => l2 i b hb u hu⟩
theorem open_texts (h : DataW.trod enc Tryd.prog w 0 (fun _ => true) held fuel 45 cs = some x) : ∃ v ts, cs = [v] ∧ HasTexts w v ts ∧ ts.length ≤ maxLen := by
  obtain ⟨v, vs, l, rfl, h1, h2, h3, h4⟩ := open_ones (K := fun v (t : List UInt8) => v = str t) Tryd.underlying45 c_string (fun hy => by
    obtain ⟨s, e, _, _⟩ := DataW.trod_string Tryd.underlying9 hy
    simp only [List.cons.injEq, and_true] at e
    exact ⟨bl s, by rw [e, str_bl]⟩) h
  refine ⟨v, l, rfl, ?_, h2⟩
  have : vs = l.map str := by
    apply List.ext_getElem?
    intro i
    rw [List.getElem?_map]
    by_cases hi : i < l.length
    · rw [List.getElem?_eq_getElem (show i < vs.length by omega), List.getElem?_eq_getElem hi]
      exact congrArg some (h4 i _ _ (List.getElem?_eq_getElem (by omega)) (List.getElem?_eq_getElem hi))
    · rw [List.getElem?_eq_none (by omega), List.getElem?_eq_none (by omega)]
      rfl
  rw [this] at h3
  exact h3
theorem open_nums (h : DataW.trod enc Tryd.prog w 0 (fun _ => true) held fuel 32 cs = some x) : ∃ v ns, cs = [v] ∧ HasInts w v ns ∧ ns.length ≤ maxLen ∧ ∀ z ∈ ns, Fits z := by
  obtain ⟨v, vs, l, rfl, h1, h2, h3, h4⟩ := open_ones (K := fun v (z : Int) => v = .int .i64 z ∧ Fits z) Tryd.underlying32 c_int (fun hy => by
    obtain ⟨k, e, _, hw⟩ := DataW.trod_int Tryd.underlying3 hy
    simp only [List.cons.injEq, and_true] at e
    exact ⟨k, e, by simpa [Lit.wf, IntKind.min, IntKind.max, IntKind.signed, IntKind.bits] using hw⟩) h
  refine ⟨v, l, rfl, ?_, h2, fun z hz => ?_⟩
  · have : vs = l.map (Value.int .i64) := by
      apply List.ext_getElem?
      intro i
      rw [List.getElem?_map]
      by_cases hi : i < l.length
      · rw [List.getElem?_eq_getElem (show i < vs.length by omega), List.getElem?_eq_getElem hi]
        exact congrArg some (h4 i _ _ (List.getElem?_eq_getElem (by omega)) (List.getElem?_eq_getElem hi)).1
      · rw [List.getElem?_eq_none (by omega), List.getElem?_eq_none (by omega)]
        rfl
    rw [this] at h3
    exact h3
  · obtain ⟨i, hi, rfl⟩ := List.getElem_of_mem hz
    exact (h4 i _ _ (List.getElem?_eq_getElem (show i < vs.length by omega)) (List.getElem?_eq_getElem hi)).2
theorem open_decks (h : DataW.trod enc Tryd.prog w 0 (fun _ => true) held fuel 22 cs = some x) : ∃ v ds vs, cs = [v] ∧ HasDecks w v ds vs ∧ ds.length ≤ maxLen ∧ ∀ ts ∈ ds, ts.length ≤ maxLen := by
  obtain ⟨v, vs, l, rfl, h1, h2, h3, h4⟩ := open_ones (K := fun v (ts : List (List UInt8)) => HasTexts w v ts ∧ ts.length ≤ maxLen) Tryd.underlying22 c_strings (fun hy => by
    obtain ⟨u, ts, e, g1, g2⟩ := open_texts hy
    simp only [List.cons.injEq, and_true] at e
    exact ⟨ts, by rw [e]; exact g1, g2⟩) h
  refine ⟨v, l, vs, rfl, ⟨h1, h3, fun i u ts hu ht => (h4 i u ts hu ht).1⟩, h2, fun ts ht => ?_⟩
  obtain ⟨i, hi, rfl⟩ := List.getElem_of_mem ht
  exact (h4 i _ _ (List.getElem?_eq_getElem (show i < vs.length by omega)) (List.getElem?_eq_getElem hi)).2
/-- Numbers that fit, and lists that are not too long. -/
structure FitI (x : It) : Prop where
  kind : Fits x.kind
  line : Fits x.line
  nums : ∀ z ∈ x.n, Fits z
  len : x.n.length ≤ maxLen
set_option maxRecDepth 100000 in
theorem open_item (h : DataW.trod enc Tryd.prog w 0 (fun _ => true) held fuel 34 cs = some x) : ∃ (y : It) (u : Value), cs = itC y u ∧ HasInts w u y.n ∧ FitI y := by
  obtain ⟨xs, n, _, _, hlen, hxl, hf⟩ := DataW.trod_struct Tryd.underlying34 h
  rw [c_item] at hlen
  match cs, hlen with
  | [c0, c1, c2, c3, c4], _ =>
    match xs, hxl with
    | [y0, y1, y2, y3, y4], _ =>
      have h0 : DataW.trod enc Tryd.prog w 0 (fun _ => true) held n 3 [c0] = some y0 := hf 0 _ rfl
      have h1 : DataW.trod enc Tryd.prog w 0 (fun _ => true) held n 3 [c1] = some y1 := hf 1 _ rfl
      have h2 : DataW.trod enc Tryd.prog w 0 (fun _ => true) held n 9 [c2] = some y2 := hf 2 _ rfl
      have h3 : DataW.trod enc Tryd.prog w 0 (fun _ => true) held n 9 [c3] = some y3 := hf 3 _ rfl
      have h4 : DataW.trod enc Tryd.prog w 0 (fun _ => true) held n 32 [c4] = some y4 := hf 4 _ rfl
      obtain ⟨k, e0, _, w0⟩ := DataW.trod_int Tryd.underlying3 h0
      obtain ⟨m, e1, _, w1⟩ := DataW.trod_int Tryd.underlying3 h1
      obtain ⟨s, e2, _, w2⟩ := DataW.trod_string Tryd.underlying9 h2
      obtain ⟨t, e3, _, w3⟩ := DataW.trod_string Tryd.underlying9 h3
      obtain ⟨u, ns, e4, g1, g2, g3⟩ := open_nums h4
      simp only [List.cons.injEq, and_true] at e0 e1 e2 e3 e4
      subst e0 e1 e2 e3 e4
      exact ⟨⟨k, bl s, bl t, ns, m⟩, c4, rfl, g1, ⟨by simpa [Lit.wf, IntKind.min, IntKind.max, IntKind.signed, IntKind.bits] using w0, by simpa [Lit.wf, IntKind.min, IntKind.max, IntKind.signed, IntKind.bits] using w1, g3, g2⟩⟩
set_option maxRecDepth 100000 in
theorem open_items (h : DataW.trod enc Tryd.prog w 0 (fun _ => true) held fuel 23 cs = some x) : ∃ v l us, cs = [v] ∧ HasItems w v l us ∧ l.length ≤ maxLen ∧ ∀ y ∈ l, FitI y := by
  rcases open_slice Tryd.underlying23 h with ⟨rfl, _⟩ | ⟨a, len, cap, m, n, D, Pl, rfl, _, hl, hmx, hm, _, hi⟩
  · exact ⟨_, [], [], rfl, ⟨rfl, Sl.nil w, fun i u y h => by simp at h⟩, Nat.zero_le _, fun y hy => by cases hy⟩
  · have hmc : m = cap := by simpa using hm
    obtain ⟨ps, h1, h2⟩ := choose_list (P := fun i (p : It × Value) => (∀ j u, (itC p.1 p.2)[j]? = some u → w.cell? (a.add (i * 5 + j)) = some u) ∧ HasInts w p.2 p.1.n ∧ FitI p.1) len (fun i hlt => by
      obtain ⟨cs', hc, ht⟩ := hi i (by omega)
      rw [c_item] at hc
      obtain ⟨y, u, rfl, g1, g2⟩ := open_item ht
      obtain ⟨_, hcl, hat⟩ := World.cells?_some hc
      refine ⟨(y, u), fun j v hv => ?_, g1, g2⟩
      have hj : j < 5 := (List.getElem?_eq_some_iff.1 hv).1
      have := hat j hj
      rw [add_add] at this
      exact this.trans hv)
    have e1 : ∀ (i : Nat) (p : It × Value), ps[i]? = some p → (ps.map (·.1))[i]? = some p.1 ∧ (ps.map (·.2))[i]? = some p.2 := fun i p hp => by
      rw [List.getElem?_map, List.getElem?_map, hp]
      exact ⟨rfl, rfl⟩
    have hlen : (ps.map (·.2)).length = (ps.map (·.1)).length := by rw [List.length_map, List.length_map]
    refine ⟨_, ps.map (·.1), ps.map (·.2), rfl, ⟨hlen, ⟨some a, cap, by rw [List.length_map, h1], by rw [List.length_map]; omega, row_cells fun k u hu => ?_⟩, fun i u y hu hy => ?_⟩, by rw [List.length_map]; omega, fun y hy => ?_⟩
    · have hk := (List.getElem?_eq_some_iff.1 hu).1
      rw [itsC_len _ _ hlen, List.length_map] at hk
      have hq : k / 5 < ps.length := by omega
      have hp := List.getElem?_eq_getElem hq
      obtain ⟨g1, g2⟩ := e1 _ _ hp
      obtain ⟨u', hu', hj⟩ := itsC_at _ _ (k / 5) _ hlen g1
      rw [g2] at hu'
      cases hu'
      have hr := hj (k % 5) (Nat.mod_lt _ (by omega))
      rw [show k / 5 * 5 + k % 5 = k by omega] at hr
      rw [hr] at hu
      have := (h2 _ _ hp).1 _ _ hu
      rwa [show k / 5 * 5 + k % 5 = k by omega] at this
    · rw [List.getElem?_map] at hu hy
      obtain ⟨p, hp, rfl⟩ := Option.map_eq_some_iff.1 hu
      rw [hp] at hy
      cases hy
      exact (h2 _ _ hp).2.1
    · obtain ⟨p, hp, rfl⟩ := List.mem_map.1 hy
      obtain ⟨i, hi', rfl⟩ := List.getElem_of_mem hp
      exact (h2 _ _ (List.getElem?_eq_getElem hi')).2.2
/-- Numbers that fit, and lists that are not too long. -/
structure FitD (d : Df) : Prop where
  decks : d.decks.length ≤ maxLen
  rows : ∀ ts ∈ d.decks, ts.length ≤ maxLen
  items : d.items.length ≤ maxLen
  each : ∀ x ∈ d.items, FitI x
set_option maxRecDepth 100000 in
theorem open_draft (h : DataW.trod enc Tryd.prog w 0 (fun _ => true) held fuel 25 cs = some x) : ∃ (a b : Value) (d : Df), cs = [a, b] ∧ HasDf w (.agg #[a, b]) d ∧ FitD d := by
  obtain ⟨xs, n, _, _, hlen, hxl, hf⟩ := DataW.trod_struct Tryd.underlying25 h
  rw [c_draft] at hlen
  match cs, hlen with
  | [c0, c1], _ =>
    match xs, hxl with
    | [y0, y1], _ =>
      have h0 : DataW.trod enc Tryd.prog w 0 (fun _ => true) held n 22 [c0] = some y0 := hf 0 _ rfl
      have h1 : DataW.trod enc Tryd.prog w 0 (fun _ => true) held n 23 [c1] = some y1 := hf 1 _ rfl
      obtain ⟨a, ds, vs, e0, g0, f0, f1⟩ := open_decks h0
      obtain ⟨b, l, us, e1, g1, f2, f3⟩ := open_items h1
      simp only [List.cons.injEq, and_true] at e0 e1
      subst e0 e1
      exact ⟨c0, c1, ⟨ds, l⟩, rfl, ⟨_, _, vs, us, rfl, g0, g1⟩, ⟨f0, f1, f2, f3⟩⟩
end
end Drf
end Go.Proofs.YtibeangcjfjeiaaDoor

namespace Go.Proofs.YtibeangcjfjeiaaDoor
open Go.RowKit Txt Wire Lx
set_option linter.unusedVariables false
set_option maxRecDepth 100000
set_option linter.unusedSimpArgs false
namespace Drf

/-- A parser: what it has not read lies below it; the draft. -/
def RdAt (w : World) (b : Nat) (l : List Tk) (dv iv : Value) : Prop := ∃ A c, l.length ≤ c ∧ Blk w b 81 #[.slice A l.length c, dv, iv] ∧ Row w b A (tks l)
theorem RdAt.lt {w : World} {b : Nat} {l : List Tk} {dv iv : Value} (h : RdAt w b l dv iv) : b < w.heap.size := by
  obtain ⟨A, c, _, h, _⟩ := h
  exact h.inside
theorem RdAt.chg {F : Nat → Prop} {w w' : World} {b : Nat} {l : List Tk} {dv iv : Value} (h : RdAt w b l dv iv) (c : Chg F w w') (hF : ∀ k, F k → b < k) : RdAt w' b l dv iv := by
  have hlt := h.lt
  obtain ⟨A, cp, h0, h1, h2⟩ := h
  exact ⟨A, cp, h0, c.blk h1 fun hf => (by have := hF b hf; omega), c.row h2 (fun k hk => by have := hF k hk; omega) (by omega)⟩
/-- A parser and its draft, over a world before which only its block was written. -/
structure PS (W w : World) (b : Nat) (l : List Tk) (d : Df) : Prop where
  old : b < W.heap.size
  grown : W.grownBy w (some b)
  ex : ∃ dv iv, RdAt w b l dv iv ∧ Dr w W.heap.size dv iv d

set_option maxHeartbeats 1000000 in
theorem ptake_any {w : World} {b : Nat} {t : Tk} {l : List Tk} {dv iv : Value} (h : RdAt w b (t :: l) dv iv) (hl : 0 < l.length) (hn : l.length ≤ 1000000000) :
    Calls Tryd.prog 69 #[ptr b] w fun e w' => e = .returned t.val ∧ RdAt w' b l dv iv ∧ w.grownBy w' (some b) := by
  have hlt := h.lt
  obtain ⟨A, c, hc, hb, hr⟩ := h
  obtain ⟨g, o, rfl, hg, k0, k1, k2, k3⟩ := row_tk hr (i := 0) (t := t) rfl
  rw [Nat.zero_mul, Nat.add_zero] at k0 k1 k2 k3
  have hne : b ≠ g := by omega
  have hr1 : Row w b (some ⟨g, o + 1 * 4, none⟩) (tks l) := row_drop hr 1
  rw [List.length_cons] at hc
  have hb : Blk w b 81 #[.slice (some ⟨g, o, none⟩) (l.length + 1) c, dv, iv] := hb
  have c0 : w.cell? ⟨b, 0, none⟩ = some (.slice (some ⟨g, o, none⟩) (l.length + 1) c) := hb.at 0
  have f0 := hb.thaw 0
  have hc1 : ¬ (c = 1) := by omega
  have HC := Lib.hid hc
  have HR := Lib.hid hr1
  have HB := Lib.hid hb
  clear hr hr1 hb
  have hgs : g < w.heap.size := by omega
  go_enter Tryd.func69, Tryd.ntmps69
  go_wp2_with fail
  have hs : (w.setCell ⟨b, 0, none⟩ (.slice (some ⟨g, o + 4, none⟩) l.length (c - 1))).heap.size = w.heap.size := by simp [World.setCell]
  have q := Blk.kept (Blk.fresh (w.setCell ⟨b, 0, none⟩ (.slice (some ⟨g, o + 4, none⟩) l.length (c - 1))) 42 #[.int .i64 t.kind, .string ⟨t.text.toArray⟩, .int .i64 t.n, .int .i64 t.line]) (.cells #[.int .i64 t.kind, .string ⟨t.text.toArray⟩, .int .i64 t.n, .int .i64 t.line] 42)
  have q2 := Blk.put HB.out 0 (.slice (some ⟨g, o + 4, none⟩) l.length (c - 1))
  have q3 := (q2.kept (.cells #[.int .i64 t.kind, .string ⟨t.text.toArray⟩, .int .i64 t.n, .int .i64 t.line] 42)).kept (.cells #[.int .i64 t.kind, .string ⟨t.text.toArray⟩, .int .i64 t.n, .int .i64 t.line] 42)
  have g3 := ch_alloc (ch_alloc (grown_set w b 0 (.slice (some ⟨g, o + 4, none⟩) l.length (c - 1))) (.cells #[.int .i64 t.kind, .string ⟨t.text.toArray⟩, .int .i64 t.n, .int .i64 t.line] 42)) (.cells #[.int .i64 t.kind, .string ⟨t.text.toArray⟩, .int .i64 t.n, .int .i64 t.line] 42)
  have r3 := HR.out.below (grown_below g3 (Nat.le_refl b) (by omega))
  rw [hs] at q
  have t0 := q.at 0
  have t1 := q.at 1
  have t2 := q.at 2
  have t3 := q.at 3
  exact bodyPost_ret (v := t.val) (by simp [results, Tryd.results69, go_sem, t0, t1, t2, t3]) rfl ⟨rfl, ⟨_, _, by have := HC.out; omega, q3, r3⟩, g3⟩
end Drf
end Go.Proofs.YtibeangcjfjeiaaDoor

namespace Go.Proofs.YtibeangcjfjeiaaDoor
open Go.RowKit Txt Wire Lx
set_option linter.unusedVariables false
set_option maxRecDepth 100000
set_option linter.unusedSimpArgs false
namespace Drf

theorem info_strs : (Tryd.prog.info? 45).map (fun i => (i.zero, i.size, i.bytes)) = some (some (.slice none 0 0), 1, 24) := by kernel_rfl
theorem info_item : (Tryd.prog.info? 34).map (fun i => (i.zero, i.size, i.bytes)) = some (some (.agg #[.int .i64 0, .int .i64 0, .string ⟨#[]⟩, .string ⟨#[]⟩, .slice none 0 0]), 5, 72) := by kernel_rfl
theorem info_int : (Tryd.prog.info? 3).map (fun i => (i.zero, i.size, i.bytes)) = some (some (.int .i64 0), 1, 8) := by kernel_rfl
/-- What the parser's functions may change. -/
abbrev PF (W : World) (b : Nat) (k : Nat) : Prop := k = b ∨ W.heap.size ≤ k
theorem ps_grown {W w w' : World} {b : Nat} (h : W.grownBy w (some b)) (c : Chg (PF W b) w w') : W.grownBy w' (some b) := by
  exact ⟨c.os.trans h.os, c.tape.trans h.tape, c.output.trans h.output, Nat.le_trans h.size c.size, fun k hk hn => (c.block k (Nat.lt_of_lt_of_le hk h.size) (fun hf => by
      rcases hf with rfl | hf
      · exact hn rfl
      · omega)).trans (h.block k hk hn)⟩
theorem chg_b {W w w' : World} {b : Nat} (h : w.grownBy w' (some b)) : Chg (PF W b) w w' := Chg.ofGrown h fun k e => .inl (by cases e; rfl)
theorem PS.blk {W w : World} {b : Nat} {l : List Tk} {d : Df} (h : PS W w b l d) : b < w.heap.size := Nat.lt_of_lt_of_le h.old h.grown.size

set_option maxHeartbeats 1000000 in
theorem deck_full {W w : World} {b : Nat} {l : List Tk} {d : Df} (h : PS W w b l d) (hn : d.decks.length = 4) :
    Calls Tryd.prog 65 #[ptr b] w fun e w' => e = .returned (.int .i64 6) ∧ w' = w := by
  obtain ⟨h0, h1, dv, iv, hr, vs, us, lab, ho⟩ := h
  have hlt := hr.lt
  obtain ⟨A, c, hc, hb, hrow⟩ := hr
  obtain ⟨A1, c1, rfl⟩ := ho.decks.slice
  rw [hn] at hb
  have k1 : w.cell? ⟨b, 1, none⟩ = some (.slice A1 4 c1) := hb.at 1
  clear hb hrow ho
  go_enter Tryd.func65, Tryd.ntmps65
  go_wp2_with fail
  go_ret
  exact ⟨rfl, rfl⟩
set_option maxHeartbeats 2000000 in
theorem deck_more {W w : World} {b : Nat} {t : Tk} {l : List Tk} {d : Df} (h : PS W w b (t :: l) d) (hl : 0 < l.length) (hll : l.length ≤ 1000000000) (hn : d.decks.length < 4) :
    Calls Tryd.prog 65 #[ptr b] w fun e w' => e = .returned (.int .i64 0) ∧ PS W w' b l { d with decks := d.decks ++ [[]] } := by
  obtain ⟨h0, h1, dv, iv, hr, vs, us, lab, ho⟩ := h
  have hlt := hr.lt
  have HT := Lib.hid (ptake_any hr hl hll)
  have hsz := h1.size
  obtain ⟨A, c, hc, hb, hrow⟩ := hr
  obtain ⟨A1, c1, rfl⟩ := ho.decks.slice
  have k1 : w.cell? ⟨b, 1, none⟩ = some (.slice A1 d.decks.length c1) := hb.at 1
  have HO := Lib.hid ho
  have H0 := Lib.hid h0
  have H1 := Lib.hid h1
  clear hb hrow hc ho h1
  obtain ⟨i0, hi0, hi1, hi2, hi3⟩ := info_parts info_strs
  obtain ⟨n, hnn⟩ : ∃ n, n = d.decks.length := ⟨_, rfl⟩
  have HN := Lib.hid hnn
  rw [← hnn] at hn k1
  have hn4 : ¬ (n = 4) := by omega
  have HBB : Hid (n + 1 ≤ maxLen ∧ (n + 1) * 24 ≤ 140737488355328) := Lib.hid ⟨by unfold maxLen; omega, by omega⟩
  rw [← hnn] at HT HO
  clear hn hnn
  go_enter Tryd.func65, Tryd.ntmps65
  go_wp2_with (first
    | (go_at_call 69; go_must (
       refine HT.out.mono ?_; rintro e w1 ⟨rfl, r1, g1⟩
       have R1 := Lib.hid r1
       have G1 := Lib.hid g1
       have ho1 : Own w1 W.heap.size (.slice A1 n c1) iv d vs us lab := HO.out.keep G1.out.size fun g h2 h3 => G1.out.block g h3 fun e => by have := H0.out; cases e; omega
       obtain ⟨A', c', _, hb1, hr1⟩ := r1
       have d1 : w1.cell? ⟨b, 1, none⟩ = some (.slice A1 n c1) := hb1.at 1
       have e1 := hb1.thaw 1
       have hs1 : W.heap.size ≤ w1.heap.size := Nat.le_trans hsz G1.out.size
       have hlt1 := hb1.inside
       have HG : Hid (Grow w1 W.heap.size 1 (.slice A1 n c1) n vs) := Lib.hid (by have := ho1.decks; rwa [← HN.out] at this)
       have HO1 := Lib.hid ho1
       clear g1 hb1 hr1 ho1))
    | (at_builtin; go_must (
       refine wpList_append_src _ rfl _ _ _ _ rfl W.heap.size 45 i0 _ 1 24 Tryd.underlying22 hi0 hi1 hi2 hi3 rfl (by omega) _ _ _ rfl (HG.out.alloc _) _ 1 [.slice none 0 0] rfl (Src.ofSlice _ Tryd.underlying22 ⟨w1.heap.size, 0, none⟩ 1 1 _ rfl (new_cells w1 _ _) (by simp [Value.oneCell'])) HBB.out.1 HBB.out.2 (by simp; omega) ?_; intro v4 w4 hown4 hg4 hnear
       obtain ⟨A4, cp4, rfl⟩ := hown4.slice
       have hg5 : w1.grownBy w4 (Value.slice A1 n c1).ownBlock := grown_trans (below_none ((Below.refl _ _).alloc (Nat.le_refl _) _) _) hg4
       have hne : ∀ g, (Value.slice A1 n c1).ownBlock = some g → g ≠ b := fun g hg e => by
         have h1 := (HG.out.block g hg).1
         have h2 := H0.out
         omega
       obtain ⟨A', c', hc', hb1, hr1⟩ := R1.out
       have hb4 := hb1.past hg5 (fun e => hne b e.symm rfl)
       have d4 : w4.cell? ⟨b, 1, none⟩ = some (.slice A1 n c1) := hb4.at 1
       have e4 := hb4.thaw 1
       have H4 := Lib.hid hown4
       have HG5 := Lib.hid hg5
       have HNR : Hid (Near w1 (Value.slice A1 n c1) (.slice A4 (n + 1) cp4)) := Lib.hid (by
         rcases hnear with h | h
         · exact .inl h
         · exact .inr ⟨_, h, by simp⟩)
       clear hg4 hown4 hg5 hnear hb1 hr1 hb4 hc' hne)))
  go_ret
  have ho4 := Own.deck HO1.out (dv' := .slice A4 (n + 1) cp4) (w' := w4) HG5.out (by rw [← HN.out]; exact H4.out) HNR.out
  have hc4 : Chg (PF W b) w1 w4 := Chg.ofGrown HG5.out fun k e => .inr (HG.out.block k e).1
  have hc5 : Chg (PF W b) w4 (w4.setCell ⟨b, 1, none⟩ (.slice A4 (n + 1) cp4)) := Chg.set (a := ⟨b, 1, none⟩) (.inl rfl) _
  obtain ⟨A', c', hc', hb1, hr1⟩ := R1.out
  have hb4 := (hb1.past HG5.out (fun e => by have := (HG.out.block b e.symm).1; have := H0.out; omega)).put 1 (.slice A4 (n + 1) cp4)
  refine ⟨rfl, H0.out, ps_grown H1.out ((chg_b G1.out).trans (hc4.trans hc5)), _, iv, ⟨A', c', hc', hb4, ?_⟩, ?_⟩
  · exact (hc4.trans hc5).row hr1 (fun k hk => by rcases hk with rfl | hk; exact Nat.le_refl _; have := H0.out; omega) (by have := hb1.inside; omega)
  · exact ⟨_, _, _, ho4.keep hc5.size fun g h2 h3 => (Chg.set (F := fun k => k = b) (a := ⟨b, 1, none⟩) rfl _).block g h3 fun hf => by have := H0.out; omega⟩
end Drf
end Go.Proofs.YtibeangcjfjeiaaDoor

/- A draft that is being built in memory; a map of words; nothing of package draft is imported. -/
import Derived.Test.YtibeangcjfjeiaaDoorMgH
import Derived.Maps.Own
import Derived.WideMake
import Derived.Lib.OthersKept
namespace Go.Proofs.YtibeangcjfjeiaaDoor
open Go.RowKit Txt Wire Lx
open Go.ChangeMaps (setBlock)
set_option linter.unusedVariables false
set_option maxRecDepth 100000
set_option linter.unusedSimpArgs false
namespace Drf

/-! What a call may have changed. -/
/-- Only blocks of F, and new ones, have changed. -/
structure Chg (F : Nat → Prop) (w w' : World) : Prop where
  os : w'.os = w.os
  tape : w'.tape = w.tape
  output : w'.output = w.output
  size : w.heap.size ≤ w'.heap.size
  block : ∀ k, k < w.heap.size → ¬ F k → w'.heap[k]? = w.heap[k]?
section
variable {F G : Nat → Prop} {w w' w'' : World}
theorem Chg.refl (F : Nat → Prop) (w : World) : Chg F w w := ⟨rfl, rfl, rfl, Nat.le_refl _, fun _ _ _ => rfl⟩
theorem Chg.trans (h : Chg F w w') (k : Chg F w' w'') : Chg F w w'' :=
  ⟨k.os.trans h.os, k.tape.trans h.tape, k.output.trans h.output, Nat.le_trans h.size k.size, fun i hi hF => (k.block i (Nat.lt_of_lt_of_le hi h.size) hF).trans (h.block i hi hF)⟩
theorem Chg.wider (h : Chg F w w') (hF : ∀ k, k < w.heap.size → F k → G k) : Chg G w w' := ⟨h.os, h.tape, h.output, h.size, fun k hk hG => h.block k hk fun hf => hG (hF k hk hf)⟩
theorem Chg.ofBelow {B : Nat} (h : Below B w w') (hF : ∀ k, B ≤ k → k < w.heap.size → F k) : Chg F w w' := ⟨h.os, h.tape, h.output, h.size, fun k hk hf => h.block k (Nat.lt_of_not_le fun hB => hf (hF k hB hk))⟩
theorem Chg.new (h : Below w.heap.size w w') : Chg F w w' := Chg.ofBelow h fun k h1 h2 => absurd h2 (by omega)
theorem Chg.ofGrown {r : Option Nat} (h : w.grownBy w' r) (hF : ∀ k, r = some k → F k) : Chg F w w' := ⟨h.os, h.tape, h.output, h.size, fun k hk hf => h.block k hk fun e => hf (hF k e.symm)⟩
theorem Chg.below {B : Nat} (h : Chg F w w') (hB : B ≤ w.heap.size) (hF : ∀ k, F k → B ≤ k) : Below B w w' := ⟨h.os, h.tape, h.output, h.size, fun k hk => h.block k (by omega) fun hf => by have := hF k hf; omega⟩
theorem Chg.grown {b : Nat} (h : Chg (fun k => k = b) w w') : w.grownBy w' (some b) := ⟨h.os, h.tape, h.output, h.size, fun k hk hn => h.block k hk fun e => hn (by rw [e])⟩
theorem Chg.set {a : Addr} (ha : F a.block) (u : Value) : Chg F w (w.setCell a u) := ⟨rfl, rfl, rfl, by simp [World.setCell], fun k _ hk => Below.heap_setCell _ _ _ _ (fun e => hk (e ▸ ha))⟩
theorem Chg.alloc (o : Obj) : Chg F w (w.alloc o) := Chg.new ((Below.refl _ w).alloc (Nat.le_refl _) o)
theorem Chg.drew : Chg F w w.drew := ⟨rfl, rfl, rfl, Nat.le_refl _, fun _ _ _ => rfl⟩
theorem Chg.blk {g : Nat} {t : TypeId} {cs : Array Value} (h : Chg F w w') (hb : Blk w g t cs) (hg : ¬ F g) : Blk w' g t cs := (h.block g hb.inside hg).trans hb
theorem Chg.row {B : Nat} {A : Option Addr} {xs : List Value} (h : Chg F w w') (hr : Row w B A xs) (hF : ∀ k, F k → B ≤ k) (hB : B ≤ w.heap.size) : Row w' B A xs := hr.below (h.below hB hF)
end

/-! Rows that are stored into. -/
theorem Grow.set {w : World} {B g cap n : Nat} {xs : List Value} (h : Grow w B 1 (.slice (some ⟨g, 0, none⟩) n cap) n xs) {k : Nat} (hk : k < n) (u : Value) :
    Grow (w.setCell ⟨g, k, none⟩ u) B 1 (.slice (some ⟨g, 0, none⟩) n cap) n (xs.set k u) := by
  have hlen := h.len
  refine ⟨by rw [List.length_set]; exact hlen, ?_⟩
  rcases h.form with ⟨e, _⟩ | ⟨g', cap', e, h1, h2, h3, h4, h5, h6, h7⟩
  · cases e
  · injection e with e1 _ e3
    injection e1 with e1
    injection e1 with e1 _ _
    subst e1 e3
    have hin : (w.cell? ⟨g, k, none⟩).isSome = true := h5 k (by omega)
    have hself : (w.setCell ⟨g, k, none⟩ u).cell? ⟨g, k, none⟩ = some u := World.cell?_setCell_same' _ _ _ hin
    have hoth : ∀ j, j ≠ k → (w.setCell ⟨g, k, none⟩ u).cell? ⟨g, j, none⟩ = w.cell? ⟨g, j, none⟩ := fun j hj => World.cell?_setCell_other w _ _ _ (fun e => by injection e with _ e; omega)
    refine .inr ⟨g, cap, rfl, h1, by simp [World.setCell]; exact h2, h3, h4, fun j hj => ?_, fun j hj => ?_, fun j v hv => ?_⟩
    · by_cases e : j = k
      · rw [e, hself]; rfl
      · rw [hoth j e]; exact h5 j hj
    · rw [World.frozen?_setCell]; exact h6 j hj
    · rw [List.getElem?_set] at hv
      by_cases e : k = j
      · rw [if_pos e] at hv
        split at hv
        · rw [← e, hself]; exact hv
        · cases hv
      · rw [if_neg e] at hv
        rw [hoth j (Ne.symm e)]
        exact h7 j v hv
theorem Grow.some_of {w : World} {B size n : Nat} {v : Value} {xs : List Value} (h : Grow w B size v n xs) (hn : 0 < n) : ∃ g cap, v = .slice (some ⟨g, 0, none⟩) n cap ∧ B ≤ g ∧ g < w.heap.size ∧ n ≤ cap := by
  rcases h.form with ⟨_, rfl⟩ | ⟨g, cap, e, h1, h2, h3, _⟩
  · omega
  · exact ⟨g, cap, e, h1, h2, h3⟩
theorem Grow.get {w : World} {B n g cap : Nat} {xs : List Value} (h : Grow w B 1 (.slice (some ⟨g, 0, none⟩) n cap) n xs) {k : Nat} {u : Value} (hk : xs[k]? = some u) : w.cell? ⟨g, k, none⟩ = some u ∧ w.frozen? ⟨g, k, none⟩ = false := by
  rcases h.form with ⟨e, _⟩ | ⟨g', cap', e, h1, h2, h3, h4, h5, h6, h7⟩
  · cases e
  · injection e with e1 _ e3
    injection e1 with e1
    injection e1 with e1 _ _
    subst e1 e3
    have hlt := (List.getElem?_eq_some_iff.1 hk).1
    have := h.len
    exact ⟨h7 k u hk, h6 k (by omega)⟩
theorem own_block {g n cap : Nat} : (Value.slice (some ⟨g, 0, none⟩) n cap).ownBlock = some g := rfl

section
variable {P : Program} (w : World)
/-- The law of an append at an operation. -/
theorem wp_append_src {o : Oper} {a : Act} {K : Act → World → Prop} {Q : Exit → Act → World → Prop} (s xo : Operand) (t tx : TypeId)
    (ho : o.op = .call { callee := .builtin .append, args := #[s, xo], argTypes := #[t, tx] })
    (B : Nat) (e : TypeId) (i : TypeInfo) (z : Value) (size bytes : Nat) (ht : P.underlying t = some (.slice e)) (hi : P.info? e = some i) (hz : i.zero = some z)
    (hsize : i.size = size) (hby : i.bytes = bytes) (hzs : z.cells.size = size) (hsz : 0 < size)
    (v : Value) (n : Nat) (xs : List Value) (hsv : a.eval s = v) (hown : Grow w B size v n xs) (x : Value) (m : Nat) (news : List Value) (hxv : a.eval xo = x) (hs : Src P size tx x m news w)
    (h63 : n + m ≤ maxLen) (hbytes : (n + m) * bytes ≤ 140737488355328) (hB : B ≤ w.heap.size)
    (h : ∀ v' w', Grow w' B size v' (n + m) (xs ++ news) → w.grownBy w' v.ownBlock → (v'.ownBlock = v.ownBlock ∨ v'.ownBlock = some w.heap.size) → K (a.put o.dst v') w') : Oper.wp P o a w K Q := by
  obtain ⟨v', w', hr, h2, h3, h4⟩ := run_append_src (P := P) w B t tx o.type e i z size bytes ht hi hz hsize hby hzs hsz v n xs hown x m news hs h63 hbytes hB
  unfold Oper.wp execOp
  simp only [ho, resolve, invoke, builtin, Sem.run_bind, Sem.run_pure, Result.andThen_ok, List.map_toArray, List.map_cons, List.map_nil, hsv, hxv, hr]
  exact h v' w' h2 h3 h4
end
/-- The cells of a slice literal are there to be appended. -/
theorem src_new {P : Program} (w : World) (t e : TypeId) (ht : P.underlying t = some (.slice e)) (size : Nat) (xs : List Value) (hl : xs.length = size) (h1 : ∀ u ∈ xs, u.oneCell' = true) :
    Src P size t (.slice (some ⟨w.heap.size, 0, none⟩) 1 1) 1 xs (w.alloc (.cells xs.toArray e)) :=
  Src.ofSlice _ ht ⟨w.heap.size, 0, none⟩ 1 1 _ (by omega) (new_cells w _ _) h1

/-! A draft that is being built, in blocks from H on; its rows are told apart by marks. -/
structure Own (w : World) (H : Nat) (dv iv : Value) (d : Df) (vs us : List Value) (lab : Nat → Nat) : Prop where
  dlen : vs.length = d.decks.length
  ilen : us.length = d.items.length
  decks : Grow w H 1 dv d.decks.length vs
  dlab : ∀ g, dv.ownBlock = some g → lab g = 0
  items : Grow w H 5 iv d.items.length (itsC d.items us)
  ilab : ∀ g, iv.ownBlock = some g → lab g = 1
  rows : ∀ (i : Nat) (v : Value) (ts : List (List UInt8)), vs[i]? = some v → d.decks[i]? = some ts → Grow w H 1 v ts.length (ts.map str) ∧ ∀ g, v.ownBlock = some g → lab g = i + 3
  ints : ∀ (i : Nat) (u : Value) (x : It), us[i]? = some u → d.items[i]? = some x → Grow w H 1 u x.n.length (x.n.map (Value.int .i64)) ∧ ∀ g, u.ownBlock = some g → lab g = 2
def Dr (w : World) (H : Nat) (dv iv : Value) (d : Df) : Prop := ∃ vs us lab, Own w H dv iv d vs us lab
section
variable {w w' w1 : World} {H : Nat} {dv iv dv' iv' : Value} {d : Df} {vs us : List Value} {lab : Nat → Nat}
theorem Own.keep (h : Own w H dv iv d vs us lab) (hs : w.heap.size ≤ w'.heap.size) (hk : ∀ g, H ≤ g → g < w.heap.size → w'.heap[g]? = w.heap[g]?) : Own w' H dv iv d vs us lab :=
  ⟨h.dlen, h.ilen, h.decks.keep hs fun g hg => hk g (h.decks.block g hg).1 (h.decks.block g hg).2, h.dlab, h.items.keep hs fun g hg => hk g (h.items.block g hg).1 (h.items.block g hg).2, h.ilab,
    fun i v ts hv ht => ⟨(h.rows i v ts hv ht).1.keep hs fun g hg => hk g ((h.rows i v ts hv ht).1.block g hg).1 ((h.rows i v ts hv ht).1.block g hg).2, (h.rows i v ts hv ht).2⟩,
    fun i u x hu hx => ⟨(h.ints i u x hu hx).1.keep hs fun g hg => hk g ((h.ints i u x hu hx).1.block g hg).1 ((h.ints i u x hu hx).1.block g hg).2, (h.ints i u x hu hx).2⟩⟩
theorem Dr.keep (h : Dr w H dv iv d) (hs : w.heap.size ≤ w'.heap.size) (hk : ∀ g, H ≤ g → g < w.heap.size → w'.heap[g]? = w.heap[g]?) : Dr w' H dv iv d := by
  obtain ⟨vs, us, lab, h⟩ := h
  exact ⟨vs, us, lab, h.keep hs hk⟩
theorem Dr.chg {F : Nat → Prop} (h : Dr w H dv iv d) (c : Chg F w w') (hF : ∀ k, F k → k < H) : Dr w' H dv iv d := h.keep c.size fun g h1 h2 => c.block g h2 fun hf => by have := hF g hf; omega
theorem Dr.zero (w : World) (H : Nat) : Dr w H (.slice none 0 0) (.slice none 0 0) ⟨[], []⟩ :=
  ⟨[], [], fun _ => 0, rfl, rfl, Grow.nil w H 1, fun g hg => (by cases hg), Grow.nil w H 5, fun g hg => (by cases hg), fun i v ts hv => (by simp at hv), fun i u x hu => (by simp at hu)⟩
theorem Dr.has (h : Dr w H dv iv d) : HasDf w (.agg #[dv, iv]) d := by
  obtain ⟨vs, us, lab, h⟩ := h
  exact ⟨dv, iv, vs, us, rfl, ⟨h.dlen, Sl.grow h.decks, fun i v ts hv ht => Sl.grow (h.rows i v ts hv ht).1⟩, ⟨h.ilen, Sl.grow h.items, fun i u x hu hx => Sl.grow (h.ints i u x hu hx).1⟩⟩
/-- What is in the block of a part does not change when another part's row grows. -/
theorem kept_row {size n : Nat} {v : Value} {xs : List Value} {r : Option Nat} (hg : Grow w H size v n xs) (c : w.grownBy w' r) (hne : ∀ g, v.ownBlock = some g → r ≠ some g) : Grow w' H size v n xs :=
  hg.keep c.size fun g h => c.block g (hg.block g h).2 fun e => hne g h e.symm
/-- The mark of a new block. -/
def mark (lab : Nat → Nat) (s k : Nat) (g : Nat) : Nat := if s ≤ g then k else lab g
theorem mark_old {lab : Nat → Nat} {s k g : Nat} (h : g < s) : mark lab s k g = lab g := by unfold mark; rw [if_neg (by omega)]
theorem mark_new {lab : Nat → Nat} {s k g : Nat} (h : s ≤ g) : mark lab s k g = k := by unfold mark; rw [if_pos h]
/-- Where a grown row lies. -/
def Near (w : World) (v v' : Value) : Prop := v'.ownBlock = v.ownBlock ∨ ∃ g, v'.ownBlock = some g ∧ w.heap.size ≤ g
theorem Near.mark {v v' : Value} {size n : Nat} {xs : List Value} (h : Near w v v') (hg : Grow w H size v n xs) {k : Nat} (hl : ∀ g, v.ownBlock = some g → lab g = k) : ∀ g, v'.ownBlock = some g → mark lab w.heap.size k g = k := by
  intro g e
  rcases h with h | ⟨g', h, h2⟩
  · rw [h] at e
    rw [mark_old (hg.block g e).2, hl g e]
  · rw [h] at e
    cases e
    exact mark_new h2
/-- A further deck. -/
theorem Own.deck (h : Own w H dv iv d vs us lab) (hc : w.grownBy w' dv.ownBlock) (hg : Grow w' H 1 dv' (d.decks.length + 1) (vs ++ [.slice none 0 0])) (hn : Near w dv dv') :
    Own w' H dv' iv { d with decks := d.decks ++ [[]] } (vs ++ [.slice none 0 0]) us (mark lab w.heap.size 0) := by
  refine ⟨by simp [h.dlen], h.ilen, by simpa using hg, hn.mark h.decks h.dlab, kept_row h.items hc fun g hg e => ?_, fun g hg => ?_, fun i v ts hv ht => ?_, fun i u x hu hx => ?_⟩
  · have h1 := h.ilab g hg
    have h2 := h.dlab g e
    omega
  · rw [mark_old (h.items.block g hg).2]
    exact h.ilab g hg
  · rcases Nat.lt_or_ge i vs.length with hi | hi
    · rw [List.getElem?_append_left hi] at hv
      rw [List.getElem?_append_left (by rw [← h.dlen]; exact hi)] at ht
      obtain ⟨g1, g2⟩ := h.rows i v ts hv ht
      refine ⟨kept_row g1 hc fun g hg e => ?_, fun g hg => ?_⟩
      · have h1 := g2 g hg
        have h2 := h.dlab g e
        omega
      · rw [mark_old (g1.block g hg).2]
        exact g2 g hg
    · have hlt := (List.getElem?_eq_some_iff.1 hv).1
      simp at hlt
      obtain rfl : i = vs.length := by omega
      rw [List.getElem?_append_right (Nat.le_refl _)] at hv
      rw [h.dlen, List.getElem?_append_right (Nat.le_refl _)] at ht
      simp at hv ht
      subst hv ht
      exact ⟨Grow.nil w' H 1, fun g hg => by cases hg⟩
  · obtain ⟨g1, g2⟩ := h.ints i u x hu hx
    refine ⟨kept_row g1 hc fun g hg e => ?_, fun g hg => ?_⟩
    · have h1 := g2 g hg
      have h2 := h.dlab g e
      omega
    · rw [mark_old (g1.block g hg).2]
      exact g2 g hg
/-- A further item. -/
theorem Own.item (h : Own w H dv iv d vs us lab) {x : It} {u : Value} (hc : w.grownBy w' iv.ownBlock) (hg : Grow w' H 5 iv' (d.items.length + 1) (itsC d.items us ++ itC x u)) (hn : Near w iv iv')
    (hu : Grow w H 1 u x.n.length (x.n.map (Value.int .i64))) (hul : ∀ g, u.ownBlock = some g → lab g = 2) :
    Own w' H dv iv' { d with items := d.items ++ [x] } vs (us ++ [u]) (mark lab w.heap.size 1) := by
  have old : ∀ {n : Nat} {v : Value} {xs : List Value} {k : Nat}, Grow w H 1 v n xs → (∀ g, v.ownBlock = some g → lab g = k) → k ≠ 1 → Grow w' H 1 v n xs ∧ ∀ g, v.ownBlock = some g → mark lab w.heap.size 1 g = k := by
    intro n v xs k g1 g2 hk
    refine ⟨kept_row g1 hc fun g hg e => hk ?_, fun g hg => ?_⟩
    · rw [← g2 g hg, h.ilab g e]
    · rw [mark_old (g1.block g hg).2]
      exact g2 g hg
  have h1 := old h.decks h.dlab (by decide)
  refine ⟨h.dlen, by simp [h.ilen], h1.1, h1.2, ?_, hn.mark h.items h.ilab, fun i v ts hv ht => ?_, fun i u' x' hu' hx' => ?_⟩
  · rw [itsC_snoc d.items us x u h.ilen]
    simpa using hg
  · obtain ⟨g1, g2⟩ := h.rows i v ts hv ht
    exact old g1 g2 (by omega)
  · rcases Nat.lt_or_ge i us.length with hi | hi
    · rw [List.getElem?_append_left hi] at hu'
      rw [List.getElem?_append_left (by rw [← h.ilen]; exact hi)] at hx'
      obtain ⟨g1, g2⟩ := h.ints i u' x' hu' hx'
      exact old g1 g2 (by decide)
    · have hlt := (List.getElem?_eq_some_iff.1 hu').1
      simp at hlt
      obtain rfl : i = us.length := by omega
      rw [List.getElem?_append_right (Nat.le_refl _)] at hu'
      rw [h.ilen, List.getElem?_append_right (Nat.le_refl _)] at hx'
      simp at hu' hx'
      subst hu' hx'
      exact old hu hul (by decide)
theorem dropLast_set {α : Type} (l : List α) (x : α) (hl : l ≠ []) : l.dropLast ++ [x] = l.set (l.length - 1) x := by
  obtain ⟨a, b, rfl⟩ : ∃ a b, l = a ++ [b] := ⟨l.dropLast, l.getLast hl, (List.dropLast_concat_getLast hl).symm⟩
  simp
/-- A further row of the last deck: the row has grown, and then it is stored. -/
theorem Own.row (h : Own w H dv iv d vs us lab) {s : List UInt8} {v v' : Value} {ts : List (List UInt8)} {gd cap k : Nat} (hdv : dv = .slice (some ⟨gd, 0, none⟩) d.decks.length cap) (hk : k + 1 = d.decks.length) (hv : vs[k]? = some v) (ht : d.decks[k]? = some ts)
    (hc : w.grownBy w1 v.ownBlock) (hg : Grow w1 H 1 v' (ts.length + 1) ((ts ++ [s]).map str)) (hn : Near w v v') :
    Own (w1.setCell ⟨gd, k, none⟩ v') H dv iv (d.row s) (vs.set k v') us (mark lab w.heap.size (k + 3)) := by
  subst hdv
  obtain ⟨r1, r2⟩ := h.rows k v ts hv ht
  have hd0 : lab gd = 0 := h.dlab gd rfl
  have hdlt : gd < w.heap.size := (h.decks.block gd rfl).2
  have hne : v.ownBlock ≠ some gd := fun e => by have := r2 gd e; omega
  have hdk : d.row s = { d with decks := d.decks.set k (ts ++ [s]) } := by
    unfold Df.row
    have hl : d.decks ≠ [] := fun e => by rw [e] at hk; cases hk
    have hlast : d.decks.getLastD [] = ts := by
      rw [List.getLastD_eq_getLast?, List.getLast?_eq_getElem?, show d.decks.length - 1 = k from by omega, ht]
      rfl
    rw [dropLast_set _ _ hl, hlast, show d.decks.length - 1 = k from by omega]
  have old : ∀ {size n : Nat} {v : Value} {xs : List Value} {m : Nat}, Grow w H size v n xs → (∀ g, v.ownBlock = some g → lab g = m) → m ≠ 0 → m ≠ k + 3 → Grow (w1.setCell ⟨gd, k, none⟩ v') H size v n xs ∧ ∀ g, v.ownBlock = some g → mark lab w.heap.size (k + 3) g = m := by
    intro size n v2 xs m g1 g2 h0 h3
    refine ⟨g1.keep (by simp [World.setCell]; exact hc.size) fun g hg => ?_, fun g hg => ?_⟩
    · have hm := g2 g hg
      rw [Below.heap_setCell w1 ⟨gd, k, none⟩ v' g (fun e => by have e : g = gd := e; subst e; omega)]
      exact hc.block g (g1.block g hg).2 fun e => by have := r2 g e.symm; omega
    · rw [mark_old (g1.block g hg).2]
      exact g2 g hg
  have hit := old h.items h.ilab (by decide) (by omega)
  have hdk1 : Grow w1 H 1 (.slice (some ⟨gd, 0, none⟩) d.decks.length cap) d.decks.length vs := kept_row h.decks hc fun g hg e => by cases hg; exact hne e
  rw [hdk]
  refine ⟨by simp [h.dlen], h.ilen, by simpa using Grow.set hdk1 (by omega) v', fun g hg => ?_, hit.1, hit.2, fun i v2 ts2 hv2 ht2 => ?_, fun i u x hu hx => ?_⟩
  · cases hg
    rw [mark_old hdlt]
    exact hd0
  · by_cases e : k = i
    · subst e
      have hlt1 : k < vs.length := (List.getElem?_eq_some_iff.1 hv).1
      have hlt2 : k < d.decks.length := by omega
      rw [List.getElem?_set_self hlt1] at hv2
      rw [List.getElem?_set_self hlt2] at ht2
      cases hv2
      cases ht2
      refine ⟨?_, hn.mark r1 r2⟩
      rw [List.length_append]
      refine hg.keep (by simp [World.setCell]) fun g hg2 => Below.heap_setCell w1 ⟨gd, k, none⟩ _ g (fun e => ?_)
      have e : g = gd := e
      subst e
      rcases hn with hn | ⟨g', hn, h2⟩
      · exact hne (hn ▸ hg2)
      · rw [hn] at hg2
        cases hg2
        omega
    · rw [List.getElem?_set_ne e] at hv2 ht2
      obtain ⟨g1, g2⟩ := h.rows i v2 ts2 hv2 ht2
      exact old g1 g2 (by omega) (by omega)
  · obtain ⟨g1, g2⟩ := h.ints i u x hu hx
    exact old g1 g2 (by decide) (by omega)
end

/-! A map of words. -/
/-- The entries of a map whose keys are these strings, each with what lies at it. -/
def entsF : List (ByteArray × Value) → Nat → List MapEntry
  | [], _ => []
  | (s, v) :: l, k => { key := .string s, val := v, born := k } :: entsF l (k + 1)
def lookE (s : ByteArray) : List (ByteArray × Value) → Option Value
  | [] => none
  | (t, v) :: l => if s = t then some v else lookE s l
def MapAt (w : World) (M : Nat) (l : List (ByteArray × Value)) : Prop := w.heap[M]? = some (.map (entsF l 0).toArray l.length)
theorem entsF_len : ∀ (l : List (ByteArray × Value)) (k : Nat), (entsF l k).length = l.length
  | [], _ => rfl
  | (s, v) :: l, k => by simp [entsF, entsF_len l (k + 1)]
theorem entsF_snoc : ∀ (l : List (ByteArray × Value)) (k : Nat) (s : ByteArray) (v : Value), entsF (l ++ [(s, v)]) k = entsF l k ++ [{ key := .string s, val := v, born := k + l.length }]
  | [], k, s, v => by simp [entsF]
  | (t, u) :: l, k, s, v => by
    simp only [List.cons_append, entsF, entsF_snoc l (k + 1) s v, List.length_cons]
    rw [show k + 1 + l.length = k + (l.length + 1) from by omega]
theorem find_ents (s : ByteArray) : ∀ (l : List (ByteArray × Value)) (k i : Nat), ∃ r, Instr.findNow .string (.string s) (entsF l k) i = some r ∧ (match lookE s l with | some v => ∃ j, r = some (j, v) | none => r = none)
  | [], k, i => ⟨none, rfl, rfl⟩
  | (t, v) :: l, k, i => by
    by_cases h : s = t
    · refine ⟨some (i, v), ?_, ?_⟩
      · simp only [entsF, Instr.findNow, Instr.sameNow]
        rw [(MapKept.bytes_beq s t).2 h]
      · unfold lookE
        rw [if_pos h]
        exact ⟨i, rfl⟩
    · obtain ⟨r, h1, h2⟩ := find_ents s l (k + 1) (i + 1)
      refine ⟨r, ?_, ?_⟩
      · simp only [entsF, Instr.findNow, Instr.sameNow]
        rw [show (s == t) = false from by
          cases hb : (s == t) with
          | false => rfl
          | true => exact absurd ((MapKept.bytes_beq s t).1 hb) h]
        exact h1
      · unfold lookE
        rw [if_neg h]
        exact h2
theorem MapAt.keep {w w' : World} {M : Nat} {l : List (ByteArray × Value)} (h : MapAt w M l) (hk : w'.heap[M]? = w.heap[M]?) : MapAt w' M l := hk.trans h
section
variable {P : Program} {w : World} {T K E : TypeId} {M : Nat} {l : List (ByteArray × Value)}
theorem MapAt.look (h : MapAt w M l) (hT : P.underlying T = some (.map K E)) (hK : P.underlying K = some .string) (hz : (zeroValue E).run P w = .ok .nilFunc w) (s : ByteArray) :
    (Instr.lookup T (.map (some M)) (.string s) true).run P w = .ok (.tuple #[(lookE s l).getD .nilFunc, .bool (lookE s l).isSome]) w := by
  obtain ⟨r, h1, h2⟩ := find_ents s l 0 0
  have hc : ∀ b, (Instr.checkKey b 10000 K (.string s)).run P w = .ok () w := fun b => MapKept.run_checkKey (k := .string s) hK (by simp [MapKept.IsKey]) b 9999
  have hf := MapKept.run_findKey (w := w) hK h1
  cases hl : lookE s l with
  | none =>
    rw [hl] at h2
    subst h2
    simp [Instr.lookup, run_underlying hT, MapKept.run_getObj_map h, hc, hf, hz, Result.andThen]
  | some v =>
    rw [hl] at h2
    obtain ⟨j, rfl⟩ := h2
    simp [Instr.lookup, run_underlying hT, MapKept.run_getObj_map h, hc, hf, Result.andThen]
theorem MapAt.put (h : MapAt w M l) (hT : P.underlying T = some (.map K E)) (hK : P.underlying K = some .string) {s : ByteArray} (hs : lookE s l = none) (v : Value) :
    (Instr.mapUpdate T (.map (some M)) (.string s) v).run P w = .ok () (setBlock w M (.map (entsF (l ++ [(s, v)]) 0).toArray (l.length + 1))) := by
  obtain ⟨r, h1, h2⟩ := find_ents s l 0 0
  rw [hs] at h2
  subst h2
  have hc : (Instr.checkKey false 10000 K (.string s)).run P w = .ok () w := MapKept.run_checkKey (k := .string s) hK (by simp [MapKept.IsKey]) false 9999
  have hf := MapKept.run_findKey (w := w) hK h1
  rw [entsF_snoc, Nat.zero_add]
  simp [Instr.mapUpdate, run_underlying hT, MapKept.run_getObj_map h, hc, hf, MapKept.run_setObj_map _ h, Result.andThen, setBlock]
theorem MapAt.now (h : MapAt w M l) (s : ByteArray) (v : Value) : MapAt (setBlock w M (.map (entsF (l ++ [(s, v)]) 0).toArray (l.length + 1))) M (l ++ [(s, v)]) := by
  have := (MapKept.heap_set (o' := .map (entsF (l ++ [(s, v)]) 0).toArray (l.length + 1)) h).1
  unfold MapAt
  rw [List.length_append]
  exact this
theorem MapAt.lt (h : MapAt w M l) : M < w.heap.size := (Array.getElem?_eq_some_iff.1 h).1
end
theorem chg_setBlock {F : Nat → Prop} {w : World} {M : Nat} (hM : F M) (o : Obj) : Chg F w (setBlock w M o) := ⟨rfl, rfl, rfl, by simp [setBlock], fun k _ hk => by
  have : k ≠ M := fun e => hk (e ▸ hM)
  simp [setBlock, Ne.symm this]⟩

end Drf
end Go.Proofs.YtibeangcjfjeiaaDoor

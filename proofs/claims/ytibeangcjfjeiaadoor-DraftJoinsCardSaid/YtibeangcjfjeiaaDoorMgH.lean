/- Lines that are wrong; the line of an item, number by number; how long texts are; nothing of the program is imported. Words for memory: a block known whole; what a call may have written. Nothing of the program is imported. A row of the call's own that grows by append, whatever is appended, and whatever mark its block bears. Nothing of the program is imported. Words that the walks of layer 2 share. Drafts in memory, as what is there and can be read; nothing of the program is imported. Tokens in memory; what a call that changes one block of its caller's leaves. -/
import Derived.Test.YtibeangcjfjeiaaDoorMgG
import Derived.WalkKit
import Derived.WalkSpells
import Derived.Lib.Hide
import Derived.Deep.AppendSrc
import Derived.OwnWalk
import Derived.Test.YtibeangcjfjeiaaDoorRows
import Derived.Test.YtibeangcjfjeiaaDoorMgD
import Derived.WalkLawsBesides
import Derived.Handy
import Derived.IntWalk
import Derived.Deep.RegionHeld3
import Derived.Deep.AppendLies
import Derived.Test.YtibeangcjfjeiaaDoorMgF
namespace Go.Proofs.YtibeangcjfjeiaaDoor
open Txt Wire Lx
set_option linter.unusedVariables false
set_option maxRecDepth 100000
set_option linter.unusedSimpArgs false
namespace Drf

/-! Lines that are wrong. -/
theorem parse_bad {d : Df} {t : Tk} {r : List Tk} {e L : Nat} (h3 : t.kind ≠ 3) (h4 : t.kind ≠ 4) (h : lineR d t r = .inl (e, L)) : parseT d (t :: r) = .bad e L := by
  show parseF (r.length + 1) d (t :: r) = _
  unfold parseF
  rw [if_neg h4, if_neg h3, h]
theorem parse_more {d d' : Df} {t u : Tk} {r r' : List Tk} (h3 : t.kind ≠ 3) (h4 : t.kind ≠ 4) (h : lineR d t r = .inr (d', u :: r')) (hu : stop u ≠ true) : parseT d (t :: r) = .bad 11 u.line := by
  show parseF (r.length + 1) d (t :: r) = _
  unfold parseF
  rw [if_neg h4, if_neg h3, h]
  simp only
  rw [if_neg hu]
theorem line_ends {d d' : Df} {t : Tk} {r r' : List Tk} (h : lineR d t r = .inr (d', r')) (he : Ends r) : Ends r' := by
  obtain ⟨_, hw⟩ := line_way h
  cases hw with
  | deck hw h4 => exact he
  | row u _ hw hrow hl hu hs => exact take_ends (by decide) hu he
  | item k x _ hw hrow hk hl hx => exact itemB_ends hx he

/-! The line of an item, number by number. -/
def numL (k : Int) : Nat → List Int → List UInt8
  | _, [] => []
  | i, z :: l => 32 :: ((if k = 2 ∧ i = 3 then dirW z.toNat else decI z) ++ numL k (i + 1) l)
def lineI (x : It) : List UInt8 :=
  match formI x.kind with
  | none => []
  | some f => f.word ++ (if 1 ≤ f.names then 32 :: x.name else []) ++ (if 2 ≤ f.names then 32 :: x.other else []) ++ numL x.kind 0 x.n ++ (if f.names = 0 ∧ x.name ≠ [] then 32 :: x.name else []) ++ [10]
theorem tail_append (a b : List Pc) : tailB (a ++ b) = tailB a ++ tailB b := List.flatMap_append
theorem dec_nn {z : Int} (h : 0 ≤ z) : decI z = dec z.toNat := by
  unfold decI
  rw [if_pos h]
theorem numL_tail {k : Int} (hk : k ≠ 2) : ∀ (l : List Int) (i : Nat), (∀ z ∈ l, 0 ≤ z) → numL k i l = tailB (l.map numP)
  | [], _, _ => rfl
  | z :: l, i, h => by
    show 32 :: ((if k = 2 ∧ i = 3 then dirW z.toNat else decI z) ++ numL k (i + 1) l) = 32 :: (dec z.toNat ++ tailB (l.map numP))
    rw [if_neg (by rintro ⟨h, _⟩; exact hk h), numL_tail hk l (i + 1) (fun y hy => h y (by simp [hy])), dec_nn (h z (by simp))]
theorem line_right {x : It} (h : rightIt x = true) : lineB (itemPs x) = lineI x := by
  unfold itemPs lineI
  unfold rightIt at h
  cases hf : formI x.kind with
  | none => rw [hf] at h; cases h
  | some f =>
    rw [hf] at h
    simp only [Bool.and_eq_true] at h
    have hl : x.n.length = f.count := by simpa using h.1.1.1.1.1.1.1
    have hn : ∀ z ∈ x.n, 0 ≤ z := fun z hz => by
      have := List.all_eq_true.1 h.1.2 z hz
      simpa using this
    have hnum : tailB (if x.kind = 2 then (x.n.take 3).map numP ++ [Pc.w (dirW (x.n.getD 3 0).toNat)] else x.n.map numP) = numL x.kind 0 x.n := by
      by_cases hk : x.kind = 2
      · have hc : f.count = 4 := by
          rw [hk] at hf
          have hf : some _ = some f := hf
          cases hf
          rfl
        rw [if_pos hk, hk]
        rw [hc] at hl
        match hx : x.n, hl with
        | [a, b, c, d], _ =>
          rw [hx] at hn
          have ha := dec_nn (hn a (by simp))
          have hb := dec_nn (hn b (by simp))
          have hc := dec_nn (hn c (by simp))
          simp [numL, tailB, numP, Pc.bytes, ha, hb, hc]
      · rw [if_neg hk, numL_tail hk x.n 0 hn]
    show f.word ++ (tailB (_ ++ _ ++ _ ++ _) ++ [10]) = _
    rw [tail_append, tail_append, tail_append, hnum]
    have e1 : ∀ (p : Prop) [Decidable p] (w : List UInt8), tailB (if p then [Pc.w w] else []) = if p then 32 :: w else [] := by
      intro p _ w
      split
      · simp [tailB, Pc.bytes]
      · rfl
    rw [e1, e1, e1]
    simp only [List.append_assoc]

/-! How long texts are. -/
theorem numL_len (k : Int) : ∀ (l : List Int) (i : Nat), (∀ z ∈ l, 0 ≤ z) → (numL k i l).length ≤ 23 * l.length
  | [], _, _ => by simp [numL]
  | z :: l, i, h => by
    have := numL_len k l (i + 1) fun y hy => h y (by simp [hy])
    have h1 : (if k = 2 ∧ i = 3 then dirW z.toNat else decI z).length ≤ 22 := by
      split
      · have key : ∀ d, d < 6 → (dirW d).length ≤ 22 := by decide
        by_cases hd : z.toNat < 6
        · exact key _ hd
        · have : dirW z.toNat = [] := by
            unfold dirW
            split <;> first | omega | rfl
          rw [this]
          simp
      · exact decI_len z
    show (32 :: ((if k = 2 ∧ i = 3 then dirW z.toNat else decI z) ++ numL k (i + 1) l)).length ≤ _
    simp only [List.length_cons, List.length_append]
    omega

theorem formI_few {z : Int} {f : Form} (h : formI z = some f) : f.word.length ≤ 6 ∧ f.count ≤ 7 := by
  unfold formI at h
  by_cases h0 : 0 ≤ z
  · rw [if_pos h0] at h
    unfold form at h
    split at h <;> first | (cases h; decide) | cases h
  · rw [if_neg h0] at h
    cases h
theorem word_len {w : List UInt8} (h : word w = true) : w.length ≤ 20 := by
  unfold word at h
  simp only [Bool.and_eq_true, decide_eq_true_eq] at h
  exact h.1.1.2
/-- The names of a right item are short, and its numbers are few. -/
theorem right_few {x : It} (h : rightIt x = true) : x.name.length ≤ 20 ∧ x.other.length ≤ 20 ∧ x.n.length ≤ 7 ∧ (∀ z ∈ x.n, 0 ≤ z) := by
  unfold rightIt at h
  cases hf : formI x.kind with
  | none => rw [hf] at h; cases h
  | some f =>
    rw [hf] at h
    simp only [Bool.and_eq_true, Bool.or_eq_true, beq_iff_eq, decide_eq_true_eq] at h
    obtain ⟨⟨⟨⟨⟨⟨⟨h1, h2⟩, h3⟩, h4⟩, h5⟩, h6⟩, h7⟩, h8⟩ := h
    refine ⟨?_, ?_, by rw [h1]; exact (formI_few hf).2, fun z hz => ?_⟩
    · by_cases hn : x.name = []
      · rw [hn]
        simp
      · rcases h4 with h4 | h4
        · rcases h3 with (h3 | h3) | h3
          · omega
          · rcases h6 with h6 | h6
            · rw [h3] at h6
              simp [hn] at h6
            · exact word_len h6
          · exact absurd h3 hn
        · exact word_len h4
    · rcases h2 with h2 | h2
      · rcases h5 with h5 | h5
        · omega
        · exact word_len h5
      · rw [h2]
        simp
    · have := List.all_eq_true.1 h7 z hz
      simpa using this
theorem lineI_len {x : It} (h : rightIt x = true) : (lineI x).length ≤ 300 := by
  obtain ⟨h1, h2, h3, h4⟩ := right_few h
  unfold lineI
  cases hf : formI x.kind with
  | none => simp
  | some f =>
    have h5 := (formI_few hf).1
    have h6 := numL_len x.kind x.n 0 h4
    have e : ∀ (p : Prop) [Decidable p] (w : List UInt8), w.length ≤ 20 → (if p then 32 :: w else []).length ≤ 21 := by
      intro p _ w hw
      split
      · simp only [List.length_cons]
        omega
      · simp
    have e1 := e (1 ≤ f.names) x.name h1
    have e2 := e (2 ≤ f.names) x.other h2
    have e3 := e (f.names = 0 ∧ x.name ≠ []) x.name h1
    simp only [List.length_append, List.length_singleton]
    omega
theorem flat_bound {α : Type} (g : α → List UInt8) (k : Nat) : ∀ (l : List α), (∀ x ∈ l, (g x).length ≤ k) → (l.flatMap g).length ≤ k * l.length
  | [], _ => by simp
  | x :: l, h => by
    have h1 := flat_bound g k l fun y hy => h y (by simp [hy])
    have h2 := h x (by simp)
    rw [List.flatMap_cons, List.length_append, List.length_cons, Nat.mul_succ]
    omega
/-- The text of a right draft, deck by deck and item by item. -/
def deckB (rows : List (List UInt8)) : List UInt8 := [100, 101, 99, 107, 10] ++ rows.flatMap fun r => [114, 111, 119, 32] ++ quo r ++ [10]
theorem print_is {d : Df} (h : right d = true) : printP d = d.decks.flatMap deckB ++ d.items.flatMap lineI := by
  unfold printP
  rw [if_pos h]
  unfold textOf
  rw [lines_of, List.flatMap_append]
  congr 1
  · unfold deckLs
    rw [List.flatMap_assoc]
    congr 1
    funext rows
    show [100, 101, 99, 107, 10] ++ (rows.map fun r => [Pc.w wRow, Pc.txt r]).flatMap lineB = _
    unfold deckB
    congr 1
    rw [List.flatMap_map]
    congr 1
    funext r
    simp [lineB, tailB, Pc.bytes, wRow]
  · rw [List.flatMap_map]
    have : ∀ l : List It, (∀ x ∈ l, rightIt x = true) → l.flatMap (fun x => lineB (itemPs x)) = l.flatMap lineI := by
      intro l
      induction l with
      | nil => intro _; rfl
      | cons x l ih =>
        intro h
        rw [List.flatMap_cons, List.flatMap_cons, line_right (h x (by simp)), ih fun y hy => h y (by simp [hy])]
    exact this d.items (right_parts h).2.2.2
theorem print_len (d : Df) : (printP d).length ≤ 300000000 := by
  by_cases h : right d = true
  · obtain ⟨h1, h2, h3, h4⟩ := right_parts h
    rw [print_is h, List.length_append]
    have a := flat_bound lineI 300 d.items fun x hx => lineI_len (h4 x hx)
    have b := flat_bound deckB 67200000 d.decks fun rows hr => by
      obtain ⟨g1, g2⟩ := h2 rows hr
      have c := flat_bound (fun r => [114, 111, 119, 32] ++ quo r ++ [10]) 16400 rows fun r hm => by
        have := quo_len r
        have := g2 r hm
        simp only [List.length_append, List.length_cons, List.length_nil]
        omega
      unfold deckB
      rw [List.length_append]
      simp only [List.length_cons, List.length_nil]
      omega
    omega
  · unfold printP
    rw [if_neg h]
    simp

end Drf
end Go.Proofs.YtibeangcjfjeiaaDoor

namespace Go.Proofs.YtibeangcjfjeiaaDoor
open Go.RowKit
namespace Wire

/-- Block g is just these cells, none of them frozen. -/
def Blk (w : World) (g : Nat) (t : TypeId) (cs : Array Value) : Prop := w.heap[g]? = some (.cells cs t (0, 0))

section
variable {w w' : World} {g : Nat} {t : TypeId} {cs : Array Value}
theorem Blk.inside (h : Blk w g t cs) : g < w.heap.size := by
  apply Classical.byContradiction
  intro hn
  unfold Blk at h
  rw [Array.getElem?_eq_none (by omega)] at h
  cases h
theorem Blk.at (h : Blk w g t cs) (i : Nat) : w.cell? ⟨g, i, none⟩ = cs[i]? := cell_of_row w g i cs t (0, 0) h
theorem Blk.thaw (h : Blk w g t cs) (i : Nat) : w.frozen? ⟨g, i, none⟩ = false := by
  unfold Blk at h
  simp [World.frozen?, h]
theorem Blk.fresh (w : World) (t : TypeId) (cs : Array Value) : Blk (w.alloc (.cells cs t)) w.heap.size t cs := Go.heap_alloc_new w _
theorem Blk.kept (h : Blk w g t cs) (o : Obj) : Blk (w.alloc o) g t cs := (Below.heap_alloc w o g h.inside).trans h
theorem Blk.put (h : Blk w g t cs) (i : Nat) (u : Value) : Blk (w.setCell ⟨g, i, none⟩ u) g t (cs.setIfInBounds i u) := by
  unfold Blk at h ⊢
  simp [World.setCell, Array.getElem?_modify, h]
theorem Blk.aside (h : Blk w g t cs) {p : Addr} (hp : g ≠ p.block) (u : Value) : Blk (w.setCell p u) g t cs := (Below.heap_setCell w p u g hp).trans h
theorem Blk.under {B : Nat} (h : Blk w g t cs) (hb : Below B w w') (hg : g < B) : Blk w' g t cs := (hb.block g hg).trans h
theorem Blk.past {row : Option Nat} (h : Blk w g t cs) (hb : w.grownBy w' row) (hg : some g ≠ row) : Blk w' g t cs := (hb.block g h.inside hg).trans h
end

/-- Nothing that was there is written. -/
theorem below_none {w w' : World} (h : Below w.heap.size w w') (row : Option Nat) : w.grownBy w' row :=
  ⟨h.os, h.tape, h.output, h.size, fun k hk _ => h.block k hk⟩
theorem grown_trans {a b c : World} {row : Option Nat} (h : a.grownBy b row) (k : b.grownBy c row) : a.grownBy c row :=
  ⟨k.os.trans h.os, k.tape.trans h.tape, k.output.trans h.output, Nat.le_trans h.size k.size,
    fun i hi hr => (k.block i (Nat.lt_of_lt_of_le hi h.size) hr).trans (h.block i hi hr)⟩
theorem grown_below {w w' : World} {g B : Nat} (h : w.grownBy w' (some g)) (hg : B ≤ g) (hB : B ≤ w.heap.size) : Below B w w' :=
  ⟨h.os, h.tape, h.output, h.size, fun k hk => h.block k (by omega) (fun e => by injection e; omega)⟩
theorem grown_set (w : World) (g i : Nat) (u : Value) : w.grownBy (w.setCell ⟨g, i, none⟩ u) (some g) :=
  ⟨rfl, rfl, rfl, by simp [World.setCell], fun k _ hr => Below.heap_setCell _ _ _ _ (fun e => hr (congrArg some e))⟩

theorem next_below {a b c : World} (h : Below a.heap.size a b) (k : Below b.heap.size b c) : Below a.heap.size a c := h.trans (k.mono h.size)

end Wire
end Go.Proofs.YtibeangcjfjeiaaDoor

namespace Go.Proofs.YtibeangcjfjeiaaDoor
open Go.RowKit
set_option linter.unusedVariables false
set_option maxRecDepth 100000
set_option linter.unusedSimpArgs false
namespace Wire

theorem small_max {n : Nat} (h : n ≤ 281474976710656) : n ≤ maxLen := by
  unfold maxLen
  omega

/-- v is nil (no elements), or a slice from the head of a block from B on, whose cells are there and can be written up to the capacity; the first n elements (of 'size' cells) are xs. -/
structure Grow (w : World) (B size : Nat) (v : Value) (n : Nat) (xs : List Value) : Prop where
  len : xs.length = n * size
  form : (v = .slice none 0 0 ∧ n = 0) ∨ ∃ g cap, v = .slice (some ⟨g, 0, none⟩) n cap ∧ B ≤ g ∧ g < w.heap.size ∧ n ≤ cap ∧ cap ≤ maxLen ∧
    (∀ j, j < cap * size → (w.cell? ⟨g, j, none⟩).isSome = true) ∧ (∀ j, j < cap * size → w.frozen? ⟨g, j, none⟩ = false) ∧ ∀ j u, xs[j]? = some u → w.cell? ⟨g, j, none⟩ = some u

section
variable {w w' : World} {B size n : Nat} {v : Value} {xs : List Value}
theorem Grow.nil (w : World) (B size : Nat) : Grow w B size (.slice none 0 0) 0 [] := ⟨by simp, .inl ⟨rfl, rfl⟩⟩

theorem Grow.block (h : Grow w B size v n xs) : ∀ g, v.ownBlock = some g → B ≤ g ∧ g < w.heap.size := by
  intro g hg
  rcases h.form with ⟨rfl, _⟩ | ⟨g', cap, rfl, h1, h2, _⟩
  · cases hg
  · obtain rfl : g' = g := by simpa [Value.ownBlock] using hg
    exact ⟨h1, h2⟩

theorem Grow.keep (h : Grow w B size v n xs) (hs : w.heap.size ≤ w'.heap.size) (hk : ∀ g, v.ownBlock = some g → w'.heap[g]? = w.heap[g]?) : Grow w' B size v n xs := by
  refine ⟨h.len, ?_⟩
  rcases h.form with h0 | ⟨g, cap, rfl, h1, h2, h3, h4, h5, h6, h7⟩
  · exact .inl h0
  · have hb := hk g rfl
    have hc : ∀ j, w'.cell? ⟨g, j, none⟩ = w.cell? ⟨g, j, none⟩ := fun j => World.cell?_of_block (a := ⟨g, j, none⟩) hb
    have hf : ∀ j, w'.frozen? ⟨g, j, none⟩ = w.frozen? ⟨g, j, none⟩ := fun j => World.frozen?_of_block (a := ⟨g, j, none⟩) hb
    exact .inr ⟨g, cap, rfl, h1, by omega, h3, h4, fun j hj => by rw [hc]; exact h5 j hj, fun j hj => by rw [hf]; exact h6 j hj, fun j u hu => by rw [hc]; exact h7 j u hu⟩

theorem Grow.grown {row : Option Nat} (h : Grow w B size v n xs) (hg : w.grownBy w' row) (hne : v.ownBlock = none ∨ v.ownBlock ≠ row) : Grow w' B size v n xs :=
  h.keep hg.size fun g hv => hg.block g (h.block g hv).2 (fun e => by rcases hne with hn | hn <;> rw [hv] at hn; cases hn; exact hn e)

theorem Grow.below (h : Grow w B size v n xs) (hb : Below w.heap.size w w') : Grow w' B size v n xs :=
  h.keep hb.size fun g hv => hb.block g (h.block g hv).2

theorem Grow.lower {B' : Nat} (h : Grow w B size v n xs) (hB : B' ≤ B) : Grow w B' size v n xs := by
  refine ⟨h.len, ?_⟩
  rcases h.form with h0 | ⟨g, cap, e, h1, h2⟩
  · exact .inl h0
  · exact .inr ⟨g, cap, e, by omega, h2⟩

theorem Grow.alloc (h : Grow w B size v n xs) (o : Obj) : Grow (w.alloc o) B size v n xs :=
  h.below ((Below.refl _ _).alloc (Nat.le_refl _) _)

theorem Grow.slice (h : Grow w B size v n xs) : ∃ A c, v = .slice A n c := by
  rcases h.form with ⟨rfl, rfl⟩ | ⟨g, cap, rfl, _⟩
  · exact ⟨_, _, rfl⟩
  · exact ⟨_, _, rfl⟩
end

theorem size_setCells_own (b : Nat) : ∀ (vs : List Value) (o : Nat) (w : World), (w.setCells b o vs).heap.size = w.heap.size
  | [], _, _ => rfl
  | v :: r, o, w => by
    show ((w.setCell _ v).setCells b (o + 1) r).heap.size = _
    rw [size_setCells_own b r]
    simp [World.setCell]

theorem grown_setCells (b : Nat) : ∀ (vs : List Value) (o : Nat) (w : World), w.grownBy (w.setCells b o vs) (some b)
  | [], _, w => ⟨rfl, rfl, rfl, Nat.le_refl _, fun _ _ _ => rfl⟩
  | v :: r, o, w => grown_trans (grown_set w b o v) (grown_setCells b r (o + 1) (w.setCell ⟨b, o, none⟩ v))

section
variable {P : Program} (w : World)

theorem run_append_src (B : Nat) (t tx ty e : TypeId) (i : TypeInfo) (z : Value) (size bytes : Nat) (ht : P.underlying t = some (.slice e)) (hi : P.info? e = some i) (hz : i.zero = some z)
    (hsize : i.size = size) (hby : i.bytes = bytes) (hzs : z.cells.size = size) (hsz : 0 < size)
    (v : Value) (n : Nat) (xs : List Value) (hown : Grow w B size v n xs) (x : Value) (m : Nat) (news : List Value) (hs : Src P size tx x m news w)
    (h63 : n + m ≤ maxLen) (hbytes : (n + m) * bytes ≤ 140737488355328) (hB : B ≤ w.heap.size) :
    ∃ v' w', (Builtin.append_ #[t, tx] ty #[v, x]).run P w = .ok v' w' ∧ Grow w' B size v' (n + m) (xs ++ news) ∧ w.grownBy w' v.ownBlock ∧ (v'.ownBlock = v.ownBlock ∨ v'.ownBlock = some w.heap.size) := by
  subst hsize
  subst hby
  have hlen : (xs ++ news).length = (n + m) * i.size := by rw [List.length_append, hown.len, hs.newsLen, Nat.add_mul]
  have hm63 : ((n + m : Nat) : Int) ≤ 9223372036854775807 := by simp only [maxLen] at h63; omega
  have grow : ∀ (old : Nat), old < n + m → ∀ row, Grow (w.drew.alloc (.cells ((xs ++ news).toArray ++ Builtin.zeroCells z.cells (grownCap w (n + m) old e - (n + m))) e)) B i.size (.slice (some ⟨w.heap.size, 0, none⟩) (n + m) (grownCap w (n + m) old e)) (n + m) (xs ++ news) ∧
      w.grownBy (w.drew.alloc (.cells ((xs ++ news).toArray ++ Builtin.zeroCells z.cells (grownCap w (n + m) old e - (n + m))) e)) row := by
    intro old ho row
    have hge := grownCap_ge w (n + m) old e
    have hb : Blk _ w.heap.size e _ := Blk.fresh w.drew e ((xs ++ news).toArray ++ Builtin.zeroCells z.cells (grownCap w (n + m) old e - (n + m)))
    have hsz2 : ((xs ++ news).toArray ++ Builtin.zeroCells z.cells (grownCap w (n + m) old e - (n + m))).size = grownCap w (n + m) old e * i.size := by
      rw [Array.size_append, List.size_toArray, size_zeroCells, hlen, hzs, ← Nat.add_mul]
      congr 1
      omega
    refine ⟨⟨hlen, .inr ⟨w.heap.size, _, rfl, hB, by simp, hge, grownCap_le_maxLen w (n + m) old e h63, fun j hj => ?_, fun j _ => hb.thaw j, fun j u hu => ?_⟩⟩, ⟨rfl, rfl, rfl, by simp, fun k hk _ => Go.heap_alloc_old w.drew _ hk⟩⟩
    · rw [hb.at, Array.getElem?_eq_getElem (by rw [hsz2]; exact hj)]
      rfl
    · have hj : j < (xs ++ news).length := (List.getElem?_eq_some_iff.1 hu).1
      rw [hb.at, Array.getElem?_append_left (by simpa using hj), List.getElem?_toArray]
      exact hu
  rcases hown.form with ⟨rfl, rfl⟩ | ⟨g, cap, rfl, h1, h2, h3, h4, h5, h6, h7⟩
  · have hx : xs = [] := List.eq_nil_of_length_eq_zero (by simpa using hown.len)
    subst hx
    by_cases hm : m = 0
    · subst hm
      have hn : news = [] := List.eq_nil_of_length_eq_zero (by simpa using hs.newsLen)
      subst hn
      refine ⟨.slice none 0 0, w, ?_, Grow.nil w B i.size, ⟨rfl, rfl, rfl, Nat.le_refl _, fun _ _ _ => rfl⟩, .inl rfl⟩
      rcases hs.kind with ⟨e', hk⟩ | hk <;> simp [Builtin.append_, run_underlying ht, run_underlying hk, sizeOf, typeInfo, hi, hs.len, hs.cells, storeCells]
    · have hr := run_append_grow_src (P := P) w t tx ty e i z ht hi hz none 0 0 [] (run_firstCells_none w.drew i.size 0 0 0) x m news hs (by omega) (by simpa using hm63) (growslice_fits (by omega) hbytes)
      have hgr := grow 0 (by omega) (Value.ownBlock (.slice none 0 0))
      exact ⟨_, _, hr, hgr.1, hgr.2, .inr rfl⟩
  · by_cases hroom : n + m ≤ cap
    · have hcap : n * i.size + news.length ≤ cap * i.size := by rw [hs.newsLen, ← Nat.add_mul]; exact Nat.mul_le_mul_right _ hroom
      have hr := run_append_room_src (P := P) w t tx ty e i ht hi g 0 n cap x m news hs hroom (fun j hj => by simp only [Nat.zero_add]; exact h5 _ (by omega)) (fun j hj => by simp only [Nat.zero_add]; exact h6 _ (by omega))
      simp only [Nat.zero_add] at hr
      have hin := World.cell?_setCells_in g news (n * i.size) w (fun j hj => h5 _ (by omega))
      have hout := World.cell?_setCells_out g news (n * i.size) w
      refine ⟨_, _, hr, ⟨hlen, .inr ⟨g, cap, rfl, h1, by rw [size_setCells_own]; exact h2, hroom, h4, ?_, ?_, ?_⟩⟩, grown_setCells g news _ w, .inl rfl⟩
      · intro j hj
        by_cases hj2 : n * i.size ≤ j ∧ j < n * i.size + news.length
        · obtain ⟨d, rfl⟩ : ∃ d, j = n * i.size + d := ⟨j - n * i.size, by omega⟩
          rw [hin d (by omega)]
          rfl
        · rw [hout ⟨g, j, none⟩ (fun _ _ => by show j < _ ∨ _ ≤ j; omega)]
          exact h5 j hj
      · intro j hj
        rw [World.frozen?_setCells]
        exact h6 j hj
      · intro j u hu
        by_cases hj2 : j < n * i.size
        · rw [List.getElem?_append_left (by rw [hown.len]; exact hj2)] at hu
          rw [hout ⟨g, j, none⟩ (fun _ _ => Or.inl hj2)]
          exact h7 j u hu
        · rw [List.getElem?_append_right (by rw [hown.len]; omega), hown.len] at hu
          obtain ⟨d, rfl⟩ : ∃ d, j = n * i.size + d := ⟨j - n * i.size, by omega⟩
          rw [Nat.add_sub_cancel_left] at hu
          obtain ⟨hd, hd2⟩ := List.getElem?_eq_some_iff.1 hu
          rw [hin d hd, hd2]
    · have holds : (Builtin.firstCells i.size n (.slice (some ⟨g, 0, none⟩) n cap)).run P w.drew = .ok xs.toArray w.drew :=
        run_firstCells_some w.drew i.size n ⟨g, 0, none⟩ n cap xs hown.len (fun j u hu => by
          have := h7 j u hu
          rw [show (⟨g, 0, none⟩ : Addr).add j = ⟨g, j, none⟩ from by unfold Addr.add; split <;> simp_all]
          simpa using this)
      have hr := run_append_grow_src (P := P) w t tx ty e i z ht hi hz (some ⟨g, 0, none⟩) n cap xs holds x m news hs (by omega) hm63 (growslice_fits (by omega) hbytes)
      have hgr := grow cap (by omega) (Value.ownBlock (.slice (some ⟨g, 0, none⟩) n cap))
      exact ⟨_, _, hr, hgr.1, hgr.2, .inr rfl⟩

theorem wpList_append_src {ops : Array Oper} {rest : List Oper} {o : Oper} {a : Act} {Q : Exit → Act → World → Prop} (hgd : o.guard = none) (s xo : Operand) (t tx : TypeId)
    (ho : o.op = .call { callee := .builtin .append, args := #[s, xo], argTypes := #[t, tx] })
    (B : Nat) (e : TypeId) (i : TypeInfo) (z : Value) (size bytes : Nat) (ht : P.underlying t = some (.slice e)) (hi : P.info? e = some i) (hz : i.zero = some z)
    (hsize : i.size = size) (hby : i.bytes = bytes) (hzs : z.cells.size = size) (hsz : 0 < size)
    (v : Value) (n : Nat) (xs : List Value) (hsv : a.eval s = v) (hown : Grow w B size v n xs) (x : Value) (m : Nat) (news : List Value) (hxv : a.eval xo = x) (hs : Src P size tx x m news w)
    (h63 : n + m ≤ maxLen) (hbytes : (n + m) * bytes ≤ 140737488355328) (hB : B ≤ w.heap.size)
    (h : ∀ v' w', Grow w' B size v' (n + m) (xs ++ news) → w.grownBy w' v.ownBlock → (v'.ownBlock = v.ownBlock ∨ v'.ownBlock = some w.heap.size) → wpList P ops Q rest (a.put o.dst v') w') : wpList P ops Q (o :: rest) a w :=
  wpList_plain hgd fun K hK => by
    obtain ⟨v', w', hr, h2, h3, h4⟩ := run_append_src (P := P) w B t tx o.type e i z size bytes ht hi hz hsize hby hzs hsz v n xs hown x m news hs h63 hbytes hB
    unfold Oper.wp execOp
    simp only [ho, resolve, invoke, builtin, Sem.run_bind, Sem.run_pure, Result.andThen_ok, List.map_toArray, List.map_cons, List.map_nil, hsv, hxv, hr]
    exact hK _ _ (h v' w' h2 h3 h4)

/-- '[]byte(s)': a row of the call's own, which may grow. -/
theorem run_bytes_own (src dst e : TypeId) (s : ByteArray) (hs : P.underlying src = some .string) (hd : P.underlying dst = some (.slice e)) (he : P.underlying e = some (.int .u8)) (hm : s.size ≤ maxLen) :
    ∃ v' w', (convert src dst (.string s)).run P w = .ok v' w' ∧ Grow w' w.heap.size 1 v' s.size (byteCells s) ∧ Below w.heap.size w w' ∧ v'.ownBlock = some w.heap.size := by
  refine ⟨_, _, run_bytes_of_string w src dst e s hs hd he, ⟨by rw [byteCells_length, Nat.mul_one], .inr ⟨w.heap.size, _, rfl, Nat.le_refl _, by simp, grownCap_ge w s.size 0 e, grownCap_le_maxLen w s.size 0 e hm, ?_, ?_, ?_⟩⟩, ⟨rfl, rfl, rfl, by simp, fun k hk => Go.heap_alloc_old w.drew _ hk⟩, rfl⟩
  all_goals
    have hge := grownCap_ge w s.size 0 e
    have hsz : (bytesRow s (grownCap w s.size 0 e)).size = grownCap w s.size 0 e := by
      unfold bytesRow
      rw [Array.size_append, Array.size_map, Array.size_replicate]
      show s.size + _ = _
      omega
  · intro j hj
    rw [show (⟨w.heap.size, j, none⟩ : Addr) = ⟨w.drew.heap.size, j, none⟩ from rfl, World.cell?_alloc_mark, Array.getElem?_eq_getElem (by omega)]
    rfl
  · intro j hj
    rw [show (⟨w.heap.size, j, none⟩ : Addr) = ⟨w.drew.heap.size, j, none⟩ from rfl, World.frozen?_alloc_mark]
    simp
    omega
  · intro j u hu
    have hj : j < s.size := by
      have := (List.getElem?_eq_some_iff.1 hu).1
      rwa [byteCells_length] at this
    rw [show (⟨w.heap.size, j, none⟩ : Addr) = ⟨w.drew.heap.size, j, none⟩ from rfl, World.cell?_alloc_mark]
    unfold bytesRow
    rw [Array.getElem?_append_left (by rw [Array.size_map]; exact hj)]
    unfold byteCells at hu
    rw [List.getElem?_map, Array.getElem?_toList] at hu
    rw [Array.getElem?_map]
    exact hu

theorem wpList_bytes_own {ops : Array Oper} {rest : List Oper} {o : Oper} {a : Act} {Q : Exit → Act → World → Prop} (hgd : o.guard = none) (x : Operand) (src dst : TypeId)
    (ho : o.op = .convert src dst x) (e : TypeId) (s : ByteArray) (hxv : a.eval x = .string s) (hs : P.underlying src = some .string) (hd : P.underlying dst = some (.slice e)) (he : P.underlying e = some (.int .u8)) (hm : s.size ≤ maxLen)
    (h : ∀ v' w', Grow w' w.heap.size 1 v' s.size (byteCells s) → Below w.heap.size w w' → v'.ownBlock = some w.heap.size → wpList P ops Q rest (a.put o.dst v') w') : wpList P ops Q (o :: rest) a w :=
  wpList_plain hgd fun K hK => by
    obtain ⟨v', w', hr, h2, h3, h4⟩ := run_bytes_own (P := P) w src dst e s hs hd he hm
    unfold Oper.wp execOp
    simp only [ho, Sem.run_bind, Sem.run_pure, Result.andThen_ok, hxv, hr]
    exact hK _ _ (h v' w' h2 h3 h4)

/-- 'string(b)' of a row of the call's own. -/
theorem run_string_own (src dst e : TypeId) (B : Nat) (v : Value) (l : List UInt8) (hown : Grow w B 1 v l.length (byteCells ⟨l.toArray⟩)) (hs : P.underlying src = some (.slice e)) (he : P.underlying e = some (.int .u8)) (hd : P.underlying dst = some .string) :
    (convert src dst v).run P w = .ok (.string ⟨l.toArray⟩) w := by
  rcases hown.form with ⟨rfl, h0⟩ | ⟨g, cap, rfl, _, _, _, _, _, _, h7⟩
  · have hl : l = [] := List.eq_nil_of_length_eq_zero h0
    subst hl
    rw [run_convert_bytes_string w src dst e none 0 0 hs he hd]
    rfl
  · refine run_convert_bytes_back w src dst e ⟨g, 0, none⟩ cap l hs he hd fun j hj => ?_
    rw [show (⟨g, 0, none⟩ : Addr).add j = ⟨g, j, none⟩ from by unfold Addr.add; split <;> simp_all]
    refine h7 j _ ?_
    unfold byteCells
    rw [List.getElem?_map]
    simp [List.getElem?_eq_getElem hj]
end
end Wire
end Go.Proofs.YtibeangcjfjeiaaDoor

namespace Go.Proofs.YtibeangcjfjeiaaDoor
open Go.RowKit Wire
set_option linter.unusedVariables false
set_option maxRecDepth 100000
set_option linter.unusedSimpArgs false
namespace Wire
theorem row_add' (g k j : Nat) : (⟨g, k, none⟩ : Addr).add j = ⟨g, k + j, none⟩ := by
  unfold Addr.add
  split <;> simp_all
theorem Grow.drew {w : World} {B size n : Nat} {v : Value} {xs : List Value} (h : Grow w B size v n xs) : Grow w.drew B size v n xs := h.keep (Nat.le_refl _) fun _ _ => rfl

section
variable {P : Program} (w : World)
/-- The law of an append inside a region that draws its order. -/
theorem step_append_src {ops : Array Oper} {o : Oper} {a : Act} {K : Act → World → Prop} {Q : Exit → Act → World → Prop} {E : Prop} (hgd : o.guard = none) (s xo : Operand) (t tx : TypeId)
    (ho : o.op = .call { callee := .builtin .append, args := #[s, xo], argTypes := #[t, tx] })
    (B : Nat) (e : TypeId) (i : TypeInfo) (z : Value) (size bytes : Nat) (ht : P.underlying t = some (.slice e)) (hi : P.info? e = some i) (hz : i.zero = some z)
    (hsize : i.size = size) (hby : i.bytes = bytes) (hzs : z.cells.size = size) (hsz : 0 < size)
    (v : Value) (n : Nat) (xs : List Value) (hsv : a.eval s = v) (hown : Grow w B size v n xs) (x : Value) (m : Nat) (news : List Value) (hxv : a.eval xo = x) (hs : Src P size tx x m news w)
    (h63 : n + m ≤ maxLen) (hbytes : (n + m) * bytes ≤ 140737488355328) (hB : B ≤ w.heap.size)
    (h : ∀ v' w', Grow w' B size v' (n + m) (xs ++ news) → w.grownBy w' v.ownBlock → (v'.ownBlock = v.ownBlock ∨ v'.ownBlock = some w.heap.size) → K (a.put o.dst v') w') :
    if Region.wanted o (yielded ops a.tmps) = true then Oper.wp P o a w K Q else E := by
  have hw : Region.wanted o (yielded ops a.tmps) = true := by simp [Region.wanted, hgd]
  rw [if_pos hw]
  obtain ⟨v', w', hr, h2, h3, h4⟩ := run_append_src (P := P) w B t tx o.type e i z size bytes ht hi hz hsize hby hzs hsz v n xs hown x m news hs h63 hbytes hB
  unfold Oper.wp execOp
  simp only [ho, resolve, invoke, builtin, Sem.run_bind, Sem.run_pure, Result.andThen_ok, List.map_toArray, List.map_cons, List.map_nil, hsv, hxv, hr]
  exact h v' w' h2 h3 h4
end

/-- The cells of a new block, one by one. -/
theorem new_cells (w : World) (t : TypeId) (xs : List Value) : ∀ j u, xs[j]? = some u → (w.alloc (.cells xs.toArray t)).cell? ((⟨w.heap.size, 0, none⟩ : Addr).add j) = some u := by
  intro j u hu
  rw [row_add', (Blk.fresh w _ _).at, Nat.zero_add, List.getElem?_toArray]
  exact hu

/-- A slice literal is a row that can grow. -/
theorem Grow.fresh (w : World) (t : TypeId) (xs : List Value) (hm : xs.length ≤ 281474976710656) : Grow (w.alloc (.cells xs.toArray t)) w.heap.size 1 (.slice (some ⟨w.heap.size, 0, none⟩) xs.length xs.length) xs.length xs := by
  have hb := Blk.fresh w t xs.toArray
  refine ⟨by simp, .inr ⟨w.heap.size, xs.length, rfl, Nat.le_refl _, by simp, Nat.le_refl _, small_max hm, fun j hj => ?_, fun j _ => hb.thaw j, fun j u hu => ?_⟩⟩
  · rw [hb.at, List.getElem?_toArray, List.getElem?_eq_getElem (by omega)]
    rfl
  · rw [hb.at, List.getElem?_toArray]
    exact hu

end Wire
namespace Txt

/-- A string of these bytes. -/
abbrev str (l : List UInt8) : Value := .string ⟨l.toArray⟩
/-- The bytes of a string. -/
abbrev bl (s : ByteArray) : List UInt8 := s.data.toList

theorem bl_len (s : ByteArray) : (bl s).length = s.size := by rw [Array.length_toList]; rfl
theorem str_bl (s : ByteArray) : str (bl s) = .string s := rfl
theorem bl_mk (l : List UInt8) : bl ⟨l.toArray⟩ = l := rfl
theorem bl_inj {s t : ByteArray} (h : bl s = bl t) : s = t := by
  obtain ⟨⟨a⟩⟩ := s
  obtain ⟨⟨b⟩⟩ := t
  cases h
  rfl

theorem drop_at {s : ByteArray} {i : Nat} (h : i < s.size) : (bl s).drop i = s[i] :: (bl s).drop (i + 1) := by
  have h' : i < s.data.toList.length := by rw [Array.length_toList]; exact h
  rw [List.drop_eq_getElem_cons h', Array.getElem_toList]
  rfl
theorem take_at {s : ByteArray} {i : Nat} (h : i < s.size) : (bl s).take (i + 1) = (bl s).take i ++ [s[i]] := by
  rw [List.take_succ_eq_append_getElem (by simpa using h)]
  rfl
theorem bl_get {s : ByteArray} {i : Nat} (h : i < s.size) : (bl s)[i]? = some s[i] := by
  have h' : i < s.data.toList.length := by rw [Array.length_toList]; exact h
  rw [List.getElem?_eq_getElem h', Array.getElem_toList]
  rfl
theorem drop_end {s : ByteArray} {i : Nat} (h : s.size ≤ i) : (bl s).drop i = [] := List.drop_eq_nil_of_le (by rw [bl_len]; exact h)

/-- A slice value of xs.length cells reads as xs, below block B. -/
def Row (w : World) (B : Nat) (A : Option Addr) (xs : List Value) : Prop := ∀ k u, xs[k]? = some u → ∃ b o, A = some ⟨b, o, none⟩ ∧ b < B ∧ w.cell? ⟨b, o + k, none⟩ = some u

theorem Row.below {w w' : World} {B : Nat} {A : Option Addr} {xs : List Value} (h : Row w B A xs) (hb : Below B w w') : Row w' B A xs := by
  intro k u hu
  obtain ⟨b, o, e, h1, h2⟩ := h k u hu
  exact ⟨b, o, e, h1, (hb.cell (p := ⟨b, o + k, none⟩) h1).trans h2⟩
theorem Row.lift {w w' : World} {A : Option Addr} {xs : List Value} (h : Row w w.heap.size A xs) (hb : Below w.heap.size w w') : Row w' w'.heap.size A xs := by
  intro k u hu
  obtain ⟨b, o, e, h1, h2⟩ := h.below hb k u hu
  exact ⟨b, o, e, Nat.lt_of_lt_of_le h1 hb.size, h2⟩

theorem info_byte : (Tryd.prog.info? 5).map (fun i => (i.zero, i.size, i.bytes)) = some (some (.int .u8 0), 1, 1) := by kernel_rfl
theorem info_str : (Tryd.prog.info? 9).map (fun i => (i.zero, i.size, i.bytes)) = some (some (.string ⟨#[]⟩), 1, 16) := by kernel_rfl

theorem bytes_append (a b : List UInt8) : byteCells ⟨a.toArray⟩ ++ byteCells ⟨b.toArray⟩ = byteCells ⟨(a ++ b).toArray⟩ := by simp [byteCells]
theorem bytes_size (l : List UInt8) : (⟨l.toArray⟩ : ByteArray).size = l.length := rfl

theorem byte_ne {c : UInt8} {k : Nat} (hk : k < 256) (h : c ≠ UInt8.ofNat k) : ((c.toNat : Int) == (k : Int)) = false :=
  beq_eq_false_iff_ne.2 fun e => h (UInt8.toNat_inj.1 (by rw [UInt8.toNat_ofNat', Nat.mod_eq_of_lt hk]; omega))
theorem byte_eq {c : UInt8} {k : Nat} (hk : k < 256) (h : c = UInt8.ofNat k) : ((c.toNat : Int) == (k : Int)) = true := by
  subst h
  rw [UInt8.toNat_ofNat', Nat.mod_eq_of_lt hk]
  simp

theorem str_ne {l : List UInt8} {s : ByteArray} (h : (!l == s.toList) = true) : l ≠ bl s := by
  rw [ByteArray.toList_eq] at h
  simpa using h
theorem str_eq {l : List UInt8} {s : ByteArray} (h : (!l == s.toList) = false) : l = bl s := by
  rw [ByteArray.toList_eq] at h
  simpa using h
theorem not_empty {s : ByteArray} (h : 0 < s.size) : ¬ s.toList = [] := by
  rw [ByteArray.toList_eq]
  intro e
  have := bl_len s
  simp only [bl, e, List.length_nil] at this
  omega
theorem not_empty2 {s : ByteArray} (h : 0 < s.size) : s.toList.isEmpty = false := by
  cases hs : s.toList with
  | nil => exact absurd hs (not_empty h)
  | cons c r => rfl
theorem is_empty {s : ByteArray} (h : ¬ 0 < s.size) : s.toList = [] := by
  rw [ByteArray.toList_eq]
  exact List.eq_nil_of_length_eq_zero (by rw [bl_len]; omega)

theorem cut_one {s : ByteArray} (h0 : 0 < s.size) : bl s = s[0] :: bl (s.extract 1 s.size) ∧ (s.extract 1 s.size).size = s.size - 1 := by
  have h1 := drop_at h0
  rw [List.drop_zero] at h1
  constructor
  · rw [h1]
    congr 1
    obtain ⟨⟨l⟩⟩ := s
    show _ = bl (ByteArray.extract ⟨l.toArray⟩ 1 _)
    rw [bytes_extract, bl_mk]
    show List.drop 1 l = List.drop 1 (List.take l.length l)
    rw [List.take_length]
  · rw [ByteArray.size_extract]
    omega

end Txt
end Go.Proofs.YtibeangcjfjeiaaDoor

namespace Go.Proofs.YtibeangcjfjeiaaDoor
open Go.RowKit Txt Wire Lx
set_option linter.unusedVariables false
set_option maxRecDepth 100000
set_option linter.unusedSimpArgs false
namespace Drf

/-- A slice of n elements whose cells read as xs. -/
def Sl (w : World) (v : Value) (n : Nat) (xs : List Value) : Prop := ∃ A c, v = .slice A n c ∧ n ≤ c ∧ Row w w.heap.size A xs
theorem Sl.keep {w w' : World} {v : Value} {n : Nat} {xs : List Value} (h : Sl w v n xs) (b : Below w.heap.size w w') : Sl w' v n xs := by
  obtain ⟨A, c, e, h1, h2⟩ := h
  exact ⟨A, c, e, h1, h2.lift b⟩
theorem Sl.nil (w : World) : Sl w (.slice none 0 0) 0 [] := ⟨none, 0, rfl, Nat.le_refl _, fun k u h => by simp at h⟩
theorem Sl.grow {w : World} {B size n : Nat} {v : Value} {xs : List Value} (h : Grow w B size v n xs) : Sl w v n xs := by
  rcases h.form with ⟨rfl, rfl⟩ | ⟨g, cap, rfl, h1, h2, h3, h4, h5, h6, h7⟩
  · have : xs = [] := List.eq_nil_of_length_eq_zero (by rw [h.len]; simp)
    subst this
    exact Sl.nil w
  · exact ⟨_, cap, rfl, h3, fun k u hu => ⟨g, 0, rfl, h2, by rw [Nat.zero_add]; exact h7 k u hu⟩⟩

def HasInts (w : World) (v : Value) (ns : List Int) : Prop := Sl w v ns.length (ns.map (Value.int .i64))
def HasTexts (w : World) (v : Value) (ts : List (List UInt8)) : Prop := Sl w v ts.length (ts.map str)
structure HasDecks (w : World) (v : Value) (ds : List (List (List UInt8))) (vs : List Value) : Prop where
  len : vs.length = ds.length
  is : Sl w v ds.length vs
  each : ∀ (i : Nat) (u : Value) (ts : List (List UInt8)), vs[i]? = some u → ds[i]? = some ts → HasTexts w u ts
/-- The cells of an item whose numbers lie at u. -/
def itC (x : It) (u : Value) : List Value := [.int .i64 x.kind, .int .i64 x.line, str x.name, str x.other, u]
def itsC : List It → List Value → List Value
  | x :: l, u :: vs => itC x u ++ itsC l vs
  | _, _ => []
structure HasItems (w : World) (v : Value) (l : List It) (vs : List Value) : Prop where
  len : vs.length = l.length
  is : Sl w v l.length (itsC l vs)
  each : ∀ (i : Nat) (u : Value) (x : It), vs[i]? = some u → l[i]? = some x → HasInts w u x.n
/-- A draft is there: its decks, their rows, its items, their numbers. -/
def HasDf (w : World) (v : Value) (d : Df) : Prop := ∃ a b vs us, v = .agg #[a, b] ∧ HasDecks w a d.decks vs ∧ HasItems w b d.items us
theorem HasDecks.keep {w w' : World} {v : Value} {ds : List (List (List UInt8))} {vs : List Value} (h : HasDecks w v ds vs) (b : Below w.heap.size w w') : HasDecks w' v ds vs :=
  ⟨h.len, h.is.keep b, fun i u ts hu ht => (h.each i u ts hu ht).keep b⟩
theorem HasItems.keep {w w' : World} {v : Value} {l : List It} {vs : List Value} (h : HasItems w v l vs) (b : Below w.heap.size w w') : HasItems w' v l vs :=
  ⟨h.len, h.is.keep b, fun i u ts hu ht => (h.each i u ts hu ht).keep b⟩
theorem HasDf.keep {w w' : World} {v : Value} {d : Df} (h : HasDf w v d) (b : Below w.heap.size w w') : HasDf w' v d := by
  obtain ⟨a, c, vs, us, e, h1, h2⟩ := h
  exact ⟨a, c, vs, us, e, h1.keep b, h2.keep b⟩
theorem hasDf_zero (w : World) : HasDf w (.agg #[.slice none 0 0, .slice none 0 0]) ⟨[], []⟩ :=
  ⟨_, _, [], [], rfl, ⟨rfl, Sl.nil w, fun i u ts h => by simp at h⟩, ⟨rfl, Sl.nil w, fun i u ts h => by simp at h⟩⟩

theorem itsC_len : ∀ (l : List It) (vs : List Value), vs.length = l.length → (itsC l vs).length = l.length * 5
  | [], [], _ => rfl
  | [], _ :: _, h => by cases h
  | _ :: _, [], h => by cases h
  | x :: l, u :: vs, h => by
    show (itC x u ++ itsC l vs).length = _
    rw [List.length_append, itsC_len l vs (by simpa using h)]
    simp only [itC, List.length_cons, List.length_nil]
    omega
theorem itsC_snoc : ∀ (l : List It) (vs : List Value) (x : It) (u : Value), vs.length = l.length → itsC (l ++ [x]) (vs ++ [u]) = itsC l vs ++ itC x u
  | [], [], x, u, _ => by simp [itsC]
  | [], _ :: _, _, _, h => by cases h
  | _ :: _, [], _, _, h => by cases h
  | y :: l, v :: vs, x, u, h => by
    show itC y v ++ itsC (l ++ [x]) (vs ++ [u]) = itC y v ++ itsC l vs ++ itC x u
    rw [itsC_snoc l vs x u (by simpa using h), List.append_assoc]
theorem itsC_at : ∀ (l : List It) (vs : List Value) (i : Nat) (x : It), vs.length = l.length → l[i]? = some x → ∃ u, vs[i]? = some u ∧ ∀ j, j < 5 → (itsC l vs)[i * 5 + j]? = (itC x u)[j]?
  | [], _, i, x, _, h => by simp at h
  | _ :: _, [], _, _, h, _ => by cases h
  | y :: l, v :: vs, 0, x, hl, h => by
    obtain rfl : y = x := by simpa using h
    refine ⟨v, rfl, fun j hj => ?_⟩
    show (itC y v ++ itsC l vs)[0 * 5 + j]? = _
    rw [Nat.zero_mul, Nat.zero_add, List.getElem?_append_left (by simp only [itC, List.length_cons, List.length_nil]; omega)]
  | y :: l, v :: vs, i + 1, x, hl, h => by
    obtain ⟨u, hu, hj⟩ := itsC_at l vs i x (by simpa using hl) (by simpa using h)
    refine ⟨u, by simpa using hu, fun j h5 => ?_⟩
    show (itC y v ++ itsC l vs)[(i + 1) * 5 + j]? = _
    rw [List.getElem?_append_right (by simp only [itC, List.length_cons, List.length_nil]; omega), ← hj j h5]
    congr 1
    simp only [itC, List.length_cons, List.length_nil]
    omega
theorem one_itsC : ∀ (l : List It) (vs : List Value), (∀ u ∈ vs, u.oneCell' = true) → ∀ c ∈ itsC l vs, c.oneCell' = true
  | [], _, _, c, h => by cases h
  | _ :: _, [], _, c, h => by cases h
  | x :: l, u :: vs, hv, c, h => by
    have h : c ∈ itC x u ++ itsC l vs := h
    rcases List.mem_append.1 h with h | h
    · simp only [itC, List.mem_cons, List.not_mem_nil, or_false] at h
      rcases h with rfl | rfl | rfl | rfl | rfl
      · rfl
      · rfl
      · rfl
      · rfl
      · exact hv _ (by simp)
    · exact one_itsC l vs (fun y hy => hv y (by simp [hy])) c h

end Drf
end Go.Proofs.YtibeangcjfjeiaaDoor

namespace Go.Proofs.YtibeangcjfjeiaaDoor
open Go.RowKit Wire Txt
set_option linter.unusedVariables false
set_option maxRecDepth 100000
set_option linter.unusedSimpArgs false
namespace Lx

def Tk.cells (t : Tk) : List Value := [.int .i64 t.kind, str t.text, .int .i64 t.n, .int .i64 t.line]
abbrev Tk.val (t : Tk) : Value := .agg #[.int .i64 t.kind, str t.text, .int .i64 t.n, .int .i64 t.line]
def tks (l : List Tk) : List Value := l.flatMap Tk.cells
theorem tks_nil : tks [] = [] := rfl
theorem tks_cons (t : Tk) (l : List Tk) : tks (t :: l) = [.int .i64 t.kind, str t.text, .int .i64 t.n, .int .i64 t.line] ++ tks l := rfl
theorem tks_append (a b : List Tk) : tks (a ++ b) = tks a ++ tks b := List.flatMap_append
theorem tks_one (t : Tk) : tks [t] = [.int .i64 t.kind, str t.text, .int .i64 t.n, .int .i64 t.line] := rfl
theorem tks_len (l : List Tk) : (tks l).length = l.length * 4 := by
  induction l with
  | nil => rfl
  | cons p r ih =>
    rw [tks_cons, List.length_append, ih]
    simp
    omega
theorem tks_drop (l : List Tk) (k : Nat) : (tks l).drop (k * 4) = tks (l.drop k) := by
  induction l generalizing k with
  | nil => simp [tks]
  | cons p r ih =>
    cases k with
    | zero => simp
    | succ k =>
      rw [List.drop_succ_cons, ← ih k, tks_cons, show (k + 1) * 4 = 4 + k * 4 from by omega, ← List.drop_drop]
      rfl
theorem tks_take (l : List Tk) (k : Nat) : (tks l).take (k * 4) = tks (l.take k) := by
  induction l generalizing k with
  | nil => simp [tks]
  | cons p r ih =>
    cases k with
    | zero => simp [tks]
    | succ k =>
      rw [List.take_succ_cons, tks_cons, tks_cons, ← ih k, show (k + 1) * 4 = k * 4 + 1 + 1 + 1 + 1 from by omega]
      rfl
theorem tks_at {l : List Tk} {i : Nat} {t : Tk} (h : l[i]? = some t) : (tks l)[i * 4]? = some (.int .i64 t.kind) ∧ (tks l)[i * 4 + 1]? = some (str t.text) ∧ (tks l)[i * 4 + 2]? = some (.int .i64 t.n) ∧ (tks l)[i * 4 + 3]? = some (.int .i64 t.line) := by
  have hlt := (List.getElem?_eq_some_iff.1 h).1
  have e : l.drop i = t :: l.drop (i + 1) := by
    rw [List.drop_eq_getElem_cons hlt]
    congr 1
    exact (List.getElem?_eq_some_iff.1 h).2
  have g : ∀ j, (tks l)[i * 4 + j]? = (tks (t :: l.drop (i + 1)))[j]? := fun j => by rw [← e, ← tks_drop, List.getElem?_drop]
  refine ⟨?_, ?_, ?_, ?_⟩
  · have := g 0; rw [Nat.add_zero] at this; rw [this]; rfl
  · rw [g 1]; rfl
  · rw [g 2]; rfl
  · rw [g 3]; rfl
theorem one_tks (l : List Tk) : ∀ u ∈ tks l, u.oneCell' = true := by
  intro u hu
  obtain ⟨p, _, hu⟩ := List.mem_flatMap.1 hu
  simp [Tk.cells] at hu
  rcases hu with rfl | rfl | rfl | rfl <;> rfl
theorem info_tk : (Tryd.prog.info? 42).map (fun i => (i.zero, i.size, i.bytes)) = some (some (.agg #[.int .i64 0, .string ⟨#[]⟩, .int .i64 0, .int .i64 0]), 4, 40) := by kernel_rfl
theorem eql_bool (p q : Tk) : (decide (p = q)) = (((p.kind : Int) == (q.kind : Int)) && (((⟨p.text.toArray⟩ : ByteArray).toList == (⟨q.text.toArray⟩ : ByteArray).toList) && ((p.n == q.n) && ((p.line : Int) == (q.line : Int))))) := by
  obtain ⟨a, b, c, d⟩ := p
  obtain ⟨e, f, g, h⟩ := q
  rw [Bool.eq_iff_iff]
  simp only [decide_eq_true_eq, Tk.mk.injEq, Bool.and_eq_true, beq_iff_eq, ByteArray.toList_eq, Int.natCast_inj]
theorem eql_tk (p q : Tk) (w : World) : (binOp .eql 42 p.val q.val).run Tryd.prog w = .ok (.bool (decide (p = q))) w := by
  rw [eql_bool]
  by_cases h1 : (p.kind : Int) = (q.kind : Int) <;> by_cases h2 : p.text = q.text <;> by_cases h3 : p.n = q.n <;> by_cases h4 : (p.line : Int) = (q.line : Int) <;> simp [go_sem, h1, h2, h3, h4]
theorem neq_tk (p q : Tk) (w : World) : (binOp .neq 42 p.val q.val).run Tryd.prog w = .ok (.bool (!decide (p = q))) w := by
  rw [eql_bool]
  by_cases h1 : (p.kind : Int) = (q.kind : Int) <;> by_cases h2 : p.text = q.text <;> by_cases h3 : p.n = q.n <;> by_cases h4 : (p.line : Int) = (q.line : Int) <;> simp [go_sem, h1, h2, h3, h4]

theorem Grow.tks {w : World} {B : Nat} {v : Value} {l : List Tk} (h : Grow w B 4 v l.length (tks l)) : ∃ A c, v = .slice A l.length c ∧ l.length ≤ c ∧ Row w w.heap.size A (tks l) := by
  rcases h.form with ⟨rfl, h0⟩ | ⟨g, cap, rfl, h1, h2, h3, h4, h5, h6, h7⟩
  · have hx : l = [] := List.eq_nil_of_length_eq_zero h0
    subst hx
    exact ⟨none, 0, rfl, Nat.le_refl _, fun k u hu => by simp [Lx.tks] at hu⟩
  · exact ⟨_, _, rfl, h3, fun k u hu => ⟨g, 0, rfl, h2, by rw [Nat.zero_add]; exact h7 k u hu⟩⟩
/-- A row's end, and its beginning. -/
theorem row_drop {w : World} {B g o : Nat} {l : List Tk} (h : Row w B (some ⟨g, o, none⟩) (tks l)) (k : Nat) : Row w B (some ⟨g, o + k * 4, none⟩) (tks (l.drop k)) := by
  intro j u hu
  rw [← tks_drop, List.getElem?_drop] at hu
  obtain ⟨b, o', e, h1, h2⟩ := h _ u hu
  injection e with e
  injection e with e1 e2
  subst e1 e2
  exact ⟨_, _, rfl, h1, by rw [Nat.add_assoc]; exact h2⟩
theorem row_take {w : World} {B : Nat} {A : Option Addr} {l : List Tk} (h : Row w B A (tks l)) (k : Nat) : Row w B A (tks (l.take k)) := by
  intro j u hu
  rw [← tks_take] at hu
  have hj : j < k * 4 := by
    have := (List.getElem?_eq_some_iff.1 hu).1
    rw [List.length_take] at this
    omega
  rw [List.getElem?_take_of_lt hj] at hu
  exact h j u hu
/-- A token of a row. -/
theorem row_tk {w : World} {B : Nat} {A : Option Addr} {l : List Tk} (h : Row w B A (tks l)) {i : Nat} {t : Tk} (ht : l[i]? = some t) : ∃ b o, A = some ⟨b, o, none⟩ ∧ b < B ∧
    w.cell? ⟨b, o + i * 4, none⟩ = some (.int .i64 t.kind) ∧ w.cell? ⟨b, o + i * 4 + 1, none⟩ = some (str t.text) ∧ w.cell? ⟨b, o + i * 4 + 2, none⟩ = some (.int .i64 t.n) ∧ w.cell? ⟨b, o + i * 4 + 3, none⟩ = some (.int .i64 t.line) := by
  obtain ⟨h0, h1, h2, h3⟩ := tks_at ht
  obtain ⟨b, o, rfl, hb0, c0⟩ := h _ _ h0
  have same : ∀ k u, (tks l)[k]? = some u → w.cell? ⟨b, o + k, none⟩ = some u := by
    intro k u hu
    obtain ⟨b1, o1, e1, _, c1⟩ := h _ _ hu
    injection e1 with e1
    injection e1 with e1 e2
    subst e1 e2
    exact c1
  exact ⟨b, o, rfl, hb0, c0, by rw [Nat.add_assoc]; exact same _ _ h1, by rw [Nat.add_assoc]; exact same _ _ h2, by rw [Nat.add_assoc]; exact same _ _ h3⟩

/-! A list of tokens as an answer. -/
/-- v is a slice of these tokens, which can be read. -/
structure Has (w : World) (v : Value) (l : List Tk) : Prop where
  is : ∃ A c, v = .slice A l.length c ∧ l.length ≤ c ∧ Row w w.heap.size A (tks l)
theorem Has.keep {w w' : World} {v : Value} {l : List Tk} (h : Has w v l) (b : Below w.heap.size w w') : Has w' v l := by
  obtain ⟨A, c, e, h1, h2⟩ := h.is
  exact ⟨A, c, e, h1, h2.lift b⟩

/-! A block of the caller's own changes. -/
theorem only_one {w w' : World} {g : Nat} (h : Below w.heap.size w w') : w.grownBy w' (some g) := below_none h _
theorem only_set {w : World} {g i : Nat} {u : Value} : w.grownBy (w.setCell ⟨g, i, none⟩ u) (some g) := grown_set w g i u
theorem blk_only {w w' : World} {g h : Nat} {t : TypeId} {cs : Array Value} (hb : Blk w h t cs) (hg : w.grownBy w' (some g)) (hne : h ≠ g) : Blk w' h t cs := hb.past hg (fun e => hne (Option.some.inj e))

end Lx
end Go.Proofs.YtibeangcjfjeiaaDoor

/- A disk and the reference's, side by side, each with its cells. -/
import Derived.Test.YtlokgmpdighfaaaDoorHld
import Derived.Test.YtlokgmpdighfaaaDoorClS
namespace Go.Proofs.YtlokgmpdighfaaaDoor
open Go.RowKit Wire
set_option linter.unusedVariables false
set_option linter.unusedSimpArgs false
open Txt
namespace Dsk

/-- A disk at p with its cells, and the reference's at g with its own; blocks E that are none of theirs. -/
structure DRK (E : List (Nat × Obj)) (W w : World) (p g : Nat) (S T : St) (K L : List (Nat × Cl)) : Prop where
  below : Below W.heap.size W w
  ok1 : S.ok
  ok2 : T.ok
  off : Off W
  both : ∃ D R nums, D.p = p ∧ R.g = g ∧ DiskAt w D S ∧ RefAt w R nums T ∧ (∀ b, D.has b → W.heap.size ≤ b) ∧ (∀ b, R.has b → W.heap.size ≤ b) ∧ (∀ b, D.has b → ¬ R.has b) ∧
    (∀ x ∈ K, CellAt w x.1 p x.2 ∧ W.heap.size ≤ x.1 ∧ ¬ D.has x.1 ∧ ¬ R.has x.1) ∧ (∀ x ∈ L, CellAt w x.1 g x.2 ∧ W.heap.size ≤ x.1 ∧ ¬ D.has x.1 ∧ ¬ R.has x.1) ∧ (∀ x ∈ K, ∀ y ∈ L, x.1 ≠ y.1) ∧
    ∀ y ∈ E, w.heap[y.1]? = some y.2 ∧ ¬ D.has y.1 ∧ ¬ R.has y.1 ∧ (∀ x ∈ K, x.1 ≠ y.1) ∧ ∀ x ∈ L, x.1 ≠ y.1
  one1 : K.length ≤ 1
  one2 : L.length ≤ 1

section
variable {E : List (Nat × Obj)} {W w w' : World} {p q g : Nat} {S T S' T' : St} {f : FuncId} {args : Array Value} {r : Ending} {K L : List (Nat × Cl)} {c d : Cl}
theorem heap_lt {w : World} {b : Nat} {o : Obj} (h : w.heap[b]? = some o) : b < w.heap.size := (Array.getElem?_eq_some_iff.1 h).1
theorem DRK.keep (h : DRK E W w p g S T K L) (b : Below w.heap.size w w') : DRK E W w' p g S T K L := by
  obtain ⟨hb, hk, hk2, ho, ⟨D, R, n, hp, hg, hd, hr, hf, hf2, hs, hc, hc2, hn, hE⟩, o1, o2⟩ := h
  exact ⟨next_below hb b, hk, hk2, ho, ⟨D, R, n, hp, hg, hd.below b, hr.below b, hf, hf2, hs, fun x hx => ⟨(hc x hx).1.below b, (hc x hx).2⟩, fun x hx => ⟨(hc2 x hx).1.below b, (hc2 x hx).2⟩, hn, fun y hy => ⟨(b.block _ (heap_lt (hE y hy).1)).trans (hE y hy).1, (hE y hy).2⟩⟩, o1, o2⟩
theorem DRK.offw (h : DRK E W w p g S T K L) : Off w := h.off.below h.below h.off.lt
theorem DRK.one (h : DRK E W w p g S T K L) : One W w p S := by
  obtain ⟨hb, hk, hk2, ho, ⟨D, R, n, hp, hg, hd, hr, hf, hf2, hs, hc, hc2, hn, hE⟩, o1, o2⟩ := h
  exact ⟨hb, hk, D, hp, hd, hf⟩
theorem DRK.drop1 (h : DRK E W w p g S T K L) : DRK E W w p g S T [] L := by
  obtain ⟨hb, hk, hk2, ho, ⟨D, R, n, hp, hg, hd, hr, hf, hf2, hs, hc, hc2, hn, hE⟩, o1, o2⟩ := h
  exact ⟨hb, hk, hk2, ho, ⟨D, R, n, hp, hg, hd, hr, hf, hf2, hs, (fun x hx => by cases hx), hc2, (fun x hx => by cases hx), fun y hy => ⟨(hE y hy).1, (hE y hy).2.1, (hE y hy).2.2.1, (fun x hx => by cases hx), (hE y hy).2.2.2.2⟩⟩, Nat.zero_le _, o2⟩
theorem DRK.drop2 (h : DRK E W w p g S T K L) : DRK E W w p g S T K [] := by
  obtain ⟨hb, hk, hk2, ho, ⟨D, R, n, hp, hg, hd, hr, hf, hf2, hs, hc, hc2, hn, hE⟩, o1, o2⟩ := h
  exact ⟨hb, hk, hk2, ho, ⟨D, R, n, hp, hg, hd, hr, hf, hf2, hs, hc, (fun x hx => by cases hx), (fun x hx y hy => by cases hy), fun y hy => ⟨(hE y hy).1, (hE y hy).2.1, (hE y hy).2.2.1, (hE y hy).2.2.2.1, (fun x hx => by cases hx)⟩⟩, o1, Nat.zero_le _⟩
theorem One.drk (h : One W w p S) (ho : Off W) : Calls Tryd.prog 11 #[] w fun e w' => ∃ g, e = .returned (ptr g) ∧ DRK [] W w' p g S St.new [] [] := by
  obtain ⟨hb, hk, D, hp, hd, hf⟩ := h
  have := hb.size
  refine (rnew_any w).mono ?_
  rintro e w' ⟨R, he, hn⟩
  exact ⟨R.g, he, next_below hb hn.below, hk, St.new_ok, ho, ⟨D, R, [], hp, rfl, hd.below hn.below, hn.disk, hf, fun b h1 => by have := hn.new b h1; omega, fun b h1 h2 => by have := hd.inside b h1; have := hn.new b h2; omega, (fun x hx => by cases hx), (fun x hx => by cases hx), (fun x hx => by cases hx), (fun x hx => by cases hx)⟩, Nat.zero_le _, Nat.zero_le _⟩
/-- What is done to the disk. -/
theorem DRK.step1 (h : DRK E W w p g S T K L) (hk : S'.ok) (hcc : ∀ D, D.p = p → DiskAt w D S → (∀ b, D.has b → W.heap.size ≤ b) → Calls Tryd.prog f args w fun e w' => e = r ∧ Post D S' w w') : Calls Tryd.prog f args w fun e w' => e = r ∧ DRK E W w' p g S' T K L := by
  obtain ⟨hb, _, hk2, hof, ⟨D, R, n, hp, hg, hd, hrr, hf, hf2, hsep, hc, hc2, hn, hE⟩, o1, o2⟩ := h
  refine (hcc D hp hd hf).mono ?_
  rintro e w' ⟨he, ⟨D', hd', hp', hh⟩, ho⟩
  have hs := hb.size
  refine ⟨he, hb.trans (ho.below hs hf), hk, hk2, hof, ⟨D', R, n, hp'.trans hp, hg, hd', hrr.only ho (fun b hb2 hb3 => hsep b hb3 hb2), fun b hb2 => ?_, hf2, fun b hb2 hb3 => ?_, fun x hx => ?_, fun x hx => ?_, hn, fun y hy => ?_⟩, o1, o2⟩
  · rcases hh b hb2 with h1 | h1
    · exact hf b h1
    · omega
  · rcases hh b hb2 with h1 | h1
    · exact hsep b h1 hb3
    · have := hrr.inside b hb3; omega
  · obtain ⟨g1, g2, g3, g4⟩ := hc x hx
    exact ⟨g1.only ho g3, g2, fun e => by rcases hh _ e with h4 | h4; exact g3 h4; have := g1.lt; omega, g4⟩
  · obtain ⟨g1, g2, g3, g4⟩ := hc2 x hx
    exact ⟨g1.only ho g3, g2, fun e => by rcases hh _ e with h4 | h4; exact g3 h4; have := g1.lt; omega, g4⟩
  · obtain ⟨g1, g2, g3, g4, g5⟩ := hE y hy
    have hlt := heap_lt g1
    exact ⟨(ho.block _ hlt g2).trans g1, fun e => by rcases hh _ e with h4 | h4; exact g2 h4; omega, g3, g4, g5⟩
/-- What is done to the reference's. -/
theorem DRK.step2 (h : DRK E W w p g S T K L) (hk : T'.ok) (hcc : ∀ R n, R.g = g → RefAt w R n T → (∀ b, R.has b → W.heap.size ≤ b) → Calls Tryd.prog f args w fun e w' => e = r ∧ RDone R T' w w') : Calls Tryd.prog f args w fun e w' => e = r ∧ DRK E W w' p g S T' K L := by
  obtain ⟨hb, hk1, _, hof, ⟨D, R, n, hp, hg, hd, hrr, hf, hf2, hsep, hc, hc2, hn, hE⟩, o1, o2⟩ := h
  refine (hcc R n hg hrr hf2).mono ?_
  rintro e w' ⟨he, ⟨R', n', hr', hg', hh⟩, ho⟩
  have hs := hb.size
  refine ⟨he, hb.trans (ho.below hs hf2), hk1, hk, hof, ⟨D, R', n', hp, hg'.trans hg, hd.only ho (fun b hb2 hb3 => hsep b hb2 hb3), hr', hf, fun b hb2 => ?_, fun b hb2 hb3 => ?_, fun x hx => ?_, fun x hx => ?_, hn, fun y hy => ?_⟩, o1, o2⟩
  · rcases hh b hb2 with h1 | h1
    · exact hf2 b h1
    · omega
  · rcases hh b hb3 with h1 | h1
    · exact hsep b hb2 h1
    · have := hd.inside b hb2; omega
  · obtain ⟨g1, g2, g3, g4⟩ := hc x hx
    exact ⟨g1.only ho g4, g2, g3, fun e => by rcases hh _ e with h4 | h4; exact g4 h4; have := g1.lt; omega⟩
  · obtain ⟨g1, g2, g3, g4⟩ := hc2 x hx
    exact ⟨g1.only ho g4, g2, g3, fun e => by rcases hh _ e with h4 | h4; exact g4 h4; have := g1.lt; omega⟩
  · obtain ⟨g1, g2, g3, g4, g5⟩ := hE y hy
    have hlt := heap_lt g1
    exact ⟨(ho.block _ hlt g3).trans g1, g2, fun e => by rcases hh _ e with h4 | h4; exact g3 h4; omega, g4, g5⟩

/-- A block of the call's own. -/
theorem DRK.alloc (h : DRK [] W w p g S T K L) (o : Obj) : DRK [(w.heap.size, o)] W (w.alloc o) p g S T K L := by
  obtain ⟨hb, hk, hk2, ho, ⟨D, R, n, hp, hg, hd, hr, hf, hf2, hs, hc, hc2, hn, hE⟩, o1, o2⟩ := h
  have b := (Below.refl _ w).alloc (Nat.le_refl _) o
  refine ⟨next_below hb b, hk, hk2, ho, ⟨D, R, n, hp, hg, hd.below b, hr.below b, hf, hf2, hs, fun x hx => ⟨(hc x hx).1.below b, (hc x hx).2⟩, fun x hx => ⟨(hc2 x hx).1.below b, (hc2 x hx).2⟩, hn, fun y hy => ?_⟩, o1, o2⟩
  obtain rfl : y = (w.heap.size, o) := by simpa using hy
  refine ⟨Go.heap_alloc_new w _, fun e => ?_, fun e => ?_, fun x hx e => ?_, fun x hx e => ?_⟩
  · have : w.heap.size < w.heap.size := hd.inside _ e
    omega
  · have : w.heap.size < w.heap.size := hr.inside _ e
    omega
  · have h1 := (hc x hx).1.lt
    have h2 : x.1 = w.heap.size := e
    omega
  · have h1 := (hc2 x hx).1.lt
    have h2 : x.1 = w.heap.size := e
    omega
theorem DRK.free (h : DRK E W w p g S T K L) : DRK [] W w p g S T K L := by
  obtain ⟨hb, hk, hk2, ho, ⟨D, R, n, hp, hg, hd, hr, hf, hf2, hs, hc, hc2, hn, hE⟩, o1, o2⟩ := h
  exact ⟨hb, hk, hk2, ho, ⟨D, R, n, hp, hg, hd, hr, hf, hf2, hs, hc, hc2, hn, (fun y hy => by cases hy)⟩, o1, o2⟩
theorem DRK.at {b : Nat} {t : TypeId} {cs : Array Value} (h : DRK [(b, .cells cs t)] W w p g S T K L) (j : Nat) : w.cell? ⟨b, j, none⟩ = cs[j]? := by
  obtain ⟨D, R, m, hp, hg, hd, hr, hf, hf2, hsep, hc, hc2, hn2, hE⟩ := h.both
  exact Blk.at (hE _ (List.mem_cons_self ..)).1 j

/-! Opening. -/
theorem DRK.open1 (h : DRK E W w p g S T K L) (f : Int) : Calls Tryd.prog 12 #[ptr p, .int .i64 f] w fun e w' => OpnPost w p (opn S f) e w' ∧ DRK E W w' p g S T [] L ∧ ∀ q c, CellAt w' q p c → w.heap.size ≤ q → DRK E W w' p g S T [(q, c)] L := by
  have hof := h.offw
  have h' := h
  obtain ⟨hb, hk, hk2, ho, ⟨D, R, n, hp, hg, hd, hr, hf, hf2, hs, hc, hc2, hn, hE⟩, o1, o2⟩ := h
  subst hp
  refine (Open_any hd hk hof f).mono ?_
  intro e w' hpost
  refine ⟨hpost, (h'.keep hpost.1).drop1, fun q c hq hlt => ?_⟩
  have hz := hb.size
  obtain ⟨hb, hk, hk2, ho, ⟨D', R, n, hp, hg, hd, hr, hf, hf2, hs, hc, hc2, hn, hE⟩, o1, o2⟩ := h'
  have b := hpost.1
  refine ⟨next_below hb b, hk, hk2, ho, ⟨D', R, n, hp, hg, hd.below b, hr.below b, hf, hf2, hs, fun x hx => ?_, fun x hx => ⟨(hc2 x hx).1.below b, (hc2 x hx).2⟩, fun x hx y hy => ?_, fun y hy => ?_⟩, Nat.le_refl _, o2⟩
  · obtain rfl : x = (q, c) := by simpa using hx
    exact ⟨hq, by show W.heap.size ≤ q; omega, fun e => by have : q < w.heap.size := hd.inside q e; omega, fun e => by have : q < w.heap.size := hr.inside q e; omega⟩
  · obtain rfl : x = (q, c) := by simpa using hx
    have := (hc2 y hy).1.lt
    show q ≠ y.1
    omega
  · obtain ⟨g1, g2, g3, g4, g5⟩ := hE y hy
    have hlt2 := heap_lt g1
    refine ⟨(b.block _ hlt2).trans g1, g2, g3, fun x hx => ?_, g5⟩
    obtain rfl : x = (q, c) := by simpa using hx
    show q ≠ y.1
    omega
theorem DRK.open2 (h : DRK E W w p g S T K L) (f : Int) : Calls Tryd.prog 13 #[ptr g, .int .i64 f] w fun e w' => OpnPost w g (opn T f) e w' ∧ DRK E W w' p g S T K [] ∧ ∀ q c, CellAt w' q g c → w.heap.size ≤ q → DRK E W w' p g S T K [(q, c)] := by
  have h' := h
  obtain ⟨hb, hk, hk2, ho, ⟨D, R, n, hp, hg, hd, hr, hf, hf2, hs, hc, hc2, hn, hE⟩, o1, o2⟩ := h
  subst hg
  refine (rOpen_any hr hk2 f).mono ?_
  intro e w' hpost
  refine ⟨hpost, (h'.keep hpost.1).drop2, fun q c hq hlt => ?_⟩
  have hz := hb.size
  obtain ⟨hb, hk, hk2, ho, ⟨D', R', n, hp, hg, hd, hr, hf, hf2, hs, hc, hc2, hn, hE⟩, o1, o2⟩ := h'
  have b := hpost.1
  refine ⟨next_below hb b, hk, hk2, ho, ⟨D', R', n, hp, hg, hd.below b, hr.below b, hf, hf2, hs, fun x hx => ⟨(hc x hx).1.below b, (hc x hx).2⟩, fun x hx => ?_, fun x hx y hy => ?_, fun y hy => ?_⟩, o1, Nat.le_refl _⟩
  · obtain rfl : x = (q, c) := by simpa using hx
    exact ⟨hq, by show W.heap.size ≤ q; omega, fun e => by have : q < w.heap.size := hd.inside q e; omega, fun e => by have : q < w.heap.size := hr.inside q e; omega⟩
  · obtain rfl : y = (q, c) := by simpa using hy
    have := (hc x hx).1.lt
    show x.1 ≠ q
    omega
  · obtain ⟨g1, g2, g3, g4, g5⟩ := hE y hy
    have hlt2 := heap_lt g1
    refine ⟨(b.block _ hlt2).trans g1, g2, g3, g4, fun x hx => ?_⟩
    obtain rfl : x = (q, c) := by simpa using hx
    show q ≠ y.1
    omega
theorem DRK.open1_some (h : DRK E W w p g S T K L) {f er : Int} (he : opn S f = (er, some c)) : Calls Tryd.prog 12 #[ptr p, .int .i64 f] w fun e w' => ∃ q, e = .returned (.tuple #[ptr q, .int .i64 er]) ∧ DRK E W w' p g S T [(q, c)] L := by
  refine (h.open1 f).mono ?_
  rw [he]
  rintro e w' ⟨⟨hb, q, h1, h2, h3⟩, _, h4⟩
  exact ⟨q, h1, h4 q c h2 h3⟩
theorem DRK.open1_none (h : DRK E W w p g S T K L) {f er : Int} (he : opn S f = (er, none)) : Calls Tryd.prog 12 #[ptr p, .int .i64 f] w fun e w' => e = .returned (.tuple #[.pointer none, .int .i64 er]) ∧ DRK E W w' p g S T [] L := by
  refine (h.open1 f).mono ?_
  rw [he]
  rintro e w' ⟨⟨hb, h1⟩, h4, _⟩
  exact ⟨h1, h4⟩
theorem DRK.open2_some (h : DRK E W w p g S T K L) {f er : Int} (he : opn T f = (er, some c)) : Calls Tryd.prog 13 #[ptr g, .int .i64 f] w fun e w' => ∃ q, e = .returned (.tuple #[ptr q, .int .i64 er]) ∧ DRK E W w' p g S T K [(q, c)] := by
  refine (h.open2 f).mono ?_
  rw [he]
  rintro e w' ⟨⟨hb, q, h1, h2, h3⟩, _, h4⟩
  exact ⟨q, h1, h4 q c h2 h3⟩
theorem DRK.open2_none (h : DRK E W w p g S T K L) {f er : Int} (he : opn T f = (er, none)) : Calls Tryd.prog 13 #[ptr g, .int .i64 f] w fun e w' => e = .returned (.tuple #[.pointer none, .int .i64 er]) ∧ DRK E W w' p g S T K [] := by
  refine (h.open2 f).mono ?_
  rw [he]
  rintro e w' ⟨⟨hb, h1⟩, h4, _⟩
  exact ⟨h1, h4⟩

/-! Sets. -/
theorem DRK.set1 (h : DRK E W w p g S T [(q, c)] L) (s : ByteArray) (hs : s.size ≤ maxLen) : Calls Tryd.prog 14 #[ptr q, .string s] w fun e w' => e = .returned (.int .i64 (c.set S (bl s)).1) ∧ DRK E W w' p g (c.set S (bl s)).2.2 T [(q, (c.set S (bl s)).2.1)] L := by
  have hof := h.offw
  obtain ⟨hb, hk, hk2, ho, ⟨D, R, n, hp, hg, hd, hr, hf, hf2, hsep, hc, hc2, hn, hE⟩, o1, o2⟩ := h
  subst hp
  obtain ⟨h1, h2, h3, h4⟩ := hc (q, c) (List.mem_cons_self ..)
  have hgo := ho.lt
  have h1' : CellAt w q D.p c := h1
  have h2' : W.heap.size ≤ q := h2
  have h3' : ¬ D.has q := h3
  refine (Set_any s hs (CC.init hd hk h1' hof h3' (fun e => by have := hf _ e; omega) (by omega))).mono ?_
  rintro e w' ⟨he, hcc⟩
  obtain ⟨D', hd', hp', hh⟩ := hcc.disk
  have hsz := hb.size
  refine ⟨he, hb.trans (hcc.only.below hsz fun x hx => ?_), hcc.ok, hk2, ho, ⟨D', R, n, hp', hg, hd', hr.only hcc.only (fun b hb2 hb3 => ?_), fun b hb2 => ?_, hf2, fun b hb2 hb3 => ?_, fun x hx => ?_, fun x hx => ?_, fun x hx y hy => ?_, fun y hy => ?_⟩, Nat.le_refl _, o2⟩
  · rcases hx with hx | hx
    · exact hf x hx
    · rw [hx]; exact h2'
  · rcases hb3 with h5 | h5
    · exact hsep b h5 hb2
    · subst h5; exact h4 hb2
  · rcases hh b hb2 with h5 | h5
    · exact hf b h5
    · omega
  · rcases hh b hb2 with h5 | h5
    · exact hsep b h5 hb3
    · have := hr.inside b hb3; omega
  · obtain rfl : x = (q, _) := by simpa using hx
    refine ⟨hcc.cell, h2', fun e => ?_, h4⟩
    rcases hh _ e with h5 | h5
    · exact h3' h5
    · have := h1'.lt; have h6 : w.heap.size ≤ q := h5; omega
  · obtain ⟨g1, g2, g3, g4⟩ := hc2 x hx
    have hne : x.1 ≠ q := fun e => hn (q, c) (List.mem_cons_self ..) x hx e.symm
    refine ⟨g1.only hcc.only (by rintro (e | e); exact g3 e; exact hne e), g2, fun e => ?_, g4⟩
    rcases hh _ e with h5 | h5
    · exact g3 h5
    · have := g1.lt; omega
  · obtain rfl : x = (q, _) := by simpa using hx
    exact hn (q, c) (List.mem_cons_self ..) y hy
  · obtain ⟨g1, g2, g3, g4, g5⟩ := hE y hy
    have hlt := heap_lt g1
    have hne : q ≠ y.1 := g4 (q, c) (List.mem_cons_self ..)
    refine ⟨(hcc.only.block _ hlt (by rintro (e | e); exact g2 e; exact hne e.symm)).trans g1, fun e => ?_, g3, fun x hx => ?_, g5⟩
    · rcases hh _ e with h5 | h5
      · exact g2 h5
      · omega
    · obtain rfl : x = (q, _) := by simpa using hx
      exact hne
theorem DRK.set2 (h : DRK E W w p g S T K [(q, c)]) (s : ByteArray) (hs : s.size ≤ maxLen) : Calls Tryd.prog 15 #[ptr q, .string s] w fun e w' => e = .returned (.int .i64 (c.set T (bl s)).1) ∧ DRK E W w' p g S (c.set T (bl s)).2.2 K [(q, (c.set T (bl s)).2.1)] := by
  obtain ⟨hb, hk, hk2, ho, ⟨D, R, n, hp, hg, hd, hr, hf, hf2, hsep, hc, hc2, hn, hE⟩, o1, o2⟩ := h
  subst hg
  obtain ⟨h1, h2, h3, h4⟩ := hc2 (q, c) (List.mem_cons_self ..)
  have h1' : CellAt w q R.g c := h1
  have h2' : W.heap.size ≤ q := h2
  have h4' : ¬ R.has q := h4
  refine (rSet_any s hs (RC.init hr hk2 h1' h4')).mono ?_
  rintro e w' ⟨he, hcc⟩
  obtain ⟨R', n', hr', hg', hh⟩ := hcc.disk
  have hsz := hb.size
  refine ⟨he, hb.trans (hcc.only.below hsz fun x hx => ?_), hk, hcc.ok, ho, ⟨D, R', n', hp, hg', hd.only hcc.only (fun b hb2 hb3 => ?_), hr', hf, fun b hb2 => ?_, fun b hb2 hb3 => ?_, fun x hx => ?_, fun x hx => ?_, fun x hx y hy => ?_, fun y hy => ?_⟩, o1, Nat.le_refl _⟩
  · rcases hx with hx | hx
    · exact hf2 x hx
    · rw [hx]; exact h2'
  · rcases hb3 with h5 | h5
    · exact hsep b hb2 h5
    · subst h5; exact h3 hb2
  · rcases hh b hb2 with h5 | h5
    · exact hf2 b h5
    · omega
  · rcases hh b hb3 with h5 | h5
    · exact hsep b hb2 h5
    · have := hd.inside b hb2; omega
  · obtain ⟨g1, g2, g3, g4⟩ := hc x hx
    have hne : x.1 ≠ q := fun e => hn x hx (q, c) (List.mem_cons_self ..) e
    refine ⟨g1.only hcc.only (by rintro (e | e); exact g4 e; exact hne e), g2, g3, fun e => ?_⟩
    rcases hh _ e with h5 | h5
    · exact g4 h5
    · have := g1.lt; omega
  · obtain rfl : x = (q, _) := by simpa using hx
    refine ⟨hcc.cell, h2', h3, fun e => ?_⟩
    rcases hh _ e with h5 | h5
    · exact h4' h5
    · have := h1'.lt; have h6 : w.heap.size ≤ q := h5; omega
  · obtain rfl : y = (q, _) := by simpa using hy
    exact hn x hx (q, c) (List.mem_cons_self ..)
  · obtain ⟨g1, g2, g3, g4, g5⟩ := hE y hy
    have hlt := heap_lt g1
    have hne : q ≠ y.1 := g5 (q, c) (List.mem_cons_self ..)
    refine ⟨(hcc.only.block _ hlt (by rintro (e | e); exact g3 e; exact hne e.symm)).trans g1, g2, fun e => ?_, g4, fun x hx => ?_⟩
    · rcases hh _ e with h5 | h5
      · exact g3 h5
      · omega
    · obtain rfl : x = (q, _) := by simpa using hx
      exact hne
theorem DRK.get1 (h : DRK E W w p g S T [(q, c)] L) : Calls Tryd.prog 23 #[ptr q] w fun e w' => e = .returned (.tuple #[str c.value, .bool (decide (c.slot ≠ 0))]) ∧ DRK E W w' p g S T [(q, c)] L := by
  obtain ⟨D, R, n, hp, hg, hd, hr, hf, hf2, hsep, hc, hc2, hn, hE⟩ := h.both
  exact (Get_any (hc (q, c) (List.mem_cons_self ..)).1).mono fun e w' ⟨he, hb⟩ => ⟨he, h.keep hb⟩
theorem DRK.get2 (h : DRK E W w p g S T K [(q, c)]) : Calls Tryd.prog 24 #[ptr q] w fun e w' => e = .returned (.tuple #[str c.value, .bool (decide (c.slot ≠ 0))]) ∧ DRK E W w' p g S T K [(q, c)] := by
  obtain ⟨D, R, n, hp, hg, hd, hr, hf, hf2, hsep, hc, hc2, hn, hE⟩ := h.both
  exact (rGet_any (hc2 (q, c) (List.mem_cons_self ..)).1).mono fun e w' ⟨he, hb⟩ => ⟨he, h.keep hb⟩

/-! Other calls. -/
theorem DRK.lose1 (h : DRK E W w p g S T K L) {n : Int} (hn : n ≤ 9223372036854775807) : Calls Tryd.prog 16 #[ptr p, .int .i64 n] w fun e w' => e = .returned (.tuple #[]) ∧ DRK E W w' p g (S.lose n) T K L := h.step1 (h.ok1.lose hn) (lose_c n)
theorem DRK.lose2 (h : DRK E W w p g S T K L) {n : Int} (hn : n ≤ 9223372036854775807) : Calls Tryd.prog 17 #[ptr g, .int .i64 n] w fun e w' => e = .returned (.tuple #[]) ∧ DRK E W w' p g S (T.lose n) K L :=
  h.step2 (h.ok2.lose hn) fun R m hg hr _ => by subst hg; exact (rlose_any hr n).mono fun e w' ⟨he, hp⟩ => ⟨he, hp.done⟩
theorem DRK.arm1 (h : DRK E W w p g S T K L) {n : Int} (hn : n ≤ 9223372036854775807) (A : Option Addr) (cp : Nat) (ks : List Int) (hr : Row W W.heap.size A (ks.map (Value.int .i64))) (hl : ks.length ≤ 1000000000) : Calls Tryd.prog 18 #[ptr p, .int .i64 n, .slice A ks.length cp] w fun e w' => e = .returned (.tuple #[]) ∧ DRK E W w' p g (S.arm n ks) T K L :=
  h.step1 (h.ok1.arm hn hl) (arm_c h.below n A cp ks hr hl)
theorem DRK.arm2 (h : DRK E W w p g S T K L) {n : Int} (hn : n ≤ 9223372036854775807) (A : Option Addr) (cp : Nat) (ks : List Int) (hr : Row W W.heap.size A (ks.map (Value.int .i64))) (hl : ks.length ≤ 1000000000) : Calls Tryd.prog 19 #[ptr g, .int .i64 n, .slice A ks.length cp] w fun e w' => e = .returned (.tuple #[]) ∧ DRK E W w' p g S (T.arm n ks) K L :=
  h.step2 (h.ok2.arm hn hl) fun R m hg hrr hff => by subst hg; exact rarm_any hrr n _ ks (ints_row hr h.below) (clear_row hr hff) hl
theorem DRK.crash1 (h : DRK E W w p g S T K L) (A : Option Addr) (cp : Nat) (ks : List Int) (hr : Row W W.heap.size A (ks.map (Value.int .i64))) (hl : ks.length ≤ 1000000000) : Calls Tryd.prog 25 #[ptr p, .slice A ks.length cp] w fun e w' => e = .returned (.tuple #[]) ∧ DRK E W w' p g (S.crash ks) T K L :=
  h.step1 (h.ok1.crash ks) (crash_c h.below h.ok1 A cp ks hr hl)
theorem DRK.crash2 (h : DRK E W w p g S T K L) (A : Option Addr) (cp : Nat) (ks : List Int) (hr : Row W W.heap.size A (ks.map (Value.int .i64))) (hl : ks.length ≤ 1000000000) : Calls Tryd.prog 21 #[ptr g, .slice A ks.length cp] w fun e w' => e = .returned (.tuple #[]) ∧ DRK E W w' p g S (T.crash ks) K L :=
  h.step2 (h.ok2.crash ks) fun R m hg hrr hff => by subst hg; exact (rcrash_any hrr h.ok2 _ ks (ints_row hr h.below) (clear_row hr fun b hh => hff b (ROwn.wr_has hh)) hl).mono fun e w' ⟨he, hp⟩ => ⟨he, hp.done⟩
theorem DRK.start1 (h : DRK E W w p g S T K L) : Calls Tryd.prog 26 #[ptr p] w fun e w' => e = .returned (.tuple #[]) ∧ DRK E W w' p g S.start T K L := h.step1 h.ok1.start start_c
theorem DRK.start2 (h : DRK E W w p g S T K L) : Calls Tryd.prog 22 #[ptr g] w fun e w' => e = .returned (.tuple #[]) ∧ DRK E W w' p g S T.start K L :=
  h.step2 h.ok2.start fun R m hg hrr _ => by subst hg; exact (rstart_any hrr).mono fun e w' ⟨he, hp⟩ => ⟨he, hp.done⟩
theorem DRK.write1 (h : DRK E W w p g S T K L) (f a : Int) (s : ByteArray) (hs : s.size ≤ maxLen) : Calls Tryd.prog 31 #[ptr p, .int .i64 f, .int .i64 a, .string s] w fun e w' => e = .returned (.int .i64 (S.Write f a (bl s)).2) ∧ DRK E W w' p g (S.Write f a (bl s)).1 T K L :=
  h.step1 (h.ok1.Write f a (bl s)) (write_c h.ok1 f a s hs)
theorem DRK.write2 (h : DRK E W w p g S T K L) (f a : Int) (s : ByteArray) (hs : s.size ≤ 16777216) : Calls Tryd.prog 32 #[ptr g, .int .i64 f, .int .i64 a, .string s] w fun e w' => e = .returned (.int .i64 (T.Write f a (bl s)).2) ∧ DRK E W w' p g S (T.Write f a (bl s)).1 K L :=
  h.step2 (h.ok2.Write f a (bl s)) fun R m hg hrr _ => by subst hg; exact (rWrite_any hrr h.ok2 f a s hs).mono fun e w' ⟨he, hp⟩ => ⟨he, hp.done⟩
theorem DRK.read1 (h : DRK E W w p g S T K L) (f a n : Int) (ha : a ≤ 9223372036854775807) (hn : n ≤ 9223372036854775807) : Calls Tryd.prog 28 #[ptr p, .int .i64 f, .int .i64 a, .int .i64 n] w fun e w' => e = .returned (.tuple #[str (S.Read f a n).1, .int .i64 (S.Read f a n).2]) ∧ DRK E W w' p g S T K L :=
  (h.one.read f a n ha hn).mono fun e w' ⟨he, hb⟩ => ⟨he, h.keep hb⟩
theorem DRK.read2 (h : DRK E W w p g S T K L) (f a n : Int) (ha : a ≤ 9223372036854775807) (hn : n ≤ 9223372036854775807) : Calls Tryd.prog 29 #[ptr g, .int .i64 f, .int .i64 a, .int .i64 n] w fun e w' => e = .returned (.tuple #[str (T.Read f a n).1, .int .i64 (T.Read f a n).2]) ∧ DRK E W w' p g S T K L := by
  obtain ⟨D, R, m, hp, hg, hd, hr, hf, hf2, hsep, hc, hc2, hn2, hE⟩ := h.both
  subst hg
  exact (rRead_any hr h.ok2 f a n ⟨ha, hn⟩).mono fun e w' ⟨he, hb⟩ => ⟨he, h.keep hb⟩
theorem DRK.size1 (h : DRK E W w p g S T K L) (f : Int) : Calls Tryd.prog 27 #[ptr p, .int .i64 f] w fun e w' => e = .returned (.int .i64 (S.Size f)) ∧ w = w' := h.one.size f
theorem DRK.size2 (h : DRK E W w p g S T K L) (f : Int) : Calls Tryd.prog 30 #[ptr g, .int .i64 f] w fun e w' => e = .returned (.int .i64 (T.Size f)) ∧ DRK E W w' p g S T K L := by
  obtain ⟨D, R, m, hp, hg, hd, hr, hf, hf2, hsep, hc, hc2, hn2, hE⟩ := h.both
  subst hg
  exact (rsize_any hr h.ok2.now f).mono fun e w' ⟨he, hb⟩ => ⟨he, h.keep hb⟩
end
end Dsk
end Go.Proofs.YtlokgmpdighfaaaDoor

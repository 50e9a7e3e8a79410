/- Disks that a statement made, with their cells, and with blocks that are none of theirs. -/
import Derived.Test.YtpogoalbnbekaaaDoorCelB

namespace Go.Proofs.YtpogoalbnbekaaaDoor
open Go.RowKit Wire
set_option linter.unusedVariables false
set_option linter.unusedSimpArgs false
open Txt
namespace Dsk

/-- A disk at p, and its cells. -/
structure Ones (W w : World) (p : Nat) (S : St) (K : List (Nat × Cl)) : Prop where
  below : Below W.heap.size W w
  ok : S.ok
  off : Off W
  disk : ∃ D, D.p = p ∧ DiskAt w D S ∧ (∀ b, D.has b → W.heap.size ≤ b) ∧ ∀ x ∈ K, CellAt w x.1 p x.2 ∧ W.heap.size ≤ x.1 ∧ ¬ D.has x.1
  nodup : (K.map Prod.fst).Nodup

section
variable {W w w' : World} {p q : Nat} {S T S' : St} {f : FuncId} {args : Array Value} {R : Ending} {K : List (Nat × Cl)} {c : Cl}

theorem Ones.keep (h : Ones W w p S K) (b : Below w.heap.size w w') : Ones W w' p S K := by
  obtain ⟨hb, hk, ho, ⟨D, hp, hd, hf, hc⟩, hn⟩ := h
  exact ⟨next_below hb b, hk, ho, ⟨D, hp, hd.below b, hf, fun x hx => ⟨(hc x hx).1.below b, (hc x hx).2⟩⟩, hn⟩
theorem Ones.one (h : Ones W w p S K) : One W w p S := by
  obtain ⟨hb, hk, ho, ⟨D, hp, hd, hf, hc⟩, hn⟩ := h
  exact ⟨hb, hk, D, hp, hd, hf⟩
theorem Ones.of (h : One W w p S) (ho : Off W) : Ones W w p S [] := by
  obtain ⟨hb, hk, D, hp, hd, hf⟩ := h
  exact ⟨hb, hk, ho, ⟨D, hp, hd, hf, fun x hx => by cases hx⟩, List.nodup_nil⟩
theorem Ones.drop {x : Nat × Cl} (h : Ones W w p S (x :: K)) : Ones W w p S K := by
  obtain ⟨hb, hk, ho, ⟨D, hp, hd, hf, hc⟩, hn⟩ := h
  exact ⟨hb, hk, ho, ⟨D, hp, hd, hf, fun y hy => hc y (List.mem_cons_of_mem _ hy)⟩, (List.nodup_cons.1 hn).2⟩
theorem Ones.swap {x y : Nat × Cl} (h : Ones W w p S (x :: y :: K)) : Ones W w p S (y :: x :: K) := by
  obtain ⟨hb, hk, ho, ⟨D, hp, hd, hf, hc⟩, hn⟩ := h
  refine ⟨hb, hk, ho, ⟨D, hp, hd, hf, fun z hz => hc z ?_⟩, ?_⟩
  · simp only [List.mem_cons] at hz ⊢
    rcases hz with h1 | h1 | h1
    · exact .inr (.inl h1)
    · exact .inl h1
    · exact .inr (.inr h1)
  · simp only [List.map_cons, List.nodup_cons, List.mem_cons] at hn ⊢
    exact ⟨fun e => by rcases e with e | e; exact hn.1 (.inl e.symm); exact hn.2.1 e, fun e => hn.1 (.inr e), hn.2.2⟩
theorem Ones.offw (h : Ones W w p S K) : Off w := h.off.below h.below h.off.lt
theorem Ones.step (h : Ones W w p S K) (hk : S'.ok) (hcc : ∀ D, D.p = p → DiskAt w D S → (∀ b, D.has b → W.heap.size ≤ b) → Calls Tryd.prog f args w fun e w' => e = R ∧ Post D S' w w') : Calls Tryd.prog f args w fun e w' => e = R ∧ Ones W w' p S' K := by
  obtain ⟨hb, _, ho, ⟨D, hp, hd, hf, hc⟩, hn⟩ := h
  refine (hcc D hp hd hf).mono ?_
  rintro e w' ⟨he, ⟨D', hd', hp', hh⟩, ho2⟩
  have hs := hb.size
  refine ⟨he, hb.trans (ho2.below hs hf), hk, ho, ⟨D', hp'.trans hp, hd', fun b hb2 => ?_, fun x hx => ?_⟩, hn⟩
  · rcases hh b hb2 with h1 | h1
    · exact hf b h1
    · omega
  · obtain ⟨h1, h2, h3⟩ := hc x hx
    refine ⟨h1.only ho2 h3, h2, fun e => ?_⟩
    rcases hh _ e with h4 | h4
    · exact h3 h4
    · have := h1.lt; omega
theorem Ones.open_some (h : Ones W w p S K) {f : Int} {er : Int} (he : opn S f = (er, some c)) : Calls Tryd.prog 55 #[ptr p, .int .i64 f] w fun e w' => ∃ q, e = .returned (.tuple #[ptr q, .int .i64 er]) ∧ Ones W w' p S ((q, c) :: K) := by
  have hof := h.offw
  obtain ⟨hb, hk, ho, ⟨D, hp, hd, hf, hc⟩, hn⟩ := h
  subst hp
  refine (Open_any hd hk hof f).mono ?_
  rw [he]
  rintro e w' ⟨hb2, q, he2, hq, hlt⟩
  have hs := hb.size
  refine ⟨q, he2, next_below hb hb2, hk, ho, ⟨D, rfl, hd.below hb2, hf, fun x hx => ?_⟩, ?_⟩
  · rcases List.mem_cons.1 hx with rfl | hx
    · exact ⟨hq, by show W.heap.size ≤ q; omega, fun e => by have : q < w.heap.size := hd.inside q e; omega⟩
    · exact ⟨(hc x hx).1.below hb2, (hc x hx).2⟩
  · refine List.nodup_cons.2 ⟨fun e => ?_, hn⟩
    obtain ⟨x, hx, e⟩ := List.mem_map.1 e
    have := (hc x hx).1.lt
    have e2 : x.1 = q := e
    omega
theorem Ones.set (h : Ones W w p S ((q, c) :: K)) (s : ByteArray) (hs : s.size ≤ maxLen) : Calls Tryd.prog 63 #[ptr q, .string s] w fun e w' => e = .returned (.int .i64 (c.set S (bl s)).1) ∧ Ones W w' p (c.set S (bl s)).2.2 ((q, (c.set S (bl s)).2.1) :: K) := by
  have hof := h.offw
  obtain ⟨hb, hk, ho, ⟨D, hp, hd, hf, hc⟩, hn⟩ := h
  subst hp
  obtain ⟨h1, h2, h3⟩ := hc (q, c) (List.mem_cons_self ..)
  have hg := ho.lt
  have h1' : CellAt w q D.p c := h1
  have h2' : W.heap.size ≤ q := h2
  have h3' : ¬ D.has q := h3
  refine (Set_any s hs (CC.init hd hk h1' hof h3' (fun e => by have := hf _ e; omega) (by omega))).mono ?_
  rintro e w' ⟨he, hcc⟩
  obtain ⟨D', hd', hp', hh⟩ := hcc.disk
  have hsz := hb.size
  refine ⟨he, hb.trans (hcc.only.below hsz fun x hx => ?_), hcc.ok, ho, ⟨D', hp', hd', fun b hb2 => ?_, fun x hx => ?_⟩, hn⟩
  · rcases hx with hx | hx
    · exact hf x hx
    · rw [hx]; exact h2'
  · rcases hh b hb2 with h4 | h4
    · exact hf b h4
    · omega
  · rcases List.mem_cons.1 hx with rfl | hx
    · refine ⟨hcc.cell, h2', fun e => ?_⟩
      rcases hh _ e with h4 | h4
      · exact h3' h4
      · have := h1'.lt; have h5 : w.heap.size ≤ q := h4; omega
    · obtain ⟨g1, g2, g3⟩ := hc x (List.mem_cons_of_mem _ hx)
      have hne : x.1 ≠ q := fun e => (List.nodup_cons.1 hn).1 (List.mem_map.2 ⟨x, hx, e⟩)
      refine ⟨g1.only hcc.only (by rintro (e | e); exact g3 e; exact hne e), g2, fun e => ?_⟩
      rcases hh _ e with h4 | h4
      · exact g3 h4
      · have := g1.lt; omega
theorem Ones.get (h : Ones W w p S ((q, c) :: K)) : Calls Tryd.prog 56 #[ptr q] w fun e w' => e = .returned (.tuple #[str c.value, .bool (decide (c.slot ≠ 0))]) ∧ Ones W w' p S ((q, c) :: K) := by
  obtain ⟨D, hp, hd, hf, hc⟩ := h.disk
  exact (Get_any (hc (q, c) (List.mem_cons_self ..)).1).mono fun e w' ⟨he, hb⟩ => ⟨he, h.keep hb⟩
theorem Ones.read (h : Ones W w p S K) (f a n : Int) (ha : a ≤ 9223372036854775807) (hn : n ≤ 9223372036854775807) :
    Calls Tryd.prog 34 #[ptr p, .int .i64 f, .int .i64 a, .int .i64 n] w fun e w' => e = .returned (.tuple #[str (S.Read f a n).1, .int .i64 (S.Read f a n).2]) ∧ Ones W w' p S K :=
  (h.one.read f a n ha hn).mono fun e w' ⟨he, hb⟩ => ⟨he, h.keep hb⟩
theorem Ones.lose (h : Ones W w p S K) {n : Int} (hn : n ≤ 9223372036854775807) : Calls Tryd.prog 11 #[ptr p, .int .i64 n] w fun e w2 => e = .returned (.tuple #[]) ∧ Ones W w2 p (S.lose n) K :=
  h.step (h.ok.lose hn) (lose_c n)
theorem Ones.arm (h : Ones W w p S K) {n : Int} (hn : n ≤ 9223372036854775807) (A : Option Addr) (cp : Nat) (ks : List Int) (hr : Row W W.heap.size A (ks.map (Value.int .i64))) (hl : ks.length ≤ 1000000000) : Calls Tryd.prog 12 #[ptr p, .int .i64 n, .slice A ks.length cp] w fun e w2 => e = .returned (.tuple #[]) ∧ Ones W w2 p (S.arm n ks) K :=
  h.step (h.ok.arm hn hl) (arm_c h.below n A cp ks hr hl)
end

theorem made_byte (N j : Nat) (h : j < N) : (madeCells (Value.int .u8 0).cells N)[j]? = some (.int .u8 0) := by
  unfold madeCells
  have h2 : (Value.int .u8 0).cells = #[.int .u8 0] := rfl
  rw [h2]
  simp [h, Nat.mod_one]
/-- 'make([]byte, n)', and what string(..) of it is. -/
theorem wpList_make_str {w : World} {ops : Array Oper} {rest : List Oper} {o : Oper} {a : Act} {Q : Exit → Act → World → Prop} (hgd : o.guard = none) (l c : Operand) (hop : o.op = Op.makeSlice 50 l c) (n : Nat) (L M : Int) (hl : a.eval l = .int .i64 L) (hc : a.eval c = .int .i64 M) (hL : L = n) (hC : M = n) (hn : n ≤ 1000000000)
    (h : ∀ (w' : World) (ls : ByteArray), ls.size = n → Below w.heap.size w w' → (convert 50 9 (.slice (some ⟨w.heap.size, 0, none⟩) n n)).run Tryd.prog w' = .ok (.string ls) w' → wpList Tryd.prog ops Q rest (a.put o.dst (.slice (some ⟨w.heap.size, 0, none⟩) n n)) w') :
    wpList Tryd.prog ops Q (o :: rest) a w := by
  refine wpList_plain hgd fun K hK' => ?_
  obtain ⟨i0, hi0, hi1, hi2, hi3⟩ := info_parts info_byte
  have hrun := run_make (P := Tryd.prog) w 50 5 i0 (.int .u8 0) Tryd.underlying50 hi0 hi1 .i64 .i64 (n : Int) (n : Int) (by omega) (by omega) (by rw [hi3]; omega) (by omega)
  have e : ((n : Int)).toNat = n := by omega
  rw [e, hi2, Nat.mul_one] at hrun
  subst hL
  subst hC
  have hb : Blk (w.alloc (.cells (madeCells (Value.int .u8 0).cells n) 5)) w.heap.size _ _ := Blk.fresh w _ _
  have hcv := run_convert_bytes_back (P := Tryd.prog) (w.alloc (.cells (madeCells (Value.int .u8 0).cells n) 5)) 50 9 5 ⟨w.heap.size, 0, none⟩ n (List.replicate n 0) Tryd.underlying50 Tryd.underlying5 Tryd.underlying9 (fun j hj => by
    rw [List.length_replicate] at hj
    rw [row_add', Nat.zero_add, hb.at, made_byte _ _ hj, List.getElem_replicate]
    rfl)
  rw [List.length_replicate] at hcv
  unfold Oper.wp
  simp [execOp, hop, hl, hc, hrun, Result.andThen]
  exact hK' _ _ (h _ _ (by rw [bytes_size, List.length_replicate]) ((Below.refl _ w).alloc (Nat.le_refl _) _) hcv)

end Dsk
end Go.Proofs.YtpogoalbnbekaaaDoor

namespace Go.Proofs.YtpogoalbnbekaaaDoor
open Go.RowKit Wire
set_option linter.unusedVariables false
set_option linter.unusedSimpArgs false
open Txt
namespace Dsk

/-- A disk at p, its cells, and blocks F that calls leave alone. -/
structure OnesF (F : Nat → Prop) (W w : World) (p : Nat) (S : St) (K : List (Nat × Cl)) : Prop where
  below : Below W.heap.size W w
  ok : S.ok
  off : Off W
  disk : ∃ D, D.p = p ∧ DiskAt w D S ∧ (∀ b, D.has b → W.heap.size ≤ b) ∧ (∀ x ∈ K, CellAt w x.1 p x.2 ∧ W.heap.size ≤ x.1 ∧ ¬ D.has x.1) ∧ ∀ b, F b → b < w.heap.size ∧ ¬ D.has b ∧ ∀ x ∈ K, x.1 ≠ b
  nodup : (K.map Prod.fst).Nodup
/-- The blocks F are what they were. -/
structure SameF (F : Nat → Prop) (w w' : World) : Prop where
  size : w.heap.size ≤ w'.heap.size
  same : ∀ b, F b → w'.heap[b]? = w.heap[b]?

section
variable {F G : Nat → Prop} {W w w' : World} {p q : Nat} {S T S' : St} {f : FuncId} {args : Array Value} {R : Ending} {K : List (Nat × Cl)} {c c2 : Cl}
theorem OnesF.ones (h : OnesF F W w p S K) : Ones W w p S K := by
  obtain ⟨hb, hk, ho, ⟨D, hp, hd, hf, hc, hF⟩, hn⟩ := h
  exact ⟨hb, hk, ho, ⟨D, hp, hd, hf, hc⟩, hn⟩
theorem OnesF.of (h : Ones W w p S K) (hF : ∀ b, ¬ F b) : OnesF F W w p S K := by
  obtain ⟨hb, hk, ho, ⟨D, hp, hd, hf, hc⟩, hn⟩ := h
  exact ⟨hb, hk, ho, ⟨D, hp, hd, hf, hc, fun b h => absurd h (hF b)⟩, hn⟩
theorem OnesF.mono (h : OnesF F W w p S K) (hG : ∀ b, G b → F b) : OnesF G W w p S K := by
  obtain ⟨hb, hk, ho, ⟨D, hp, hd, hf, hc, hF⟩, hn⟩ := h
  exact ⟨hb, hk, ho, ⟨D, hp, hd, hf, hc, fun b h => hF b (hG b h)⟩, hn⟩
theorem OnesF.drop (h : OnesF F W w p S K) : OnesF F W w p S [] := by
  obtain ⟨hb, hk, ho, ⟨D, hp, hd, hf, hc, hF⟩, hn⟩ := h
  exact ⟨hb, hk, ho, ⟨D, hp, hd, hf, fun x hx => (by cases hx), fun b h => ⟨(hF b h).1, (hF b h).2.1, fun x hx => (by cases hx)⟩⟩, List.nodup_nil⟩
theorem OnesF.keep (h : OnesF F W w p S K) (b : Below w.heap.size w w') : OnesF F W w' p S K ∧ SameF F w w' := by
  obtain ⟨hb, hk, ho, ⟨D, hp, hd, hf, hc, hF⟩, hn⟩ := h
  have hs := b.size
  exact ⟨⟨next_below hb b, hk, ho, ⟨D, hp, hd.below b, hf, fun x hx => ⟨(hc x hx).1.below b, (hc x hx).2⟩, fun y h => ⟨by have := (hF y h).1; omega, (hF y h).2⟩⟩, hn⟩, hs, fun y h => b.block y (hF y h).1⟩
/-- A block more. -/
theorem OnesF.alloc (h : OnesF F W w p S K) (o : Obj) : OnesF (fun b => F b ∨ b = w.heap.size) W (w.alloc o) p S K := by
  obtain ⟨hb, hk, ho, ⟨D, hp, hd, hf, hc, hF⟩, hn⟩ := h
  have b := (Below.refl _ w).alloc (Nat.le_refl _) o
  have hz : (w.alloc o).heap.size = w.heap.size + 1 := Array.size_push ..
  refine ⟨next_below hb b, hk, ho, ⟨D, hp, hd.below b, hf, fun x hx => ⟨(hc x hx).1.below b, (hc x hx).2⟩, fun y h => ?_⟩, hn⟩
  rcases h with h | h
  · exact ⟨by have := (hF y h).1; omega, (hF y h).2⟩
  · subst h
    exact ⟨by omega, fun e => by have := hd.inside _ e; omega, fun x hx e => by have := (hc x hx).1.lt; omega⟩
/-- What only blocks of F turn. -/
theorem OnesF.poke (h : OnesF F W w p S K) (o : Only F w w') (hW : ∀ b, F b → W.heap.size ≤ b) : OnesF F W w' p S K := by
  obtain ⟨hb, hk, ho, ⟨D, hp, hd, hf, hc, hF⟩, hn⟩ := h
  have hs := o.size
  exact ⟨hb.trans (o.below hb.size hW), hk, ho, ⟨D, hp, hd.only o (fun b hb2 e => (hF b e).2.1 hb2), hf, fun x hx => ⟨(hc x hx).1.only o (fun e => (hF _ e).2.2 x hx rfl), (hc x hx).2⟩, fun y h => ⟨by have := (hF y h).1; omega, (hF y h).2⟩⟩, hn⟩
theorem OnesF.step (h : OnesF F W w p S K) (hk : S'.ok) (hcc : ∀ D, D.p = p → DiskAt w D S → (∀ b, D.has b → W.heap.size ≤ b) → Calls Tryd.prog f args w fun e w' => e = R ∧ Post D S' w w') : Calls Tryd.prog f args w fun e w' => e = R ∧ OnesF F W w' p S' K ∧ SameF F w w' := by
  obtain ⟨hb, _, ho, ⟨D, hp, hd, hf, hc, hF⟩, hn⟩ := h
  refine (hcc D hp hd hf).mono ?_
  rintro e w' ⟨he, ⟨D', hd', hp', hh⟩, ho2⟩
  have hs := hb.size
  have hs2 := ho2.size
  refine ⟨he, ⟨hb.trans (ho2.below hs hf), hk, ho, ⟨D', hp'.trans hp, hd', fun b hb2 => ?_, fun x hx => ?_, fun y h => ?_⟩, hn⟩, hs2, fun y h => ho2.block y (hF y h).1 (hF y h).2.1⟩
  · rcases hh b hb2 with h1 | h1
    · exact hf b h1
    · omega
  · obtain ⟨h1, h2, h3⟩ := hc x hx
    refine ⟨h1.only ho2 h3, h2, fun e => ?_⟩
    rcases hh _ e with h4 | h4
    · exact h3 h4
    · have := h1.lt; omega
  · obtain ⟨g1, g2, g3⟩ := hF y h
    refine ⟨by omega, fun e => ?_, g3⟩
    rcases hh _ e with h4 | h4
    · exact g2 h4
    · omega
theorem OnesF.set (h : OnesF F W w p S [(q, c)]) (s : ByteArray) (hs : s.size ≤ maxLen) : Calls Tryd.prog 63 #[ptr q, .string s] w fun e w' => e = .returned (.int .i64 (c.set S (bl s)).1) ∧ OnesF F W w' p (c.set S (bl s)).2.2 [(q, (c.set S (bl s)).2.1)] ∧ SameF F w w' := by
  have hof := h.ones.offw
  obtain ⟨hb, hk, ho, ⟨D, hp, hd, hf, hc, hF⟩, hn⟩ := h
  subst hp
  obtain ⟨h1, h2, h3⟩ := hc (q, c) (List.mem_cons_self ..)
  have hg := ho.lt
  have h1' : CellAt w q D.p c := h1
  have h2' : W.heap.size ≤ q := h2
  have h3' : ¬ D.has q := h3
  refine (Set_any s hs (CC.init hd hk h1' hof h3' (fun e => by have := hf _ e; omega) (by omega))).mono ?_
  rintro e w' ⟨he, hcc⟩
  obtain ⟨D', hd', hp', hh⟩ := hcc.disk
  have hsz := hb.size
  have hs2 := hcc.only.size
  refine ⟨he, ⟨hb.trans (hcc.only.below hsz fun x hx => ?_), hcc.ok, ho, ⟨D', hp', hd', fun b hb2 => ?_, fun x hx => ?_, fun y h => ?_⟩, hn⟩, hs2, fun y h => ?_⟩
  · rcases hx with hx | hx
    · exact hf x hx
    · rw [hx]; exact h2'
  · rcases hh b hb2 with h4 | h4
    · exact hf b h4
    · omega
  · obtain rfl : x = (q, _) := by simpa using hx
    refine ⟨hcc.cell, h2', fun e => ?_⟩
    rcases hh _ e with h4 | h4
    · exact h3' h4
    · have := h1'.lt; have h5 : w.heap.size ≤ q := h4; omega
  · obtain ⟨g1, g2, g3⟩ := hF y h
    refine ⟨by omega, fun e => ?_, fun x hx => ?_⟩
    · rcases hh _ e with h4 | h4
      · exact g2 h4
      · omega
    · obtain rfl : x = (q, _) := by simpa using hx
      exact g3 (q, c) (List.mem_cons_self ..)
  · obtain ⟨g1, g2, g3⟩ := hF y h
    have hne : q ≠ y := g3 (q, c) (List.mem_cons_self ..)
    exact hcc.only.block y g1 (by rintro (e | e); exact g2 e; exact hne e.symm)
theorem OnesF.open_some (h : OnesF F W w p S []) {f er : Int} (he : opn S f = (er, some c)) : Calls Tryd.prog 55 #[ptr p, .int .i64 f] w fun e w' => ∃ q, e = .returned (.tuple #[ptr q, .int .i64 er]) ∧ OnesF F W w' p S [(q, c)] ∧ SameF F w w' := by
  have hof := h.ones.offw
  have h' := h
  obtain ⟨hb, hk, ho, ⟨D, hp, hd, hf, hc, hF⟩, hn⟩ := h
  subst hp
  refine (Open_any hd hk hof f).mono ?_
  rw [he]
  rintro e w' ⟨hb2, q, he2, hq, hlt⟩
  have hs := hb.size
  have hs2 := hb2.size
  refine ⟨q, he2, ⟨next_below hb hb2, hk, ho, ⟨D, rfl, hd.below hb2, hf, fun x hx => ?_, fun y h => ?_⟩, by simp⟩, (h'.keep hb2).2⟩
  · obtain rfl : x = (q, c) := by simpa using hx
    exact ⟨hq, by show W.heap.size ≤ q; omega, fun e => by have : q < w.heap.size := hd.inside q e; omega⟩
  · obtain ⟨g1, g2, g3⟩ := hF y h
    refine ⟨by omega, g2, fun x hx => ?_⟩
    obtain rfl : x = (q, c) := by simpa using hx
    show q ≠ y
    omega
theorem OnesF.get (h : OnesF F W w p S [(q, c)]) : Calls Tryd.prog 56 #[ptr q] w fun e w' => e = .returned (.tuple #[str c.value, .bool (decide (c.slot ≠ 0))]) ∧ OnesF F W w' p S [(q, c)] ∧ SameF F w w' := by
  obtain ⟨D, hp, hd, hf, hc, hF⟩ := h.disk
  exact (Get_any (hc (q, c) (List.mem_cons_self ..)).1).mono fun e w' ⟨he, hb⟩ => ⟨he, h.keep hb⟩
theorem SameF.trans {w1 : World} (h : SameF F w w1) (k : SameF F w1 w') : SameF F w w' := ⟨Nat.le_trans h.size k.size, fun b hb => (k.same b hb).trans (h.same b hb)⟩
theorem OnesF.lose (h : OnesF F W w p S K) {n : Int} (hn : n ≤ 9223372036854775807) : Calls Tryd.prog 11 #[ptr p, .int .i64 n] w fun e w2 => e = .returned (.tuple #[]) ∧ OnesF F W w2 p (S.lose n) K ∧ SameF F w w2 :=
  h.step (h.ok.lose hn) (lose_c n)
theorem OnesF.arm (h : OnesF F W w p S K) {n : Int} (hn : n ≤ 9223372036854775807) (A : Option Addr) (cp : Nat) (ks : List Int) (hr : Row W W.heap.size A (ks.map (Value.int .i64))) (hl : ks.length ≤ 1000000000) : Calls Tryd.prog 12 #[ptr p, .int .i64 n, .slice A ks.length cp] w fun e w2 => e = .returned (.tuple #[]) ∧ OnesF F W w2 p (S.arm n ks) K ∧ SameF F w w2 :=
  h.step (h.ok.arm hn hl) (arm_c h.below n A cp ks hr hl)
end

/-- A row of F has grown. -/
theorem OnesF.grown {F : Nat → Prop} {W w w' : World} {p : Nat} {S : St} {K : List (Nat × Cl)} {r : Option Nat} {v' : Value} (h : OnesF F W w p S K) (hg : w.grownBy w' r) (hr : ∀ m, r = some m → F m) (hW : ∀ b, F b → W.heap.size ≤ b) (hv : v'.ownBlock = r ∨ v'.ownBlock = some w.heap.size) (hin : ∀ b, v'.ownBlock = some b → b < w'.heap.size) : OnesF (fun b => v'.ownBlock = some b) W w' p S K := by
  have o : Only F w w' := Only.of_grown' hg (fun m e => .inl (hr m e))
  have hp := h.poke o hW
  obtain ⟨hb0, _, _, ⟨D0, hp0, hd0, hf0, hc0, hF0⟩, _⟩ := h
  refine ⟨hp.below, hp.ok, hp.off, ⟨D0, hp0, hd0.only o (fun b hb2 e => (hF0 b e).2.1 hb2), hf0, fun x hx => ⟨(hc0 x hx).1.only o (fun e => (hF0 _ e).2.2 x hx rfl), (hc0 x hx).2⟩, fun b hb => ⟨hin b hb, ?_⟩⟩, hp.nodup⟩
  rcases hv with hv | hv
  · rw [hb] at hv
    exact (hF0 b (hr b hv.symm)).2
  · rw [hb] at hv
    injection hv with hv
    subst hv
    exact ⟨fun e => by have := hd0.inside _ e; omega, fun x hx e => by have := (hc0 x hx).1.lt; omega⟩
theorem SameF.row {F : Nat → Prop} {w w' : World} {B : Nat} {v : Value} {n : Nat} {xs : List Value} (h : SameF F w w') (g : Grow w B 1 v n xs) (hF : ∀ b, v.ownBlock = some b → F b) : Grow w' B 1 v n xs := g.keep h.size fun b hb => h.same b (hF b hb)
theorem SameF.cell {F : Nat → Prop} {w w' : World} {b j : Nat} (h : SameF F w w') (hF : F b) : w'.cell? ⟨b, j, none⟩ = w.cell? ⟨b, j, none⟩ := World.cell?_of_block (a := ⟨b, j, none⟩) (h.same b hF)

/-! Strings in a row. -/
theorem grow_str {w : World} {B : Nat} {v : Value} {m : List ByteArray} (h : Grow w B 1 v m.length (m.map Value.string)) {k : Nat} (hk : k < m.length) : ∃ b c, v = .slice (some ⟨b, 0, none⟩) m.length c ∧ w.cell? ⟨b, k, none⟩ = some (.string m[k]) := by
  rcases h.form with ⟨rfl, h0⟩ | ⟨g, cap, rfl, _, _, _, _, _, _, h7⟩
  · omega
  · exact ⟨g, cap, rfl, h7 k _ (by rw [List.getElem?_map, List.getElem?_eq_getElem hk]; rfl)⟩
end Dsk
end Go.Proofs.YtpogoalbnbekaaaDoor

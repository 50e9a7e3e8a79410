/- Disks that a statement made: their blocks are the call's own, and nothing that was there turned. -/
import Derived.Test.YtgaclibokapfaaaCop
namespace Go.Proofs.Ytgaclibokapfaaa
open Go.RowKit Wire
set_option linter.unusedVariables false
set_option linter.unusedSimpArgs false
open Txt
namespace Dsk

abbrev ptr (p : Nat) : Value := .pointer (some ⟨p, 0, none⟩)

/-- A disk at p. -/
structure One (W w : World) (p : Nat) (S : St) : Prop where
  below : Below W.heap.size W w
  ok : S.ok
  disk : ∃ D, D.p = p ∧ DiskAt w D S ∧ ∀ b, D.has b → W.heap.size ≤ b
/-- Two disks. -/
structure Two (W w : World) (p q : Nat) (S T : St) : Prop where
  below : Below W.heap.size W w
  ok1 : S.ok
  ok2 : T.ok
  disks : ∃ D C, D.p = p ∧ C.p = q ∧ DiskAt w D S ∧ DiskAt w C T ∧ (∀ b, D.has b → W.heap.size ≤ b) ∧ (∀ b, C.has b → W.heap.size ≤ b) ∧ ∀ b, D.has b → ¬ C.has b

section
variable {W w w' : World} {p q : Nat} {S T S' : St} {f : FuncId} {args : Array Value} {R : Ending}

theorem One.keep (h : One W w p S) (b : Below w.heap.size w w') : One W w' p S := by
  obtain ⟨hb, hk, D, hp, hd, hf⟩ := h
  exact ⟨next_below hb b, hk, D, hp, hd.below b, hf⟩
theorem Two.keep (h : Two W w p q S T) (b : Below w.heap.size w w') : Two W w' p q S T := by
  obtain ⟨hb, hk, hk2, D, C, hp, hq, hd, hc, hf, hg, hs⟩ := h
  exact ⟨next_below hb b, hk, hk2, D, C, hp, hq, hd.below b, hc.below b, hf, hg, hs⟩
theorem Two.left (h : Two W w p q S T) : One W w p S := by
  obtain ⟨hb, hk, hk2, D, C, hp, hq, hd, hc, hf, hg, hs⟩ := h
  exact ⟨hb, hk, D, hp, hd, hf⟩
theorem Two.right (h : Two W w p q S T) : One W w q T := by
  obtain ⟨hb, hk, hk2, D, C, hp, hq, hd, hc, hf, hg, hs⟩ := h
  exact ⟨hb, hk2, C, hq, hc, hg⟩

theorem One.step (h : One W w p S) (hk : S'.ok) (hc : ∀ D, D.p = p → DiskAt w D S → (∀ b, D.has b → W.heap.size ≤ b) → Calls Try.prog f args w fun e w' => e = R ∧ Post D S' w w') : Calls Try.prog f args w fun e w' => e = R ∧ One W w' p S' := by
  obtain ⟨hb, _, D, hp, hd, hf⟩ := h
  refine (hc D hp hd hf).mono ?_
  rintro e w' ⟨he, ⟨D', hd', hp', hh⟩, ho⟩
  have hs := hb.size
  refine ⟨he, hb.trans (ho.below hs hf), hk, D', hp'.trans hp, hd', fun b hb2 => ?_⟩
  rcases hh b hb2 with h1 | h1
  · exact hf b h1
  · omega
theorem Two.step1 (h : Two W w p q S T) (hk : S'.ok) (hc : ∀ D, D.p = p → DiskAt w D S → (∀ b, D.has b → W.heap.size ≤ b) → Calls Try.prog f args w fun e w' => e = R ∧ Post D S' w w') : Calls Try.prog f args w fun e w' => e = R ∧ Two W w' p q S' T := by
  obtain ⟨hb, _, hk2, D, C, hp, hq, hd, hcd, hf, hg, hsep⟩ := h
  refine (hc D hp hd hf).mono ?_
  rintro e w' ⟨he, ⟨D', hd', hp', hh⟩, ho⟩
  have hs := hb.size
  refine ⟨he, hb.trans (ho.below hs hf), hk, hk2, D', C, hp'.trans hp, hq, hd', hcd.only ho (fun b hb2 hb3 => hsep b hb3 hb2), fun b hb2 => ?_, hg, fun b hb2 hb3 => ?_⟩
  · rcases hh b hb2 with h1 | h1
    · exact hf b h1
    · omega
  · rcases hh b hb2 with h1 | h1
    · exact hsep b h1 hb3
    · have := hcd.inside b hb3; omega
theorem Two.swap (h : Two W w p q S T) : Two W w q p T S := by
  obtain ⟨hb, hk, hk2, D, C, hp, hq, hd, hcd, hf, hg, hsep⟩ := h
  exact ⟨hb, hk2, hk, C, D, hq, hp, hcd, hd, hg, hf, fun b h1 h2 => hsep b h2 h1⟩
theorem Two.step2 (h : Two W w p q S T) (hk : S'.ok) (hc : ∀ D, D.p = q → DiskAt w D T → (∀ b, D.has b → W.heap.size ≤ b) → Calls Try.prog f args w fun e w' => e = R ∧ Post D S' w w') : Calls Try.prog f args w fun e w' => e = R ∧ Two W w' p q S S' :=
  (h.swap.step1 hk hc).mono fun e w' ⟨he, h⟩ => ⟨he, h.swap⟩

/-- A second disk. -/
theorem One.with (h : One W w p S) (hk : T.ok) {C : Own} (hc : DiskAt w' C T) (hq : C.p = q) (hn : ∀ b, C.has b → w.heap.size ≤ b) (hb : Below w.heap.size w w') : Two W w' p q S T := by
  obtain ⟨hb0, hk0, D, hp, hd, hf⟩ := h
  have := hb0.size
  exact ⟨next_below hb0 hb, hk0, hk, D, C, hp, hq, hd.below hb, hc, hf, fun b hb2 => by have := hn b hb2; omega, fun b h1 h2 => by have := hd.inside b h1; have := hn b h2; omega⟩

theorem new_one (hb : Below W.heap.size W w) : Calls Try.prog 10 #[] w fun e w' => ∃ p, e = .returned (ptr p) ∧ One W w' p St.new :=
  (New_any w).mono fun e w' ⟨D, he, hd, hn, hb2⟩ => ⟨D.p, he, next_below hb hb2, St.new_ok, D, rfl, hd, fun b h1 => by have := hn b h1; have := hb.size; omega⟩
theorem One.another (h : One W w p S) : Calls Try.prog 10 #[] w fun e w' => ∃ q, e = .returned (ptr q) ∧ Two W w' p q S St.new :=
  (New_any w).mono fun e w' ⟨D, he, hd, hn, hb2⟩ => ⟨D.p, he, h.with St.new_ok hd rfl hn hb2⟩
theorem One.copy (h : One W w p S) : Calls Try.prog 18 #[ptr p] w fun e w' => ∃ q, e = .returned (ptr q) ∧ Two W w' p q S S := by
  have h' := h
  obtain ⟨hb0, hk0, D, hp, hd, hf⟩ := h'
  subst hp
  exact (Copy_any w D S hd hk0).mono fun e w' ⟨C, he, hc, hn, hb2⟩ => ⟨C.p, he, h.with hk0 hc rfl hn hb2⟩
/-- A copy that nothing else is asked of: what was there stays. -/
theorem One.copied (h : One W w p S) : Calls Try.prog 18 #[ptr p] w fun e w' => ∃ q, e = .returned (ptr q) ∧ One w w' q S := by
  have h' := h
  obtain ⟨hb0, hk0, D, hp, hd, hf⟩ := h'
  subst hp
  exact (Copy_any w D S hd hk0).mono fun e w' ⟨C, he, hc, hn, hb2⟩ => ⟨C.p, he, hb2, hk0, C, rfl, hc, hn⟩

/-! What is asked of a disk. -/
theorem One.down (h : One W w p S) : Calls Try.prog 14 #[ptr p] w fun e w' => e = .returned (.bool S.down) ∧ w = w' := by
  obtain ⟨_, _, D, rfl, hd, _⟩ := h
  exact down_any hd
theorem One.size (h : One W w p S) (f : Int) : Calls Try.prog 16 #[ptr p, .int .i64 f] w fun e w' => e = .returned (.int .i64 (S.Size f)) ∧ w = w' := by
  obtain ⟨_, _, D, rfl, hd, _⟩ := h
  exact size_any hd f
theorem One.read (h : One W w p S) (f a n : Int) (ha : a ≤ 9223372036854775807) (hn : n ≤ 9223372036854775807) :
    Calls Try.prog 20 #[ptr p, .int .i64 f, .int .i64 a, .int .i64 n] w fun e w' => e = .returned (.tuple #[str (S.Read f a n).1, .int .i64 (S.Read f a n).2]) ∧ Below w.heap.size w w' := by
  obtain ⟨_, hk, D, rfl, hd, _⟩ := h
  exact diskRead_any hd hk f a n ha hn

/-! What is done to a disk, as a step. -/
theorem write_c (hk : S.ok) (f a : Int) (s : ByteArray) (hs : s.size ≤ maxLen) : ∀ D, D.p = p → DiskAt w D S → (∀ b, D.has b → W.heap.size ≤ b) → Calls Try.prog 29 #[ptr p, .int .i64 f, .int .i64 a, .string s] w fun e w' => e = .returned (.int .i64 (S.Write f a (bl s)).2) ∧ Post D (S.Write f a (bl s)).1 w w' := by
  rintro D rfl hd _
  exact Write_any w D S hd hk f a s hs
theorem sync_c (hk : S.ok) (f : Int) : ∀ D, D.p = p → DiskAt w D S → (∀ b, D.has b → W.heap.size ≤ b) → Calls Try.prog 19 #[ptr p, .int .i64 f] w fun e w' => e = .returned (.int .i64 (S.Sync f).2) ∧ Post D (S.Sync f).1 w w' := by
  rintro D rfl hd _
  exact Sync_any w D S hd hk f
theorem trunc_c (hk : S.ok) (f n : Int) : ∀ D, D.p = p → DiskAt w D S → (∀ b, D.has b → W.heap.size ≤ b) → Calls Try.prog 30 #[ptr p, .int .i64 f, .int .i64 n] w fun e w' => e = .returned (.int .i64 (S.Trunc f n).2) ∧ Post D (S.Trunc f n).1 w w' := by
  rintro D rfl hd _
  exact Trunc_any w D S hd hk f n
theorem lose_c (n : Int) : ∀ D, D.p = p → DiskAt w D S → (∀ b, D.has b → W.heap.size ≤ b) → Calls Try.prog 33 #[ptr p, .int .i64 n] w fun e w' => e = .returned (.tuple #[]) ∧ Post D (S.lose n) w w' := by
  rintro D rfl hd _
  exact lose_any hd n
theorem start_c : ∀ D, D.p = p → DiskAt w D S → (∀ b, D.has b → W.heap.size ≤ b) → Calls Try.prog 26 #[ptr p] w fun e w' => e = .returned (.tuple #[]) ∧ Post D S.start w w' := by
  rintro D rfl hd _
  exact start_any hd
/-- Numbers that lie below what the call made. -/
theorem ints_row {A : Option Addr} {c : Nat} {ks : List Int} (h : Row W W.heap.size A (ks.map (Value.int .i64))) (b : Below W.heap.size W w) : Ints w (.slice A ks.length c) ks :=
  ⟨A, c, rfl, fun k x hx => by
    obtain ⟨bb, o, e, h1, h2⟩ := h k (.int .i64 x) (by rw [List.getElem?_map, hx]; rfl)
    exact ⟨bb, o, e, (b.cell (p := ⟨bb, o + k, none⟩) h1).trans h2⟩⟩
theorem clear_row {A : Option Addr} {c : Nat} {ks : List Int} {F : Nat → Prop} (h : Row W W.heap.size A (ks.map (Value.int .i64))) (hF : ∀ b, F b → W.heap.size ≤ b) : Clear (.slice A ks.length c) F := by
  intro b o n c' e hn hb
  injection e with e1 e2 e3
  subst e1 e2
  obtain ⟨b2, o2, e, h1, _⟩ := h 0 (.int .i64 ks[0]) (by rw [List.getElem?_map, List.getElem?_eq_getElem hn]; rfl)
  injection e with e
  injection e with e _ _
  have := hF b hb
  omega
theorem has_pm {D : Own} {b : Nat} (h : b = D.p ∨ b = D.m2) : D.has b := by
  rcases h with h | h
  · exact .inl h
  · exact .inr (.inr (.inl h))
theorem arm_c (hb : Below W.heap.size W w) (n : Int) (A : Option Addr) (c : Nat) (ks : List Int) (hr : Row W W.heap.size A (ks.map (Value.int .i64))) (hl : ks.length ≤ 1000000000) : ∀ D, D.p = p → DiskAt w D S → (∀ b, D.has b → W.heap.size ≤ b) → Calls Try.prog 27 #[ptr p, .int .i64 n, .slice A ks.length c] w fun e w' => e = .returned (.tuple #[]) ∧ Post D (S.arm n ks) w w' := by
  rintro D rfl hd hf
  exact arm_any hd n _ ks (ints_row hr hb) (clear_row hr hf) hl
theorem crash_c (hb : Below W.heap.size W w) (hk : S.ok) (A : Option Addr) (c : Nat) (ks : List Int) (hr : Row W W.heap.size A (ks.map (Value.int .i64))) (hl : ks.length ≤ 1000000000) : ∀ D, D.p = p → DiskAt w D S → (∀ b, D.has b → W.heap.size ≤ b) → Calls Try.prog 25 #[ptr p, .slice A ks.length c] w fun e w' => e = .returned (.tuple #[]) ∧ Post D (S.crash ks) w w' := by
  rintro D rfl hd hf
  exact crash_any w D S _ ks hd hk (ints_row hr hb) (clear_row hr fun b h => hf b (has_pm h)) hl

/-- A crash with a list that was laid just now. -/
theorem crash_lit {D : Own} (hk : S.ok) (hd : DiskAt w D S) (ks : List Int) (hl : ks.length ≤ 1000000000) (t : TypeId) :
    Calls Try.prog 25 #[ptr D.p, .slice (some ⟨w.heap.size, 0, none⟩) ks.length ks.length] (w.alloc (.cells (ks.map (Value.int .i64)).toArray t)) fun e w' => e = .returned (.tuple #[]) ∧ Post D (S.crash ks) (w.alloc (.cells (ks.map (Value.int .i64)).toArray t)) w' := by
  have hb : Below w.heap.size w (w.alloc (.cells (ks.map (Value.int .i64)).toArray t)) := (Below.refl _ w).alloc (Nat.le_refl _) _
  refine crash_any _ D S _ ks (hd.below hb) hk ⟨_, _, rfl, fun k x hx => ⟨_, _, rfl, ?_⟩⟩ ?_ hl
  · rw [(Blk.fresh w _ _).at, List.getElem?_toArray, List.getElem?_map, Nat.zero_add, hx]
    rfl
  · intro b o n c e _ hF
    injection e with e1 _ _
    injection e1 with e1
    injection e1 with e1 _ _
    have := hd.inside b (has_pm hF)
    omega
theorem One.crash_lit (h : One W w p S) (ks : List Int) (hl : ks.length ≤ 1000000000) (t : TypeId) :
    Calls Try.prog 25 #[ptr p, .slice (some ⟨w.heap.size, 0, none⟩) ks.length ks.length] (w.alloc (.cells (ks.map (Value.int .i64)).toArray t)) fun e w' => e = .returned (.tuple #[]) ∧ One W w' p (S.crash ks) := by
  obtain ⟨hb0, hk0, D, rfl, hd, hf⟩ := h
  refine (Dsk.crash_lit hk0 hd ks hl t).mono ?_
  rintro e w' ⟨he, ⟨D', hd', hp', hh⟩, ho⟩
  have hb1 : Below W.heap.size W (w.alloc (.cells (ks.map (Value.int .i64)).toArray t)) := hb0.alloc hb0.size _
  refine ⟨he, hb1.trans (ho.below hb1.size hf), hk0.crash _, D', hp', hd', fun b hb2 => ?_⟩
  have := hb1.size
  rcases hh b hb2 with h1 | h1
  · exact hf b h1
  · omega
theorem Two.crash_lit (h : Two W w p q S T) (ks : List Int) (hl : ks.length ≤ 1000000000) (t : TypeId) :
    Calls Try.prog 25 #[ptr p, .slice (some ⟨w.heap.size, 0, none⟩) ks.length ks.length] (w.alloc (.cells (ks.map (Value.int .i64)).toArray t)) fun e w' => e = .returned (.tuple #[]) ∧ Two W w' p q (S.crash ks) T := by
  obtain ⟨hb0, hk0, hk2, D, C, rfl, hq, hd, hc, hf, hg, hs⟩ := h
  have hb1 : Below w.heap.size w (w.alloc (.cells (ks.map (Value.int .i64)).toArray t)) := (Below.refl _ w).alloc (Nat.le_refl _) _
  refine (Dsk.crash_lit hk0 hd ks hl t).mono ?_
  rintro e w' ⟨he, ⟨D', hd', hp', hh⟩, ho⟩
  have hb2 := next_below hb0 hb1
  refine ⟨he, hb2.trans (ho.below hb2.size hf), hk0.crash _, hk2, D', C, hp', hq, hd', (hc.below hb1).only ho (fun b h1 h2 => hs b h2 h1), fun b h1 => ?_, hg, fun b h1 h2 => ?_⟩
  · have := hb2.size
    rcases hh b h1 with h3 | h3
    · exact hf b h3
    · omega
  · have := hb1.size
    rcases hh b h1 with h3 | h3
    · exact hs b h3 h2
    · have := hc.inside b h2; omega
end
end Dsk
end Go.Proofs.Ytgaclibokapfaaa

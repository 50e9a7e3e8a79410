/- A disk and a journal that a statement made, beside blocks that are none of theirs. -/
import Derived.Test.YtpogoalbnbekaaaDoorJcH
namespace Go.Proofs.YtpogoalbnbekaaaDoor
open Go.RowKit Wire
set_option linter.unusedVariables false
set_option linter.unusedSimpArgs false
open Txt
open Sls (strs)
namespace Dsk

structure Js (F : Nat → Prop) (W w : World) (p : Nat) (S : St) (K : Option (Nat × Jl)) : Prop where
  below : Below W.heap.size W w
  ok : S.ok
  off : Off W
  st : ∃ D, D.p = p ∧ DiskAt w D S ∧ (∀ b, D.has b → W.heap.size ≤ b) ∧ (∀ b, F b → b < w.heap.size ∧ ¬ D.has b) ∧ ∀ x, K = some x → ∃ O : JO, O.g = x.1 ∧ JAt w p O x.2 ∧ ∀ b, O.has b → W.heap.size ≤ b ∧ ¬ D.has b ∧ ¬ F b

section
variable {F G : Nat → Prop} {W w w' : World} {p g : Nat} {S T S' : St} {f : FuncId} {args : Array Value} {R : Ending} {K : Option (Nat × Jl)} {J : Jl}
theorem Js.of (h : One W w p S) (ho : Off W) : Js (fun _ => False) W w p S none := by
  obtain ⟨hb, hk, D, hp, hd, hf⟩ := h
  exact ⟨hb, hk, ho, D, hp, hd, hf, fun b h => h.elim, fun x h => by cases h⟩
theorem Js.offw (h : Js F W w p S K) : Off w := h.off.below h.below h.off.lt
theorem Js.drop (h : Js F W w p S K) : Js F W w p S none := by
  obtain ⟨hb, hk, ho, D, hp, hd, hf, hF, hK⟩ := h
  exact ⟨hb, hk, ho, D, hp, hd, hf, hF, fun x h => by cases h⟩
theorem Js.mono (h : Js F W w p S K) (hG : ∀ b, G b → F b) : Js G W w p S K := by
  obtain ⟨hb, hk, ho, D, hp, hd, hf, hF, hK⟩ := h
  refine ⟨hb, hk, ho, D, hp, hd, hf, fun b h => hF b (hG b h), fun x hx => ?_⟩
  obtain ⟨O, h1, h2, h3⟩ := hK x hx
  exact ⟨O, h1, h2, fun b hb => ⟨(h3 b hb).1, (h3 b hb).2.1, fun e => (h3 b hb).2.2 (hG b e)⟩⟩
theorem Js.keep (h : Js F W w p S K) (b : Below w.heap.size w w') : Js F W w' p S K ∧ SameF F w w' := by
  obtain ⟨hb, hk, ho, D, hp, hd, hf, hF, hK⟩ := h
  have hs := b.size
  refine ⟨⟨next_below hb b, hk, ho, D, hp, hd.below b, hf, fun y h => ⟨by have := (hF y h).1; omega, (hF y h).2⟩, fun x hx => ?_⟩, hs, fun y h => b.block y (hF y h).1⟩
  obtain ⟨O, h1, h2, h3⟩ := hK x hx
  exact ⟨O, h1, h2.below b, h3⟩
/-- A block more. -/
theorem Js.alloc (h : Js F W w p S K) (o : Obj) : Js (fun b => F b ∨ b = w.heap.size) W (w.alloc o) p S K := by
  obtain ⟨hb, hk, ho, D, hp, hd, hf, hF, hK⟩ := h
  have b := (Below.refl _ w).alloc (Nat.le_refl _) o
  have hz : (w.alloc o).heap.size = w.heap.size + 1 := Array.size_push ..
  refine ⟨next_below hb b, hk, ho, D, hp, hd.below b, hf, fun y h => ?_, fun x hx => ?_⟩
  · rcases h with h | h
    · exact ⟨by have := (hF y h).1; omega, (hF y h).2⟩
    · subst h
      exact ⟨by omega, fun e => by have := hd.inside _ e; omega⟩
  · obtain ⟨O, h1, h2, h3⟩ := hK x hx
    refine ⟨O, h1, h2.below b, fun y hy => ⟨(h3 y hy).1, (h3 y hy).2.1, fun e => ?_⟩⟩
    rcases e with e | e
    · exact (h3 y hy).2.2 e
    · subst e
      have := h2.inside _ hy
      omega
/-- New blocks. -/
theorem Js.more (h : Js F W w p S K) (b : Below w.heap.size w w') (hG : ∀ x, G x → F x ∨ (w.heap.size ≤ x ∧ x < w'.heap.size)) : Js G W w' p S K := by
  obtain ⟨hb, hk, ho, D, hp, hd, hf, hF, hK⟩ := h
  have hs := b.size
  refine ⟨next_below hb b, hk, ho, D, hp, hd.below b, hf, fun y h => ?_, fun x hx => ?_⟩
  · rcases hG y h with h | h
    · exact ⟨by have := (hF y h).1; omega, (hF y h).2⟩
    · exact ⟨h.2, fun e => by have := hd.inside _ e; omega⟩
  · obtain ⟨O, h1, h2, h3⟩ := hK x hx
    refine ⟨O, h1, h2.below b, fun y hy => ⟨(h3 y hy).1, (h3 y hy).2.1, fun e => ?_⟩⟩
    rcases hG y e with e | e
    · exact (h3 y hy).2.2 e
    · have := h2.inside _ hy
      omega
/-- What only blocks of F turn. -/
theorem Js.poke (h : Js F W w p S K) (o : Only F w w') (hW : ∀ b, F b → W.heap.size ≤ b) : Js F W w' p S K := by
  obtain ⟨hb, hk, ho, D, hp, hd, hf, hF, hK⟩ := h
  have hs := o.size
  refine ⟨hb.trans (o.below hb.size hW), hk, ho, D, hp, hd.only o (fun b hb2 e => (hF b e).2 hb2), hf, fun y h => ⟨by have := (hF y h).1; omega, (hF y h).2⟩, fun x hx => ?_⟩
  obtain ⟨O, h1, h2, h3⟩ := hK x hx
  exact ⟨O, h1, h2.only o (fun b hb => (h3 b hb).2.2), h3⟩
theorem Js.step (h : Js F W w p S K) (hk : S'.ok) (hcc : ∀ D, D.p = p → DiskAt w D S → (∀ b, D.has b → W.heap.size ≤ b) → Calls Tryd.prog f args w fun e w' => e = R ∧ Post D S' w w') : Calls Tryd.prog f args w fun e w' => e = R ∧ Js F W w' p S' K ∧ SameF F w w' := by
  obtain ⟨hb, _, ho, D, hp, hd, hf, hF, hK⟩ := h
  refine (hcc D hp hd hf).mono ?_
  rintro e w' ⟨he, ⟨D', hd', hp', hh⟩, ho2⟩
  have hs := hb.size
  have hs2 := ho2.size
  refine ⟨he, ⟨hb.trans (ho2.below hs hf), hk, ho, D', hp'.trans hp, hd', fun b hb2 => ?_, fun y h => ?_, fun x hx => ?_⟩, hs2, fun y h => ho2.block y (hF y h).1 (hF y h).2⟩
  · rcases hh b hb2 with h1 | h1
    · exact hf b h1
    · omega
  · obtain ⟨g1, g2⟩ := hF y h
    refine ⟨by omega, fun e => ?_⟩
    rcases hh _ e with h4 | h4
    · exact g2 h4
    · omega
  · obtain ⟨O, h1, h2, h3⟩ := hK x hx
    refine ⟨O, h1, h2.only ho2 (fun b hb => (h3 b hb).2.1), fun b hb => ⟨(h3 b hb).1, fun e => ?_, (h3 b hb).2.2⟩⟩
    rcases hh _ e with h4 | h4
    · exact (h3 b hb).2.1 h4
    · have := h2.inside _ hb; omega
theorem Js.lose (h : Js F W w p S K) {n : Int} (hn : n ≤ 9223372036854775807) : Calls Tryd.prog 11 #[ptr p, .int .i64 n] w fun e w2 => e = .returned (.tuple #[]) ∧ Js F W w2 p (S.lose n) K ∧ SameF F w w2 :=
  h.step (h.ok.lose hn) (lose_c n)
theorem Js.arm (h : Js F W w p S K) {n : Int} (hn : n ≤ 9223372036854775807) (A : Option Addr) (cp : Nat) (ks : List Int) (hr : Row W W.heap.size A (ks.map (Value.int .i64))) (hl : ks.length ≤ 1000000000) : Calls Tryd.prog 12 #[ptr p, .int .i64 n, .slice A ks.length cp] w fun e w2 => e = .returned (.tuple #[]) ∧ Js F W w2 p (S.arm n ks) K ∧ SameF F w w2 :=
  h.step (h.ok.arm hn hl) (arm_c h.below n A cp ks hr hl)
theorem Js.crash (h : Js F W w p S K) (A : Option Addr) (cp : Nat) (ks : List Int) (hr : Row W W.heap.size A (ks.map (Value.int .i64))) (hl : ks.length ≤ 1000000000) : Calls Tryd.prog 19 #[ptr p, .slice A ks.length cp] w fun e w2 => e = .returned (.tuple #[]) ∧ Js F W w2 p (S.crash ks) K ∧ SameF F w w2 :=
  h.step (h.ok.crash ks) (crash_c h.below h.ok A cp ks hr hl)
theorem Js.start (h : Js F W w p S K) : Calls Tryd.prog 20 #[ptr p] w fun e w2 => e = .returned (.tuple #[]) ∧ Js F W w2 p S.start K ∧ SameF F w w2 := h.step h.ok.start start_c
theorem Js.write (h : Js F W w p S K) (f a : Int) (s : ByteArray) (hs : s.size ≤ maxLen) : Calls Tryd.prog 23 #[ptr p, .int .i64 f, .int .i64 a, .string s] w fun e w2 => e = .returned (.int .i64 (S.Write f a (bl s)).2) ∧ Js F W w2 p (S.Write f a (bl s)).1 K ∧ SameF F w w2 :=
  h.step (h.ok.Write f a (bl s)) (write_c h.ok f a s hs)

/-! Open. -/
theorem Js.opened {D' : Own} {Rr : Int × Option Jl × St} {D : Own} {w' : World} (hb : Below W.heap.size W w) (ho : Off W) (hp : D.p = p) (hf : ∀ b, D.has b → W.heap.size ≤ b) (hF : ∀ b, F b → b < w.heap.size ∧ ¬ D.has b) (k : DK w D S' w' D') :
    (∀ b, D'.has b → W.heap.size ≤ b) ∧ (∀ b, F b → b < w'.heap.size ∧ ¬ D'.has b) ∧ Below W.heap.size W w' ∧ SameF F w w' := by
  have hs := hb.size
  have hs2 := k.only.size
  refine ⟨fun b hb2 => ?_, fun y h => ?_, hb.trans (k.only.below hs hf), hs2, fun y h => k.only.block y (hF y h).1 (hF y h).2⟩
  · rcases k.has b hb2 with h1 | h1
    · exact hf b h1
    · omega
  · obtain ⟨g1, g2⟩ := hF y h
    refine ⟨by omega, fun e => ?_⟩
    rcases k.has _ e with h4 | h4
    · exact g2 h4
    · omega
theorem Js.open_none (h : Js F W w p S none) {n : Nat} (hn : n ≤ 14) {er : Int} {S2 : St} (he : jopn S n = (er, none, S2)) : Calls Tryd.prog 10 #[ptr p, .int .i64 n] w fun e w' => e = .returned (.tuple #[.pointer none, .int .i64 er]) ∧ Js F W w' p S2 none ∧ SameF F w w' := by
  have hof := h.offw
  obtain ⟨hb, hk, ho, D, hp, hd, hf, hF, hK⟩ := h
  have hg := ho.lt
  subst hp
  refine (jopen_any hd hk hof (fun e => by have := hf _ e; omega) n hn).mono ?_
  rw [he]
  rintro e w' ⟨D', k, he⟩
  obtain ⟨k1, k2, k3, k4⟩ := Js.opened (Rr := (er, none, S2)) hb ho rfl hf hF k
  exact ⟨he, ⟨k3, k.ok, ho, D', k.p, k.disk, k1, k2, fun x hx => by cases hx⟩, k4⟩
theorem Js.open_some (h : Js F W w p S none) {n : Nat} (hn : n ≤ 14) {er : Int} {S2 : St} (he : jopn S n = (er, some J, S2)) : Calls Tryd.prog 10 #[ptr p, .int .i64 n] w fun e w' => ∃ g, e = .returned (.tuple #[ptr g, .int .i64 er]) ∧ Js F W w' p S2 (some (g, J)) ∧ SameF F w w' := by
  have hof := h.offw
  obtain ⟨hb, hk, ho, D, hp, hd, hf, hF, hK⟩ := h
  have hg := ho.lt
  have hs := hb.size
  subst hp
  refine (jopen_any hd hk hof (fun e => by have := hf _ e; omega) n hn).mono ?_
  rw [he]
  rintro e w' ⟨D', k, O, he, hj, hO⟩
  obtain ⟨k1, k2, k3, k4⟩ := Js.opened (Rr := (er, some J, S2)) hb ho rfl hf hF k
  refine ⟨O.g, he, ⟨k3, k.ok, ho, D', k.p, k.disk, k1, k2, fun x hx => ?_⟩, k4⟩
  injection hx with hx
  subst hx
  exact ⟨O, rfl, hj, fun b hb2 => ⟨by have := (hO b hb2).1; omega, (hO b hb2).2, fun e => by have := (hF b e).1; have := (hO b hb2).1; omega⟩⟩

/-! Append, Cut, Len, Get, All. -/
theorem Js.call {S2 : St} {J2 : Jl} (h : Js F W w p S (some (g, J))) (k : ∀ D O, JC D O w w S J → D.p = p → O.g = g → (∀ b, D.has b → W.heap.size ≤ b) → (∀ b, O.has b → W.heap.size ≤ b) → (∀ b, F b → ¬ D.has b ∧ ¬ O.has b) → Calls Tryd.prog f args w fun e w' => e = R ∧ JP D O w w' S2 J2) :
    Calls Tryd.prog f args w fun e w' => e = R ∧ Js F W w' p S2 (some (g, J2)) ∧ SameF F w w' := by
  have hof := h.offw
  obtain ⟨hb, hk, ho, D, hp, hd, hf, hF, hK⟩ := h
  obtain ⟨O, h1, h2, h3⟩ := hK _ rfl
  have hg := ho.lt
  have hs := hb.size
  refine (k D O (JC.init hd hk (by rw [hp]; exact h2) hof (fun b hb => (h3 b hb).2.1) (fun e => by have := hf _ e; omega) (fun e => by have := (h3 _ e).1; omega)) hp h1 hf (fun b hb => (h3 b hb).1) (fun b hb => ⟨(hF b hb).2, fun e => (h3 b e).2.2 hb⟩)).mono ?_
  rintro e w' ⟨he, hk2, ⟨D', O', d1, d2, d3, d4, d5, d6, d7⟩, ho2⟩
  have hs2 := ho2.size
  refine ⟨he, ⟨hb.trans (ho2.below hs (by rintro x (hx | hx); exact hf x hx; exact (h3 x hx).1)), hk2, ho, D', d2.trans hp, d1, fun b hb2 => ?_, fun y h => ?_, fun x hx => ?_⟩, hs2, fun y h => ho2.block y (hF y h).1 (by rintro (e | e); exact (hF y h).2 e; exact (h3 y e).2.2 h)⟩
  · rcases d3 b hb2 with h4 | h4
    · exact hf b h4
    · omega
  · obtain ⟨g1, g2⟩ := hF y h
    refine ⟨by omega, fun e => ?_⟩
    rcases d3 _ e with h4 | h4
    · exact g2 h4
    · omega
  · injection hx with hx
    subst hx
    refine ⟨O', d5.trans h1, by rw [← hp]; exact d4, fun b hb2 => ⟨?_, d7 b hb2, fun e => ?_⟩⟩
    · rcases d6 b hb2 with h4 | h4
      · exact (h3 b h4).1
      · omega
    · rcases d6 b hb2 with h4 | h4
      · exact (h3 b h4).2.2 e
      · have := (hF b e).1; omega
theorem Js.append (h : Js F W w p S (some (g, J))) (A : Option Addr) (cp : Nat) (l : List ByteArray) (hr : Row w w.heap.size A (strs l)) (hc : ∀ b o, A = some ⟨b, o, none⟩ → l ≠ [] → b < W.heap.size ∨ F b) (hn : l.length ≤ 1099511627776) :
    Calls Tryd.prog 13 #[ptr g, .slice A l.length cp] w fun e w' => e = .returned (.int .i64 (J.append S l).1) ∧ Js F W w' p (J.append S l).2.2 (some (g, (J.append S l).2.1)) ∧ SameF F w w' :=
  h.call fun D O hj hp hg hD hO hF => by
    subst hg
    refine append_any hj A cp l hr (fun b o e hl => ?_) hn
    rcases hc b o e hl with k | k
    · exact ⟨fun e => by have := hD b e; omega, fun e => by have := hO b e; omega⟩
    · exact hF b k
theorem Js.cut (h : Js F W w p S (some (g, J))) (n : Int) (h1 : -9223372036854775808 ≤ n) (h2 : n ≤ 9223372036854775807) :
    Calls Tryd.prog 14 #[ptr g, .int .i64 n] w fun e w' => e = .returned (.int .i64 (J.cut S n).1) ∧ Js F W w' p (J.cut S n).2.2 (some (g, (J.cut S n).2.1)) ∧ SameF F w w' :=
  h.call fun D O hj hp hg hD hO hF => by
    subst hg
    exact jcut_any hj n h1 h2
theorem Js.jat (h : Js F W w p S (some (g, J))) : ∃ O : JO, O.g = g ∧ JAt w p O J := by
  obtain ⟨D, hp, hd, hf, hF, hK⟩ := h.st
  obtain ⟨O, h1, h2, h3⟩ := hK _ rfl
  exact ⟨O, h1, h2⟩
theorem Js.len (h : Js F W w p S (some (g, J))) : Calls Tryd.prog 18 #[ptr g] w fun e w' => e = .returned (.int .i64 J.L.length) ∧ w = w' := by
  obtain ⟨O, rfl, h2⟩ := h.jat
  exact jlen_any h2
theorem Js.get (h : Js F W w p S (some (g, J))) (i : Int) (hi : i ≤ 9223372036854775807) : Calls Tryd.prog 29 #[ptr g, .int .i64 i] w fun e w' => e = .returned (.string (getV J.L i)) ∧ w = w' := by
  obtain ⟨O, rfl, h2⟩ := h.jat
  exact jget_any h2 i hi
theorem Js.all (h : Js F W w p S (some (g, J))) : Calls Tryd.prog 17 #[ptr g] w fun e w' => ∃ v', e = .returned v' ∧ Grow w' w.heap.size 1 v' J.L.length (strs J.L) ∧ Below w.heap.size w w' := by
  obtain ⟨O, rfl, h2⟩ := h.jat
  exact jall_any h2
theorem Js.room (h : Js F W w p S (some (g, J))) : (form J.L).length ≤ 16777216 ∧ J.L.length ≤ 16777216 := by
  obtain ⟨O, rfl, h2⟩ := h.jat
  have := h2.room
  have := form_len J.L
  omega
/-- Two journals. -/
structure Jj (F : Nat → Prop) (W w : World) (p : Nat) (S : St) (x y : Nat × Jl) : Prop where
  st : ∃ O : JO, O.g = x.1 ∧ JAt w p O x.2 ∧ (∀ b, O.has b → W.heap.size ≤ b ∧ ¬ F b) ∧ Js (fun b => F b ∨ O.has b) W w p S (some y)
theorem Js.part (h : Js F W w p S (some (g, J))) : ∃ O : JO, O.g = g ∧ JAt w p O J ∧ (∀ b, O.has b → W.heap.size ≤ b ∧ ¬ F b) ∧ Js (fun b => F b ∨ O.has b) W w p S none := by
  obtain ⟨hb, hk, ho, D, hp, hd, hf, hF, hK⟩ := h
  obtain ⟨O, h1, h2, h3⟩ := hK _ rfl
  refine ⟨O, h1, h2, fun b hb => ⟨(h3 b hb).1, (h3 b hb).2.2⟩, hb, hk, ho, D, hp, hd, hf, fun b h => ?_, fun x hx => by cases hx⟩
  rcases h with h | h
  · exact hF b h
  · exact ⟨h2.inside b h, (h3 b h).2.1⟩
theorem Jj.swap {x y : Nat × Jl} (h : Jj F W w p S x y) : Jj F W w p S y x := by
  obtain ⟨O, h1, h2, h3, hb, hk, ho, D, hp, hd, hf, hF, hK⟩ := h
  obtain ⟨O2, k1, k2, k3⟩ := hK _ rfl
  refine ⟨O2, k1, k2, fun b hb => ⟨(k3 b hb).1, fun e => (k3 b hb).2.2 (.inl e)⟩, hb, hk, ho, D, hp, hd, hf, fun b h => ?_, fun z hz => ?_⟩
  · rcases h with h | h
    · exact hF b (.inl h)
    · exact ⟨k2.inside b h, (k3 b h).2.1⟩
  · injection hz with hz
    subst hz
    refine ⟨O, h1, h2, fun b hb => ⟨(h3 b hb).1, (hF b (.inr hb)).2, fun e => ?_⟩⟩
    rcases e with e | e
    · exact (h3 b hb).2 e
    · exact (k3 b e).2.2 (.inr hb)
theorem Jj.right {x y : Nat × Jl} (h : Jj F W w p S x y) : Js F W w p S (some y) := by
  obtain ⟨O, h1, h2, h3, hj⟩ := h
  exact hj.mono fun b hb => .inl hb
theorem Jj.left {x y : Nat × Jl} (h : Jj F W w p S x y) : Js F W w p S (some x) := h.swap.right
/-- A call on the second one. -/
theorem Jj.on {x y y2 : Nat × Jl} {S2 : St} (h : Jj F W w p S x y) (k : ∀ F2, (∀ b, F b → F2 b) → Js F2 W w p S (some y) → Calls Tryd.prog f args w fun e w' => e = R ∧ Js F2 W w' p S2 (some y2) ∧ SameF F2 w w') :
    Calls Tryd.prog f args w fun e w' => e = R ∧ Jj F W w' p S2 x y2 ∧ SameF F w w' := by
  obtain ⟨O, h1, h2, h3, hj⟩ := h
  refine (k _ (fun b hb => .inl hb) hj).mono ?_
  rintro e w' ⟨he, hj2, hs⟩
  exact ⟨he, ⟨O, h1, h2.still hs.size (fun b hb => hs.same b (.inr hb)), h3, hj2⟩, hs.size, fun b hb => hs.same b (.inl hb)⟩
theorem Jj.keep {x y : Nat × Jl} (h : Jj F W w p S x y) (b : Below w.heap.size w w') : Jj F W w' p S x y := by
  obtain ⟨O, h1, h2, h3, hj⟩ := h
  exact ⟨O, h1, h2.below b, h3, (hj.keep b).1⟩
theorem Jj.more {x y : Nat × Jl} (h : Jj F W w p S x y) (b : Below w.heap.size w w') (hG : ∀ x, G x → F x ∨ (w.heap.size ≤ x ∧ x < w'.heap.size)) : Jj G W w' p S x y := by
  obtain ⟨O, h1, h2, h3, hj⟩ := h
  refine ⟨O, h1, h2.below b, fun z hz => ⟨(h3 z hz).1, fun e => ?_⟩, hj.more b fun z hz => ?_⟩
  · rcases hG z e with e | e
    · exact (h3 z hz).2 e
    · have := h2.inside z hz; omega
  · rcases hz with hz | hz
    · rcases hG z hz with e | e
      · exact .inl (.inl e)
      · exact .inr e
    · exact .inl (.inr hz)
end
end Dsk
end Go.Proofs.YtpogoalbnbekaaaDoor

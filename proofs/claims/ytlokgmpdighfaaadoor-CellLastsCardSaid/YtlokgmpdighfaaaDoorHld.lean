/- A disk that a statement made, and its cells. -/
import Derived.Test.YtlokgmpdighfaaaDoorClD
namespace Go.Proofs.YtlokgmpdighfaaaDoor
open Go.RowKit Wire
set_option linter.unusedVariables false
set_option linter.unusedSimpArgs false
open Txt
namespace Dsk

/-- A disk at p, and its cells. -/
structure Ones (W w : World) (p : Nat) (S : St) (K : List (Nat × Cl)) : Prop where
  below : Below W.heap.size W w
  ok : S.ok
  off : Off W
  disk : ∃ D, D.p = p ∧ DiskAt w D S ∧ (∀ b, D.has b → W.heap.size ≤ b) ∧ ∀ x ∈ K, CellAt w x.1 p x.2 ∧ W.heap.size ≤ x.1 ∧ ¬ D.has x.1
  nodup : (K.map Prod.fst).Nodup

section
variable {W w w' : World} {p q : Nat} {S T S' : St} {f : FuncId} {args : Array Value} {R : Ending} {K : List (Nat × Cl)} {c : Cl}

theorem Ones.keep (h : Ones W w p S K) (b : Below w.heap.size w w') : Ones W w' p S K := by
  obtain ⟨hb, hk, ho, ⟨D, hp, hd, hf, hc⟩, hn⟩ := h
  exact ⟨next_below hb b, hk, ho, ⟨D, hp, hd.below b, hf, fun x hx => ⟨(hc x hx).1.below b, (hc x hx).2⟩⟩, hn⟩
theorem Ones.one (h : Ones W w p S K) : One W w p S := by
  obtain ⟨hb, hk, ho, ⟨D, hp, hd, hf, hc⟩, hn⟩ := h
  exact ⟨hb, hk, D, hp, hd, hf⟩
theorem Ones.of (h : One W w p S) (ho : Off W) : Ones W w p S [] := by
  obtain ⟨hb, hk, D, hp, hd, hf⟩ := h
  exact ⟨hb, hk, ho, ⟨D, hp, hd, hf, fun x hx => by cases hx⟩, List.nodup_nil⟩
theorem Ones.drop {x : Nat × Cl} (h : Ones W w p S (x :: K)) : Ones W w p S K := by
  obtain ⟨hb, hk, ho, ⟨D, hp, hd, hf, hc⟩, hn⟩ := h
  exact ⟨hb, hk, ho, ⟨D, hp, hd, hf, fun y hy => hc y (List.mem_cons_of_mem _ hy)⟩, (List.nodup_cons.1 hn).2⟩
theorem Ones.swap {x y : Nat × Cl} (h : Ones W w p S (x :: y :: K)) : Ones W w p S (y :: x :: K) := by
  obtain ⟨hb, hk, ho, ⟨D, hp, hd, hf, hc⟩, hn⟩ := h
  refine ⟨hb, hk, ho, ⟨D, hp, hd, hf, fun z hz => hc z ?_⟩, ?_⟩
  · simp only [List.mem_cons] at hz ⊢
    rcases hz with h1 | h1 | h1
    · exact .inr (.inl h1)
    · exact .inl h1
    · exact .inr (.inr h1)
  · simp only [List.map_cons, List.nodup_cons, List.mem_cons] at hn ⊢
    exact ⟨fun e => by rcases e with e | e; exact hn.1 (.inl e.symm); exact hn.2.1 e, fun e => hn.1 (.inr e), hn.2.2⟩
theorem Ones.offw (h : Ones W w p S K) : Off w := h.off.below h.below h.off.lt
theorem Ones.step (h : Ones W w p S K) (hk : S'.ok) (hcc : ∀ D, D.p = p → DiskAt w D S → (∀ b, D.has b → W.heap.size ≤ b) → Calls Tryd.prog f args w fun e w' => e = R ∧ Post D S' w w') : Calls Tryd.prog f args w fun e w' => e = R ∧ Ones W w' p S' K := by
  obtain ⟨hb, _, ho, ⟨D, hp, hd, hf, hc⟩, hn⟩ := h
  refine (hcc D hp hd hf).mono ?_
  rintro e w' ⟨he, ⟨D', hd', hp', hh⟩, ho2⟩
  have hs := hb.size
  refine ⟨he, hb.trans (ho2.below hs hf), hk, ho, ⟨D', hp'.trans hp, hd', fun b hb2 => ?_, fun x hx => ?_⟩, hn⟩
  · rcases hh b hb2 with h1 | h1
    · exact hf b h1
    · omega
  · obtain ⟨h1, h2, h3⟩ := hc x hx
    refine ⟨h1.only ho2 h3, h2, fun e => ?_⟩
    rcases hh _ e with h4 | h4
    · exact h3 h4
    · have := h1.lt; omega
theorem Ones.open_some (h : Ones W w p S K) {f : Int} {er : Int} (he : opn S f = (er, some c)) : Calls Tryd.prog 12 #[ptr p, .int .i64 f] w fun e w' => ∃ q, e = .returned (.tuple #[ptr q, .int .i64 er]) ∧ Ones W w' p S ((q, c) :: K) := by
  have hof := h.offw
  obtain ⟨hb, hk, ho, ⟨D, hp, hd, hf, hc⟩, hn⟩ := h
  subst hp
  refine (Open_any hd hk hof f).mono ?_
  rw [he]
  rintro e w' ⟨hb2, q, he2, hq, hlt⟩
  have hs := hb.size
  refine ⟨q, he2, next_below hb hb2, hk, ho, ⟨D, rfl, hd.below hb2, hf, fun x hx => ?_⟩, ?_⟩
  · rcases List.mem_cons.1 hx with rfl | hx
    · exact ⟨hq, by show W.heap.size ≤ q; omega, fun e => by have : q < w.heap.size := hd.inside q e; omega⟩
    · exact ⟨(hc x hx).1.below hb2, (hc x hx).2⟩
  · refine List.nodup_cons.2 ⟨fun e => ?_, hn⟩
    obtain ⟨x, hx, e⟩ := List.mem_map.1 e
    have := (hc x hx).1.lt
    have e2 : x.1 = q := e
    omega
theorem Ones.set (h : Ones W w p S ((q, c) :: K)) (s : ByteArray) (hs : s.size ≤ maxLen) : Calls Tryd.prog 14 #[ptr q, .string s] w fun e w' => e = .returned (.int .i64 (c.set S (bl s)).1) ∧ Ones W w' p (c.set S (bl s)).2.2 ((q, (c.set S (bl s)).2.1) :: K) := by
  have hof := h.offw
  obtain ⟨hb, hk, ho, ⟨D, hp, hd, hf, hc⟩, hn⟩ := h
  subst hp
  obtain ⟨h1, h2, h3⟩ := hc (q, c) (List.mem_cons_self ..)
  have hg := ho.lt
  have h1' : CellAt w q D.p c := h1
  have h2' : W.heap.size ≤ q := h2
  have h3' : ¬ D.has q := h3
  refine (Set_any s hs (CC.init hd hk h1' hof h3' (fun e => by have := hf _ e; omega) (by omega))).mono ?_
  rintro e w' ⟨he, hcc⟩
  obtain ⟨D', hd', hp', hh⟩ := hcc.disk
  have hsz := hb.size
  refine ⟨he, hb.trans (hcc.only.below hsz fun x hx => ?_), hcc.ok, ho, ⟨D', hp', hd', fun b hb2 => ?_, fun x hx => ?_⟩, hn⟩
  · rcases hx with hx | hx
    · exact hf x hx
    · rw [hx]; exact h2'
  · rcases hh b hb2 with h4 | h4
    · exact hf b h4
    · omega
  · rcases List.mem_cons.1 hx with rfl | hx
    · refine ⟨hcc.cell, h2', fun e => ?_⟩
      rcases hh _ e with h4 | h4
      · exact h3' h4
      · have := h1'.lt; have h5 : w.heap.size ≤ q := h4; omega
    · obtain ⟨g1, g2, g3⟩ := hc x (List.mem_cons_of_mem _ hx)
      have hne : x.1 ≠ q := fun e => (List.nodup_cons.1 hn).1 (List.mem_map.2 ⟨x, hx, e⟩)
      refine ⟨g1.only hcc.only (by rintro (e | e); exact g3 e; exact hne e), g2, fun e => ?_⟩
      rcases hh _ e with h4 | h4
      · exact g3 h4
      · have := g1.lt; omega
theorem Ones.get (h : Ones W w p S ((q, c) :: K)) : Calls Tryd.prog 23 #[ptr q] w fun e w' => e = .returned (.tuple #[str c.value, .bool (decide (c.slot ≠ 0))]) ∧ Ones W w' p S ((q, c) :: K) := by
  obtain ⟨D, hp, hd, hf, hc⟩ := h.disk
  exact (Get_any (hc (q, c) (List.mem_cons_self ..)).1).mono fun e w' ⟨he, hb⟩ => ⟨he, h.keep hb⟩
theorem Ones.read (h : Ones W w p S K) (f a n : Int) (ha : a ≤ 9223372036854775807) (hn : n ≤ 9223372036854775807) :
    Calls Tryd.prog 28 #[ptr p, .int .i64 f, .int .i64 a, .int .i64 n] w fun e w' => e = .returned (.tuple #[str (S.Read f a n).1, .int .i64 (S.Read f a n).2]) ∧ Ones W w' p S K :=
  (h.one.read f a n ha hn).mono fun e w' ⟨he, hb⟩ => ⟨he, h.keep hb⟩
end

/-! The statements' example. -/
def u0 : Cl := ⟨3, 0, [], false⟩
def u1 : Int × Cl × St := u0.set St.new [97]
def u2 : Int × Cl × St := u1.2.1.set u1.2.2 [98, 99]
set_option maxRecDepth 100000 in
theorem small_facts : opn St.new 3 = (0, some u0) ∧ u1.1 = 0 ∧ u2.1 = 0 ∧ u2.2.1.value = [98, 99] ∧ u2.2.1.slot = 2 ∧ u2.2.2.Read 3 0 6 = ([2, 2, 0, 0, 0, 0], 0) ∧ u2.2.2.Read 3 64 1 = ([97], 0) ∧ u2.2.2.Read 3 131072 9 = ([98, 99], 0) := by
  refine ⟨?_, by decide +kernel, by decide +kernel, by decide +kernel, by decide +kernel, by decide +kernel, by decide +kernel, by decide +kernel⟩
  exact (opn_new (f := 3) (by omega)).1

set_option maxHeartbeats 1000000 in
theorem csmall_any {w : World} (ho : Off w) : Calls Tryd.prog 8 #[] w fun e w' => e = .returned (.bool true) ∧ Below w.heap.size w w' := by
  obtain ⟨f0, f1, f2, f3, f4, f5, f6, f7⟩ := small_facts
  have HO := Lib.hid (fun w' p (h : Ones w w' p St.new []) => h.open_some f0)
  have HG := Lib.hid (fun w' p q (h : Ones w w' p St.new [(q, u0)]) => h.get)
  have HS1 : Hid (∀ w' p q, Ones w w' p St.new [(q, u0)] → Calls Tryd.prog 14 #[ptr q, .string ⟨#[97]⟩] w' fun e w2 => e = .returned (.int .i64 0) ∧ Ones w w2 p u1.2.2 [(q, u1.2.1)]) := Lib.hid fun w' p q h => by
    have := h.set ⟨#[97]⟩ (by decide +kernel)
    rw [show u0.set St.new (bl ⟨#[97]⟩) = u1 from rfl, f1] at this
    exact this
  have HS2 : Hid (∀ w' p q, Ones w w' p u1.2.2 [(q, u1.2.1)] → Calls Tryd.prog 14 #[ptr q, .string ⟨#[98, 99]⟩] w' fun e w2 => e = .returned (.int .i64 0) ∧ Ones w w2 p u2.2.2 [(q, u2.2.1)]) := Lib.hid fun w' p q h => by
    have := h.set ⟨#[98, 99]⟩ (by decide +kernel)
    rw [show u1.2.1.set u1.2.2 (bl ⟨#[98, 99]⟩) = u2 from rfl, f2] at this
    exact this
  have HG2 : Hid (∀ w' p q, Ones w w' p u2.2.2 [(q, u2.2.1)] → Calls Tryd.prog 23 #[ptr q] w' fun e w2 => e = .returned (.tuple #[.string ⟨#[98, 99]⟩, .bool true]) ∧ Ones w w2 p u2.2.2 [(q, u2.2.1)]) := Lib.hid fun w' p q h => by
    have := h.get
    rw [f3, f4] at this
    exact this
  have HR1 : Hid (∀ w' p K, Ones w w' p u2.2.2 K → Calls Tryd.prog 28 #[ptr p, .int .i64 3, .int .i64 0, .int .i64 6] w' fun e w2 => e = .returned (.tuple #[.string ⟨#[2, 2, 0, 0, 0, 0]⟩, .int .i64 0]) ∧ Ones w w2 p u2.2.2 K) := Lib.hid fun w' p K h => by
    have := h.read 3 0 6 (by omega) (by omega)
    rw [f5] at this
    exact this
  have HR2 : Hid (∀ w' p K, Ones w w' p u2.2.2 K → Calls Tryd.prog 28 #[ptr p, .int .i64 3, .int .i64 64, .int .i64 1] w' fun e w2 => e = .returned (.tuple #[.string ⟨#[97]⟩, .int .i64 0]) ∧ Ones w w2 p u2.2.2 K) := Lib.hid fun w' p K h => by
    have := h.read 3 64 1 (by omega) (by omega)
    rw [f6] at this
    exact this
  have HR3 : Hid (∀ w' p K, Ones w w' p u2.2.2 K → Calls Tryd.prog 28 #[ptr p, .int .i64 3, .int .i64 131072, .int .i64 9] w' fun e w2 => e = .returned (.tuple #[.string ⟨#[98, 99]⟩, .int .i64 0]) ∧ Ones w w2 p u2.2.2 K) := Lib.hid fun w' p K h => by
    have := h.read 3 131072 9 (by omega) (by omega)
    rw [f7] at this
    exact this
  clear f0 f1 f2 f3 f4 f5 f6 f7
  have HOF := Lib.hid ho
  clear ho
  go_enter Tryd.func8, Tryd.ntmps8
  go_wp2_with (first
    | (go_at_call 10; refine (new_one (Below.refl _ w)).mono ?_; rintro e w1 ⟨p, rfl, h1⟩; have H1 := Lib.hid (Ones.of h1 HOF.out); clear h1)
    | (go_at_call 12; refine (HO.out _ _ H1.out).mono ?_; rintro e w2 ⟨q, rfl, h2⟩; have H2 := Lib.hid h2; clear h2 H1)
    | (go_at_call 23; ((with_reducible refine (HG.out _ _ _ H2.out).mono ?_); rintro e w3 ⟨rfl, h3⟩; have H3 := Lib.hid h3; clear h3 H2))
    | (go_at_call 14; ((with_reducible refine (HS1.out _ _ _ H3.out).mono ?_); rintro e w4 ⟨rfl, h4⟩; have H4 := Lib.hid h4; clear h4 H3))
    | (go_at_call 14; ((with_reducible refine (HS2.out _ _ _ H4.out).mono ?_); rintro e w5 ⟨rfl, h5⟩; have H5 := Lib.hid h5; clear h5 H4))
    | (go_at_call 23; ((with_reducible refine (HG2.out _ _ _ H5.out).mono ?_); rintro e w6 ⟨rfl, h6⟩; have H6 := Lib.hid h6; clear h6 H5))
    | (go_at_call 28; ((with_reducible refine (HR1.out _ _ _ H6.out).mono ?_); rintro e w7 ⟨rfl, h7⟩; have H7 := Lib.hid h7; clear h7 H6))
    | (go_at_call 28; ((with_reducible refine (HR2.out _ _ _ H7.out).mono ?_); rintro e w8 ⟨rfl, h8⟩; have H8 := Lib.hid h8; clear h8 H7))
    | (go_at_call 28; ((with_reducible refine (HR3.out _ _ _ H8.out).mono ?_); rintro e w9 ⟨rfl, h9⟩; have H9 := Lib.hid h9; clear h9 H8)))
  go_ret
  exact ⟨rfl, H9.out.below⟩
end Dsk
end Go.Proofs.YtlokgmpdighfaaaDoor

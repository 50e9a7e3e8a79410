/- What a call may have written. -/
import Derived.Test.YtgaclibokapfaaaBase
import Derived.Test.YtgaclibokapfaaaVal
namespace Go.Proofs.Ytgaclibokapfaaa
open Go.RowKit Wire
set_option linter.unusedVariables false
set_option linter.unusedSimpArgs false
namespace Dsk

/-- Of what was there only blocks of F may have changed. -/
structure Only (F : Nat → Prop) (w w' : World) : Prop where
  os : w'.os = w.os
  tape : w'.tape = w.tape
  output : w'.output = w.output
  size : w.heap.size ≤ w'.heap.size
  block : ∀ b, b < w.heap.size → ¬ F b → w'.heap[b]? = w.heap[b]?

section
variable {F G : Nat → Prop} {w w' w'' a b c : World}
theorem Only.refl (F : Nat → Prop) (w : World) : Only F w w := ⟨rfl, rfl, rfl, Nat.le_refl _, fun _ _ _ => rfl⟩
theorem Only.trans (h : Only F a b) (k : Only G b c) (hg : ∀ x, G x → F x ∨ a.heap.size ≤ x) : Only F a c :=
  ⟨k.os.trans h.os, k.tape.trans h.tape, k.output.trans h.output, Nat.le_trans h.size k.size, fun i hi hf =>
    (k.block i (Nat.lt_of_lt_of_le hi h.size) (fun e => by rcases hg i e with h1 | h1; exact hf h1; omega)).trans (h.block i hi hf)⟩
theorem Only.same (h : Only F a b) (k : Only F b c) : Only F a c := h.trans k fun _ h => .inl h
theorem Only.mono (h : Only F a b) (hg : ∀ x, F x → G x ∨ a.heap.size ≤ x) : Only G a b :=
  ⟨h.os, h.tape, h.output, h.size, fun i hi hf => h.block i hi fun e => by rcases hg i e with h1 | h1; exact hf h1; omega⟩
theorem Only.of_below (h : Below a.heap.size a b) : Only F a b := ⟨h.os, h.tape, h.output, h.size, fun i hi _ => h.block i hi⟩
theorem Only.of_grown {m : Nat} (h : a.grownBy b (some m)) (hm : F m ∨ a.heap.size ≤ m) : Only F a b :=
  ⟨h.os, h.tape, h.output, h.size, fun i hi hf => h.block i hi fun e => by
    injection e with e
    subst e
    rcases hm with h1 | h1
    · exact hf h1
    · omega⟩
theorem Only.of_grown' {r : Option Nat} (h : a.grownBy b r) (hm : ∀ m, r = some m → F m ∨ a.heap.size ≤ m) : Only F a b :=
  ⟨h.os, h.tape, h.output, h.size, fun i hi hf => h.block i hi fun e => by
    rcases hm i e.symm with h1 | h1
    · exact hf h1
    · omega⟩
theorem Only.set (F : Nat → Prop) (w : World) (p : Addr) (v : Value) (h : F p.block) : Only F w (w.setCell p v) :=
  ⟨rfl, rfl, rfl, by simp [World.setCell], fun i _ hf => Below.heap_setCell _ _ _ _ fun e => hf (by rw [e]; exact h)⟩
theorem Only.below {B : Nat} (h : Only F a b) (hB : B ≤ a.heap.size) (hF : ∀ x, F x → B ≤ x) : Below B a b :=
  ⟨h.os, h.tape, h.output, h.size, fun i hi => h.block i (by omega) fun e => by have := hF i e; omega⟩
end
end Dsk
end Go.Proofs.Ytgaclibokapfaaa

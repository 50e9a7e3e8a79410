/- Calls beside other things; the statements' example. -/
import Derived.Test.YtmhnifcohkamaaaNsb
namespace Go.Proofs.Ytmhnifcohkamaaa
open Go.RowKit Wire
open Txt (Row)
open Dsk (Only below_of_grown Grow.bare)
set_option linter.unusedVariables false
set_option linter.unusedSimpArgs false
namespace Ntw
abbrev NetN (p : Nat) (S : Nt) : Thing := NetT 56 p S
abbrev NetQ (p : Nat) (S : Nt) : Thing := NetT 29 p S
section
variable {W w : World} {T : List Thing} {p : Nat} {S S' : Nt} {er : Int}
theorem Sp.nsend (h : Sp W w T) (i : Nat) (hi : T[i]? = some (NetN p S)) (a b : Int) (s : ByteArray) (he : S.send a b s = (er, S')) :
    Calls Try.prog 20 #[ptr p, .int .i64 a, .int .i64 b, .string s] w fun e w' => e = .returned (.int .i64 er) ∧ Sp W w' (T.set i (NetN p S')) :=
  Sp.step (R := fun e => e = .returned (.int .i64 er)) h i hi fun F hF _ => by have := nSend_any (show NetAt _ w p S F from hF) a b s; rw [he] at this; exact this
theorem Sp.ndeliver {o : Option Pk} (h : Sp W w T) (i : Nat) (hi : T[i]? = some (NetN p S)) (k : Int) (he : S.deliver k = (o, er, S')) :
    Calls Try.prog 21 #[ptr p, .int .i64 k] w fun e w' => e = .returned (.tuple #[(o.getD Pk.zero).val, .int .i64 er]) ∧ Sp W w' (T.set i (NetN p S')) :=
  Sp.step (R := fun e => e = .returned (.tuple #[(o.getD Pk.zero).val, .int .i64 er])) h i hi fun F hF _ => by have := nDeliver_any (show NetAt _ w p S F from hF) k; rw [he] at this; exact this
theorem Sp.ndouble (h : Sp W w T) (i : Nat) (hi : T[i]? = some (NetN p S)) (k : Int) (he : S.double k = (er, S')) :
    Calls Try.prog 24 #[ptr p, .int .i64 k] w fun e w' => e = .returned (.int .i64 er) ∧ Sp W w' (T.set i (NetN p S')) :=
  Sp.step (R := fun e => e = .returned (.int .i64 er)) h i hi fun F hF _ => by have := nDouble_any (show NetAt _ w p S F from hF) k; rw [he] at this; exact this
theorem Sp.nsplit (h : Sp W w T) (i : Nat) (hi : T[i]? = some (NetN p S)) (k : Int) :
    Calls Try.prog 22 #[ptr p, .int .i64 k] w fun e w' => e = .returned (.tuple #[]) ∧ Sp W w' (T.set i (NetN p (S.splitBy k))) :=
  Sp.step (R := fun e => e = .returned (.tuple #[])) h i hi fun F hF _ => nSplit_any (show NetAt _ w p S F from hF) k
theorem Sp.nheal (h : Sp W w T) (i : Nat) (hi : T[i]? = some (NetN p S)) :
    Calls Try.prog 23 #[ptr p] w fun e w' => e = .returned (.tuple #[]) ∧ Sp W w' (T.set i (NetN p (S.splitBy 0))) :=
  Sp.step (R := fun e => e = .returned (.tuple #[])) h i hi fun F hF _ => nHeal_any (show NetAt _ w p S F from hF)
theorem Sp.ndo (h : Sp W w T) (i : Nat) (hi : T[i]? = some (NetN p S)) (x : Opn) :
    Calls Try.prog 12 #[ptr p, x.val] w fun e w' => e = .returned (.tuple #[(S.step x).1.val, .int .i64 (S.step x).2.1]) ∧ Sp W w' (T.set i (NetN p (S.step x).2.2)) :=
  Sp.step (R := fun e => e = .returned (.tuple #[(S.step x).1.val, .int .i64 (S.step x).2.1])) h i hi fun F hF _ => ndo_any (show NetAt _ w p S F from hF) x
theorem Sp.qmodel (h : Sp W w T) (i : Nat) (hi : T[i]? = some (NetQ p S)) (x : Opn) :
    Calls Try.prog 13 #[ptr p, x.val] w fun e w' => e = .returned (.tuple #[(S.step x).1.val, .int .i64 (S.step x).2.1]) ∧ Sp W w' (T.set i (NetQ p (S.step x).2.2)) :=
  Sp.step (R := fun e => e = .returned (.tuple #[(S.step x).1.val, .int .i64 (S.step x).2.1])) h i hi fun F hF _ => qmodel_any (show NetAt _ w p S F from hF) x
theorem Sp.made {ty : TypeId} {f : FuncId} {args : Array Value} (h : Sp W w T) (hc : Calls Try.prog f args w (Made ty S w)) :
    Calls Try.prog f args w fun e w' => ∃ q, e = .returned (ptr q) ∧ Sp W w' (T ++ [NetT ty q S]) :=
  hc.mono fun e w' ⟨q, F, he, h1, h2, h3⟩ => ⟨q, he, h.new h3 (F := F) h1 h2⟩
theorem Sp.nnew (h : Sp W w T) : Calls Try.prog 8 #[] w fun e w' => ∃ q, e = .returned (ptr q) ∧ Sp W w' (T ++ [NetN q Nt.empty]) := h.made (nNew_any w)
theorem Sp.ncopy (h : Sp W w T) (i : Nat) (hi : T[i]? = some (NetN p S)) : Calls Try.prog 10 #[ptr p] w fun e w' => ∃ q, e = .returned (ptr q) ∧ Sp W w' (T ++ [NetN q S]) := by
  obtain ⟨F, hF, _⟩ := h.get i hi
  exact h.made (nCopy_any (show NetAt _ w p S F from hF))
theorem Sp.qcopy (h : Sp W w T) (i : Nat) (hi : T[i]? = some (NetQ p S)) : Calls Try.prog 11 #[ptr p] w fun e w' => ∃ q, e = .returned (ptr q) ∧ Sp W w' (T ++ [NetQ q S]) := by
  obtain ⟨F, hF, _⟩ := h.get i hi
  exact h.made (qCopy_any (show NetAt _ w p S F from hF))
theorem Sp.nhear (h : Sp W w T) (i : Nat) (hi : T[i]? = some (NetN p S)) (a b : Int) : Calls Try.prog 15 #[ptr p, .int .i64 a, .int .i64 b] w fun e w' => e = .returned (.bool (S.hear a b)) ∧ w = w' := by
  obtain ⟨F, hF, _⟩ := h.get i hi
  exact nHear_any (show NetAt _ w p S F from hF) a b
theorem Sp.qhear (h : Sp W w T) (i : Nat) (hi : T[i]? = some (NetQ p S)) (a b : Int) : Calls Try.prog 16 #[ptr p, .int .i64 a, .int .i64 b] w fun e w' => e = .returned (.bool (S.hear a b)) ∧ w = w' := by
  obtain ⟨F, hF, _⟩ := h.get i hi
  exact qHear_any (show NetAt _ w p S F from hF) a b
theorem Sp.ncount (h : Sp W w T) (i : Nat) (hi : T[i]? = some (NetN p S)) : Calls Try.prog 14 #[ptr p] w fun e w' => e = .returned (.int .i64 S.L.length) ∧ w = w' := by
  obtain ⟨F, hF, _⟩ := h.get i hi
  exact nCount_any (show NetAt _ w p S F from hF)
theorem Sp.nlist (h : Sp W w T) (i : Nat) (hi : T[i]? = some (NetN p S)) : Calls Try.prog 18 #[ptr p] w fun e w' => ∃ v', e = .returned v' ∧ Grow w' w.heap.size 3 v' S.L.length (pks S.L) ∧ Below w.heap.size w w' := by
  obtain ⟨F, hF, _⟩ := h.get i hi
  exact nList_any (show NetAt _ w p S F from hF)
/-- What a network of the reference shows. -/
theorem Sp.qrow (h : Sp W w T) (i : Nat) (hi : T[i]? = some (NetQ p S)) : ∃ A c, w.cell? ⟨p, 0, none⟩ = some (.slice A S.L.length c) ∧ Row w w.heap.size A (pks S.L) := by
  obtain ⟨F, hF, _⟩ := h.get i hi
  obtain ⟨v, hV⟩ := NetAt.pieces (show NetAt _ w p S F from hF)
  have hc := hV.cell
  obtain ⟨A, c, rfl, hr⟩ := Grow.row hV.row
  exact ⟨A, c, hc, hr⟩
theorem Sp.okay {ty : TypeId} (h : Sp W w T) (i : Nat) (hi : T[i]? = some (NetT ty p S)) : S.ok := by
  obtain ⟨F, hF, _⟩ := h.get i hi
  exact NetAt.ok hF
/-- A local packet. -/
theorem Sp.local (h : Sp W w T) (ty : TypeId) (cs : Array Value) : Sp W (w.alloc (.cells cs ty)) (T ++ [BlkT w.heap.size ty cs]) :=
  h.new ((Below.refl _ w).alloc (Nat.le_refl _) _) (F := fun x => x = w.heap.size) ⟨Blk.fresh w ty cs, fun x => Iff.rfl⟩ fun x hx => by subst hx; exact ⟨Nat.le_refl _, by simp⟩
theorem Sp.blk {b : Nat} {ty : TypeId} {cs : Array Value} (h : Sp W w T) (i : Nat) (hi : T[i]? = some (BlkT b ty cs)) : Blk w b ty cs := by
  obtain ⟨F, hF, _⟩ := h.get i hi
  exact hF.1
end
abbrev bA : ByteArray := ⟨#[97]⟩
abbrev bB : ByteArray := ⟨#[98]⟩
def ex1 : Nt := ⟨[⟨0, 1, bA⟩], 0⟩
def ex2 : Nt := ⟨[⟨0, 1, bA⟩, ⟨0, 2, bB⟩], 0⟩
theorem ex_a : Nt.empty.send 0 1 bA = (0, ex1) := by kernel_rfl
theorem ex_b : ex1.send 0 2 bB = (0, ex2) := by kernel_rfl
theorem ex_c : ex2.deliver 1 = (some ⟨0, 2, bB⟩, 0, ex1) := by kernel_rfl
theorem ex_d : ex1.deliver 0 = (some ⟨0, 1, bA⟩, 0, Nt.empty) := by kernel_rfl
def ex3 : Nt := ⟨[], 1⟩
theorem ex_e : (ex1.splitBy 1).deliver 0 = (none, 10, ex3) := by kernel_rfl
def ex4 : Nt := ⟨[⟨0, 1, bA⟩], 3⟩
theorem ex_f : (ex3.splitBy 3).send 0 1 bA = (0, ex4) := by kernel_rfl
theorem ex_g : ex4.send 1 2 bB = (10, ex4) := by kernel_rfl
theorem ex_h : ex4.hear 0 1 = true := by kernel_rfl
theorem ex_i : ex4.hear 1 2 = false := by kernel_rfl
end Ntw
end Go.Proofs.Ytmhnifcohkamaaa

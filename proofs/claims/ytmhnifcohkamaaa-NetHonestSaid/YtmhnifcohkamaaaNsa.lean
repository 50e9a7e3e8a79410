/- Operations of the statements: how they lie; few, do, model. -/
import Derived.Test.YtmhnifcohkamaaaNtM
namespace Go.Proofs.Ytmhnifcohkamaaa
open Go.RowKit Wire
open Txt (Row)
open Dsk (Only below_of_grown Grow.bare)
set_option linter.unusedVariables false
set_option linter.unusedSimpArgs false
namespace Ntw
/-- It is an int. -/
def Fits (z : Int) : Prop := -9223372036854775808 ≤ z ∧ z ≤ 9223372036854775807
theorem fits_of {n : Int} (h : (Lit.int .i64 n).wf = true) : Fits n := by
  unfold Fits
  simpa [Lit.wf, IntKind.min, IntKind.max, IntKind.signed, IntKind.bits] using h
def Opn.cells (a : Opn) : List Value := [.int .i64 a.kind, .int .i64 a.n, .int .i64 a.t, .string a.s]
abbrev Opn.val (a : Opn) : Value := .agg #[.int .i64 a.kind, .int .i64 a.n, .int .i64 a.t, .string a.s]
structure Opn.fit (a : Opn) : Prop where
  kind : Fits a.kind
  n : Fits a.n
  t : Fits a.t
  s : a.s.size ≤ maxLen
/-- Operations that came in. -/
structure Ops (W : World) (A : Option Addr) (l : List Opn) : Prop where
  lie : ∀ i a, l[i]? = some a → ∃ b o, A = some ⟨b, o, none⟩ ∧ b < W.heap.size ∧ ∀ j u, a.cells[j]? = some u → W.cell? ⟨b, o + i * 4 + j, none⟩ = some u
  fit : ∀ a ∈ l, a.fit
  len : l.length ≤ 9223372036854775807
/-- One of them, as a later world has it. -/
structure OpAt (w : World) (b o i : Nat) (a : Opn) : Prop where
  k0 : w.cell? ⟨b, o + i * 4, none⟩ = some (.int .i64 a.kind)
  k1 : w.cell? ⟨b, o + i * 4 + 1, none⟩ = some (.int .i64 a.n)
  k2 : w.cell? ⟨b, o + i * 4 + 2, none⟩ = some (.int .i64 a.t)
  k3 : w.cell? ⟨b, o + i * 4 + 3, none⟩ = some (.string a.s)
theorem Ops.all {W : World} {A : Option Addr} {l : List Opn} (h : Ops W A l) {i : Nat} (hi : i < l.length) : ∃ b o, A = some ⟨b, o, none⟩ ∧ ∃ a, l[i]? = some a ∧ a.fit ∧ ∀ w, Below W.heap.size W w → OpAt w b o i a := by
  obtain ⟨b, o, e, hlt, hc⟩ := h.lie i l[i] (List.getElem?_eq_getElem hi)
  refine ⟨b, o, e, l[i], List.getElem?_eq_getElem hi, h.fit _ (List.getElem_mem hi), fun w hb => ?_⟩
  have g : ∀ j, w.cell? ⟨b, o + i * 4 + j, none⟩ = W.cell? ⟨b, o + i * 4 + j, none⟩ := fun j => hb.cell (p := ⟨b, o + i * 4 + j, none⟩) hlt
  exact ⟨(g 0).trans (hc 0 _ rfl), (g 1).trans (hc 1 _ rfl), (g 2).trans (hc 2 _ rfl), (g 3).trans (hc 3 _ rfl)⟩
structure FewRel (w : World) (l : List Opn) (iv : Value) (wr : World) (i : Nat) : Prop where
  iv : iv = .int .i64 i
  le : i ≤ l.length
  small : i ≤ 1000
  same : w = wr
def FewPost (w : World) (l : List Opn) (k : Nat) (e : Ending) (w' : World) : Prop := ∃ b, e = .returned (.bool b) ∧ (b = true → l.length ≤ k) ∧ w = w'
set_option maxRecDepth 100000 in
set_option maxHeartbeats 1000000 in
theorem nfew_any {W w : World} (A : Option Addr) (c : Nat) (l : List Opn) (k : Nat) (hk : k ≤ 1000) (h : Ops W A l) (hb : Below W.heap.size W w) :
    Calls Try.prog 9 #[.slice A l.length c, .int .i64 k] w (FewPost w l k) := by
  have hlen := h.len
  have H := Lib.hid h
  have HB := Lib.hid hb
  clear h hb
  have HFP : Hid (∀ b : Bool, (b = true → l.length ≤ k) → FewPost w l k (.returned (.bool b)) w) := Lib.hid fun b hb => ⟨b, rfl, hb, rfl⟩
  generalize hn : l.length = n at *
  have HNN := Lib.hid hn
  clear hn
  go_enter Try.func9, Try.ntmps9
  go_wp2_with fail
  go_loopw [5] (fun iv wr => ∃ i, FewRel w l iv wr i) (fun iv _ => 1000 - (intOf iv).toNat)
  case atStart => exact ⟨0, rfl, Nat.zero_le _, Nat.zero_le _, rfl⟩
  case round =>
    obtain ⟨i, ⟨rfl, hi, h1000, rfl⟩⟩ := hrel
    rw [HNN.out] at hi
    by_cases hlt : i < n
    · by_cases hlt2 : i < 1000
      · obtain ⟨b, o, rfl, a, ha, hf, hat⟩ := H.out.all (i := i) (by rw [HNN.out]; exact hlt)
        obtain ⟨k0, k1, k2, k3⟩ := hat w HB.out
        clear ha hf hat
        by_cases hs : a.s.size ≤ 100
        · go_wp2_with fail
          go_roundw
          case rel => exact ⟨i + 1, by simp, by rw [HNN.out]; exact hlt, hlt2, rfl⟩
          case measure => simp [intOf]; omega
        · go_wp2_with fail
          go_ret
          exact HFP.out _ (fun h => by cases h)
      · obtain rfl : i = 1000 := by omega
        have hlt3 : ¬ (n : Int) ≤ k := by omega
        go_wp2_with fail
        go_ret
        exact HFP.out _ (fun h => by first | (cases h; done) | (have := of_decide_eq_true h; omega))
    · obtain rfl : n = i := by omega
      go_wp2_with fail
      go_ret
      exact HFP.out _ (fun h => by first | (cases h; done) | (have := of_decide_eq_true h; omega))
end Ntw
end Go.Proofs.Ytmhnifcohkamaaa

/- Operations of the statements: how they lie, few. -/
import Derived.Test.YtlokgmpdighfaaaDoorHld
namespace Go.Proofs.YtlokgmpdighfaaaDoor
open Go.RowKit Wire
set_option linter.unusedVariables false
set_option linter.unusedSimpArgs false
open Txt
namespace Dsk

/-- It is an int. -/
def Fits (z : Int) : Prop := -9223372036854775808 ≤ z ∧ z ≤ 9223372036854775807
theorem fits_of {n : Int} (h : (Lit.int .i64 n).wf = true) : Fits n := by
  unfold Fits
  simpa [Lit.wf, IntKind.min, IntKind.max, IntKind.signed, IntKind.bits] using h

/-- An operation. -/
structure Opr where
  kind : Int
  s : ByteArray
  n : Int
  keep : List Int
def Opr.cells (a : Opr) (A : Option Addr) (c : Nat) : List Value := [.int .i64 a.kind, .string a.s, .int .i64 a.n, .slice A a.keep.length c]
structure Opr.fit (a : Opr) : Prop where
  kind : Fits a.kind
  n : Fits a.n
  s : a.s.size ≤ maxLen
/-- It is within the bounds of few. -/
structure Opr.few (a : Opr) : Prop where
  s : a.s.size ≤ 400
  keep : a.keep.length ≤ 100

/-- Operations that came in. -/
structure Ops (W : World) (A : Option Addr) (l : List Opr) : Prop where
  lie : ∀ i a, l[i]? = some a → ∃ b o A' c', A = some ⟨b, o, none⟩ ∧ b < W.heap.size ∧ (∀ j u, (a.cells A' c')[j]? = some u → W.cell? ⟨b, o + i * 4 + j, none⟩ = some u) ∧ Row W W.heap.size A' (a.keep.map (Value.int .i64))
  fit : ∀ a ∈ l, a.fit
  len : l.length ≤ 9223372036854775807

/-- One of them, as a later world has it. -/
structure OpAt (W w : World) (A : Option Addr) (i : Nat) (a : Opr) (b o : Nat) (A' : Option Addr) (c' : Nat) : Prop where
  at_ : A = some ⟨b, o, none⟩
  k0 : w.cell? ⟨b, o + i * 4, none⟩ = some (.int .i64 a.kind)
  k1 : w.cell? ⟨b, o + i * 4 + 1, none⟩ = some (.string a.s)
  k2 : w.cell? ⟨b, o + i * 4 + 2, none⟩ = some (.int .i64 a.n)
  k3 : w.cell? ⟨b, o + i * 4 + 3, none⟩ = some (.slice A' a.keep.length c')
  row : Row W W.heap.size A' (a.keep.map (Value.int .i64))
  fit : a.fit
/-- One of the operations, as every later world has it. -/
theorem Ops.all {W : World} {A : Option Addr} {l : List Opr} (h : Ops W A l) {i : Nat} (hi : i < l.length) : ∃ b o A' c', ∀ w, Below W.heap.size W w → OpAt W w A i l[i] b o A' c' := by
  obtain ⟨b, o, A', c', e, hlt, hc, hr⟩ := h.lie i l[i] (List.getElem?_eq_getElem hi)
  refine ⟨b, o, A', c', fun w hb => ?_⟩
  have g : ∀ j, w.cell? ⟨b, o + i * 4 + j, none⟩ = W.cell? ⟨b, o + i * 4 + j, none⟩ := fun j => hb.cell (p := ⟨b, o + i * 4 + j, none⟩) hlt
  exact ⟨e, (g 0).trans (hc 0 _ rfl), (g 1).trans (hc 1 _ rfl), (g 2).trans (hc 2 _ rfl), (g 3).trans (hc 3 _ rfl), hr, h.fit _ (List.getElem_mem hi)⟩

structure FewRel (w : World) (l : List Opr) (iv : Value) (wr : World) (i : Nat) : Prop where
  iv : iv = .int .i64 i
  le : i ≤ l.length
  few : ∀ a ∈ l.take i, a.few
  below : Below w.heap.size w wr
def FewPost (w : World) (l : List Opr) (e : Ending) (w' : World) : Prop := ∃ b, e = .returned (.bool b) ∧ (b = true → l.length ≤ 30 ∧ ∀ a ∈ l, a.few) ∧ Below w.heap.size w w'
theorem take_few {l : List Opr} {i : Nat} (h : i < l.length) (hf : ∀ a ∈ l.take i, a.few) (ha : l[i].few) : ∀ a ∈ l.take (i + 1), a.few := by
  rw [List.take_succ_eq_append_getElem h]
  intro a hm
  rcases List.mem_append.1 hm with h1 | h1
  · exact hf a h1
  · simp at h1
    exact h1 ▸ ha

set_option maxRecDepth 100000 in
set_option maxHeartbeats 1000000 in
theorem few_any {W w : World} (A : Option Addr) (c : Nat) (l : List Opr) (h : Ops W A l) (hb : Below W.heap.size W w) :
    Calls Tryd.prog 9 #[.slice A l.length c] w (FewPost w l) := by
  have hlen := h.len
  have H := Lib.hid h
  have HB := Lib.hid hb
  clear h hb
  go_enter Tryd.func9, Tryd.ntmps9
  go_wp2_with fail
  go_loopw [3] (fun iv wr => ∃ i, FewRel w l iv wr i) (fun iv _ => l.length - (intOf iv).toNat)
  case atStart => exact ⟨0, rfl, Nat.zero_le _, (fun a h => by simp at h), Below.refl _ _⟩
  case round =>
    obtain ⟨i, ⟨rfl, hi, hfew, hbel⟩⟩ := hrel
    have HF := Lib.hid hfew
    have HBel := Lib.hid hbel
    by_cases hlt : i < l.length
    · obtain ⟨b, o, A', c', hat⟩ := H.out.all hlt
      obtain ⟨rfl, k0, k1, k2, k3, _, _⟩ := hat wr (next_below HB.out hbel)
      have HT := Lib.hid (fun ha => take_few hlt hfew ha)
      clear hfew hbel hat
      generalize l[i] = a at *
      by_cases hs : a.s.size ≤ 400
      · by_cases hk : a.keep.length ≤ 100
        · go_wp2_with fail
          go_roundw
          case rel => exact ⟨i + 1, by simp, hlt, HT.out ⟨hs, hk⟩, HBel.out⟩
          case measure => simp [intOf]; omega
        · go_wp2_with fail
          go_ret
          exact ⟨false, rfl, (fun h => by cases h), HBel.out⟩
      · go_wp2_with fail
        go_ret
        exact ⟨false, rfl, (fun h => by cases h), HBel.out⟩
    · obtain rfl : l.length = i := by omega
      go_wp2_with fail
      go_ret
      rw [List.take_length] at HF
      exact ⟨_, rfl, (fun h => ⟨by have := of_decide_eq_true h; omega, HF.out⟩), HBel.out⟩
end Dsk
end Go.Proofs.YtlokgmpdighfaaaDoor

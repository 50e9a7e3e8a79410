/- Operations of the statements: how they lie; texts, few. -/
import Derived.Test.YtpogoalbnbekaaaDoorJsm
namespace Go.Proofs.YtpogoalbnbekaaaDoor
open Go.RowKit Wire
set_option linter.unusedVariables false
set_option linter.unusedSimpArgs false
open Txt
open Sls (strs)
namespace Dsk

/-- It is an int. -/
def Fits (z : Int) : Prop := -9223372036854775808 ≤ z ∧ z ≤ 9223372036854775807
theorem fits_of {n : Int} (h : (Lit.int .i64 n).wf = true) : Fits n := by
  unfold Fits
  simpa [Lit.wf, IntKind.min, IntKind.max, IntKind.signed, IntKind.bits] using h

/-- An operation. -/
structure Opr where
  kind : Int
  l : List ByteArray
  n : Int
  keep : List Int
def Opr.cells (a : Opr) (A1 : Option Addr) (c1 : Nat) (A : Option Addr) (c : Nat) : List Value := [.int .i64 a.kind, .slice A1 a.l.length c1, .int .i64 a.n, .slice A a.keep.length c]
structure Opr.fit (a : Opr) : Prop where
  kind : Fits a.kind
  n : Fits a.n
  l : a.l.length ≤ 9223372036854775807
  keep : a.keep.length ≤ 9223372036854775807
/-- Strings within the bounds of texts. -/
def Short (l : List ByteArray) : Prop := l.length ≤ 8 ∧ ∀ s ∈ l, s.size ≤ 200
/-- It is within the bounds of few. -/
structure Opr.few (a : Opr) : Prop where
  l : Short a.l
  keep : a.keep.length ≤ 50

/-- Operations that came in. -/
structure Ops (W : World) (A : Option Addr) (l : List Opr) : Prop where
  lie : ∀ i a, l[i]? = some a → ∃ b o A1 c1 A' c', A = some ⟨b, o, none⟩ ∧ b < W.heap.size ∧ (∀ j u, (a.cells A1 c1 A' c')[j]? = some u → W.cell? ⟨b, o + i * 4 + j, none⟩ = some u) ∧ Row W W.heap.size A1 (strs a.l) ∧ Row W W.heap.size A' (a.keep.map (Value.int .i64))
  fit : ∀ a ∈ l, a.fit
  len : l.length ≤ 9223372036854775807

/-- One of them, as a later world has it. -/
structure OpAt (W w : World) (A : Option Addr) (i : Nat) (a : Opr) (b o : Nat) (A1 : Option Addr) (c1 : Nat) (A' : Option Addr) (c' : Nat) : Prop where
  at_ : A = some ⟨b, o, none⟩
  k0 : w.cell? ⟨b, o + i * 4, none⟩ = some (.int .i64 a.kind)
  k1 : w.cell? ⟨b, o + i * 4 + 1, none⟩ = some (.slice A1 a.l.length c1)
  k2 : w.cell? ⟨b, o + i * 4 + 2, none⟩ = some (.int .i64 a.n)
  k3 : w.cell? ⟨b, o + i * 4 + 3, none⟩ = some (.slice A' a.keep.length c')
  rowl : Row W W.heap.size A1 (strs a.l)
  row : Row W W.heap.size A' (a.keep.map (Value.int .i64))
  fit : a.fit
/-- One of the operations, as every later world has it. -/
theorem Ops.all {W : World} {A : Option Addr} {l : List Opr} (h : Ops W A l) {i : Nat} (hi : i < l.length) : ∃ b o A1 c1 A' c', ∀ w, Below W.heap.size W w → OpAt W w A i l[i] b o A1 c1 A' c' := by
  obtain ⟨b, o, A1, c1, A', c', e, hlt, hc, hr1, hr⟩ := h.lie i l[i] (List.getElem?_eq_getElem hi)
  refine ⟨b, o, A1, c1, A', c', fun w hb => ?_⟩
  have g : ∀ j, w.cell? ⟨b, o + i * 4 + j, none⟩ = W.cell? ⟨b, o + i * 4 + j, none⟩ := fun j => hb.cell (p := ⟨b, o + i * 4 + j, none⟩) hlt
  exact ⟨e, (g 0).trans (hc 0 _ rfl), (g 1).trans (hc 1 _ rfl), (g 2).trans (hc 2 _ rfl), (g 3).trans (hc 3 _ rfl), hr1, hr, h.fit _ (List.getElem_mem hi)⟩

/-! texts. -/
structure TxsRel (w : World) (l : List ByteArray) (iv : Value) (wr : World) (i : Nat) : Prop where
  iv : iv = .int .i64 i
  le : i ≤ l.length
  few : ∀ a ∈ l.take i, a.size ≤ 200
  below : Below w.heap.size w wr
def TxsPost (w : World) (l : List ByteArray) (e : Ending) (w' : World) : Prop := ∃ b, e = .returned (.bool b) ∧ (b = true → Short l) ∧ Below w.heap.size w w'
set_option maxRecDepth 100000 in
set_option maxHeartbeats 1000000 in
theorem short_any {W w : World} (A : Option Addr) (c : Nat) (l : List ByteArray) (h : Row W W.heap.size A (strs l)) (hb : Below W.heap.size W w) (hn : l.length ≤ 9223372036854775807) :
    Calls Tryd.prog 21 #[.slice A l.length c] w (TxsPost w l) := by
  have H := Lib.hid h
  have HB := Lib.hid hb
  clear h hb
  go_enter Tryd.func21, Tryd.ntmps21
  go_wp2_with fail
  go_loopw [3] (fun iv wr => ∃ i, TxsRel w l iv wr i) (fun iv _ => l.length - (intOf iv).toNat)
  case atStart => exact ⟨0, rfl, Nat.zero_le _, (fun a h => by simp at h), Below.refl _ _⟩
  case round =>
    obtain ⟨i, ⟨rfl, hi, hfew, hbel⟩⟩ := hrel
    have HF := Lib.hid hfew
    have HBel := Lib.hid hbel
    by_cases hlt : i < l.length
    · obtain ⟨b, o, rfl, hc⟩ := row_str H.out (next_below HB.out hbel) hlt
      have HT : Hid (l[i].size ≤ 200 → ∀ a ∈ l.take (i + 1), a.size ≤ 200) := Lib.hid fun ha a hm => by
        rw [List.take_succ_eq_append_getElem hlt] at hm
        rcases List.mem_append.1 hm with h1 | h1
        · exact HF.out a h1
        · simp at h1
          exact h1 ▸ ha
      clear hfew hbel
      generalize l[i] = s at *
      by_cases hs : s.size ≤ 200
      · go_wp2_with fail
        go_roundw
        case rel => exact ⟨i + 1, by simp, hlt, HT.out hs, HBel.out⟩
        case measure => simp [intOf]; omega
      · go_wp2_with fail
        go_ret
        exact ⟨false, rfl, (fun h => by cases h), HBel.out⟩
    · obtain rfl : l.length = i := by omega
      go_wp2_with fail
      go_ret
      rw [List.take_length] at HF
      exact ⟨_, rfl, (fun h => ⟨by have := of_decide_eq_true h; omega, HF.out⟩), HBel.out⟩

/-! few. -/
structure FewRel (w : World) (l : List Opr) (iv : Value) (wr : World) (i : Nat) : Prop where
  iv : iv = .int .i64 i
  le : i ≤ l.length
  few : ∀ a ∈ l.take i, a.few
  below : Below w.heap.size w wr
def FewPost (w : World) (l : List Opr) (e : Ending) (w' : World) : Prop := ∃ b, e = .returned (.bool b) ∧ (b = true → l.length ≤ 25 ∧ ∀ a ∈ l, a.few) ∧ Below w.heap.size w w'
theorem take_few {l : List Opr} {i : Nat} (h : i < l.length) (hf : ∀ a ∈ l.take i, a.few) (ha : l[i].few) : ∀ a ∈ l.take (i + 1), a.few := by
  rw [List.take_succ_eq_append_getElem h]
  intro a hm
  rcases List.mem_append.1 hm with h1 | h1
  · exact hf a h1
  · simp at h1
    exact h1 ▸ ha
set_option maxRecDepth 100000 in
set_option maxHeartbeats 1000000 in
theorem few_any {W w : World} (A : Option Addr) (c : Nat) (l : List Opr) (h : Ops W A l) (hb : Below W.heap.size W w) :
    Calls Tryd.prog 8 #[.slice A l.length c] w (FewPost w l) := by
  have hlen := h.len
  have H := Lib.hid h
  have HB := Lib.hid hb
  clear h hb
  go_enter Tryd.func8, Tryd.ntmps8
  go_wp2_with fail
  go_loopw [3] (fun iv wr => ∃ i, FewRel w l iv wr i) (fun iv _ => l.length - (intOf iv).toNat)
  case atStart => exact ⟨0, rfl, Nat.zero_le _, (fun a h => by simp at h), Below.refl _ _⟩
  case round =>
    obtain ⟨i, ⟨rfl, hi, hfew, hbel⟩⟩ := hrel
    have HF := Lib.hid hfew
    have HBel := Lib.hid hbel
    by_cases hlt : i < l.length
    · obtain ⟨b, o, A1, c1, A', c', hat⟩ := H.out.all hlt
      have HAT := Lib.hid hat
      obtain ⟨rfl, k0, k1, k2, k3, hrl, _, hft⟩ := hat wr (next_below HB.out hbel)
      have HT := Lib.hid (fun ha => take_few hlt hfew ha)
      have HS := Lib.hid (short_any (w := wr) A1 c1 l[i].l hrl (next_below HB.out hbel) hft.l)
      clear hfew hbel hat hrl hft
      have HK : Hid (∀ w', Below wr.heap.size wr w' → w'.cell? ⟨b, o + i * 4 + 3, none⟩ = some (.slice A' l[i].keep.length c')) := Lib.hid fun w' hb' => (HAT.out w' (next_below (next_below HB.out HBel.out) hb')).k3
      generalize l[i] = a at *
      by_cases hk : a.keep.length ≤ 50
      · go_wp2_with (go_at_call 21; refine HS.out.mono ?_; rintro e w1 ⟨bb, rfl, hbb, b1⟩; have HBB := Lib.hid hbb; have B1 := Lib.hid b1; have y3 := HK.out _ b1; clear hbb b1; cases bb)
        · go_ret
          exact ⟨false, rfl, (fun h => by cases h), next_below HBel.out B1.out⟩
        · refine ⟨⟨i + 1, by simp, hlt, HT.out ⟨HBB.out trivial, hk⟩, next_below HBel.out B1.out⟩, ?_⟩
          simp [intOf]
          omega
      · go_wp2_with (go_at_call 21; refine HS.out.mono ?_; rintro e w1 ⟨bb, rfl, hbb, b1⟩; have HBB := Lib.hid hbb; have B1 := Lib.hid b1; have y3 := HK.out _ b1; clear hbb b1; cases bb)
        · go_ret
          exact ⟨false, rfl, (fun h => by cases h), next_below HBel.out B1.out⟩
        · go_ret
          exact ⟨false, rfl, (fun h => by cases h), next_below HBel.out B1.out⟩
    · obtain rfl : l.length = i := by omega
      go_wp2_with fail
      go_ret
      rw [List.take_length] at HF
      exact ⟨_, rfl, (fun h => ⟨by have := of_decide_eq_true h; omega, HF.out⟩), HBel.out⟩
end Dsk
end Go.Proofs.YtpogoalbnbekaaaDoor

/- Lists of acts: few, played; a crash looked at: after; byteAt. -/
import Derived.Test.YtgaclibokapfaaaActs
namespace Go.Proofs.Ytgaclibokapfaaa
open Go.RowKit Wire
set_option linter.unusedVariables false
set_option linter.unusedSimpArgs false
open Txt
namespace Dsk

structure FewRel (w : World) (l : List Act) (iv : Value) (wr : World) (i : Nat) : Prop where
  iv : iv = .int .i64 i
  le : i ≤ l.length
  few : ∀ a ∈ l.take i, a.few
  below : Below w.heap.size w wr

def FewPost (w : World) (l : List Act) (e : Ending) (w' : World) : Prop := ∃ b, e = .returned (.bool b) ∧ (b = true → l.length ≤ 40 ∧ ∀ a ∈ l, a.few) ∧ Below w.heap.size w w'
theorem take_few {l : List Act} {i : Nat} (h : i < l.length) (hf : ∀ a ∈ l.take i, a.few) (ha : l[i].few) : ∀ a ∈ l.take (i + 1), a.few := by
  rw [List.take_succ_eq_append_getElem h]
  intro a hm
  rcases List.mem_append.1 hm with h1 | h1
  · exact hf a h1
  · simp at h1
    exact h1 ▸ ha

set_option maxRecDepth 100000 in
set_option maxHeartbeats 1000000 in
theorem few_any {W w : World} (A : Option Addr) (c : Nat) (l : List Act) (h : Acts W A l) (hb : Below W.heap.size W w) :
    Calls Try.prog 9 #[.slice A l.length c] w (FewPost w l) := by
  have hlen := h.len
  have H := Lib.hid h
  have HB := Lib.hid hb
  clear h hb
  go_enter Try.func9, Try.ntmps9
  go_wp2_with fail
  go_loopw [3] (fun iv wr => ∃ i, FewRel w l iv wr i) (fun iv _ => l.length - (intOf iv).toNat)
  case atStart => exact ⟨0, rfl, Nat.zero_le _, (fun a h => by simp at h), Below.refl _ _⟩
  case round =>
    obtain ⟨i, ⟨rfl, hi, hfew, hbel⟩⟩ := hrel
    have HF := Lib.hid hfew
    have HBel := Lib.hid hbel
    by_cases hlt : i < l.length
    · obtain ⟨b, o, A', c', ⟨rfl, k0, k1, k2, k3, k4, _, _⟩⟩ := H.out.at (next_below HB.out hbel) hlt
      have HT := Lib.hid (fun ha => take_few hlt hfew ha)
      clear hfew hbel
      generalize l[i] = a at *
      by_cases hs : a.s.size ≤ 300
      · by_cases hk : a.keep.length ≤ 60
        · by_cases hn : a.n ≤ 3000
          · go_wp2_with fail
            go_roundw
            case rel => exact ⟨i + 1, by simp, hlt, HT.out ⟨hs, hk, .inl hn⟩, HBel.out⟩
            case measure => simp [intOf]; omega
          · by_cases hn2 : 16776916 ≤ a.n
            · go_wp2_with fail
              go_roundw
              case rel => exact ⟨i + 1, by simp, hlt, HT.out ⟨hs, hk, .inr hn2⟩, HBel.out⟩
              case measure => simp [intOf]; omega
            · go_wp2_with fail
              go_ret
              exact ⟨false, rfl, (fun h => by cases h), HBel.out⟩
        · go_wp2_with fail
          go_ret
          exact ⟨false, rfl, (fun h => by cases h), HBel.out⟩
      · go_wp2_with fail
        go_ret
        exact ⟨false, rfl, (fun h => by cases h), HBel.out⟩
    · obtain rfl : l.length = i := by omega
      go_wp2_with fail
      go_ret
      rw [List.take_length] at HF
      exact ⟨_, rfl, (fun h => ⟨by have := of_decide_eq_true h; omega, HF.out⟩), HBel.out⟩

/-! What is played. -/
def playL (l : List Act) (S : St) : St := l.foldl (fun S a => (a.run S).1) S
theorem playL_succ {l : List Act} {i : Nat} (h : i < l.length) (S : St) : playL (l.take (i + 1)) S = (l[i].run (playL (l.take i) S)).1 := by
  unfold playL
  rw [List.take_succ_eq_append_getElem h, List.foldl_append]
  rfl
theorem playL_ok {l : List Act} (hf : ∀ a ∈ l, a.fit ∧ a.keep.length ≤ 1000000000) : ∀ {S : St}, S.ok → (playL l S).ok := by
  induction l with
  | nil => exact fun h => h
  | cons a l ih =>
    intro S h
    exact ih (fun x hx => hf x (List.mem_cons_of_mem _ hx)) (run_ok h (hf a (List.mem_cons_self ..)).1 (hf a (List.mem_cons_self ..)).2)

structure PlayRel (W : World) (p : Nat) (l : List Act) (iv : Value) (wr : World) (i : Nat) : Prop where
  iv : iv = .int .i64 i
  le : i ≤ l.length
  one : One W wr p (playL (l.take i) St.new)

/-- An act done to the one disk. -/
theorem One.do_ {W w : World} {p : Nat} {S : St} (h : One W w p S) (a : Act) (A : Option Addr) (c : Nat) (hf : a.fit) (hr : Row W W.heap.size A (a.keep.map (Value.int .i64))) (hl : a.keep.length ≤ 1000000000) :
    Calls Try.prog 12 #[ptr p, .agg (a.cells A c).toArray] w fun e w' => e = .returned (.int .i64 (a.run S).2) ∧ One W w' p (a.run S).1 :=
  h.step (run_ok h.ok hf hl) (do_c h.below h.ok a A c hf hr hl)

set_option maxRecDepth 100000 in
set_option maxHeartbeats 1000000 in
theorem played_any {W w : World} (A : Option Addr) (c : Nat) (l : List Act) (h : Acts W A l) (hb : Below W.heap.size W w) (hfew : ∀ a ∈ l, a.few) :
    Calls Try.prog 22 #[.slice A l.length c] w fun e w' => ∃ p, e = .returned (ptr p) ∧ One W w' p (playL l St.new) := by
  have hlen := h.len
  have H := Lib.hid h
  have HB := Lib.hid hb
  have HF := Lib.hid hfew
  clear h hb hfew
  go_enter Try.func22, Try.ntmps22
  go_wp2_with (go_at_call 10; refine (new_one HB.out).mono ?_; rintro e w1 ⟨p, rfl, h1⟩)
  go_loopw [4] (fun iv wr => ∃ i, PlayRel W p l iv wr i) (fun iv _ => l.length - (intOf iv).toNat)
  case atStart => exact ⟨0, rfl, Nat.zero_le _, h1⟩
  case round =>
    obtain ⟨i, ⟨rfl, hi, hone⟩⟩ := hrel
    by_cases hlt : i < l.length
    · obtain ⟨b, o, A', c', ⟨rfl, k0, k1, k2, k3, k4, hr, hf⟩⟩ := H.out.at hone.below hlt
      have HK := Lib.hid (HF.out l[i] (List.getElem_mem hlt)).keep
      have HS := Lib.hid (playL_succ hlt St.new)
      generalize l[i] = a at *
      have HD := Lib.hid (hone.do_ a A' c' hf hr (by have := HK.out; omega))
      clear hone hr hf
      go_wp2_with (go_at_call 12; refine HD.out.mono ?_; rintro e w2 ⟨rfl, h2⟩)
      go_roundw
      case rel => exact ⟨i + 1, by simp, hlt, by rw [HS.out]; exact h2⟩
      case measure => simp [intOf]; omega
    · obtain rfl : l.length = i := by omega
      rw [List.take_length] at hone
      have HO := Lib.hid hone
      clear hone
      go_wp2_with fail
      go_ret
      exact ⟨_, rfl, HO.out⟩

/-! A crash looked at. -/
set_option maxHeartbeats 1000000 in
theorem after_any {W w : World} {p : Nat} {S : St} (h : One W w p S) (f : Int) (A : Option Addr) (c : Nat) (ks : List Int) (hr : Row w w.heap.size A (ks.map (Value.int .i64))) (hl : ks.length ≤ 1000000000) :
    Calls Try.prog 23 #[ptr p, .int .i64 f, .slice A ks.length c] w fun e w' => e = .returned (.tuple #[str ((S.crash ks).start.Read f 0 16777216).1, .bool (((S.crash ks).start.Read f 0 16777216).2 == 0)]) ∧ Below w.heap.size w w' := by
  have H := Lib.hid h
  have HR : Hid (Row w w.heap.size A (ks.map (Value.int .i64))) := Lib.hid hr
  clear h hr
  go_enter Try.func23, Try.ntmps23
  go_wp2_with (first
    | (go_at_call 18; refine H.out.copied.mono ?_; rintro e w1 ⟨q, rfl, h1⟩)
    | (go_at_call 25; refine (h1.step (h1.ok.crash ks) (crash_c h1.below h1.ok A c ks HR.out hl)).mono ?_; rintro e w2 ⟨rfl, h2⟩; clear h1)
    | (go_at_call 26; refine (h2.step h2.ok.start start_c).mono ?_; rintro e w3 ⟨rfl, h3⟩; clear h2)
    | (go_at_call 20; refine (h3.read f 0 16777216 (by omega) (by omega)).mono ?_; rintro e w4 ⟨rfl, h4⟩; have h5 := next_below h3.below h4; clear h3 h4))
  go_returns
  exact ⟨rfl, h5⟩

/-- A byte of a string, or 0. -/
def byteZ (s : List UInt8) (i : Nat) : UInt8 := s.getD i 0
theorem byteAt_any (s : ByteArray) (i : Nat) (w : World) : Calls Try.prog 24 #[.string s, .int .i64 i] w fun e w' => e = .returned (.int .u8 (byteZ (bl s) i).toNat) ∧ w = w' := by
  by_cases h : i < s.size
  · have e : byteZ (bl s) i = s[i] := by unfold byteZ; rw [List.getD_eq_getElem?_getD, bl_get h]; rfl
    rw [e]
    clear e
    go_enter Try.func24, Try.ntmps24
    go_wp2_with fail
    go_ret
    exact ⟨rfl, rfl⟩
  · have e : byteZ (bl s) i = 0 := by unfold byteZ; rw [List.getD_eq_getElem?_getD, List.getElem?_eq_none (by rw [bl_len]; omega)]; rfl
    rw [e]
    clear e
    go_enter Try.func24, Try.ntmps24
    go_wp2_with fail
    go_ret
    exact ⟨rfl, rfl⟩
end Dsk
end Go.Proofs.Ytgaclibokapfaaa

/- The reference's Path. -/
import Derived.Test.YtgophgnfiboefaaDoorFpN
import Derived.Test.YtgophgnfiboefaaDoorFlI
namespace Go.Proofs.YtgophgnfiboefaaDoor
open Go.RowKit Wire
open Txt (Row)
open Own
open Dsk (Only nth)
set_option linter.unusedVariables false
set_option linter.unusedSimpArgs false
namespace Flo
/-- A part of the way, from its beginning, by the distances that are left. -/
structure Part (f : Fl) (left : List Int) (a K t : Nat) (l : List Nat) : Prop where
  len : l.length = t + 1
  head : l[0]? = some a
  at_ : ∀ i c : Nat, l[i]? = some c → gt left c = (K : Int) - i ∧ c < f.Kind.length
  step : ∀ i c n : Nat, l[i]? = some c → l[i + 1]? = some n → ∃ d : Nat, d < 6 ∧ f.next c d = some (n : Int) ∧ ∀ d' m : Nat, d' < d → f.next c d' = some (m : Int) → gt left m ≠ gt left c - 1
section
variable {f : Fl} {avoid : List Int} {a b c n K t : Nat} {left : List Int} {l : List Nat}
theorem Part.least (ho : f.ok) (hd : IsDist f.Kind.length (spSrc f [(b : Int)] avoid) (spE f avoid true) left) (h : Part f left a K K l) : Least f avoid a b l := by
  have hto : ∀ {c : Nat} {k : Int}, c < f.Kind.length → gt left c = k → 0 ≤ k → ∃ x : Nat, k = x ∧ To f avoid b x c ∧ ∀ j, j < x → ¬ To f avoid b j c := by
    intro c k hc e h0
    obtain ⟨x, h1, h2, h3⟩ := hd.some_ c hc (by omega)
    exact ⟨x, by omega, h2, h3⟩
  refine ⟨h.head, ?_, fun c hc => ?_, fun i c n hc hn => ?_, fun k hk => ?_⟩
  · obtain ⟨z, hl⟩ : ∃ z, l[l.length - 1]? = some z := ⟨_, List.getElem?_eq_getElem (by have := h.len; omega)⟩
    rw [hl]
    obtain ⟨e, hlt⟩ := h.at_ _ _ hl
    obtain ⟨x, h1, h2, _⟩ := hto hlt e (by have := h.len; omega)
    obtain rfl : x = 0 := by have := h.len; omega
    rw [To.zero h2]
  · obtain ⟨i, hi⟩ := List.getElem?_of_mem hc
    obtain ⟨e, hlt⟩ := h.at_ i c hi
    obtain ⟨x, _, h2, _⟩ := hto hlt e (by have := (List.getElem?_eq_some_iff.1 hi).1; have := h.len; omega)
    exact walk_open ho h2
  · obtain ⟨d, h1, h2, h3⟩ := h.step i c n hc hn
    refine ⟨d, h1, h2, fun d' m hd' hm hmo x hx hto' => h3 d' m hd' hm ?_⟩
    obtain ⟨e, hlt⟩ := h.at_ i c hc
    have hil := (List.getElem?_eq_some_iff.1 hn).1
    have hlen := h.len
    obtain ⟨y, g1, g2, g3⟩ := hto hlt e (by omega)
    have hml := (next_lt ho hm).1
    have hne : gt left m ≠ -1 := fun e2 => hd.none_ m hml e2 x hto'
    obtain ⟨z, k1, k2, k3⟩ := hd.some_ m hml hne
    have hzx : z ≤ x := Classical.byContradiction fun e2 => k3 x (by omega) hto'
    have hyz : y ≤ z + 1 := Classical.byContradiction fun e2 => g3 (z + 1) (by omega) (To.ahead ho k2 hm (walk_open ho g2).2)
    omega
  · obtain ⟨e, hlt⟩ := h.at_ 0 a h.head
    obtain ⟨x, g1, g2, g3⟩ := hto hlt e (by omega)
    have : x ≤ k := Classical.byContradiction fun e2 => g3 k (by omega) hk
    have := h.len
    omega
theorem Part.start (ha : a < f.Kind.length) (h : gt left a = K) : Part f left a K 0 [a] := by
  refine ⟨rfl, rfl, fun i c hc => ?_, fun i c n hc hn => ?_⟩
  · have hi := (List.getElem?_eq_some_iff.1 hc).1
    have hi' : i < 1 := hi
    obtain rfl : i = 0 := by omega
    have hc' : some a = some c := hc
    obtain rfl := Option.some.inj hc'
    exact ⟨by rw [h]; simp, ha⟩
  · have hi := (List.getElem?_eq_some_iff.1 hn).1
    have hi' : i + 1 < 1 := hi
    omega
theorem Part.add (h : Part f left a K t l) (hc : l[t]? = some c) (hn : n < f.Kind.length) {d : Nat} (hd : d < 6) (he : f.next c d = some (n : Int)) (hg : gt left n = gt left c - 1) (hno : ∀ d' m : Nat, d' < d → f.next c d' = some (m : Int) → gt left m ≠ gt left c - 1) : Part f left a K (t + 1) (l ++ [n]) := by
  have hlen := h.len
  have at2 : ∀ i x, (l ++ [n])[i]? = some x → (i ≤ t ∧ l[i]? = some x) ∨ (i = t + 1 ∧ x = n) := fun i x hx => by
    rcases Nat.lt_or_ge i l.length with hi | hi
    · rw [List.getElem?_append_left hi] at hx
      exact .inl ⟨by omega, hx⟩
    · have hlt := (List.getElem?_eq_some_iff.1 hx).1
      simp at hlt
      obtain rfl : i = l.length := by omega
      rw [List.getElem?_append_right (by omega)] at hx
      simp at hx
      exact .inr ⟨by omega, hx.symm⟩
  refine ⟨by simp; omega, by rw [List.getElem?_append_left (by omega)]; exact h.head, fun i x hx => ?_, fun i x y hx hy => ?_⟩
  · rcases at2 i x hx with ⟨_, h1⟩ | ⟨rfl, rfl⟩
    · exact h.at_ i x h1
    · obtain ⟨e, _⟩ := h.at_ t c hc
      exact ⟨by rw [hg, e]; push_cast; omega, hn⟩
  · rcases at2 (i + 1) y hy with ⟨h1, h2⟩ | ⟨h1, rfl⟩
    · rcases at2 i x hx with ⟨_, h3⟩ | ⟨h3, _⟩
      · exact h.step i x y h3 h2
      · omega
    · obtain rfl : i = t := by omega
      rcases at2 i x hx with ⟨_, h3⟩ | ⟨h3, _⟩
      · rw [hc] at h3
        obtain rfl := Option.some.inj h3
        exact ⟨d, hd, he, hno⟩
      · omega
theorem dist_step (ho : f.ok) (hd : IsDist f.Kind.length (spSrc f [(b : Int)] avoid) (spE f avoid true) left) {k : Nat} (hc : c < f.Kind.length) (h : gt left c = ((k + 1 : Nat) : Int)) : ∃ d n : Nat, d < 6 ∧ f.next c d = some (n : Int) ∧ gt left n = k := by
  obtain ⟨x, h1, h2, h3⟩ := hd.some_ c hc (by omega)
  obtain rfl : x = k + 1 := by omega
  obtain ⟨n, d, g1, g2, g3, g4⟩ := To.split ho h2
  have hn := (next_lt ho g2).1
  obtain ⟨y, k1, k2, k3⟩ := hd.some_ n hn (fun e => hd.none_ n hn e k g3)
  have a1 : y ≤ k := Classical.byContradiction fun e => k3 k (by omega) g3
  have a2 : k ≤ y := Classical.byContradiction fun e => h3 (y + 1) (by omega) (To.ahead ho k2 g2 g4)
  exact ⟨d, n, g1, g2, by omega⟩
end
theorem dist_list {f : Fl} {src avoid : List Int} {bk : Bool} {out : List Int} (ho : f.ok) (hd : IsDist f.Kind.length (spSrc f src avoid) (spE f avoid bk) out) : ∀ (k c : Nat), c < f.Kind.length → gt out c = k → ∃ l : List Nat, l.Nodup ∧ l.length = k + 1 ∧ ∀ x ∈ l, x < f.Kind.length ∧ gt out x ≤ k
  | 0, c, hc, h => ⟨[c], by simp, rfl, fun x hx => by
    rw [List.mem_singleton.1 hx]
    exact ⟨hc, by omega⟩⟩
  | k + 1, c, hc, h => by
    obtain ⟨x, h1, h2, h3⟩ := hd.some_ c hc (by omega)
    obtain rfl : x = k + 1 := by omega
    cases h2 with
    | @step _ p _ hw he =>
      have hp := (walk_open ho hw).1
      obtain ⟨y, k1, k2, k3⟩ := hd.some_ p hp (fun e => hd.none_ p hp e k hw)
      have a1 : y ≤ k := Classical.byContradiction fun e => k3 k (by omega) hw
      have a2 : k ≤ y := Classical.byContradiction fun e => h3 (y + 1) (by omega) (.step k2 he)
      obtain ⟨l, l1, l2, l3⟩ := dist_list ho hd k p hp (by omega)
      refine ⟨c :: l, List.nodup_cons.2 ⟨fun hm => by have := (l3 c hm).2; omega, l1⟩, by simp [l2], fun x hx => ?_⟩
      rcases List.mem_cons.1 hx with rfl | hx
      · exact ⟨hc, by omega⟩
      · have := l3 x hx
        exact ⟨this.1, by have := this.2; push_cast; omega⟩
theorem dist_lt {f : Fl} {src avoid : List Int} {bk : Bool} {out : List Int} (ho : f.ok) (hd : IsDist f.Kind.length (spSrc f src avoid) (spE f avoid bk) out) {k c : Nat} (hc : c < f.Kind.length) (h : gt out c = k) : k < f.Kind.length := by
  obtain ⟨l, h1, h2, h3⟩ := dist_list ho hd k c hc h
  have := nodup_len h1 (fun x hx => (h3 x hx).1)
  omega
theorem pathIs_nocell' {f : Fl} {avoid : List Int} {a b : Int} (ho : f.ok) (h : f.is a = false) : PathIs f avoid a b [] :=
  .inl ⟨rfl, fun a' b' ha _ k hto => by
    have h2 := (walk_open ho hto).1
    have h3 := of_decide_eq_false h
    have h4 := ho.kinds
    omega⟩
theorem row_of_any {w : World} {A : Option Addr} {n c : Nat} {xs : List Value} (h : Grow w 0 1 (.slice A n c) n xs) : Row w w.heap.size A xs := by
  rcases h.form with ⟨e, e2⟩ | ⟨g', cap', e, h1, h2, h3, h4, h5, h6, h7⟩
  · intro k u hu
    have := (List.getElem?_eq_some_iff.1 hu).1
    have := h.len
    omega
  · injection e with e1 _ e3
    subst e1
    exact fun k u hu => ⟨_, 0, rfl, h2, by rw [Nat.zero_add]; exact h7 k u hu⟩
/-- While the way goes on. -/
structure QwR (f : Fl) (left : List Int) (W : World) (a K : Nat) (ov cv : Value) (wr : World) (t : Nat) (l : List Nat) (c : Nat) : Prop where
  cv : cv = .int .i64 c
  le : t ≤ K
  last : l[t]? = some c
  part : Part f left a K t l
  sp : Sp W wr [RowT 1 ov l.length (qvs l)]
end Flo
end Go.Proofs.YtgophgnfiboefaaDoor

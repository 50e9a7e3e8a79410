/- The program's Path. The reference's Dist. The reference's Path. The example's floor. The example's ways and distances. -/
import Derived.Test.YtgophgnfiboefaaGreatDoorFpL
import Derived.Test.YtgophgnfiboefaaGreatDoorFlH
namespace Go.Proofs.YtgophgnfiboefaaGreatDoor
open Go.RowKit Wire
open Txt (Row)
open Own
open Dsk (Only nth)
set_option linter.unusedVariables false
set_option linter.unusedSimpArgs false
namespace Flo
/-- What Path returns, in memory. -/
def PathPost (f : Fl) (avoid : List Int) (a b : Int) (w : World) (e : Ending) (w' : World) : Prop :=
  ∃ A c l, e = .returned (.slice A (List.length l) c) ∧ PathIs f avoid a b l ∧ Row w' w'.heap.size A (ivs l) ∧ Below w.heap.size w w'
theorem pathIs_nocell {f : Fl} {avoid : List Int} {a b : Int} (ho : f.ok) (h : f.is b = false) : PathIs f avoid a b [] :=
  .inl ⟨rfl, fun a' b' _ hb k hto => by
    have h1 : Fw f avoid a' k b' := (fw_iff ho).2 hto
    have h2 := (walk_open ho h1).1
    have h3 := of_decide_eq_false h
    have h4 := ho.kinds
    omega⟩
theorem pathIs_noway {f : Fl} {avoid : List Int} {a : Int} {kb : Nat} {out : List Int} (ho : f.ok) (hb : kb < f.Kind.length) (hd : IsDist f.Kind.length (spSrc f [a] avoid) (spE f avoid false) out) (h : gt out kb = -1) : PathIs f avoid a kb [] :=
  .inl ⟨rfl, fun a' b' ha hb' k hto => by
    obtain rfl : kb = b' := by omega
    subst ha
    exact hd.none_ kb hb h k ((fw_iff ho).2 hto)⟩
/-- The way, and where it begins. -/
theorem Ex.path {f : Fl} {avoid : List Int} {a : Int} {kb k : Nat} {q : List Nat} {out bf : List Int} {s : Nat} {P D : Nat → Nat} (h : Ex f [a] avoid q out bf s q.length 0 P D) (ho : f.ok) (hb : kb < f.Kind.length) (hk : gt out kb = k) :
    PathIs f avoid a kb ((wayL bf kb k).map (fun c : Nat => (c : Int))) ∧ ∀ t, t ≤ k → anc bf kb t < f.Kind.length ∧ (t < k → gt bf (anc bf kb t) = anc bf kb (t + 1)) := by
  obtain ⟨x, _, hw, _⟩ := (h.dist (Nat.le_refl _)).some_ kb hb (by omega)
  have hsrc : ∀ {x c : Nat}, Walk (spSrc f [a] avoid) (spE f avoid false) x c → ∃ a' : Nat, spSrc f [a] avoid a' := by
    intro x c hw
    induction hw with
    | src h => exact ⟨_, h⟩
    | step _ _ ih => exact ih
  obtain ⟨a', ha'⟩ := hsrc hw
  have e : a = a' := by
    have := ha'.2.1
    simp at this
    exact this.symm
  subst e
  obtain ⟨_, h1, h2⟩ := spSrc_one.1 ha'
  have hD := h.done h1 h2
  refine ⟨.inr ⟨a', kb, _, rfl, rfl, rfl, hD.least ho hb hk⟩, fun t ht => ?_⟩
  obtain ⟨PP, DD, hO⟩ := hD.ord
  obtain ⟨⟨m1, _⟩, m2⟩ := hD.ahead hO hb hk t ht
  exact ⟨(hD.inq _ m1).1, fun h => (m2 h).1⟩
abbrev pthX (w : World) (fW fH fD : Int) (A1 : Option Addr) (n c1 : Nat) (A2 : Option Addr) (n2 c2 : Nat) (a : Int) (gd gb gS gc : Nat) (qv : Value) (out bf : List Int) : List Thing :=
  [BlkT w.heap.size 24 (boxV fW fH fD A1 n c1 A2 n2 c2), BlkT (w.heap.size + 1) 3 #[.int .i64 a], RowT 1 (slV gd n) n (ivs out), RowT 1 (slV gb n) n (ivs bf), BlkT gS 78 #[slV gc n, qv, slV gd n, slV gb n]]
/-- While the way is written down, from its end. -/
structure WayR (W : World) (X : List Thing) (gp k K1 : Nat) (bf : List Int) (kb : Nat) (bv iv : Value) (wr : World) (t : Nat) (ps : List Int) : Prop where
  iv : iv = .int .i64 t
  le : t ≤ K1
  bv : ∃ z : Int, bv = .int .i64 z ∧ (t ≤ k → z = anc bf kb t)
  sp : Sp W wr (X ++ [RowT 1 (slV gp K1) K1 (ivs ps)])
  len : ps.length = K1
  val : ∀ j : Nat, j < t → gt ps j = anc bf kb j
theorem way_rev {bf : List Int} {kb k : Nat} {ps : List Int} (hl : ps.length = k + 1) (hv : ∀ j : Nat, j < k + 1 → gt ps j = anc bf kb j) : ps.reverse = (wayL bf kb k).map (fun c : Nat => (c : Int)) := by
  refine List.ext_getElem? fun t => ?_
  by_cases ht : t ≤ k
  · rw [List.getElem?_map, wayL_at ht, List.getElem?_reverse (by omega), hl, gt_of (by omega), hv _ (by omega), show k + 1 - 1 - t = k - t from by omega]
    rfl
  · rw [List.getElem?_eq_none (by rw [List.length_reverse]; omega), List.getElem?_eq_none (by unfold wayL; simp; omega)]
end Flo
end Go.Proofs.YtgophgnfiboefaaGreatDoor

namespace Go.Proofs.YtgophgnfiboefaaGreatDoor
open Go.RowKit Wire
open Txt (Row)
open Own
set_option linter.unusedVariables false
set_option linter.unusedSimpArgs false
namespace Flo
end Flo
end Go.Proofs.YtgophgnfiboefaaGreatDoor

namespace Go.Proofs.YtgophgnfiboefaaGreatDoor
open Go.RowKit Wire
open Txt (Row)
open Own
open Dsk (Only nth)
set_option linter.unusedVariables false
set_option linter.unusedSimpArgs false
namespace Flo
/-- A part of the way, from its beginning, by the distances that are left. -/
structure Part (f : Fl) (left : List Int) (a K t : Nat) (l : List Nat) : Prop where
  len : l.length = t + 1
  head : l[0]? = some a
  at_ : ∀ i c : Nat, l[i]? = some c → gt left c = (K : Int) - i ∧ c < f.Kind.length
  step : ∀ i c n : Nat, l[i]? = some c → l[i + 1]? = some n → ∃ d : Nat, d < 6 ∧ f.next c d = some (n : Int) ∧ ∀ d' m : Nat, d' < d → f.next c d' = some (m : Int) → gt left m ≠ gt left c - 1
section
variable {f : Fl} {avoid : List Int} {a b c n K t : Nat} {left : List Int} {l : List Nat}
theorem Part.least (ho : f.ok) (hd : IsDist f.Kind.length (spSrc f [(b : Int)] avoid) (spE f avoid true) left) (h : Part f left a K K l) : Least f avoid a b l := by
  have hto : ∀ {c : Nat} {k : Int}, c < f.Kind.length → gt left c = k → 0 ≤ k → ∃ x : Nat, k = x ∧ To f avoid b x c ∧ ∀ j, j < x → ¬ To f avoid b j c := by
    intro c k hc e h0
    obtain ⟨x, h1, h2, h3⟩ := hd.some_ c hc (by omega)
    exact ⟨x, by omega, h2, h3⟩
  refine ⟨h.head, ?_, fun c hc => ?_, fun i c n hc hn => ?_, fun k hk => ?_⟩
  · obtain ⟨z, hl⟩ : ∃ z, l[l.length - 1]? = some z := ⟨_, List.getElem?_eq_getElem (by have := h.len; omega)⟩
    rw [hl]
    obtain ⟨e, hlt⟩ := h.at_ _ _ hl
    obtain ⟨x, h1, h2, _⟩ := hto hlt e (by have := h.len; omega)
    obtain rfl : x = 0 := by have := h.len; omega
    rw [To.zero h2]
  · obtain ⟨i, hi⟩ := List.getElem?_of_mem hc
    obtain ⟨e, hlt⟩ := h.at_ i c hi
    obtain ⟨x, _, h2, _⟩ := hto hlt e (by have := (List.getElem?_eq_some_iff.1 hi).1; have := h.len; omega)
    exact walk_open ho h2
  · obtain ⟨d, h1, h2, h3⟩ := h.step i c n hc hn
    refine ⟨d, h1, h2, fun d' m hd' hm hmo x hx hto' => h3 d' m hd' hm ?_⟩
    obtain ⟨e, hlt⟩ := h.at_ i c hc
    have hil := (List.getElem?_eq_some_iff.1 hn).1
    have hlen := h.len
    obtain ⟨y, g1, g2, g3⟩ := hto hlt e (by omega)
    have hml := (next_lt ho hm).1
    have hne : gt left m ≠ -1 := fun e2 => hd.none_ m hml e2 x hto'
    obtain ⟨z, k1, k2, k3⟩ := hd.some_ m hml hne
    have hzx : z ≤ x := Classical.byContradiction fun e2 => k3 x (by omega) hto'
    have hyz : y ≤ z + 1 := Classical.byContradiction fun e2 => g3 (z + 1) (by omega) (To.ahead ho k2 hm (walk_open ho g2).2)
    omega
  · obtain ⟨e, hlt⟩ := h.at_ 0 a h.head
    obtain ⟨x, g1, g2, g3⟩ := hto hlt e (by omega)
    have : x ≤ k := Classical.byContradiction fun e2 => g3 k (by omega) hk
    have := h.len
    omega
theorem Part.start (ha : a < f.Kind.length) (h : gt left a = K) : Part f left a K 0 [a] := by
  refine ⟨rfl, rfl, fun i c hc => ?_, fun i c n hc hn => ?_⟩
  · have hi := (List.getElem?_eq_some_iff.1 hc).1
    have hi' : i < 1 := hi
    obtain rfl : i = 0 := by omega
    have hc' : some a = some c := hc
    obtain rfl := Option.some.inj hc'
    exact ⟨by rw [h]; simp, ha⟩
  · have hi := (List.getElem?_eq_some_iff.1 hn).1
    have hi' : i + 1 < 1 := hi
    omega
theorem Part.add (h : Part f left a K t l) (hc : l[t]? = some c) (hn : n < f.Kind.length) {d : Nat} (hd : d < 6) (he : f.next c d = some (n : Int)) (hg : gt left n = gt left c - 1) (hno : ∀ d' m : Nat, d' < d → f.next c d' = some (m : Int) → gt left m ≠ gt left c - 1) : Part f left a K (t + 1) (l ++ [n]) := by
  have hlen := h.len
  have at2 : ∀ i x, (l ++ [n])[i]? = some x → (i ≤ t ∧ l[i]? = some x) ∨ (i = t + 1 ∧ x = n) := fun i x hx => by
    rcases Nat.lt_or_ge i l.length with hi | hi
    · rw [List.getElem?_append_left hi] at hx
      exact .inl ⟨by omega, hx⟩
    · have hlt := (List.getElem?_eq_some_iff.1 hx).1
      simp at hlt
      obtain rfl : i = l.length := by omega
      rw [List.getElem?_append_right (by omega)] at hx
      simp at hx
      exact .inr ⟨by omega, hx.symm⟩
  refine ⟨by simp; omega, by rw [List.getElem?_append_left (by omega)]; exact h.head, fun i x hx => ?_, fun i x y hx hy => ?_⟩
  · rcases at2 i x hx with ⟨_, h1⟩ | ⟨rfl, rfl⟩
    · exact h.at_ i x h1
    · obtain ⟨e, _⟩ := h.at_ t c hc
      exact ⟨by rw [hg, e]; push_cast; omega, hn⟩
  · rcases at2 (i + 1) y hy with ⟨h1, h2⟩ | ⟨h1, rfl⟩
    · rcases at2 i x hx with ⟨_, h3⟩ | ⟨h3, _⟩
      · exact h.step i x y h3 h2
      · omega
    · obtain rfl : i = t := by omega
      rcases at2 i x hx with ⟨_, h3⟩ | ⟨h3, _⟩
      · rw [hc] at h3
        obtain rfl := Option.some.inj h3
        exact ⟨d, hd, he, hno⟩
      · omega
theorem dist_step (ho : f.ok) (hd : IsDist f.Kind.length (spSrc f [(b : Int)] avoid) (spE f avoid true) left) {k : Nat} (hc : c < f.Kind.length) (h : gt left c = ((k + 1 : Nat) : Int)) : ∃ d n : Nat, d < 6 ∧ f.next c d = some (n : Int) ∧ gt left n = k := by
  obtain ⟨x, h1, h2, h3⟩ := hd.some_ c hc (by omega)
  obtain rfl : x = k + 1 := by omega
  obtain ⟨n, d, g1, g2, g3, g4⟩ := To.split ho h2
  have hn := (next_lt ho g2).1
  obtain ⟨y, k1, k2, k3⟩ := hd.some_ n hn (fun e => hd.none_ n hn e k g3)
  have a1 : y ≤ k := Classical.byContradiction fun e => k3 k (by omega) g3
  have a2 : k ≤ y := Classical.byContradiction fun e => h3 (y + 1) (by omega) (To.ahead ho k2 g2 g4)
  exact ⟨d, n, g1, g2, by omega⟩
end
theorem dist_list {f : Fl} {src avoid : List Int} {bk : Bool} {out : List Int} (ho : f.ok) (hd : IsDist f.Kind.length (spSrc f src avoid) (spE f avoid bk) out) : ∀ (k c : Nat), c < f.Kind.length → gt out c = k → ∃ l : List Nat, l.Nodup ∧ l.length = k + 1 ∧ ∀ x ∈ l, x < f.Kind.length ∧ gt out x ≤ k
  | 0, c, hc, h => ⟨[c], by simp, rfl, fun x hx => by
    rw [List.mem_singleton.1 hx]
    exact ⟨hc, by omega⟩⟩
  | k + 1, c, hc, h => by
    obtain ⟨x, h1, h2, h3⟩ := hd.some_ c hc (by omega)
    obtain rfl : x = k + 1 := by omega
    cases h2 with
    | @step _ p _ hw he =>
      have hp := (walk_open ho hw).1
      obtain ⟨y, k1, k2, k3⟩ := hd.some_ p hp (fun e => hd.none_ p hp e k hw)
      have a1 : y ≤ k := Classical.byContradiction fun e => k3 k (by omega) hw
      have a2 : k ≤ y := Classical.byContradiction fun e => h3 (y + 1) (by omega) (.step k2 he)
      obtain ⟨l, l1, l2, l3⟩ := dist_list ho hd k p hp (by omega)
      refine ⟨c :: l, List.nodup_cons.2 ⟨fun hm => by have := (l3 c hm).2; omega, l1⟩, by simp [l2], fun x hx => ?_⟩
      rcases List.mem_cons.1 hx with rfl | hx
      · exact ⟨hc, by omega⟩
      · have := l3 x hx
        exact ⟨this.1, by have := this.2; push_cast; omega⟩
theorem dist_lt {f : Fl} {src avoid : List Int} {bk : Bool} {out : List Int} (ho : f.ok) (hd : IsDist f.Kind.length (spSrc f src avoid) (spE f avoid bk) out) {k c : Nat} (hc : c < f.Kind.length) (h : gt out c = k) : k < f.Kind.length := by
  obtain ⟨l, h1, h2, h3⟩ := dist_list ho hd k c hc h
  have := nodup_len h1 (fun x hx => (h3 x hx).1)
  omega
theorem pathIs_nocell' {f : Fl} {avoid : List Int} {a b : Int} (ho : f.ok) (h : f.is a = false) : PathIs f avoid a b [] :=
  .inl ⟨rfl, fun a' b' ha _ k hto => by
    have h2 := (walk_open ho hto).1
    have h3 := of_decide_eq_false h
    have h4 := ho.kinds
    omega⟩
theorem row_of_any {w : World} {A : Option Addr} {n c : Nat} {xs : List Value} (h : Grow w 0 1 (.slice A n c) n xs) : Row w w.heap.size A xs := by
  rcases h.form with ⟨e, e2⟩ | ⟨g', cap', e, h1, h2, h3, h4, h5, h6, h7⟩
  · intro k u hu
    have := (List.getElem?_eq_some_iff.1 hu).1
    have := h.len
    omega
  · injection e with e1 _ e3
    subst e1
    exact fun k u hu => ⟨_, 0, rfl, h2, by rw [Nat.zero_add]; exact h7 k u hu⟩
/-- While the way goes on. -/
structure QwR (f : Fl) (left : List Int) (W : World) (a K : Nat) (ov cv : Value) (wr : World) (t : Nat) (l : List Nat) (c : Nat) : Prop where
  cv : cv = .int .i64 c
  le : t ≤ K
  last : l[t]? = some c
  part : Part f left a K t l
  sp : Sp W wr [RowT 1 ov l.length (qvs l)]
end Flo
end Go.Proofs.YtgophgnfiboefaaGreatDoor

namespace Go.Proofs.YtgophgnfiboefaaGreatDoor
open Go.RowKit Wire
open Txt (Row)
open Own
open Dsk (Only nth)
set_option linter.unusedVariables false
set_option linter.unusedSimpArgs false
namespace Flo
def exF : Fl := ⟨3, 2, 1, [1, 0, 1, 1, 1, 1], [63, 63, 63, 63, 63, 63]⟩
theorem exF_ok : exF.ok := ⟨by decide, by decide, by decide, by decide, by decide, by decide, by decide, by decide, by decide⟩
/-- Five cells stored where a struct of five lies. -/
theorem poke5 {W w : World} {T : List Thing} {g : Nat} {ty : TypeId} {a b c d e a' b' c' d' e' : Value} (h : Sp W w T) (i : Nat) (hi : T[i]? = some (BlkT g ty #[a', b', c', d', e'])) : Sp W (w.setCells g 0 [a, b, c, d, e]) (T.set i (BlkT g ty #[a, b, c, d, e])) := by
  have hlt := (List.getElem?_eq_some_iff.1 hi).1
  have h1 := Sp.poke h i hi 0 a
  have h2 := Sp.poke h1 i (by rw [List.getElem?_set_self hlt]) 1 b
  have h3 := Sp.poke h2 i (by rw [List.getElem?_set_self (by rw [List.length_set]; exact hlt)]) 2 c
  have h4 := Sp.poke h3 i (by rw [List.getElem?_set_self (by rw [List.length_set, List.length_set]; exact hlt)]) 3 d
  have h5 := Sp.poke h4 i (by rw [List.getElem?_set_self (by rw [List.length_set, List.length_set, List.length_set]; exact hlt)]) 4 e
  rw [List.set_set, List.set_set, List.set_set, List.set_set] at h5
  exact h5
theorem five_there {W w : World} {T : List Thing} {g : Nat} {ty : TypeId} {a' b' c' d' e' : Value} (h : Sp W w T) (i : Nat) (hi : T[i]? = some (BlkT g ty #[a', b', c', d', e'])) : w.there g 0 5 := by
  have hb := h.blk i hi
  intro j hj
  rw [Nat.zero_add]
  refine ⟨?_, hb.thaw j⟩
  rw [hb.at]
  obtain rfl | rfl | rfl | rfl | rfl : j = 0 ∨ j = 1 ∨ j = 2 ∨ j = 3 ∨ j = 4 := by omega
  all_goals rfl
theorem info_floor : (Tryz.prog.info? 24).map (·.size) = some 5 := by kernel_rfl
theorem wpList_store5 {P : Program} {w : World} {ops : Array Oper} {rest : List Oper} {o : Oper} {ac : Act} {Q : Exit → Act → World → Prop} (hgd : o.guard = none) (ty : TypeId) (x y : Operand) (ho : o.op = .store ty x y) (g : Nat) (a b c d e : Value)
    (hx : ac.eval x = .pointer (some ⟨g, 0, none⟩)) (hy : ac.eval y = .agg #[a, b, c, d, e]) (ht : w.there g 0 5) (hi : (P.info? ty).map (·.size) = some 5) (h1 : a.oneCell' = true) (h2 : b.oneCell' = true) (h3 : c.oneCell' = true) (h4 : d.oneCell' = true) (h5 : e.oneCell' = true)
    (h : wpList P ops Q rest (ac.put o.dst undef) (w.setCells g 0 [a, b, c, d, e])) : wpList P ops Q (o :: rest) ac w :=
  wpList_plain hgd fun K hK => Dsk.wp_store_lie ty x y ho g 0 5 [a, b, c, d, e] hx hy rfl ht hi (fun v hv => by
    simp at hv
    rcases hv with rfl | rfl | rfl | rfl | rfl
    · exact h1
    · exact h2
    · exact h3
    · exact h4
    · exact h5) fun w' e _ _ => by subst e; exact hK _ _ h
/-- While the example grows. -/
abbrev exT (w : World) (kv ov : Value) (i : Nat) : List Thing :=
  [BlkT w.heap.size 24 #[.int .i64 0, .int .i64 0, .int .i64 0, .slice none 0 0, .slice none 0 0], BlkT (w.heap.size + 1) 24 #[.int .i64 3, .int .i64 2, .int .i64 1, kv, ov], RowT 1 kv (List.replicate i 1).length (qvs (List.replicate i 1)), RowT 1 ov (List.replicate i 63).length (qvs (List.replicate i 63))]
theorem rep_next (i v : Nat) : List.replicate i v ++ [v] = List.replicate (i + 1) v := (List.replicate_succ' ..).symm
end Flo
end Go.Proofs.YtgophgnfiboefaaGreatDoor

namespace Go.Proofs.YtgophgnfiboefaaGreatDoor
set_option linter.unusedVariables false
set_option linter.unusedSimpArgs false
namespace Flo
/-- A list of distances, looked at cell by cell. -/
def localB (f : Fl) (src avoid : List Int) (out : List Int) : Bool :=
  (out.length == f.Kind.length) && (List.range f.Kind.length).all fun c =>
    (decide (gt out c = 0) == (decide ((c : Int) ∈ src) && !shutB f avoid c)) && decide (-1 ≤ gt out c) &&
    ((List.range 6).all fun d => match f.next c (d : Nat) with
      | none => true
      | some m => shutB f avoid m.toNat || decide (gt out c = -1) || (decide (0 ≤ gt out m.toNat) && decide (gt out m.toNat ≤ gt out c + 1))) &&
    (decide (gt out c ≤ 0) || (!shutB f avoid c && (List.range 6).any fun d => match f.back c (d : Nat) with
      | none => false
      | some p => decide (gt out p.toNat = gt out c - 1)))
theorem isDist_local {f : Fl} {src avoid out : List Int} (ho : f.ok) (h : localB f src avoid out = true) : IsDist f.Kind.length (spSrc f src avoid) (spE f avoid false) out := by
  unfold localB at h
  rw [Bool.and_eq_true] at h
  obtain ⟨hlen, h⟩ := h
  have hlen' : out.length = f.Kind.length := by simpa using hlen
  have hall : ∀ c, c < f.Kind.length → (gt out c = 0 ↔ ((c : Int) ∈ src ∧ shutB f avoid c = false)) ∧ -1 ≤ gt out c ∧ (∀ d m : Nat, d < 6 → f.next c d = some (m : Int) → shutB f avoid m = false → gt out c ≠ -1 → 0 ≤ gt out m ∧ gt out m ≤ gt out c + 1) ∧ (0 < gt out c → shutB f avoid c = false ∧ ∃ d p : Nat, d < 6 ∧ f.back c d = some (p : Int) ∧ gt out p = gt out c - 1) := by
    intro c hc
    have h1 := List.all_eq_true.1 h c (List.mem_range.2 hc)
    rw [Bool.and_eq_true, Bool.and_eq_true, Bool.and_eq_true] at h1
    obtain ⟨⟨⟨a1, a2⟩, a3⟩, a4⟩ := h1
    refine ⟨?_, of_decide_eq_true a2, fun d m hd hm hs hne => ?_, fun hpos => ?_⟩
    · rw [beq_iff_eq, Bool.eq_iff_iff, decide_eq_true_iff] at a1
      simpa using a1
    · have h2 := List.all_eq_true.1 a3 d (List.mem_range.2 hd)
      rw [hm] at h2
      simp only [Int.toNat_natCast, hs, Bool.false_or, Bool.or_eq_true, Bool.and_eq_true, decide_eq_true_eq] at h2
      rcases h2 with h2 | h2
      · exact absurd h2 hne
      · exact h2
    · rw [Bool.or_eq_true] at a4
      rcases a4 with a4 | a4
      · have := of_decide_eq_true a4
        omega
      · rw [Bool.and_eq_true] at a4
        refine ⟨by simpa using a4.1, ?_⟩
        obtain ⟨d, hd, h2⟩ := List.any_eq_true.1 a4.2
        have hd' := List.mem_range.1 hd
        cases hb : f.back c d with
        | none => rw [hb] at h2; cases h2
        | some p =>
          rw [hb] at h2
          have h0 := (Fl.next_is (Fl.back_some ho hb)).2.2.2.2
          obtain ⟨k, rfl⟩ : ∃ k : Nat, p = k := ⟨p.toNat, by omega⟩
          exact ⟨d, k, hd', hb, by simpa using h2⟩
  have up_ : ∀ {k c : Nat}, Walk (spSrc f src avoid) (spE f avoid false) k c → 0 ≤ gt out c ∧ gt out c ≤ k := by
    intro k c hw
    induction hw with
    | src hs =>
      have := ((hall _ hs.1).1).2 ⟨hs.2.1, hs.2.2⟩
      omega
    | step hw' he ih =>
      obtain ⟨d, h1, h2, h3⟩ := spE_fw.1 he
      have := (hall _ (walk_open ho hw').1).2.2.1 d _ h1 h2 h3 (by omega)
      constructor
      · exact this.1
      · push_cast; omega
  have down : ∀ (k c : Nat), c < f.Kind.length → gt out c = k → Walk (spSrc f src avoid) (spE f avoid false) k c := by
    intro k
    induction k with
    | zero =>
      intro c hc e
      obtain ⟨h1, h2⟩ := (hall c hc).1.1 (by omega)
      exact .src ⟨hc, h1, h2⟩
    | succ k ih =>
      intro c hc e
      obtain ⟨h1, d, p, h2, h3, h4⟩ := (hall c hc).2.2.2 (by omega)
      have h5 := Fl.back_some ho h3
      exact .step (ih p (next_lt ho h5).2.1 (by rw [h4, e]; push_cast; omega)) (spE_fw.2 ⟨d, h2, h5, h1⟩)
  refine ⟨hlen', fun c hc e k hw => ?_, fun c hc e => ?_⟩
  · have := up_ hw
    omega
  · obtain ⟨k, hk⟩ : ∃ k : Nat, gt out c = k := ⟨(gt out c).toNat, by have := (hall c hc).2.1; omega⟩
    exact ⟨k, hk, down k c hc hk, fun j hj hw => by have := (up_ hw).2; omega⟩
theorem exDist : IsDist 6 (spSrc exF [2] []) (spE exF [] false) [4, -1, 0, 3, 2, 1] := isDist_local exF_ok (by decide +kernel)
theorem exDist0 : IsDist 6 (spSrc exF [((0 : Nat) : Int)] []) (spE exF [] false) [0, -1, 4, 1, 2, 3] := isDist_local exF_ok (by decide +kernel)
theorem exN (c d : Nat) (o : Option Int) (h : exF.next c d = o) : exF.next c d = o := h
theorem exLeast : Least exF [] 0 2 [0, 3, 4, 5, 2] := by
  refine ⟨rfl, rfl, by decide +kernel, fun t c n hc hn => ?_, fun k hk => ?_⟩
  · have ht : t + 1 < 5 := (List.getElem?_eq_some_iff.1 hn).1
    obtain rfl | rfl | rfl | rfl : t = 0 ∨ t = 1 ∨ t = 2 ∨ t = 3 := by omega
    · obtain rfl := Option.some.inj hc
      obtain rfl := Option.some.inj hn
      refine ⟨1, by omega, by decide +kernel, fun d' m hd hm => ?_⟩
      obtain rfl : d' = 0 := by omega
      rw [show exF.next ((0 : Nat) : Int) ((0 : Nat) : Int) = none from by decide +kernel] at hm
      cases hm
    · obtain rfl := Option.some.inj hc
      obtain rfl := Option.some.inj hn
      exact ⟨0, by omega, by decide +kernel, fun d' m hd => by omega⟩
    · obtain rfl := Option.some.inj hc
      obtain rfl := Option.some.inj hn
      exact ⟨0, by omega, by decide +kernel, fun d' m hd => by omega⟩
    · obtain rfl := Option.some.inj hc
      obtain rfl := Option.some.inj hn
      refine ⟨3, by omega, by decide +kernel, fun d' m hd hm hs x hx hto => ?_⟩
      have hx5 : x + 3 + 2 ≤ 5 := hx
      obtain rfl : x = 0 := by omega
      have e := To.zero hto
      subst e
      obtain rfl | rfl | rfl : d' = 0 ∨ d' = 1 ∨ d' = 2 := by omega
      · rw [show exF.next ((5 : Nat) : Int) ((0 : Nat) : Int) = none from by decide +kernel] at hm
        cases hm
      · rw [show exF.next ((5 : Nat) : Int) ((1 : Nat) : Int) = none from by decide +kernel] at hm
        cases hm
      · rw [show exF.next ((5 : Nat) : Int) ((2 : Nat) : Int) = some 4 from by decide +kernel] at hm
        cases hm
  · show 5 ≤ k + 1
    have h1 := (fw_iff (a := 0) (b := 2) exF_ok).2 hk
    obtain ⟨y, h2, _, h3⟩ := exDist0.some_ 2 (by omega) (by decide)
    have h4 : gt [0, -1, 4, 1, 2, 3] 2 = 4 := by decide
    rw [h4] at h2
    have : y ≤ k := Classical.byContradiction fun e => h3 k (by omega) h1
    omega
theorem exPath : PathIs exF [] 0 2 [0, 3, 4, 5, 2] := .inr ⟨0, 2, [0, 3, 4, 5, 2], rfl, rfl, rfl, exLeast⟩
end Flo
end Go.Proofs.YtgophgnfiboefaaGreatDoor

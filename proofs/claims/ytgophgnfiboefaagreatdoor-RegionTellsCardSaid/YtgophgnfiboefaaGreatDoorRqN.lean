/- The program's calls and the reference's, in one form. -/
import Derived.Test.YtgophgnfiboefaaGreatDoorRqM
import Derived.Test.YtgophgnfiboefaaGreatDoorMhV
import Derived.Test.YtgophgnfiboefaaGreatDoorRqD
import Derived.Test.YtgophgnfiboefaaGreatDoorRqE
namespace Go.Proofs.YtgophgnfiboefaaGreatDoor
open Go.RowKit Wire
open Txt (Row)
open Go.Proofs.YtgophgnfiboefaaGreatDoor.Own Flo
open Dsk (Only nth)
set_option linter.unusedVariables false
set_option linter.unusedSimpArgs false
namespace Rgn
theorem same_nats (w : World) (A B : Option Addr) (c d : Nat) (l : List Nat) (hl : l.length ≤ 1000000) (h : Row w w.heap.size A (qvs l)) (k : Row w w.heap.size B (qvs l)) : Calls Tryz.prog 7 #[.slice A l.length c, .slice B l.length d] w fun e w' => e = .returned (.bool true) ∧ Below w.heap.size w w' := by
  have hq := qSame_any w A B c d (ivn l) (ivn l) (by rw [List.length_map]; omega) (by rw [List.length_map]; omega) (by rw [show (ivn l).map (Value.int .i64) = qvs l from ivs_ivn l]; exact h) (by rw [show (ivn l).map (Value.int .i64) = qvs l from ivs_ivn l]; exact k)
  rw [List.length_map, decide_eq_true rfl] at hq
  exact hq
theorem same_ints (w : World) (A B : Option Addr) (c d : Nat) (l : List Int) (hl : l.length ≤ 1000000) (h : Row w w.heap.size A (ivs l)) (k : Row w w.heap.size B (ivs l)) : Calls Tryz.prog 7 #[.slice A l.length c, .slice B l.length d] w fun e w' => e = .returned (.bool true) ∧ Below w.heap.size w w' := by
  have hq := qSame_any w A B c d l l (by omega) (by omega) h k
  rw [decide_eq_true rfl] at hq
  exact hq
/-- What a call of Parts leaves, laid out: N parts. -/
def PkP (N : Nat) (P : Nat → List Nat) (w : World) (e : Ending) (w' : World) : Prop :=
  ∃ (A : Option Addr) (c : Nat) (PV : Nat → Option Addr) (PQ : Nat → Nat), e = .returned (.slice A N c) ∧ (∀ i, i < N → (P i).length ≤ 1000000) ∧
    (∃ b o, ∀ i, i < N → A = some ⟨b, o, none⟩ ∧ ∀ w2, Below w'.heap.size w' w2 → w2.cell? ⟨b, o + i, none⟩ = some (.slice (PV i) (P i).length (PQ i))) ∧
    (∀ i, i < N → ∀ w2, Below w'.heap.size w' w2 → Row w2 w2.heap.size (PV i) (qvs (P i))) ∧ Below w.heap.size w w'
theorem pk_of {f : Fl} (ho : f.ok) {a : List Nat} {w : World} {fn : FuncId} {args : Array Value} (h : Calls Tryz.prog fn args w (PartsOf f a w)) : Calls Tryz.prog fn args w (PkP (partsOf f a).length (fun i => (partsOf f a).getD i []) w) := by
  refine h.mono ?_
  rintro e w' ⟨A, c, qs, rfl, h1, h2, h3, h4, h5⟩
  have hsl : ∀ i, i < qs.length → ∃ (AV : Option Addr) (AC : Nat), (qs.getD i default).1 = .slice AV (qs.getD i default).2.length AC ∧ Row w' w'.heap.size AV (qvs (qs.getD i default).2) := fun i hi => h4 _ (by
    rw [List.getD_eq_getElem?_getD, List.getElem?_eq_getElem hi]
    exact List.getElem_mem hi)
  have hch : ∀ i, ∃ x : Option Addr × Nat, i < qs.length → (qs.getD i default).1 = .slice x.1 (qs.getD i default).2.length x.2 ∧ Row w' w'.heap.size x.1 (qvs (qs.getD i default).2) := fun i => by
    by_cases hi : i < qs.length
    · obtain ⟨x, y, k⟩ := hsl i hi
      exact ⟨(x, y), fun _ => k⟩
    · exact ⟨default, fun k => absurd k hi⟩
  obtain ⟨X, hX⟩ := Classical.axiomOfChoice hch
  have hP : ∀ i, i < qs.length → (qs.map (·.2)).getD i [] = (qs.getD i default).2 := fun i hi => by
    rw [List.getD_eq_getElem?_getD, List.getElem?_map, List.getD_eq_getElem?_getD, List.getElem?_eq_getElem hi]
    rfl
  have hsm : ∀ i, i < qs.length → ((qs.map (·.2)).getD i []).length ≤ 1000000 := fun i hi => by
    have hm : (qs.map (·.2)).getD i [] ∈ qs.map (·.2) := by
      rw [List.getD_eq_getElem?_getD, List.getElem?_eq_getElem (by rw [List.length_map]; exact hi)]
      exact List.getElem_mem _
    have := (usL_small ho h2 hm).1.len
    omega
  rw [← h1, List.length_map]
  refine ⟨A, c, fun i => (X i).1, fun i => (X i).2, rfl, hsm, ?_, fun i hi w2 b => ?_, h5⟩
  · have key : ∀ i, i < qs.length → ∃ b o, A = some ⟨b, o, none⟩ ∧ ∀ w2, Below w'.heap.size w' w2 → w2.cell? ⟨b, o + i, none⟩ = some (.slice (X i).1 ((qs.map (·.2)).getD i []).length (X i).2) := fun i hi => by
      obtain ⟨b, o, e, hlt, hc⟩ := h3 i (qs.getD i default).1 (by
        rw [List.getElem?_map, List.getD_eq_getElem?_getD, List.getElem?_eq_getElem hi]
        rfl)
      refine ⟨b, o, e, fun w2 hb => ?_⟩
      rw [hP i hi, ← (hX i hi).1]
      exact (hb.cell (p := ⟨b, o + i, none⟩) hlt).trans hc
    by_cases h0 : 0 < qs.length
    · obtain ⟨b, o, e, _⟩ := key 0 h0
      refine ⟨b, o, fun i hi => ⟨e, ?_⟩⟩
      obtain ⟨b', o', e', hc⟩ := key i hi
      rw [e] at e'
      injection e' with e'
      injection e' with e1 e2
      subst e1
      subst e2
      exact hc
    · exact ⟨0, 0, fun i hi => absurd hi (by omega)⟩
  · dsimp only
    rw [hP i hi]
    exact (hX i hi).2.lift b
noncomputable section
open Classical in
/-- The distances within a region. -/
def insOf (f : Fl) (a : List Nat) (src : List Int) : List Int := if h : ∃ out, InsideIs f a src out then h.choose else []
theorem insOf_eq {f : Fl} {a : List Nat} {src out : List Int} (h : InsideIs f a src out) : out = insOf f a src := by
  have hex : ∃ out, InsideIs f a src out := ⟨out, h⟩
  unfold insOf
  rw [dif_pos hex]
  obtain ⟨d1, h1, e1⟩ := h
  obtain ⟨d2, h2, e2⟩ := hex.choose_spec
  rw [e1, e2, h1.unique h2]
end
def InI (l : List Int) (w : World) (e : Ending) (w' : World) : Prop := ∃ A c, e = .returned (.slice A l.length c) ∧ Row w' w'.heap.size A (ivs l) ∧ Below w.heap.size w w' ∧ l.length ≤ 1000000
theorem ins_of {f : Fl} {a : List Nat} (ha : Reg a) {src : List Int} {w : World} {fn : FuncId} {args : Array Value} (h : Calls Tryz.prog fn args w (InsPost f a src w)) : Calls Tryz.prog fn args w (InI (insOf f a src) w) := by
  refine h.mono ?_
  rintro e w' ⟨A, c, out, rfl, h1, h2, h3⟩
  have hl : out.length = a.length := by
    obtain ⟨_, _, e⟩ := h1
    rw [e]
    exact List.length_map ..
  have := ha.len
  have e := insOf_eq h1
  subst e
  exact ⟨A, c, by rw [hl], h2, h3, by omega⟩
/-- All that RegionTells calls with two regions: the program's call, then the reference's. -/
structure TlC (fv : Value) (A1 A2 A3 : Option Addr) (la c1 lb c2 ll c3 : Nat) (z : Int) (W : World) (U I D E : List Nat) (hb sb wb lk : Bool) (N : Nat) (P : Nat → List Nat) (INS : List Int) : Prop where
  u1 : ∀ w, Below W.heap.size W w → Calls Tryz.prog 11 #[.slice A1 la c1, .slice A2 lb c2] w (GotL w U)
  u2 : ∀ w, Below W.heap.size W w → Calls Tryz.prog 12 #[.slice A1 la c1, .slice A2 lb c2] w (GotL w U)
  i1 : ∀ w, Below W.heap.size W w → Calls Tryz.prog 13 #[.slice A1 la c1, .slice A2 lb c2] w (GotL w I)
  i2 : ∀ w, Below W.heap.size W w → Calls Tryz.prog 14 #[.slice A1 la c1, .slice A2 lb c2] w (GotL w I)
  d1 : ∀ w, Below W.heap.size W w → Calls Tryz.prog 15 #[.slice A1 la c1, .slice A2 lb c2] w (GotL w D)
  d2 : ∀ w, Below W.heap.size W w → Calls Tryz.prog 16 #[.slice A1 la c1, .slice A2 lb c2] w (GotL w D)
  h1 : ∀ w, Below W.heap.size W w → Calls Tryz.prog 17 #[.slice A1 la c1, .int .i64 z] w fun e w' => e = .returned (.bool hb) ∧ Below w.heap.size w w'
  h2 : ∀ w, Below W.heap.size W w → Calls Tryz.prog 18 #[.slice A1 la c1, .int .i64 z] w fun e w' => e = .returned (.bool hb) ∧ Below w.heap.size w w'
  s1 : ∀ w, Below W.heap.size W w → Calls Tryz.prog 19 #[.slice A1 la c1, .slice A2 lb c2] w fun e w' => e = .returned (.bool sb) ∧ Below w.heap.size w w'
  s2 : ∀ w, Below W.heap.size W w → Calls Tryz.prog 20 #[.slice A1 la c1, .slice A2 lb c2] w fun e w' => e = .returned (.bool sb) ∧ Below w.heap.size w w'
  w1 : ∀ w, Below W.heap.size W w → Calls Tryz.prog 21 #[.slice A1 la c1, .slice A2 lb c2] w fun e w' => e = .returned (.bool wb) ∧ Below w.heap.size w w'
  w2 : ∀ w, Below W.heap.size W w → Calls Tryz.prog 22 #[.slice A1 la c1, .slice A2 lb c2] w fun e w' => e = .returned (.bool wb) ∧ Below w.heap.size w w'
  p1 : ∀ w, Below W.heap.size W w → Calls Tryz.prog 23 #[fv, .slice A1 la c1] w (PkP N P w)
  p2 : ∀ w, Below W.heap.size W w → Calls Tryz.prog 24 #[fv, .slice A1 la c1] w (PkP N P w)
  l1 : ∀ w, Below W.heap.size W w → Calls Tryz.prog 25 #[fv, .slice A1 la c1] w fun e w' => e = .returned (.bool lk) ∧ Below w.heap.size w w'
  l2 : ∀ w, Below W.heap.size W w → Calls Tryz.prog 26 #[fv, .slice A1 la c1] w fun e w' => e = .returned (.bool lk) ∧ Below w.heap.size w w'
  e1 : ∀ w, Below W.heap.size W w → Calls Tryz.prog 27 #[fv, .slice A1 la c1] w (GotL w E)
  e2 : ∀ w, Below W.heap.size W w → Calls Tryz.prog 28 #[fv, .slice A1 la c1] w (GotL w E)
  n1 : ∀ w, Below W.heap.size W w → Calls Tryz.prog 29 #[fv, .slice A1 la c1, .slice A3 ll c3] w (InI INS w)
  n2 : ∀ w, Below W.heap.size W w → Calls Tryz.prog 30 #[fv, .slice A1 la c1, .slice A3 ll c3] w (InI INS w)
  ul : U.length ≤ 1000000
  il : I.length ≤ 1000000
  dl : D.length ≤ 1000000
  el : E.length ≤ 1000000
  nl : N ≤ 1000000
theorem tlc {f : Fl} (ho : f.ok) (p : Pl) (A1 A2 A3 : Option Addr) (c1 c2 c3 : Nat) (a b : List Nat) (l : List Int) (z : Int) (W : World) (hv : VS W) (hvo : VO W) (hin : FlIn W f p) (ha : Reg a) (hb : Reg b) (hl : l.length ≤ 1000000) (hra : Row W W.heap.size A1 (qvs a)) (hrb : Row W W.heap.size A2 (qvs b)) (hrl : Row W W.heap.size A3 (ivs l)) :
    ∃ U I D E hb sb wb lk N P INS, TlC (f.val p) A1 A2 A3 a.length c1 b.length c2 l.length c3 z W U I D E hb sb wb lk N P INS := by
  have hla := ha.len
  have hlb := hb.len
  exact ⟨uniR a b, intR a b, difR a b, edgeOf f a, hasB a z, subB a b, decide (a = b), lnkB f a, (partsOf f a).length, fun i => (partsOf f a).getD i [], insOf f a l,
  { u1 := fun w bw => got_of (uni_any w A1 A2 c1 c2 a b ha hb (hra.lift bw) (hrb.lift bw))
    u2 := fun w bw => runion_any w A1 A2 c1 c2 a b ha hb (hra.lift bw) (hrb.lift bw)
    i1 := fun w bw => got_of (int_any w A1 A2 c1 c2 a b ha hb (hra.lift bw) (hrb.lift bw))
    i2 := fun w bw => got_eq (rinter_any w A1 A2 c1 c2 a b ha (by omega) (hra.lift bw) (hrb.lift bw)) (filter_int ha)
    d1 := fun w bw => got_of (dif_any w A1 A2 c1 c2 a b ha hb (hra.lift bw) (hrb.lift bw))
    d2 := fun w bw => got_eq (rdiff_any w A1 A2 c1 c2 a b ha (by omega) (hra.lift bw) (hrb.lift bw)) (filter_dif ha)
    h1 := fun w bw => regHas_any w A1 c1 a z ha.asc (by omega) (hra.lift bw)
    h2 := fun w bw => (rhasb_any w A1 c1 a z ha (hra.lift bw)).mono fun e w' h => ⟨h.1, by rw [h.2]; exact Below.refl _ _⟩
    s1 := fun w bw => within_any w A1 A2 c1 c2 a b ha.asc hb.asc (by omega) (by omega) (hra.lift bw) (hrb.lift bw)
    s2 := fun w bw => rwithin_any w A1 A2 c1 c2 a b ha (by omega) (hra.lift bw) (hrb.lift bw)
    w1 := fun w bw => same_any2 w A1 A2 c1 c2 a b ha hb (hra.lift bw) (hrb.lift bw)
    w2 := fun w bw => rsame8_any w A1 A2 c1 c2 a b (by omega) (by omega) (hra.lift bw) (hrb.lift bw)
    p1 := fun w bw => pk_of ho (partsOf_any ho p A1 c1 a w (hv.lift bw) (hvo.lift bw) (hin.lift bw) (hra.lift bw) (by omega))
    p2 := fun w bw => pk_of ho (rparts_any ho p A1 c1 a w (hin.lift bw) ha (hra.lift bw))
    l1 := fun w bw => linked_any ho p A1 c1 a w (hv.lift bw) (hvo.lift bw) (hin.lift bw) (hra.lift bw) (by omega)
    l2 := fun w bw => rlinked_any ho p A1 c1 a w (hin.lift bw) ha (hra.lift bw)
    e1 := fun w bw => got_of (edge_any ho p A1 c1 a w (hv.lift bw) (hin.lift bw) ha (hra.lift bw))
    e2 := fun w bw => redge_any ho p A1 c1 a w (hin.lift bw) ha (hra.lift bw)
    n1 := fun w bw => ins_of ha (inside_any ho p A1 A3 c1 c3 a l w (hv.lift bw) (hin.lift bw) ha (hra.lift bw) (hrl.lift bw) hl)
    n2 := fun w bw => ins_of ha (rinside_any ho p A1 A3 c1 c3 a l w (hin.lift bw) ha (hra.lift bw) (hrl.lift bw) hl)
    ul := Nat.le_trans (regOf_len (uniB a b) 4096) (by omega)
    il := Nat.le_trans (regOf_len (intB a b) 4096) (by omega)
    dl := Nat.le_trans (regOf_len (difB a b) 4096) (by omega)
    el := by have := (edge_reg (f := f) ha).len; omega
    nl := by
      by_cases hex : ∃ Ps, IsParts (stE f.next) (opn (usL f a)) Ps
      · obtain ⟨Ps, h⟩ := hex
        have h2 := (good_of ho ha h).cnt
        rw [← partsOf_eq h]
        omega
      · unfold partsOf
        rw [dif_neg hex]
        simp }⟩
end Rgn
end Go.Proofs.YtgophgnfiboefaaGreatDoor

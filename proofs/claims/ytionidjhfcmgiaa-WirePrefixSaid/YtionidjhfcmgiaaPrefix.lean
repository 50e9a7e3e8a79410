import Derived.Test.YtionidjhfcmgiaaBack
import Derived.Deep.RegionWith
namespace Go.Proofs.Ytionidjhfcmgiaa
open Go.RowKit
set_option linter.unusedVariables false
set_option linter.unusedSimpArgs false
namespace Wire

/-- All that the statements know of a value by value. -/
structure Came1 (w : World) (v : Val) (A : Option Addr) (A' : Option Addr) : Prop where
  l : Row w w.heap.size A (v.l.map (Value.int .i64))
  t : Row w w.heap.size A' (v.t.map Value.string)
  k : Fits v.kind
  n : Fits v.n
  z : ∀ z ∈ v.l, Fits z

theorem Came1.full {w w' : World} {v : Val} {A A' : Option Addr} (h : Came1 w v A A') (hb : Below w.heap.size w w') (hk : bulks [v] ≤ 400) : Came w' w.heap.size v A A' :=
  ⟨h.l.below hb, h.t.below hb, hb.size, h.k, h.n, h.z, bulk_parts v hk⟩

/-- Two boxes. -/
abbrev Two (w w' : World) (g h : Nat) (v u : Val) (A : Option Addr) (c : Nat) (A' : Option Addr) (c' : Nat) (D : Option Addr) (d : Nat) (D' : Option Addr) (d' : Nat) : Prop :=
  Below w.heap.size w w' ∧ g < w'.heap.size ∧ h < w'.heap.size ∧
  w'.cell? ⟨g, 0, none⟩ = some (.int .i64 v.kind) ∧ w'.cell? ⟨g, 1, none⟩ = some (.int .i64 v.n) ∧ w'.cell? ⟨g, 2, none⟩ = some (.string v.s) ∧ w'.cell? ⟨g, 3, none⟩ = some (.slice A v.l.length c) ∧ w'.cell? ⟨g, 4, none⟩ = some (.slice A' v.t.length c') ∧
  w'.cell? ⟨h, 0, none⟩ = some (.int .i64 u.kind) ∧ w'.cell? ⟨h, 1, none⟩ = some (.int .i64 u.n) ∧ w'.cell? ⟨h, 2, none⟩ = some (.string u.s) ∧ w'.cell? ⟨h, 3, none⟩ = some (.slice D u.l.length d) ∧ w'.cell? ⟨h, 4, none⟩ = some (.slice D' u.t.length d')

section
variable {w w' w'' : World} {g h : Nat} {v u : Val} {A : Option Addr} {c : Nat} {A' : Option Addr} {c' : Nat} {D : Option Addr} {d : Nat} {D' : Option Addr} {d' : Nat}
theorem Two.drew (H : Two w w' g h v u A c A' c' D d D' d') : Two w w'.drew g h v u A c A' c' D d D' d' := ⟨H.1.drew, H.2⟩
theorem Two.keep (H : Two w w' g h v u A c A' c' D d D' d') (hb : Below w'.heap.size w' w'') : Two w w'' g h v u A c A' c' D d D' d' := by
  obtain ⟨h0, hg, hh, a0, a1, a2, a3, a4, b0, b1, b2, b3, b4⟩ := H
  have e : ∀ j, w''.cell? ⟨g, j, none⟩ = w'.cell? ⟨g, j, none⟩ := fun j => hb.cell (p := ⟨g, j, none⟩) hg
  have f : ∀ j, w''.cell? ⟨h, j, none⟩ = w'.cell? ⟨h, j, none⟩ := fun j => hb.cell (p := ⟨h, j, none⟩) hh
  exact ⟨next_below h0 hb, Nat.lt_of_lt_of_le hg hb.size, Nat.lt_of_lt_of_le hh hb.size, (e 0).trans a0, (e 1).trans a1, (e 2).trans a2, (e 3).trans a3, (e 4).trans a4, (f 0).trans b0, (f 1).trans b1, (f 2).trans b2, (f 3).trans b3, (f 4).trans b4⟩
theorem Two.alloc (H : Two w w' g h v u A c A' c' D d D' d') (o : Obj) : Two w (w'.alloc o) g h v u A c A' c' D d D' d' := H.keep ((Below.refl _ _).alloc (Nat.le_refl _) _)
end

theorem two_start (w : World) {w1 : World} {v u : Val} {A : Option Addr} {c : Nat} {A' : Option Addr} {c' : Nat} {D : Option Addr} {d : Nat} {D' : Option Addr} {d' : Nat} {t : TypeId}
    (b : Below ((w.alloc (.cells (cellsOf v A c A' c').toArray t)).alloc (.cells (cellsOf u D d D' d').toArray t)).heap.size ((w.alloc (.cells (cellsOf v A c A' c').toArray t)).alloc (.cells (cellsOf u D d D' d').toArray t)) w1) :
    Two w w1 w.heap.size (w.heap.size + 1) v u A c A' c' D d D' d' := by
  have K1 := (Blk.fresh w t (cellsOf v A c A' c').toArray).kept (.cells (cellsOf u D d D' d').toArray t)
  have K2 : Blk ((w.alloc (.cells (cellsOf v A c A' c').toArray t)).alloc (.cells (cellsOf u D d D' d').toArray t)) (w.heap.size + 1) t (cellsOf u D d D' d').toArray := by
    have := Blk.fresh (w.alloc (.cells (cellsOf v A c A' c').toArray t)) t (cellsOf u D d D' d').toArray
    rwa [show (w.alloc (.cells (cellsOf v A c A' c').toArray t)).heap.size = w.heap.size + 1 from by simp] at this
  have H : Two w ((w.alloc (.cells (cellsOf v A c A' c').toArray t)).alloc (.cells (cellsOf u D d D' d').toArray t)) w.heap.size (w.heap.size + 1) v u A c A' c' D d D' d' :=
    ⟨((Below.refl _ w).alloc (Nat.le_refl _) _).alloc (by simp) _, K1.inside, K2.inside, K1.at 0, K1.at 1, K1.at 2, K1.at 3, K1.at 4, K2.at 0, K2.at 1, K2.at 2, K2.at 3, K2.at 4⟩
  exact H.keep b

theorem Blk.fresh_drew (w : World) (t : TypeId) (cs : Array Value) : Blk (w.alloc (.cells cs t)).drew w.heap.size t cs := Blk.fresh w t cs

/-- A slice of one value, in a block of the call's own. -/
theorem vals_blk {w W : World} {g : Nat} {v : Val} {A : Option Addr} {c : Nat} {A' : Option Addr} {c' : Nat} {t : TypeId} (h1 : Row w w.heap.size A (v.l.map (Value.int .i64))) (h2 : Row w w.heap.size A' (v.t.map Value.string)) (hb : Below w.heap.size w W)
    (K : Blk W g t (cellsOf v A c A' c').toArray) : Vals W W.heap.size (some ⟨g, 0, none⟩) [v] := by
  intro i u hu
  have hi : i = 0 := by
    have := (List.getElem?_eq_some_iff.1 hu).1
    simp at this
    omega
  subst hi
  obtain rfl : v = u := by simpa using hu
  refine ⟨_, _, cellsOf v A c A' c', rfl, K.inside, ⟨A, c, A', c', rfl, h1.lift hb, h2.lift hb⟩, fun j x hx => ?_⟩
  rw [show 0 + 0 * 5 + j = j from by omega, K.at, List.getElem?_toArray]
  exact hx

theorem few_at (v : Val) (A : Option Addr) (c : Nat) (A' : Option Addr) (c' : Nat) {w : World} (h1 : Row w w.heap.size A (v.l.map (Value.int .i64))) (h2 : Row w w.heap.size A' (v.t.map Value.string)) (hf : [v].length ≤ 20 ∧ bulks [v] ≤ 400) (W : World) (g : Nat)
    (K : Blk W g 25 #[.int .i64 v.kind, .int .i64 v.n, .string v.s, .slice A v.l.length c, .slice A' v.t.length c']) (hb : Below w.heap.size w W) :
    Calls Try.prog 10 #[.slice (some ⟨g, 0, none⟩) 1 1] W fun e w' => e = .returned (.bool true) ∧ Below W.heap.size W w' :=
  few_yes _ 1 [v] _ (vals_blk (c := c) (c' := c') h1 h2 hb K) hf

theorem few_not (v : Val) (A : Option Addr) (c : Nat) (A' : Option Addr) (c' : Nat) {w : World} (h1 : Row w w.heap.size A (v.l.map (Value.int .i64))) (h2 : Row w w.heap.size A' (v.t.map Value.string)) (hf : ¬ ([v].length ≤ 20 ∧ bulks [v] ≤ 400)) (W : World) (g : Nat)
    (K : Blk W g 25 #[.int .i64 v.kind, .int .i64 v.n, .string v.s, .slice A v.l.length c, .slice A' v.t.length c']) (hb : Below w.heap.size w W) :
    Calls Try.prog 10 #[.slice (some ⟨g, 0, none⟩) 1 1] W fun e w' => e = .returned (.bool false) ∧ Below W.heap.size W w' :=
  few_no _ 1 [v] _ (vals_blk (c := c) (c' := c') h1 h2 hb K) hf

/-- What a reader of this kind leaves. -/
def rem (k : Int) (l : List UInt8) : Option (List UInt8) :=
  if k = 0 then (num 59 l).map (·.2) else if k = 1 then (int l).map (·.2) else if k = 2 then (text l).map (·.2) else if k = 3 then (list int l).map (·.2) else (list text l).map (·.2)

theorem rem_enc {v : Val} (hn : Fits v.n) (hz : ∀ z ∈ v.l, Fits z) (hf : v.s.size ≤ 400 ∧ v.l.length ≤ 400 ∧ v.t.length ≤ 400 ∧ (v.t.flatMap encText).length ≤ 20000) (x : List UInt8) : rem (kd v.kind) (encOf v ++ x) = some x := by
  unfold rem
  rcases kd_range v.kind with hd | hd | hd | hd | hd
  · rw [if_pos hd, encOf_num hd, List.append_assoc]
    rw [show num 59 (dec (numOf v.n) ++ ([59] ++ x)) = some (numOf v.n, x) from num_dec (by decide) (numOf_le hn) x]
    rfl
  · rw [encOf_int hd, hd, int_enc hn.1 hn.2]
    rfl
  · rw [encOf_text hd, hd, text_back (by omega)]
    rfl
  · rw [encOf_nums hd, hd, list_ints (by omega) hz]
    rfl
  · rw [encOf_texts hd, hd, list_texts (by omega) (fun s hs => Nat.le_trans (text_small hf.2.2.2 hs) (by omega))]
    rfl

theorem enc_prefix {w : World} {B : Nat} {v u : Val} {A A' D D' : Option Addr} (hv : Came w B v A A') (hu : Came w B u D D') (hk : kd v.kind = kd u.kind) (h : (encOf u).take (encOf v).length = encOf v) : encOf v = encOf u := by
  have e : encOf u = encOf v ++ (encOf u).drop (encOf v).length := by
    conv => lhs; rw [← List.take_append_drop (encOf v).length (encOf u), h]
  have h1 := rem_enc hv.n hv.z hv.few ((encOf u).drop (encOf v).length)
  have h2 := rem_enc hu.n hu.z hu.few []
  rw [← e, hk] at h1
  rw [List.append_nil, h1] at h2
  have h3 := Option.some.inj h2
  rw [h3, List.append_nil] at e
  exact e.symm

set_option maxHeartbeats 1000000 in
theorem prefix_any (v u : Val) (A : Option Addr) (c : Nat) (A' : Option Addr) (c' : Nat) (D : Option Addr) (d : Nat) (D' : Option Addr) (d' : Nat) (w : World) (hv : Came1 w v A A') (hu : Came1 w u D D') :
    Calls Try.prog 7 #[.agg (cellsOf v A c A' c').toArray, .agg (cellsOf u D d D' d').toArray] w fun e w' => e = .returned (.bool true) ∧ Below w.heap.size w w' := by
  have HV := Lib.hid hv
  have HU := Lib.hid hu
  clear hv hu
  unfold cellsOf
  go_enter Try.func7, Try.ntmps7
  go_wp2_with (go_at_call 9; refine (small_any _).mono ?_; rintro e w1 ⟨rfl, b1⟩; have T1 : Two w w1 w.heap.size (w.heap.size + 1) v u A c A' c' D d D' d' := two_start w b1; clear b1)
  by_cases h1 : [v].length ≤ 20 ∧ bulks [v] ≤ 400
  · by_cases h2 : [u].length ≤ 20 ∧ bulks [u] ≤ 400
    · have H1 := Lib.hid h1
      have H2 := Lib.hid h2
      clear h1 h2
      by_cases hk : kd v.kind = kd u.kind
      · have hkb : (kd v.kind != kd u.kind) = false := by rw [hk]; simp
        have HK := Lib.hid hk
        clear hk
        go_region_held3 (fun w' => Two w w' w.heap.size (w.heap.size + 1) v u A c A' c' D d D' d') (first | exact Two.drew T1 | exact Two.alloc ‹_› _ | exact Two.keep ‹_› ‹_› | go_keep)
          (first
            | (go_at_call 10; refine (few_at v A c A' c' HV.out.l HV.out.t H1.out _ _ (by first | exact Blk.fresh_drew _ _ _ | exact Blk.fresh _ _ _) (And.left ‹Two w _ w.heap.size (w.heap.size + 1) v u A c A' c' D d D' d'›)).mono ?_; rintro e wk ⟨rfl, bk⟩)
            | (go_at_call 10; refine (few_at u D d D' d' HU.out.l HU.out.t H2.out _ _ (by first | exact Blk.fresh_drew _ _ _ | exact Blk.fresh _ _ _) (And.left ‹Two w _ w.heap.size (w.heap.size + 1) v u A c A' c' D d D' d'›)).mono ?_; rintro e wk ⟨rfl, bk⟩)
            | (go_at_call 23; (with_reducible refine (kind_any v.kind _ _ _ _ _ _ _ _ HV.out.k (kd v.kind) rfl _).mono ?_); rintro e wk ⟨rfl, bk⟩)
            | (go_at_call 23; (with_reducible refine (kind_any u.kind _ _ _ _ _ _ _ _ HU.out.k (kd u.kind) rfl _).mono ?_); rintro e wk ⟨rfl, bk⟩))
        have T2 : Two w _ w.heap.size (w.heap.size + 1) v u A c A' c' D d D' d' := ‹_›
        have HT := Lib.hid T2
        obtain ⟨_, _, _, a0, a1, a2, a3, a4, b0, b1, b2, b3, b4⟩ := T2
        have e1 := encOf_len (bulk_parts v H1.out.2)
        have e2 := encOf_len (bulk_parts u H2.out.2)
        have HT1 := Lib.hid (HV.out.full HT.out.1 H1.out.2)
        go_wp2_with (first
          | (go_at_call 42; (with_reducible refine (write_any v A c A' c' _ w.heap.size HT1.out).mono ?_); rintro e w3 ⟨rfl, b3⟩; have T3 := HT.out.keep b3; have HT3 := Lib.hid T3; have HC3 := Lib.hid (HU.out.full T3.1 H2.out.2); obtain ⟨_, _, _, f0, f1, f2, f3, f4, g0, g1, g2, g3, g4⟩ := T3)
          | (go_at_call 42; (with_reducible refine (write_any u D d D' d' _ w.heap.size HC3.out).mono ?_); rintro e w4 ⟨rfl, b4⟩; have T4 := HT3.out.keep b4; have HT4 := Lib.hid T4; obtain ⟨_, _, _, m0, m1, m2, m3, m4, n0, n1, n2, n3, n4⟩ := T4))
        · go_ret
          exact ⟨rfl, HT4.out.1⟩
        · have hx : (!((⟨(encOf u).toArray⟩ : ByteArray).extract 0 (encOf v).length).toList == encOf v) = false := by assumption
          have hE : encOf v = encOf u := by
            refine enc_prefix HT1.out (HU.out.full HT.out.1 H2.out.2) HK.out ?_
            rw [head_bytes] at hx
            simpa using hx
          rw [hE]
          clear hx hE
          refine (open_any _ _).mono ?_
          rintro e w5 ⟨rfl, h5, b5, z5⟩
          have T5 := HT4.out.keep b5
          have R5 : Hid (RS w5 w4.heap.size (some (encOf u ++ []))) := by rw [List.append_nil]; exact h5
          have HC5 := Lib.hid (HU.out.full T5.1 H2.out.2)
          have HB5 := Lib.hid T5.1
          have HL5 : Hid ((encOf u ++ []).length ≤ 1099511627776) := by
            show _ ≤ _
            rw [List.append_nil]
            omega
          have hge : w.heap.size ≤ w4.heap.size := HT4.out.1.size
          obtain ⟨_, _, _, p0, p1, p2, p3, p4, q0, q1, q2, q3, q4⟩ := T5
          clear h5 b5 z5
          generalize w4.heap.size = g at *
          go_wp2_with (go_at_call 43; refine (equal_any g [] u D d D' d' _ w.heap.size hge HC5.out R5.out HL5.out).mono ?_; rintro e w6 ⟨rfl, h6, g6⟩)
          go_ret
          exact ⟨rfl, HB5.out.trans (grown_below g6 hge HB5.out.size)⟩
        · go_ret
          exact ⟨rfl, HT4.out.1⟩
      · have hkb : (kd v.kind != kd u.kind) = true := by simpa using hk
        clear hk
        go_region_held3 (fun w' => Two w w' w.heap.size (w.heap.size + 1) v u A c A' c' D d D' d') (first | exact Two.drew T1 | exact Two.alloc ‹_› _ | exact Two.keep ‹_› ‹_› | go_keep)
          (first
            | (go_at_call 10; refine (few_at v A c A' c' HV.out.l HV.out.t H1.out _ _ (by first | exact Blk.fresh_drew _ _ _ | exact Blk.fresh _ _ _) (And.left ‹Two w _ w.heap.size (w.heap.size + 1) v u A c A' c' D d D' d'›)).mono ?_; rintro e wk ⟨rfl, bk⟩)
            | (go_at_call 10; refine (few_at u D d D' d' HU.out.l HU.out.t H2.out _ _ (by first | exact Blk.fresh_drew _ _ _ | exact Blk.fresh _ _ _) (And.left ‹Two w _ w.heap.size (w.heap.size + 1) v u A c A' c' D d D' d'›)).mono ?_; rintro e wk ⟨rfl, bk⟩)
            | (go_at_call 23; (with_reducible refine (kind_any v.kind _ _ _ _ _ _ _ _ HV.out.k (kd v.kind) rfl _).mono ?_); rintro e wk ⟨rfl, bk⟩)
            | (go_at_call 23; (with_reducible refine (kind_any u.kind _ _ _ _ _ _ _ _ HU.out.k (kd u.kind) rfl _).mono ?_); rintro e wk ⟨rfl, bk⟩))
        have T2 : Two w _ w.heap.size (w.heap.size + 1) v u A c A' c' D d D' d' := ‹_›
        have HT := Lib.hid T2.1
        go_wp2_with fail
        go_ret
        exact ⟨rfl, HT.out⟩
    · have H1 := Lib.hid h1
      have H2 := Lib.hid h2
      clear h1 h2
      have HT1 := Lib.hid T1
      obtain ⟨_, _, _, a0, a1, a2, a3, a4, b0, b1, b2, b3, b4⟩ := T1
      go_region_with (first
          | (go_at_call 10; (with_reducible refine (few_at v A c A' c' HV.out.l HV.out.t H1.out _ _ ?_ ?_).mono ?_); (first | exact Blk.fresh_drew _ _ _ | exact Blk.fresh _ _ _); (exact (HT1.out.drew.alloc _).1); rintro e w3 ⟨rfl, bk⟩; have T3 := HT1.out.keep (next_below ((Below.refl _ _).alloc (Nat.le_refl _) _) (below_undrew bk)); have HT3 := Lib.hid T3; obtain ⟨_, _, _, p0, p1, p2, p3, p4, q0, q1, q2, q3, q4⟩ := T3)
          | (go_at_call 10; (with_reducible refine (few_not u D d D' d' HU.out.l HU.out.t H2.out _ _ ?_ ?_).mono ?_); (first | exact Blk.fresh_drew _ _ _ | exact Blk.fresh _ _ _); (exact (HT3.out.alloc _).1); rintro e w4 ⟨rfl, bk4⟩; have HB4 := Lib.hid (next_below HT3.out.1 (next_below ((Below.refl _ _).alloc (Nat.le_refl _) _) bk4))))
      all_goals
        go_wp2_with fail
        go_ret
        exact ⟨rfl, HB4.out⟩
  · have H1 := Lib.hid h1
    clear h1
    have HT1 := Lib.hid T1
    obtain ⟨_, _, _, a0, a1, a2, a3, a4, b0, b1, b2, b3, b4⟩ := T1
    go_region_with ((go_at_call 10; refine (few_not v A c A' c' HV.out.l HV.out.t H1.out _ _ (by first | exact Blk.fresh_drew _ _ _ | exact Blk.fresh _ _ _) (HT1.out.drew.alloc _).1).mono ?_; rintro e w4 ⟨rfl, bk4⟩; have HB4 := Lib.hid (next_below HT1.out.1 (next_below ((Below.refl _ _).alloc (Nat.le_refl _) _) (below_undrew bk4)))))
    all_goals
      go_wp2_with fail
      go_ret
      exact ⟨rfl, HB4.out⟩
end Wire
end Go.Proofs.Ytionidjhfcmgiaa

import Derived.Test.YtionidjhfcmgiaaRead2
import Derived.Test.YtionidjhfcmgiaaList
import Derived.Deep.QuietTactic
import Derived.BigQuiet
import Derived.Deep.Draws
namespace Go.Proofs.Ytionidjhfcmgiaa
open Go.RowKit
set_option linter.unusedVariables false
set_option linter.unusedSimpArgs false
namespace Wire

theorem small_n0 (w : World) : Calls Try.prog 11 #[.int .i64 0] w fun e w' => e = .returned (.string ⟨#[48, 59]⟩) ∧ Below w.heap.size w w' := num_any 0 (by omega) w
theorem small_n300 (w : World) : Calls Try.prog 11 #[.int .i64 300] w fun e w' => e = .returned (.string ⟨#[51, 48, 48, 59]⟩) ∧ Below w.heap.size w w' := num_any 300 (by omega) w
theorem small_nm1 (w : World) : Calls Try.prog 11 #[.int .i64 (-1)] w fun e w' => e = .returned (.string ⟨#[]⟩) ∧ Below w.heap.size w w' := num_neg (-1) (by omega) w
theorem small_im7 (w : World) : Calls Try.prog 13 #[.int .i64 (-7)] w fun e w' => e = .returned (.string ⟨#[45, 55, 59]⟩) ∧ Below w.heap.size w w' := int_neg 7 (by omega) (by omega) w
theorem small_i7 (w : World) : Calls Try.prog 13 #[.int .i64 7] w fun e w' => e = .returned (.string ⟨#[55, 59]⟩) ∧ Below w.heap.size w w' := int_pos 7 (by omega) w
theorem small_text (w : World) : Calls Try.prog 15 #[.string ⟨#[97, 44, 98]⟩] w fun e w' => e = .returned (.string ⟨#[51, 58, 97, 44, 98, 44]⟩) ∧ Below w.heap.size w w' := text_any ⟨#[97, 44, 98]⟩ (by show 3 ≤ _; omega) w
theorem small_row (w : World) : Row (w.alloc (.cells #[.int .i64 1, .int .i64 (-1)] 3)) (w.alloc (.cells #[.int .i64 1, .int .i64 (-1)] 3)).heap.size (some ⟨w.heap.size, 0, none⟩) ([1, -1].map (Value.int .i64)) := by
  intro k u hu
  refine ⟨_, _, rfl, by simp, ?_⟩
  rw [(Blk.fresh w _ _).at, Nat.zero_add]
  rw [← hu]
  exact (List.getElem?_toArray (xs := [Value.int .i64 1, Value.int .i64 (-1)]) (i := k))
theorem small_nums (w : World) : Calls Try.prog 17 #[.slice (some ⟨w.heap.size, 0, none⟩) 2 2] (w.alloc (.cells #[.int .i64 1, .int .i64 (-1)] 3)) fun e w' => e = .returned (.string ⟨#[50, 91, 49, 59, 45, 49, 59, 93]⟩) ∧ Below (w.alloc (.cells #[.int .i64 1, .int .i64 (-1)] 3)).heap.size (w.alloc (.cells #[.int .i64 1, .int .i64 (-1)] 3)) w' :=
  nums_any (some ⟨w.heap.size, 0, none⟩) 2 [1, -1] _ (small_row w) (fun z hz => by simp at hz; omega) (by show 2 ≤ _; omega)
theorem small_texts (w : World) : Calls Try.prog 19 #[.slice none 0 0] w fun e w' => e = .returned (.string ⟨#[48, 91, 93]⟩) ∧ Below w.heap.size w w' :=
  texts_any none 0 [] w (fun k u hu => by simp at hu) (by show 0 ≤ _; omega) (by show 0 ≤ _; omega)
theorem small_open (w : World) : Calls Try.prog 21 #[.string ⟨#[48, 48, 55, 59]⟩] w fun e w' => e = .returned (ptr w.heap.size) ∧ RS w' w.heap.size (some [48, 48, 55, 59]) ∧ Below w.heap.size w w' ∧ w'.heap.size = w.heap.size + 1 := open_any _ w
theorem small_read (g : Nat) (w : World) (h : RS w g (some [48, 48, 55, 59])) : Calls Try.prog 24 #[ptr g] w fun e w' => e = .returned (.int .i64 0) ∧ RS w' g none ∧ w.grownBy w' (some g) :=
  rnum_bad g _ w h (by show 4 ≤ _; omega) rfl
theorem small_left (g : Nat) (w : World) (h : RS w g none) : Calls Try.prog 36 #[ptr g] w fun e w' => e = .returned (.int .i64 0) ∧ w = w' := left_any g none w h

set_option maxHeartbeats 1000000 in
theorem small_any (w : World) : Calls Try.prog 9 #[] w fun e w' => e = .returned (.bool true) ∧ Below w.heap.size w w' := by
  go_enter Try.func9, Try.ntmps9
  go_wp2_with (first
    | (go_at_call 11; ((with_reducible refine (small_n0 _).mono ?_); rintro e w1 ⟨rfl, b1⟩))
    | (go_at_call 11; ((with_reducible refine (small_n300 _).mono ?_); rintro e w2 ⟨rfl, b2⟩))
    | (go_at_call 11; ((with_reducible refine (small_nm1 _).mono ?_); rintro e w3 ⟨rfl, b3⟩))
    | (go_at_call 13; ((with_reducible refine (small_im7 _).mono ?_); rintro e w4 ⟨rfl, b4⟩))
    | (go_at_call 13; ((with_reducible refine (small_i7 _).mono ?_); rintro e w5 ⟨rfl, b5⟩))
    | (go_at_call 15; ((with_reducible refine (small_text _).mono ?_); rintro e w6 ⟨rfl, b6⟩))
    | (go_at_call 17; ((with_reducible refine (small_nums _).mono ?_); rintro e w7 ⟨rfl, b7⟩))
    | (go_at_call 19; ((with_reducible refine (small_texts _).mono ?_); rintro e w8 ⟨rfl, b8⟩))
    | (go_at_call 21; ((with_reducible refine (small_open _).mono ?_); rintro e w9 ⟨rfl, r9, b9, z9⟩; have Z9 := Lib.hid z9; clear z9))
    | (go_at_call 24; ((with_reducible refine (small_read _ _ r9).mono ?_); rintro e w10 ⟨rfl, r10, b10⟩))
    | (go_at_call 36; ((with_reducible refine (small_left _ _ r10).mono ?_); rintro e w' ⟨rfl, rfl⟩))
    | (go_at_call 38; ((with_reducible refine (done_none _ _ r10).mono ?_); rintro e w' ⟨rfl, rfl⟩)))
  go_ret
  have q := next_below (next_below (next_below (next_below (next_below b1 b2) b3) b4) b5) b6
  have q8 := next_below (next_below (q.alloc q.size _) (b7.mono (Nat.le_refl _))) b8
  have q9 := next_below q8 b9
  exact ⟨rfl, q9.trans (grown_below b10 q8.size q9.size)⟩

/-- A value of the statements. -/
structure Val where
  kind : Int
  n : Int
  s : ByteArray
  l : List Int
  t : List ByteArray

/-- How much a value holds. -/
def Val.bulk (v : Val) : Nat := v.s.size + v.l.length + v.t.length + (v.t.map (·.size)).sum

/-- The cells of a value: its lists lie below block B. -/
def ValCells (w : World) (B : Nat) (cs : List Value) (v : Val) : Prop :=
  ∃ A c A' c', cs = [.int .i64 v.kind, .int .i64 v.n, .string v.s, .slice A v.l.length c, .slice A' v.t.length c'] ∧ Row w B A (v.l.map (Value.int .i64)) ∧ Row w B A' (v.t.map Value.string)

/-- A slice of values. -/
def Vals (w : World) (B : Nat) (A : Option Addr) (vs : List Val) : Prop :=
  ∀ i v, vs[i]? = some v → ∃ b o cs, A = some ⟨b, o, none⟩ ∧ b < B ∧ ValCells w B cs v ∧ ∀ j u, cs[j]? = some u → w.cell? ⟨b, o + i * 5 + j, none⟩ = some u

def bulks (vs : List Val) : Nat := (vs.map Val.bulk).sum

def FewPost (w : World) (vs : List Val) (e : Ending) (w' : World) : Prop := ∃ b, e = .returned (.bool b) ∧ (b = true ↔ vs.length ≤ 20 ∧ bulks vs ≤ 400) ∧ ∃ q, w' = w.drewN q

theorem drew_more (w : World) (q r : Nat) : (w.drewN q).drewN r = w.drewN (q + r) := by
  simp [World.drewN, Nat.add_assoc]

theorem FewPost.no (w : World) (vs : List Val) (q : Nat) (h : ¬ (vs.length ≤ 20 ∧ bulks vs ≤ 400)) : FewPost w vs (.returned (.bool false)) (w.drewN q) := ⟨false, rfl, ⟨(fun h' => by cases h'), (fun h' => absurd h' h)⟩, q, rfl⟩

structure FewRel (W : World) (vs : List Val) (nv iv : Value) (w : World) (i : Nat) : Prop where
  nv : nv = .int .i64 (bulks (vs.take i) : Nat)
  iv : iv = .int .i64 i
  le : i ≤ vs.length
  low : bulks (vs.take i) ≤ 161200 * i
  same : ∃ q, w = W.drewN q

def sizes (ts : List ByteArray) : Nat := (ts.map (·.size)).sum
theorem sizes_succ (ts : List ByteArray) (k : Nat) (h : k < ts.length) : sizes (ts.take (k + 1)) = sizes (ts.take k) + ts[k].size := by
  unfold sizes
  rw [List.take_succ_eq_append_getElem h, List.map_append, List.sum_append]
  simp only [List.map_cons, List.map_nil, List.sum_cons, List.sum_nil, Nat.add_zero]
theorem bulks_succ (vs : List Val) (k : Nat) (h : k < vs.length) : bulks (vs.take (k + 1)) = bulks (vs.take k) + vs[k].bulk := by
  unfold bulks
  rw [List.take_succ_eq_append_getElem h, List.map_append, List.sum_append]
  simp only [List.map_cons, List.map_nil, List.sum_cons, List.sum_nil, Nat.add_zero]

theorem bulks_at (vs : List Val) (k : Nat) (h : k < vs.length) : vs[k].bulk ≤ bulks vs := by
  have h1 := bulks_succ vs k h
  have h2 : bulks (vs.take (k + 1)) ≤ bulks vs := by
    conv => rhs; rw [← List.take_append_drop (k + 1) vs]
    unfold bulks
    rw [List.map_append, List.sum_append]
    omega
  omega
theorem sizes_at (ts : List ByteArray) (k : Nat) (h : k < ts.length) : ts[k].size ≤ sizes ts := by
  have h1 := sizes_succ ts k h
  have h2 : sizes (ts.take (k + 1)) ≤ sizes ts := by
    conv => rhs; rw [← List.take_append_drop (k + 1) ts]
    unfold sizes
    rw [List.map_append, List.sum_append]
    omega
  omega
theorem bulk_is (v : Val) : v.bulk = v.s.size + v.l.length + v.t.length + sizes v.t := rfl

structure InRel (W : World) (base : Nat) (ts : List ByteArray) (nv kv : Value) (w : World) (k : Nat) : Prop where
  nv : nv = .int .i64 (base + sizes (ts.take k) : Nat)
  kv : kv = .int .i64 k
  le : k ≤ ts.length
  low : sizes (ts.take k) ≤ 400 * k
  same : ∃ q, w = W.drewN q

theorem FewRel.step {W : World} {vs : List Val} {i q : Nat} (h : i < vs.length) (hlow : bulks (vs.take i) ≤ 161200 * i) (ht : vs[i].t.length ≤ 400) (hl : vs[i].l.length ≤ 400) (hs : vs[i].s.size ≤ 400) (hz : sizes vs[i].t ≤ 400 * vs[i].t.length) :
    FewRel W vs (.int .i64 ((bulks (vs.take i) + vs[i].s.size + vs[i].l.length + vs[i].t.length : Nat) + sizes (vs[i].t.take vs[i].t.length) : Nat)) (.int .i64 ((i : Int) + 1)) (W.drewN q) (i + 1) := by
  have e := bulks_succ vs i h
  have e2 : vs[i].bulk = vs[i].s.size + vs[i].l.length + vs[i].t.length + sizes vs[i].t := rfl
  refine ⟨?_, by simp, h, by omega, q, rfl⟩
  rw [e, e2, List.take_length]
  congr 2
  omega

set_option maxRecDepth 100000 in
set_option maxHeartbeats 2000000 in
theorem few_any (A : Option Addr) (c : Nat) (vs : List Val) (w : World) (hv : Vals w w.heap.size A vs) :
    Calls Try.prog 10 #[.slice A vs.length c] w (FewPost w vs) := by
  have HV := Lib.hid hv
  clear hv
  by_cases h20 : vs.length ≤ 20
  · go_enter Try.func10, Try.ntmps10
    go_wp2_with fail
    go_loopw [3, 4] (fun nv iv wr => ∃ i, FewRel w vs nv iv wr i) (fun _ iv _ => vs.length - (intOf iv).toNat)
    case atStart => exact ⟨0, rfl, rfl, Nat.zero_le _, Nat.le_refl _, 0, rfl⟩
    case round =>
      obtain ⟨i, ⟨rfl, rfl, hi, hlow, q, rfl⟩⟩ := hrel
      have HL := Lib.hid hlow
      by_cases hlt : i < vs.length
      · obtain ⟨b, o, cs, rfl, had, ⟨A1, c1, A2, c2, rfl, hr1, hr2⟩, hcell⟩ := HV.out i vs[i] (List.getElem?_eq_getElem hlt)
        have HS : ∀ q, vs[i].t.length ≤ 400 → vs[i].l.length ≤ 400 → vs[i].s.size ≤ 400 → sizes vs[i].t ≤ 400 * vs[i].t.length → FewRel w vs (.int .i64 ((bulks (vs.take i) + vs[i].s.size + vs[i].l.length + vs[i].t.length : Nat) + sizes (vs[i].t.take vs[i].t.length) : Nat)) (.int .i64 ((i : Int) + 1)) (w.drewN q) (i + 1) :=
          fun q a b c d => FewRel.step hlt hlow a b c d
        have hbk := bulks_at vs i hlt
        generalize vs[i] = v at *
        have HSS := Lib.hid HS
        have HBK := Lib.hid hbk
        have k2 : w.cell? ⟨b, o + i * 5 + 2, none⟩ = some (.string v.s) := hcell 2 _ rfl
        have k3 : w.cell? ⟨b, o + i * 5 + 3, none⟩ = some (.slice A1 v.l.length c1) := hcell 3 _ rfl
        have k4 : w.cell? ⟨b, o + i * 5 + 4, none⟩ = some (.slice A2 v.t.length c2) := hcell 4 _ rfl
        have H1 := Lib.hid hr1
        have H2 := Lib.hid hr2
        clear hcell hr1 hr2 HS hbk
        by_cases hs1 : v.l.length ≤ 400
        · by_cases hs2 : v.t.length ≤ 400
          · by_cases hs3 : v.s.size ≤ 400
            · have hlow2 : bulks (vs.take i) ≤ 10000000 := by omega
              clear hlow
              go_wp2_with fail
              go_quiet (fail)
              go_wp2_with fail
              go_loopw [3, 5] (fun nv kv wr => ∃ k, InRel w (bulks (vs.take i) + v.s.size + v.l.length + v.t.length) v.t nv kv wr k) (fun _ kv _ => v.t.length - (intOf kv).toNat)
              case atStart => exact ⟨0, by simp [sizes], rfl, Nat.zero_le _, Nat.le_refl _, _, drew_more _ _ _⟩
              case round =>
                obtain ⟨k, ⟨rfl, rfl, hk, hsz, q2, rfl⟩⟩ := hrel
                have HZ := Lib.hid hsz
                have hb : bulks (vs.take i) + v.s.size + v.l.length + v.t.length + sizes (v.t.take k) ≤ 100000000 := by omega
                clear hsz
                by_cases hkt : k < v.t.length
                · obtain ⟨b2, o2, rfl, _, hcell2⟩ := H2.out k (.string v.t[k]) (by rw [List.getElem?_map, List.getElem?_eq_getElem hkt]; rfl)
                  have e1 := Lib.hid (sizes_succ v.t k hkt)
                  have e2 := Lib.hid (sizes_at v.t k hkt)
                  generalize v.t[k] = t at *
                  by_cases ht4 : t.size ≤ 400
                  · go_wp2_with fail
                    go_roundw
                    case rel => exact ⟨k + 1, by rw [e1.out]; congr 1; omega, by simp, hkt, by have := e1.out; have := HZ.out; omega, q2, rfl⟩
                    case measure => simp [intOf]; omega
                  · go_wp2_with fail
                    go_ret
                    exact FewPost.no w vs q2 (by have := HBK.out; have := e2.out; have := bulk_is v; omega)
                · obtain rfl : v.t.length = k := by omega
                  go_wp2_with fail
                  go_roundw
                  case rel => exact ⟨i + 1, HSS.out q2 hs2 hs1 hs3 (by have := HZ.out; rwa [List.take_length] at this)⟩
                  case measure => simp [intOf]; omega
            · go_wp2_with fail
              go_ret
              exact FewPost.no w vs q (by have := HBK.out; have := bulk_is v; omega)
          · go_wp2_with fail
            go_ret
            exact FewPost.no w vs q (by have := HBK.out; have := bulk_is v; omega)
        · go_wp2_with fail
          go_ret
          exact FewPost.no w vs q (by have := HBK.out; have := bulk_is v; omega)
      · obtain rfl : vs.length = i := by omega
        go_wp2_with fail
        go_ret
        exact ⟨_, rfl, ⟨(fun h => ⟨h20, Int.ofNat_le.1 (of_decide_eq_true h)⟩), (fun h => decide_eq_true (Int.ofNat_le.2 h.2))⟩, q, rfl⟩
  · go_enter Try.func10, Try.ntmps10
    go_wp2_with fail
    go_ret
    exact FewPost.no w vs 0 (by omega)

theorem few_yes (A : Option Addr) (c : Nat) (vs : List Val) (w : World) (hv : Vals w w.heap.size A vs) (h : vs.length ≤ 20 ∧ bulks vs ≤ 400) :
    Calls Try.prog 10 #[.slice A vs.length c] w fun e w' => e = .returned (.bool true) ∧ Below w.heap.size w w' :=
  (few_any A c vs w hv).mono fun e w' ⟨b, he, hb, q, hw⟩ => by
    rw [hb.2 h] at he
    subst hw
    exact ⟨he, rfl, rfl, rfl, Nat.le_refl _, fun _ _ => rfl⟩

theorem few_no (A : Option Addr) (c : Nat) (vs : List Val) (w : World) (hv : Vals w w.heap.size A vs) (h : ¬ (vs.length ≤ 20 ∧ bulks vs ≤ 400)) :
    Calls Try.prog 10 #[.slice A vs.length c] w fun e w' => e = .returned (.bool false) ∧ Below w.heap.size w w' :=
  (few_any A c vs w hv).mono fun e w' ⟨b, he, hb, q, hw⟩ => by
    have : b = false := by
      cases b
      · rfl
      · exact absurd (hb.1 rfl) h
    rw [this] at he
    subst hw
    exact ⟨he, rfl, rfl, rfl, Nat.le_refl _, fun _ _ => rfl⟩
end Wire
end Go.Proofs.Ytionidjhfcmgiaa

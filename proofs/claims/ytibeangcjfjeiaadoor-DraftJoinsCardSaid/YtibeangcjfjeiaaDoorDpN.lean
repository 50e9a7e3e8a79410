/- Package draft's comparisons. -/
import Derived.Test.YtibeangcjfjeiaaDoorMgP
import Derived.Test.YtibeangcjfjeiaaDoorMgJ
import Derived.Test.YtibeangcjfjeiaaDoorDpA
import Derived.Deep.DeepMust
import Derived.Deep.DeepCutAuto
namespace Go.Proofs.YtibeangcjfjeiaaDoor
open Go.RowKit Txt Wire Lx Go.Shelf
set_option linter.unusedVariables false
set_option maxRecDepth 100000
set_option linter.unusedSimpArgs false
namespace Drf

abbrev big : Nat := 9223372036854775807
theorem row_ones {α : Type} {w : World} {B : Nat} {A : Option Addr} {f : α → Value} {l : List α} {z : α} (h : Row w B A (l.map f)) (hl : 0 < l.length) : ∃ b o, A = some ⟨b, o, none⟩ ∧ ∀ j, j < l.length → w.cell? ⟨b, o + j, none⟩ = some (f (l.getD j z)) := by
  obtain ⟨b, o, e, _, _⟩ := h 0 (f l[0]) (by rw [List.getElem?_map, List.getElem?_eq_getElem hl]; rfl)
  refine ⟨b, o, e, fun j hj => ?_⟩
  obtain ⟨b', o', e', _, hc⟩ := h j (f l[j]) (by rw [List.getElem?_map, List.getElem?_eq_getElem hj]; rfl)
  rw [e] at e'
  injection e' with e'
  injection e' with e1 e2
  subst e1 e2
  rw [List.getD_eq_getElem?_getD, List.getElem?_eq_getElem hj]
  exact hc
theorem drewN_below (w : World) (q : Nat) : Below w.heap.size w (w.drewN q) := below_drew w q
set_option maxHeartbeats 1000000 in
theorem peqS_lens {A B : Option Addr} {n m c d : Nat} (h : n ≠ m) (w : World) : Calls Tryd.prog 36 #[.slice A n c, .slice B m d] w fun e w' => e = .returned (.bool false) ∧ w' = w := by
  have hn : ((n : Int) == (m : Int)) = false := beq_eq_false_iff_ne.2 (by omega)
  have hn2 : ((n : Int) != (m : Int)) = true := bne_iff_ne.2 (by omega)
  go_enter Tryd.func36, Tryd.ntmps36
  go_wp2_with fail
  go_ret
  exact ⟨rfl, rfl⟩
set_option maxHeartbeats 1000000 in
theorem peqI_lens {A B : Option Addr} {n m c d : Nat} (h : n ≠ m) (w : World) : Calls Tryd.prog 38 #[.slice A n c, .slice B m d] w fun e w' => e = .returned (.bool false) ∧ w' = w := by
  have hn : ((n : Int) == (m : Int)) = false := beq_eq_false_iff_ne.2 (by omega)
  have hn2 : ((n : Int) != (m : Int)) = true := bne_iff_ne.2 (by omega)
  go_enter Tryd.func38, Tryd.ntmps38
  go_wp2_with fail
  go_ret
  exact ⟨rfl, rfl⟩
theorem peqS_any {w : World} {a b : Value} {l m : List (List UInt8)} (ha : HasTexts w a l) (hb : HasTexts w b m) (hl : l.length ≤ big) (hm : m.length ≤ big) :
    Calls Tryd.prog 36 #[a, b] w fun e w' => e = .returned (.bool (decide (l = m))) ∧ Below w.heap.size w w' := by
  obtain ⟨A, c, rfl, _, ra⟩ := ha
  obtain ⟨B, d, rfl, _, rb⟩ := hb
  by_cases e : l.length = m.length
  · by_cases h0 : l.length = 0
    · obtain rfl : l = [] := List.eq_nil_of_length_eq_zero h0
      obtain rfl : m = [] := List.eq_nil_of_length_eq_zero (by rw [← e]; rfl)
      refine (Tryd.slices_Equal_string_empty A B c 0 d w (by omega)).mono ?_
      rintro e w' ⟨rfl, rfl⟩
      exact ⟨by simp, Below.refl _ _⟩
    · have hstr : ∀ l : List (List UInt8), l.map str = (l.map fun x => (⟨x.toArray⟩ : ByteArray)).map Value.string := fun l => by rw [List.map_map]; rfl
      rw [hstr] at ra rb
      obtain ⟨b1, o1, rfl, h1⟩ := row_ones (z := ByteArray.empty) ra (by simp; omega)
      obtain ⟨b2, o2, rfl, h2⟩ := row_ones (z := ByteArray.empty) rb (by simp; omega)
      refine (Tryd.slices_Equal_string b1 o1 l.length c b2 o2 m.length d _ _ w (by simp) (by simp) hl hm h1 h2).mono ?_
      rintro e w' ⟨rfl, q, rfl⟩
      refine ⟨?_, drewN_below w q⟩
      rw [List.take_of_length_le (by simp), List.take_of_length_le (by simp)]
      congr 2
      rw [Bool.eq_iff_iff]
      simp only [decide_eq_true_eq]
      constructor
      · intro h
        have := congrArg (List.map bl) h
        rw [List.map_map, List.map_map] at this
        simpa [Function.comp_def] using this
      · rintro rfl
        rfl
  · refine (peqS_lens e w).mono ?_
    rintro e' w' ⟨rfl, rfl⟩
    exact ⟨congrArg (fun b => Ending.returned (.bool b)) (decide_eq_false fun k => e (by rw [k])).symm, Below.refl _ _⟩
theorem peqI_any {w : World} {a b : Value} {l m : List Int} (ha : HasInts w a l) (hb : HasInts w b m) (hl : l.length ≤ big) (hm : m.length ≤ big) :
    Calls Tryd.prog 38 #[a, b] w fun e w' => e = .returned (.bool (decide (l = m))) ∧ Below w.heap.size w w' := by
  obtain ⟨A, c, rfl, _, ra⟩ := ha
  obtain ⟨B, d, rfl, _, rb⟩ := hb
  by_cases e : l.length = m.length
  · by_cases h0 : l.length = 0
    · obtain rfl : l = [] := List.eq_nil_of_length_eq_zero h0
      obtain rfl : m = [] := List.eq_nil_of_length_eq_zero (by rw [← e]; rfl)
      refine (Tryd.slices_Equal_int_empty A B c 0 d w (by omega)).mono ?_
      rintro e w' ⟨rfl, rfl⟩
      exact ⟨by simp, Below.refl _ _⟩
    · obtain ⟨b1, o1, rfl, h1⟩ := row_ones (z := 0) ra (by omega)
      obtain ⟨b2, o2, rfl, h2⟩ := row_ones (z := 0) rb (by omega)
      refine (Tryd.slices_Equal_int b1 o1 l.length c b2 o2 m.length d l m w (Nat.le_refl _) (Nat.le_refl _) hl hm h1 h2).mono ?_
      rintro e w' ⟨rfl, q, rfl⟩
      rw [List.take_length, List.take_length]
      refine ⟨?_, drewN_below w q⟩
      rw [show (l == m) = decide (l = m) from by rw [Bool.eq_iff_iff]; simp]
  · refine (peqI_lens e w).mono ?_
    rintro e' w' ⟨rfl, rfl⟩
    exact ⟨congrArg (fun b => Ending.returned (.bool b)) (decide_eq_false fun k => e (by rw [k])).symm, Below.refl _ _⟩
set_option maxHeartbeats 1000000 in
theorem same1_any {w : World} {a b : Value} {l m : List (List UInt8)} (ha : HasTexts w a l) (hb : HasTexts w b m) (hl : l.length ≤ big) (hm : m.length ≤ big) :
    Calls Tryd.prog 35 #[a, b] w fun e w' => e = .returned (.bool (decide (l = m))) ∧ Below w.heap.size w w' := by
  have HC := Lib.hid (peqS_any ha hb hl hm)
  obtain ⟨A, c, rfl, _, ra⟩ := ha
  obtain ⟨B, d, rfl, _, rb⟩ := hb
  clear ra rb hl hm
  generalize decide (l = m) = v at *
  generalize l.length = n at *
  generalize m.length = n2 at *
  go_enter Tryd.func35, Tryd.ntmps35
  go_wp2_with (go_at_call 36; go_must (
    refine HC.out.mono ?_; rintro e w1 ⟨rfl, b1⟩))
  go_ret
  exact ⟨rfl, b1⟩
/-- Two items are the same, but for the lines. -/
def sameI (x y : It) : Bool := decide (noline x = noline y)
theorem sameI_is (x y : It) : sameI x y = (decide (x.kind = y.kind) && decide (x.name = y.name) && decide (x.other = y.other) && decide (x.n = y.n)) := by
  obtain ⟨a, b, c, d, e⟩ := x
  obtain ⟨a', b', c', d', e'⟩ := y
  unfold sameI noline
  rw [Bool.eq_iff_iff]
  simp [and_assoc]
set_option maxHeartbeats 2000000 in
theorem same2_any {w : World} {x y : It} {u v : Value} (hu : HasInts w u x.n) (hv : HasInts w v y.n) (hl : x.n.length ≤ big) (hm : y.n.length ≤ big) :
    Calls Tryd.prog 37 #[.agg (itC x u).toArray, .agg (itC y v).toArray] w fun e w' => e = .returned (.bool (sameI x y)) ∧ Below w.heap.size w w' := by
  have HC : Hid (∀ o1 o2, Calls Tryd.prog 38 #[u, v] ((w.alloc o1).alloc o2) fun e w' => e = .returned (.bool (decide (x.n = y.n))) ∧ Below ((w.alloc o1).alloc o2).heap.size ((w.alloc o1).alloc o2) w') := Lib.hid fun o1 o2 => by
    have hb : Below w.heap.size w ((w.alloc o1).alloc o2) := ((Below.refl _ w).alloc (Nat.le_refl _) o1).alloc (by simp) o2
    exact peqI_any (hu.keep hb) (hv.keep hb) hl hm
  have HB : Hid (∀ o1 o2, Below w.heap.size w ((w.alloc o1).alloc o2)) := Lib.hid fun o1 o2 => ((Below.refl _ w).alloc (Nat.le_refl _) o1).alloc (by simp) o2
  rw [sameI_is]
  obtain ⟨A, c, rfl, _, ra⟩ := hu
  obtain ⟨B, d, rfl, _, rb⟩ := hv
  obtain ⟨xk, xn, xo, xs, xl⟩ := x
  obtain ⟨yk, yn, yo, ys, yl⟩ := y
  obtain ⟨s1, rfl⟩ := mk_bl xn
  obtain ⟨s2, rfl⟩ := mk_bl yn
  obtain ⟨s3, rfl⟩ := mk_bl xo
  obtain ⟨s4, rfl⟩ := mk_bl yo
  clear ra rb hl hm
  simp only at *
  show Calls Tryd.prog 37 #[.agg #[.int .i64 xk, .int .i64 xl, .string s1, .string s3, .slice A xs.length c], .agg #[.int .i64 yk, .int .i64 yl, .string s2, .string s4, .slice B ys.length d]] w _
  have hse : ∀ {s t : ByteArray}, s ≠ t → (s.toList == t.toList) = false ∧ decide (bl s = bl t) = false := fun {s t} h => ⟨by
    rw [beq_eq_false_iff_ne, ByteArray.toList_eq, ByteArray.toList_eq]
    exact fun e => h (bl_inj e), decide_eq_false fun e => h (bl_inj e)⟩
  by_cases h1 : xk = yk
  case neg =>
    rw [decide_eq_false h1]
    have hk : (xk == yk) = false := beq_eq_false_iff_ne.2 h1
    clear hse h1 HC
    go_enter Tryd.func37, Tryd.ntmps37
    go_wp2_with fail
    go_ret
    exact ⟨rfl, HB.out _ _⟩
  subst h1
  by_cases h2 : s1 = s2
  case neg =>
    obtain ⟨e1, e2⟩ := hse h2
    rw [e2]
    clear hse h2 HC e2
    go_enter Tryd.func37, Tryd.ntmps37
    go_wp2_with fail
    go_ret
    exact ⟨by simp, HB.out _ _⟩
  subst h2
  by_cases h3 : s3 = s4
  case neg =>
    obtain ⟨e1, e2⟩ := hse h3
    rw [e2]
    clear hse h3 HC e2
    go_enter Tryd.func37, Tryd.ntmps37
    go_wp2_with fail
    go_ret
    exact ⟨by simp, HB.out _ _⟩
  subst h3
  have HD : Hid ((decide (xk = xk) && decide (bl s1 = bl s1) && decide (bl s3 = bl s3) && decide (xs = ys)) = decide (xs = ys)) := Lib.hid (by simp)
  rw [HD.out]
  generalize decide (xs = ys) = v at *
  generalize xs.length = n1 at *
  generalize ys.length = n2 at *
  clear hse HD
  go_enter Tryd.func37, Tryd.ntmps37
  go_wp2_with (go_at_call 38; go_must (
    refine (HC.out _ _).mono ?_; rintro e w1 ⟨rfl, b1⟩
    have B1 := Lib.hid ((HB.out _ _).trans (b1.mono (by simp; omega)))
    clear b1))
  go_ret
  exact ⟨rfl, B1.out⟩
/-- A slice of slices of strings, at one of them. -/
theorem HasDecks.at {w : World} {a : Value} {ds : List (List (List UInt8))} {vs : List Value} (h : HasDecks w a ds vs) : ∃ A c, a = .slice A ds.length c ∧ ∀ (i : Nat) (hi : i < ds.length), ∃ b o v, A = some ⟨b, o, none⟩ ∧ b < w.heap.size ∧ w.cell? ⟨b, o + i, none⟩ = some v ∧ HasTexts w v ds[i] := by
  obtain ⟨A, c, e, _, hr⟩ := h.is
  refine ⟨A, c, e, fun i hi => ?_⟩
  have hv := List.getElem?_eq_getElem (show i < vs.length by rw [h.len]; exact hi)
  obtain ⟨b, o, e2, h1, h2⟩ := hr i _ hv
  exact ⟨b, o, _, e2, h1, h2, h.each i _ _ hv (List.getElem?_eq_getElem hi)⟩
theorem HasItems.at {w : World} {a : Value} {l : List It} {us : List Value} (h : HasItems w a l us) : ∃ A c, a = .slice A l.length c ∧ ∀ (i : Nat) (hi : i < l.length), ∃ b o u, A = some ⟨b, o, none⟩ ∧ b < w.heap.size ∧ w.cell? ⟨b, o + i * 5, none⟩ = some (.int .i64 l[i].kind) ∧ w.cell? ⟨b, o + i * 5 + 1, none⟩ = some (.int .i64 l[i].line) ∧ w.cell? ⟨b, o + i * 5 + 2, none⟩ = some (str l[i].name) ∧ w.cell? ⟨b, o + i * 5 + 3, none⟩ = some (str l[i].other) ∧ w.cell? ⟨b, o + i * 5 + 4, none⟩ = some u ∧ HasInts w u l[i].n := by
  obtain ⟨A, c, e, _, hr⟩ := h.is
  refine ⟨A, c, e, fun i hi => ?_⟩
  obtain ⟨u, hu, hj⟩ := itsC_at l us i l[i] h.len (List.getElem?_eq_getElem hi)
  have at_ : ∀ j v, j < 5 → (itC l[i] u)[j]? = some v → ∃ b o, A = some ⟨b, o, none⟩ ∧ b < w.heap.size ∧ w.cell? ⟨b, o + (i * 5 + j), none⟩ = some v := fun j v h5 hv => by
    obtain ⟨b, o, e2, h1, h2⟩ := hr (i * 5 + j) v (by rw [hj j h5]; exact hv)
    exact ⟨b, o, e2, h1, h2⟩
  obtain ⟨b, o, rfl, hb, h0⟩ := at_ 0 _ (by omega) rfl
  have same : ∀ j v, j < 5 → (itC l[i] u)[j]? = some v → w.cell? ⟨b, o + i * 5 + j, none⟩ = some v := fun j v h5 hv => by
    obtain ⟨b', o', e', _, h'⟩ := at_ j v h5 hv
    injection e' with e'
    injection e' with e1 e2
    subst e1 e2
    rw [Nat.add_assoc]
    exact h'
  exact ⟨b, o, u, rfl, hb, h0, same 1 _ (by omega) rfl, same 2 _ (by omega) rfl, same 3 _ (by omega) rfl, same 4 _ (by omega) rfl, h.each i u _ hu (List.getElem?_eq_getElem hi)⟩
structure EqRel {α : Type} (W : World) (ys zs : List α) (iv : Value) (w : World) (i : Nat) : Prop where
  iv : iv = .int .i64 i
  le : i ≤ ys.length
  below : Below W.heap.size W w
  eq : ys.take i = zs.take i
theorem HasDecks.cell {w : World} {A : Option Addr} {n c : Nat} {ds : List (List (List UInt8))} {vs : List Value} (h : HasDecks w (.slice A n c) ds vs) {i : Nat} (hi : i < ds.length) : ∃ b o A1 n1 c1, A = some ⟨b, o, none⟩ ∧ b < w.heap.size ∧ w.cell? ⟨b, o + i, none⟩ = some (.slice A1 n1 c1) ∧ HasTexts w (.slice A1 n1 c1) ds[i] := by
  obtain ⟨A', c', e, h1⟩ := h.at
  injection e with e1 e2 e3
  subst e1
  obtain ⟨b, o, v, h2, h3, h4, h5⟩ := h1 i hi
  obtain ⟨A1, c1, rfl, h6⟩ := h5
  exact ⟨b, o, A1, _, c1, h2, h3, h4, A1, c1, rfl, h6⟩
theorem HasItems.cell {w : World} {A : Option Addr} {n c : Nat} {l : List It} {us : List Value} (h : HasItems w (.slice A n c) l us) {i : Nat} (hi : i < l.length) : ∃ b o A1 n1 c1, A = some ⟨b, o, none⟩ ∧ b < w.heap.size ∧ w.cell? ⟨b, o + i * 5, none⟩ = some (.int .i64 l[i].kind) ∧ w.cell? ⟨b, o + i * 5 + 1, none⟩ = some (.int .i64 l[i].line) ∧ w.cell? ⟨b, o + i * 5 + 2, none⟩ = some (str l[i].name) ∧ w.cell? ⟨b, o + i * 5 + 3, none⟩ = some (str l[i].other) ∧ w.cell? ⟨b, o + i * 5 + 4, none⟩ = some (.slice A1 n1 c1) ∧ HasInts w (.slice A1 n1 c1) l[i].n := by
  obtain ⟨A', c', e, h1⟩ := h.at
  injection e with e1 e2 e3
  subst e1
  obtain ⟨b, o, v, h2, h3, h4, h5, h6, h7, h8, h9⟩ := h1 i hi
  obtain ⟨A1, c1, rfl, h10⟩ := h9
  exact ⟨b, o, A1, _, c1, h2, h3, h4, h5, h6, h7, h8, A1, c1, rfl, h10⟩
set_option maxHeartbeats 2000000 in
theorem eqDecks_any {w : World} {A B : Option Addr} {n m c d : Nat} {ds es : List (List (List UInt8))} {vs us : List Value} (ha : HasDecks w (.slice A n c) ds vs) (hb : HasDecks w (.slice B m d) es us) (hn : n = ds.length) (hmm : m = es.length) (hl : ds.length ≤ big) (hm : es.length ≤ big) (h1 : ∀ ts ∈ ds, ts.length ≤ big) (h2 : ∀ ts ∈ es, ts.length ≤ big) :
    Calls Tryd.prog 39 #[.slice A n c, .slice B m d, .func (.func 35) #[] #[]] w fun e w' => e = .returned (.bool (decide (ds = es))) ∧ Below w.heap.size w w' := by
  have HA := Lib.hid ha
  have HB := Lib.hid hb
  have L1 := Lib.hid h1
  have L2 := Lib.hid h2
  have HN := Lib.hid hn
  have HM := Lib.hid hmm
  clear ha hb h1 h2
  have hnb : n ≤ 9223372036854775807 := by rw [hn]; exact hl
  have hmb : m ≤ 9223372036854775807 := by rw [hmm]; exact hm
  by_cases hlen : n = m
  · have hde : ds.length = es.length := by omega
    have HDE := Lib.hid hde
    subst hlen
    clear hn hmm hl hm hde
    go_enter Tryd.func39, Tryd.ntmps39
    go_wp2_with fail
    go_loopw [17] (fun iv wr => ∃ i, EqRel w ds es iv wr i) (fun iv _ => n - (intOf iv).toNat)
    case atStart => exact ⟨0, rfl, Nat.zero_le _, Below.refl _ _, rfl⟩
    case round =>
      obtain ⟨i, ⟨rfl, hi, hB, HE⟩⟩ := hrel
      by_cases hlt : i < n
      · have hi1 : i < ds.length := by rw [← HN.out]; exact hlt
        have hi2 : i < es.length := by rw [← HM.out]; exact hlt
        obtain ⟨b1, o1, A1, n1, c1, rfl, hb1, k1, t1⟩ := (HA.out.keep hB).cell hi1
        obtain ⟨b2, o2, A2, n2, c2, rfl, hb2, k2, t2⟩ := (HB.out.keep hB).cell hi2
        have HC := Lib.hid (same1_any t1 t2 (L1.out _ (List.getElem_mem hi1)) (L2.out _ (List.getElem_mem hi2)))
        have hy : ds.take (i + 1) = ds.take i ++ [ds[i]] := List.take_succ_eq_append_getElem hi1
        have hz : es.take (i + 1) = es.take i ++ [es[i]] := List.take_succ_eq_append_getElem hi2
        have HBB := Lib.hid hB
        by_cases he : ds[i] = es[i]
        · have HE2 := Lib.hid (show ds.take (i + 1) = es.take (i + 1) by rw [hy, hz, HE, he])
          rw [decide_eq_true he] at HC
          clear hy hz he t1 t2 hB HE
          go_wp2_with (go_at_call 35; go_must (
            refine HC.out.mono ?_; rintro e w2 ⟨rfl, bb⟩
            have B2 := Lib.hid (HBB.out.trans (bb.mono HBB.out.size))
            clear bb))
          go_roundw
          case rel => exact ⟨i + 1, by simp, by omega, B2.out, HE2.out⟩
          case measure => simp [intOf]; omega
        · have HNE := Lib.hid (show ¬ ds = es from fun h => he (by subst h; rfl))
          rw [decide_eq_false he] at HC
          clear hy hz he t1 t2 hB HE
          go_wp2_with (go_at_call 35; go_must (
            refine HC.out.mono ?_; rintro e w2 ⟨rfl, bb⟩
            have B2 := Lib.hid (HBB.out.trans (bb.mono HBB.out.size))
            clear bb))
          go_ret
          exact ⟨congrArg (fun b => Ending.returned (.bool b)) (decide_eq_false HNE.out).symm, B2.out⟩
      · obtain rfl : n = i := by have := HN.out; omega
        go_wp2_with fail
        go_ret
        refine ⟨?_, hB⟩
        rw [HN.out, List.take_length, HDE.out, List.take_length] at HE
        exact congrArg (fun b => Ending.returned (.bool b)) (decide_eq_true HE).symm
  · have hne : ((n : Int) != (m : Int)) = true := bne_iff_ne.2 (by omega)
    have HNE := Lib.hid (show ¬ ds = es from fun h => hlen (by rw [hn, hmm, h]))
    clear hn hmm hl hm
    go_enter Tryd.func39, Tryd.ntmps39
    go_wp2_with fail
    go_ret
    exact ⟨congrArg (fun b => Ending.returned (.bool b)) (decide_eq_false HNE.out).symm, Below.refl _ _⟩
structure EqRelI (W : World) (ys zs : List It) (iv : Value) (w : World) (i : Nat) : Prop where
  iv : iv = .int .i64 i
  le : i ≤ ys.length
  below : Below W.heap.size W w
  eq : (ys.map noline).take i = (zs.map noline).take i
set_option maxHeartbeats 2000000 in
theorem eqItems_any {w : World} {A B : Option Addr} {n m c d : Nat} {ds es : List It} {vs us : List Value} (ha : HasItems w (.slice A n c) ds vs) (hb : HasItems w (.slice B m d) es us) (hn : n = ds.length) (hmm : m = es.length) (hl : ds.length ≤ big) (hm : es.length ≤ big) (h1 : ∀ x ∈ ds, x.n.length ≤ big) (h2 : ∀ x ∈ es, x.n.length ≤ big) :
    Calls Tryd.prog 40 #[.slice A n c, .slice B m d, .func (.func 37) #[] #[]] w fun e w' => e = .returned (.bool (decide (ds.map noline = es.map noline))) ∧ Below w.heap.size w w' := by
  have HA := Lib.hid ha
  have HB := Lib.hid hb
  have L1 := Lib.hid h1
  have L2 := Lib.hid h2
  have HN := Lib.hid hn
  have HM := Lib.hid hmm
  clear ha hb h1 h2
  have hnb : n ≤ 9223372036854775807 := by rw [hn]; exact hl
  have hmb : m ≤ 9223372036854775807 := by rw [hmm]; exact hm
  by_cases hlen : n = m
  · have hde : ds.length = es.length := by omega
    have HDE := Lib.hid hde
    subst hlen
    clear hn hmm hl hm hde
    go_enter Tryd.func40, Tryd.ntmps40
    go_wp2_with fail
    go_loopw [17] (fun iv wr => ∃ i, EqRelI w ds es iv wr i) (fun iv _ => n - (intOf iv).toNat)
    case atStart => exact ⟨0, rfl, Nat.zero_le _, Below.refl _ _, rfl⟩
    case round =>
      obtain ⟨i, ⟨rfl, hi, hB, HE⟩⟩ := hrel
      by_cases hlt : i < n
      · have hi1 : i < ds.length := by rw [← HN.out]; exact hlt
        have hi2 : i < es.length := by rw [← HM.out]; exact hlt
        obtain ⟨b1, o1, A1, n1, c1, rfl, hb1, k0, k1, k2, k3, k4, t1⟩ := (HA.out.keep hB).cell hi1
        obtain ⟨b2, o2, A2, n2, c2, rfl, hb2, j0, j1, j2, j3, j4, t2⟩ := (HB.out.keep hB).cell hi2
        have HC : Hid (∀ w2, Below wr.heap.size wr w2 → Calls Tryd.prog 37 #[.agg #[.int .i64 ds[i].kind, .int .i64 ds[i].line, str ds[i].name, str ds[i].other, .slice A1 n1 c1], .agg #[.int .i64 es[i].kind, .int .i64 es[i].line, str es[i].name, str es[i].other, .slice A2 n2 c2]] w2 fun e w' => e = .returned (.bool (sameI ds[i] es[i])) ∧ Below w2.heap.size w2 w') := Lib.hid fun w2 hw2 => same2_any (t1.keep hw2) (t2.keep hw2) (L1.out _ (List.getElem_mem hi1)) (L2.out _ (List.getElem_mem hi2))
        have HBL : Hid (∀ o1 o2, Below wr.heap.size wr ((wr.alloc o1).alloc o2)) := Lib.hid fun o1 o2 => ((Below.refl _ wr).alloc (Nat.le_refl _) o1).alloc (by simp) o2
        have hy : (ds.map noline).take (i + 1) = (ds.map noline).take i ++ [noline ds[i]] := by
          rw [List.take_succ_eq_append_getElem (by simpa using hi1), List.getElem_map]
        have hz : (es.map noline).take (i + 1) = (es.map noline).take i ++ [noline es[i]] := by
          rw [List.take_succ_eq_append_getElem (by simpa using hi2), List.getElem_map]
        have HBB := Lib.hid hB
        by_cases he : noline ds[i] = noline es[i]
        · have HE2 := Lib.hid (show (ds.map noline).take (i + 1) = (es.map noline).take (i + 1) by rw [hy, hz, HE, he])
          have hs : sameI ds[i] es[i] = true := decide_eq_true he
          rw [hs] at HC
          clear hy hz he t1 t2 hB HE hs
          generalize ds[i] = y1 at *
          generalize es[i] = y2 at *
          go_wp2_with (go_at_call 37; go_must (
            refine (HC.out _ (HBL.out _ _)).mono ?_; rintro e w2 ⟨rfl, bb⟩
            have B2 := Lib.hid (HBB.out.trans ((HBL.out _ _).mono HBB.out.size) |>.trans (bb.mono (by have := HBB.out.size; simp; omega)))
            clear bb))
          go_roundw
          case rel => exact ⟨i + 1, by simp, by omega, B2.out, HE2.out⟩
          case measure => simp [intOf]; omega
        · have HNE := Lib.hid (show ¬ ds.map noline = es.map noline from fun h => he (by
            have h3 := congrArg (fun l => l[i]?) h
            simp only [List.getElem?_map, List.getElem?_eq_getElem hi1, List.getElem?_eq_getElem hi2, Option.map_some] at h3
            exact Option.some.inj h3))
          have hs : sameI ds[i] es[i] = false := decide_eq_false he
          rw [hs] at HC
          clear hy hz he t1 t2 hB HE hs
          generalize ds[i] = y1 at *
          generalize es[i] = y2 at *
          go_wp2_with (go_at_call 37; go_must (
            refine (HC.out _ (HBL.out _ _)).mono ?_; rintro e w2 ⟨rfl, bb⟩
            have B2 := Lib.hid (HBB.out.trans ((HBL.out _ _).mono HBB.out.size) |>.trans (bb.mono (by have := HBB.out.size; simp; omega)))
            clear bb))
          go_ret
          exact ⟨congrArg (fun b => Ending.returned (.bool b)) (decide_eq_false HNE.out).symm, B2.out⟩
      · obtain rfl : n = i := by have := HN.out; omega
        go_wp2_with fail
        go_ret
        refine ⟨?_, hB⟩
        rw [List.take_of_length_le (by rw [List.length_map, ← HN.out]; exact Nat.le_refl _), List.take_of_length_le (by rw [List.length_map, ← HDE.out, ← HN.out]; exact Nat.le_refl _)] at HE
        exact congrArg (fun b => Ending.returned (.bool b)) (decide_eq_true HE).symm
  · have hne : ((n : Int) != (m : Int)) = true := bne_iff_ne.2 (by omega)
    have HNE := Lib.hid (show ¬ ds.map noline = es.map noline from fun h => hlen (by
      have := congrArg List.length h
      simp only [List.length_map] at this
      omega))
    clear hn hmm hl hm
    go_enter Tryd.func40, Tryd.ntmps40
    go_wp2_with fail
    go_ret
    exact ⟨congrArg (fun b => Ending.returned (.bool b)) (decide_eq_false HNE.out).symm, Below.refl _ _⟩
/-- Lists that are not too long. -/
structure LimD (d : Df) : Prop where
  decks : d.decks.length ≤ big
  rows : ∀ ts ∈ d.decks, ts.length ≤ big
  items : d.items.length ≤ big
  nums : ∀ x ∈ d.items, x.n.length ≤ big
set_option maxHeartbeats 2000000 in
theorem same_any {w : World} {a b : Value} {x y : Df} (ha : HasDf w a x) (hb : HasDf w b y) (lx : LimD x) (ly : LimD y) : Calls Tryd.prog 16 #[a, b] w fun e w' => e = .returned (.bool (sameP x y)) ∧ Below w.heap.size w w' := by
  obtain ⟨a1, a2, vs1, us1, rfl, h1, h2⟩ := ha
  obtain ⟨b1, b2, vs2, us2, rfl, g1, g2⟩ := hb
  obtain ⟨A1, c1, rfl, -⟩ := h1.at
  obtain ⟨A2, c2, rfl, -⟩ := h2.at
  obtain ⟨B1, d1, rfl, -⟩ := g1.at
  obtain ⟨B2, d2, rfl, -⟩ := g2.at
  have HC1 : Hid (∀ w2, Below w.heap.size w w2 → Calls Tryd.prog 39 #[.slice A1 x.decks.length c1, .slice B1 y.decks.length d1, .func (.func 35) #[] #[]] w2 fun e w' => e = .returned (.bool (decide (x.decks = y.decks))) ∧ Below w2.heap.size w2 w') := Lib.hid fun w2 h => eqDecks_any (h1.keep h) (g1.keep h) rfl rfl lx.decks ly.decks lx.rows ly.rows
  have HC2 : Hid (∀ w2, Below w.heap.size w w2 → Calls Tryd.prog 40 #[.slice A2 x.items.length c2, .slice B2 y.items.length d2, .func (.func 37) #[] #[]] w2 fun e w' => e = .returned (.bool (decide (x.items.map noline = y.items.map noline))) ∧ Below w2.heap.size w2 w') := Lib.hid fun w2 h => eqItems_any (h2.keep h) (g2.keep h) rfl rfl lx.items ly.items lx.nums ly.nums
  have HB : Hid (∀ o1 o2, Below w.heap.size w ((w.alloc o1).alloc o2)) := Lib.hid fun o1 o2 => ((Below.refl _ w).alloc (Nat.le_refl _) o1).alloc (by simp) o2
  have HQ : Hid (∀ cs ds t, Blk ((w.alloc (.cells cs t)).alloc (.cells ds t)) w.heap.size t cs ∧ Blk ((w.alloc (.cells cs t)).alloc (.cells ds t)) (w.heap.size + 1) t ds) := Lib.hid fun cs ds t => ⟨(Blk.fresh w t cs).kept _, by have := Blk.fresh (w.alloc (.cells cs t)) t ds; simpa using this⟩
  clear h1 h2 g1 g2
  unfold sameP
  generalize decide (x.items.map noline = y.items.map noline) = v2 at *
  generalize decide (x.decks = y.decks) = v1 at *
  generalize x.decks.length = n1 at *
  generalize y.decks.length = n2 at *
  generalize x.items.length = n3 at *
  generalize y.items.length = n4 at *
  clear lx ly
  cases v1 with
  | true =>
    go_enter Tryd.func16, Tryd.ntmps16
    go_wp2_with (first
      | (go_at_call 39; go_must (
         refine (HC1.out _ (HB.out _ _)).mono ?_; rintro e w2 ⟨rfl, bb⟩
         have q1 := (HQ.out #[.slice A1 n1 c1, .slice A2 n3 c2] #[.slice B1 n2 d1, .slice B2 n4 d2] 25).1.under bb (by simp; omega)
         have q2 := (HQ.out #[.slice A1 n1 c1, .slice A2 n3 c2] #[.slice B1 n2 d1, .slice B2 n4 d2] 25).2.under bb (by simp)
         have t1 : w2.cell? ⟨w.heap.size, 1, none⟩ = some (.slice A2 n3 c2) := q1.at 1
         have t2 : w2.cell? ⟨w.heap.size + 1, 1, none⟩ = some (.slice B2 n4 d2) := q2.at 1
         have B2' := Lib.hid ((HB.out _ _).trans (bb.mono (by simp; omega)))
         clear bb q1 q2))
      | (go_at_call 40; go_must (
         refine (HC2.out _ B2'.out).mono ?_; rintro e w3 ⟨rfl, bb⟩
         have B3' := Lib.hid (B2'.out.trans (bb.mono B2'.out.size))
         clear bb)))
    go_ret
    exact ⟨by simp, B3'.out⟩
  | false =>
    go_enter Tryd.func16, Tryd.ntmps16
    go_wp2_with (go_at_call 39; go_must (
      refine (HC1.out _ (HB.out _ _)).mono ?_; rintro e w2 ⟨rfl, bb⟩
      have B2' := Lib.hid ((HB.out _ _).trans (bb.mono (by simp; omega)))
      clear bb))
    go_ret
    exact ⟨by simp, B2'.out⟩
end Drf
end Go.Proofs.YtibeangcjfjeiaaDoor

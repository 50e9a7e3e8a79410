/- Package draft's Print. -/
import Derived.Test.YtibeangcjfjeiaaDoorDpS
import Derived.Test.YtibeangcjfjeiaaDoorMgU
import Derived.Test.YtibeangcjfjeiaaDoorMgH
import Derived.Test.YtibeangcjfjeiaaDoorMgW
import Derived.Test.YtibeangcjfjeiaaDoorMgJ
namespace Go.Proofs.YtibeangcjfjeiaaDoor
open Go.RowKit Txt Wire Lx
set_option linter.unusedVariables false
set_option maxRecDepth 100000
set_option linter.unusedSimpArgs false
namespace Drf

theorem take_flat {α : Type} (g : α → List UInt8) (l : List α) (i : Nat) : ((l.take i).flatMap g).length ≤ (l.flatMap g).length := by
  conv => rhs; rw [← List.take_append_drop i l, List.flatMap_append, List.length_append]
  omega
theorem mem_flat {α : Type} (g : α → List UInt8) {l : List α} {x : α} (h : x ∈ l) : (g x).length ≤ (l.flatMap g).length := by
  obtain ⟨a, b, rfl⟩ := List.append_of_mem h
  simp only [List.flatMap_append, List.flatMap_cons, List.length_append]
  omega
theorem flat_next {α : Type} {g : α → List UInt8} {P : List UInt8} {l : List α} {i : Nat} (hi : i < l.length) : P ++ (l.take (i + 1)).flatMap g = P ++ (l.take i).flatMap g ++ g l[i] := by
  rw [List.take_succ_eq_append_getElem hi, List.flatMap_append]
  simp
def rowB (r : List UInt8) : List UInt8 := [114, 111, 119, 32] ++ quo r ++ [10]
theorem deckB_is (rows : List (List UInt8)) : deckB rows = [100, 101, 99, 107, 10] ++ rows.flatMap rowB := rfl
/-- Between two rounds of a loop that writes. -/
structure BRel {α : Type} (W : World) (P : List UInt8) (g : α → List UInt8) (l : List α) (iv : Value) (w : World) (i : Nat) : Prop where
  iv : iv = .int .i64 i
  le : i ≤ l.length
  below : Below W.heap.size W w
  out : Bld.Is W.heap.size W.heap.size (P ++ (l.take i).flatMap g) w
theorem lpR_len (x : It) : ∀ (ps : List UInt8) (l : List Int) (acc : List (List UInt8)), acc.length ≤ (lpR x ps l acc).length ∧ (lpR x ps l acc).length ≤ acc.length + ps.length
  | [], _, acc => ⟨Nat.le_refl _, Nat.le_refl _⟩
  | p :: ps, l, acc => by
    unfold lpR
    have f := fun l (s : List UInt8) => lpR_len x ps l (acc ++ [s])
    have g := lpR_len x ps l acc
    simp only [List.length_append, List.length_singleton] at f
    simp only [List.length_cons]
    split
    · have := f l x.name; omega
    · split
      · split
        · omega
        · have := f l x.name; omega
      · split
        · have := f l x.other; omega
        · split
          · omega
          · rename_i z l
            split
            · have := f l (decI z); omega
            · have := f l (dirW z.toNat); omega
theorem words_few {x : It} (h : rightIt x = true) : 0 < (wordsOf x).length ∧ (wordsOf x).length ≤ 9 := by
  obtain ⟨k, hk, h6⟩ := right_kind_lt h
  have := lpR_len x (places x.kind.toNat) x.n [wordOf x.kind.toNat]
  have hp := places_few k h6
  rw [hk] at this
  unfold wordsOf
  rw [hk]
  simp only [List.length_singleton] at this
  simp only [Int.toNat_natCast] at *
  omega
theorem join_any {w : World} {v : Value} {ws : List (List UInt8)} (h : HasTexts w v ws) (h0 : 0 < ws.length) (h1 : ws.length ≤ 9) (hlen : (Lib.join ws [32]).length ≤ 1000) :
    Calls Tryd.prog 30 #[v, .string ⟨#[32]⟩] w fun e w' => e = .returned (str (Lib.join ws [32])) ∧ Below w.heap.size w w' := by
  obtain ⟨A, c, rfl, hc, hr⟩ := h
  obtain ⟨b, o, rfl, hb, -⟩ := hr 0 (str ws[0]) (by rw [List.getElem?_map, List.getElem?_eq_getElem h0]; rfl)
  have e : (ws.map fun l => (⟨l.toArray⟩ : ByteArray)).map (·.data.toList) = ws := by
    rw [List.map_map]
    conv => rhs; rw [← List.map_id ws]
    rfl
  have := Tryd.strings_Join b o c (ws.map fun l => ⟨l.toArray⟩) ⟨#[32]⟩ w (fun j y hy => by
    rw [List.getElem?_map] at hy
    obtain ⟨l, hl, rfl⟩ := Option.map_eq_some_iff.1 hy
    obtain ⟨b', o', e', _, h4⟩ := hr j (str l) (by rw [List.getElem?_map, hl]; rfl)
    injection e' with e'
    injection e' with e1 e2
    subst e1 e2
    exact h4) hb (by simp; omega) (by simpa using hc) (by rw [e]; show (Lib.join ws [32]).length ≤ _; omega)
  rw [e, List.length_map] at this
  exact this
theorem cat3 (x y z : ByteArray) : Value.string (x ++ y ++ z) = str (bl x ++ bl y ++ bl z) := by
  rw [cat_b]
  obtain ⟨⟨a⟩⟩ := x
  obtain ⟨⟨b⟩⟩ := y
  exact congrArg (fun t => str (bl t ++ bl z)) (cat_bytes a b)
set_option maxHeartbeats 8000000 in
theorem print_any {w : World} {v : Value} {d : Df} (h : HasDf w v d) (hl : LimR d) (hft : ∀ x ∈ d.items, ∀ z ∈ x.n, Fits z) (hf : VF w) (hv : VD w) : Calls Tryd.prog 14 #[v] w fun e w' => e = .returned (str (printP d)) ∧ Below w.heap.size w w' := by
  have HRT : Hid (∀ w2, Below w.heap.size w w2 → Calls Tryd.prog 12 #[v] w2 fun e w' => e = .returned (.bool (right d)) ∧ Below w2.heap.size w2 w') := Lib.hid fun w2 b => right_any (h.keep b) hl (hf.lift b)
  obtain ⟨a1, a2, vs, us, rfl, h1, h2⟩ := h
  obtain ⟨A1, c1, rfl, -⟩ := h1.at
  obtain ⟨A2, c2, rfl, -⟩ := h2.at
  have HB0 : Hid (∀ o, Below w.heap.size w (w.alloc o)) := Lib.hid fun o => below_more w o
  by_cases hr : right d = true
  rotate_left
  · have HX := Lib.hid (show printP d = [] by unfold printP; rw [if_neg hr])
    rw [Bool.eq_false_iff.2 hr] at HRT
    clear hr h1 h2 hl hf hv hft
    go_enter Tryd.func14, Tryd.ntmps14
    go_wp2_with (go_at_call 12; go_must (
      refine (HRT.out _ (HB0.out _)).mono ?_; rintro e w1 ⟨rfl, b1⟩
      have B1 := Lib.hid ((HB0.out _).trans (b1.mono (by simp)))
      clear b1))
    go_ret
    exact ⟨by rw [HX.out]; rfl, B1.out⟩
  have HPL := print_len d
  have HPI := print_is hr
  rw [HPI, List.length_append] at HPL
  obtain ⟨g1, g2, g3, g4⟩ := right_parts hr
  rw [hr] at HRT
  have HD := Lib.hid h1
  have HI := Lib.hid h2
  have HVF := Lib.hid hf
  have HVD := Lib.hid hv
  have HFT := Lib.hid hft
  have HG2 := Lib.hid g2
  have HG4 := Lib.hid g4
  rw [HPI]
  have hA : (d.decks.flatMap deckB).length ≤ 300000000 := by omega
  have hB : (d.items.flatMap lineI).length ≤ 300000000 := by omega
  have HA := Lib.hid hA
  have HB := Lib.hid hB
  obtain ⟨n, hn⟩ : ∃ n, n = d.decks.length := ⟨_, rfl⟩
  obtain ⟨m, hm⟩ : ∃ m, m = d.items.length := ⟨_, rfl⟩
  have HN := Lib.hid hn
  have HM := Lib.hid hm
  rw [← hn] at g1 HD HRT ⊢
  rw [← hm] at g3 HI HRT ⊢
  clear h1 h2 hl hf hv hft hn hm hr HPL HPI g2 g4 hA hB
  go_enter Tryd.func14, Tryd.ntmps14
  go_wp2_with (go_at_call 12; go_must (
      refine (HRT.out _ (HB0.out _)).mono ?_; rintro e w1 ⟨rfl, b1⟩
      have B1 := Lib.hid ((HB0.out _).trans (b1.mono (by simp)))
      have hbx : Blk w1 w.heap.size 25 #[.slice A1 n c1, .slice A2 m c2] := (Blk.fresh w _ _).under b1 (by simp)
      have q0 : w1.cell? ⟨w.heap.size, 0, none⟩ = some (.slice A1 n c1) := hbx.at 0
      have q1 : w1.cell? ⟨w.heap.size, 1, none⟩ = some (.slice A2 m c2) := hbx.at 1
      have hw1 := hbx.inside
      have HBX := Lib.hid hbx
      clear b1 hbx))
  have HR0 := Lib.hid (show BRel w1 [] deckB d.decks (.int .i64 (0 : Nat)) (w1.alloc (.cells #[.pointer none, .slice none 0 0] 61)) 0 from ⟨rfl, Nat.zero_le _, (Below.refl _ _).alloc (Nat.le_refl _) _, Bld.Is.fresh w1⟩)
  generalize w1.alloc (.cells #[.pointer none, .slice none 0 0] 61) = w2 at *
  clear q0 q1
  go_loopw [16] (fun iv wr => ∃ i, BRel w1 [] deckB d.decks iv wr i) (fun iv _ => n - (intOf iv).toNat)
  case atStart => exact ⟨0, HR0.out⟩
  case round =>
    clear HR0
    obtain ⟨i, hR⟩ := hrel
    obtain ⟨rfl, hle, hbl, hout⟩ := hR
    have HBL := Lib.hid hbl
    have HOUT := Lib.hid hout
    clear hout
    by_cases hlt : i < n
    · have hi1 : i < d.decks.length := by rw [← HN.out]; exact hlt
      have hmem : d.decks[i] ∈ d.decks := List.getElem_mem hi1
      obtain ⟨b1, o1, A3, n3, c3, rfl, hb1, k1, t1⟩ := HD.out.cell hi1
      have hwr := B1.out.trans (hbl.mono (by omega))
      have k2 : wr.cell? ⟨b1, o1 + i, none⟩ = some (.slice A3 n3 c3) := (hwr.cell (p := ⟨b1, o1 + i, none⟩) hb1).trans k1
      have hn3 : n3 = d.decks[i].length := by
        obtain ⟨_, _, e, _⟩ := t1
        injection e
      have hrow := (HG2.out _ hmem).1
      have HROW := Lib.hid (HG2.out _ hmem).2
      have HNX := Lib.hid (flat_next (g := deckB) (P := []) hi1)
      have hpl : (deckB d.decks[i]).length ≤ 300000000 := Nat.le_trans (mem_flat deckB hmem) HA.out
      have htl := Nat.le_trans (take_flat deckB d.decks i) HA.out
      rw [← hn3] at hrow
      have HHI := Lib.hid hi1
      generalize d.decks[i] = ts at *
      have HT := Lib.hid t1
      have HN3 := Lib.hid hn3
      have HPL := Lib.hid hpl
      have HTL := Lib.hid htl
      have hlt2 : (i : Int) < n := by omega
      clear t1 hn3 hmem hi1 hpl htl k1 hwr
      have HW : Hid (Calls Tryd.prog 28 #[Bld.ptr w1.heap.size, .string ⟨#[100, 101, 99, 107, 10]⟩] wr fun e w' => (∃ z, e = .returned (.tuple #[.int .i64 z, .nilIface])) ∧ Bld.Is w1.heap.size w1.heap.size ([] ++ (d.decks.take i).flatMap deckB ++ [100, 101, 99, 107, 10]) w' ∧ Below w1.heap.size wr w') := Lib.hid (by
        refine (Bld.write_any [100, 101, 99, 107, 10] HOUT.out (by have := HTL.out; show ((d.decks.take i).flatMap deckB).length + 5 ≤ _; omega) HBL.out.size).mono ?_
        rintro e w' ⟨rfl, h1, h2⟩
        exact ⟨⟨_, rfl⟩, h1, h2⟩)
      clear hbl
      go_wp2_with (go_at_call 28; go_must (
        refine HW.out.mono ?_; rintro e w3 ⟨⟨z, rfl⟩, h3, b3⟩
        have B3 := Lib.hid (HBL.out.trans b3)
        have HO3 := Lib.hid h3
        clear h3 b3))
      have HR1 := Lib.hid (show BRel w1 ([] ++ (d.decks.take i).flatMap deckB ++ [100, 101, 99, 107, 10]) rowB ts (.int .i64 (0 : Nat)) w3 0 from ⟨rfl, Nat.zero_le _, B3.out, by
        have h := HO3.out
        rw [List.take_zero, List.flatMap_nil, List.append_nil]
        exact h⟩)
      clear HW HBL HOUT
      obtain ⟨wq, hwq⟩ : ∃ wq, wq = wr := ⟨wr, rfl⟩
      subst hwq
      go_loopw [23] (fun iv wr2 => ∃ j, BRel w1 ([] ++ (d.decks.take i).flatMap deckB ++ [100, 101, 99, 107, 10]) rowB ts iv wr2 j) (fun iv _ => n3 - (intOf iv).toNat)
      case atStart => exact ⟨0, HR1.out⟩
      case round =>
        clear HR1
        obtain ⟨j, hR⟩ := hrel
        obtain ⟨rfl, hlej, hbl, hout⟩ := hR
        have HBL := Lib.hid hbl
        have HOUT := Lib.hid hout
        clear hout
        by_cases hjlt : j < n3
        · have hj1 : j < ts.length := by rw [← HN3.out]; exact hjlt
          have hmem : ts[j] ∈ ts := List.getElem_mem hj1
          obtain ⟨b2, o2, rfl, hb2, k1⟩ := HT.out.cell hj1
          have hwr := B1.out.trans (hbl.mono (by omega))
          have k3 : wr.cell? ⟨b2, o2 + j, none⟩ = some (str ts[j]) := (hwr.cell (p := ⟨b2, o2 + j, none⟩) hb2).trans k1
          have hsz := HROW.out _ hmem
          have HNX2 := Lib.hid (flat_next (g := rowB) (P := [] ++ (d.decks.take i).flatMap deckB ++ [100, 101, 99, 107, 10]) hj1)
          have htl := Nat.le_trans (take_flat rowB ts j) (by have := HPL.out; rw [deckB_is, List.length_append] at this; exact Nat.le_trans (Nat.le_add_left _ _) this)
          have HHJ := Lib.hid hj1
          generalize ts[j] = r at *
          obtain ⟨s, rfl⟩ := mk_bl r
          rw [str_bl] at k3
          rw [bl_len] at hsz
          obtain ⟨y, hy⟩ := mk_bl (quo (bl s))
          have hyl : y.size ≤ 16386 := by rw [← bl_len, hy]; have := quo_len (bl s); rw [bl_len] at this; omega
          have HQ := Lib.hid (fun w => quote_any s (by omega) w)
          rw [← hy, str_bl] at HQ
          have HTL2 := Lib.hid htl
          have HW : Hid (∀ w2, Below wr.heap.size wr w2 → Calls Tryd.prog 28 #[Bld.ptr w1.heap.size, .string (⟨#[114, 111, 119, 32]⟩ ++ y ++ ⟨#[10]⟩)] w2 fun e w' => (∃ z, e = .returned (.tuple #[.int .i64 z, .nilIface])) ∧ Bld.Is w1.heap.size w1.heap.size ([] ++ (d.decks.take i).flatMap deckB ++ [100, 101, 99, 107, 10] ++ (ts.take j).flatMap rowB ++ rowB (bl s)) w' ∧ Below w1.heap.size wr w') := Lib.hid fun w2 bq => by
            rw [cat3, hy]
            refine (Bld.write_any (rowB (bl s)) (HOUT.out.keep bq) (by
              have a := HTL.out
              have b := HTL2.out
              have c : (rowB (bl s)).length = 4 + y.size + 1 := by
                unfold rowB
                rw [List.length_append, List.length_append, ← hy, bl_len]
                rfl
              rw [c, List.length_append, List.length_append, List.nil_append, List.length_cons]
              simp only [List.length_cons, List.length_nil]
              omega) (Nat.le_trans HBL.out.size bq.size)).mono ?_
            rintro e w' ⟨rfl, h1, h2⟩
            exact ⟨⟨_, rfl⟩, h1, (bq.mono HBL.out.size).trans h2⟩
          have hjlt2 : (j : Int) < n3 := by omega
          clear hbl k1 hwr hmem hj1 htl hy
          go_wp2_with (first
            | (go_at_call 29; go_must (
               refine (HQ.out _).mono ?_; rintro e w4 ⟨rfl, b4⟩
               have B4 := Lib.hid b4
               clear b4))
            | (go_at_call 28; go_must (
               refine (HW.out _ B4.out).mono ?_; rintro e w5 ⟨⟨z, rfl⟩, h5, b5⟩
               have B5 := Lib.hid (HBL.out.trans b5)
               have HO5 := Lib.hid h5
               clear h5 b5)))
          go_roundw
          case rel => exact ⟨j + 1, by simp, by have := HHJ.out; omega, B5.out, by rw [HNX2.out]; exact HO5.out⟩
          case measure => simp [intOf]; omega
        · obtain rfl : n3 = j := by have := HN3.out; omega
          have HO5 := Lib.hid (show Bld.Is w1.heap.size w1.heap.size ([] ++ (d.decks.take (i + 1)).flatMap deckB) wr from by
            have := HOUT.out
            rw [HN3.out, List.take_length, List.append_assoc, ← deckB_is] at this
            rw [HNX.out]
            exact this)
          clear hbl
          go_wp2_with fail
          go_roundw
          case rel => exact ⟨i + 1, by simp, by have := HHI.out; omega, HBL.out, HO5.out⟩
          case measure => simp [intOf]; omega
    · obtain rfl : n = i := by have := HN.out; omega
      have HO1 := Lib.hid (show Bld.Is w1.heap.size w1.heap.size (d.decks.flatMap deckB) wr from by
        have := HOUT.out
        rw [HN.out, List.take_length, List.nil_append] at this
        exact this)
      have q1 : wr.cell? ⟨w.heap.size, 1, none⟩ = some (.slice A2 m c2) := (HBX.out.under hbl hw1).at 1
      clear hbl HOUT
      obtain ⟨wq, hwq⟩ : ∃ wq, wq = wr := ⟨wr, rfl⟩
      subst hwq
      go_wp2_with fail
      have HR1 := Lib.hid (show BRel w1 (d.decks.flatMap deckB) lineI d.items (.int .i64 (0 : Nat)) wq 0 from ⟨rfl, Nat.zero_le _, HBL.out, by
        have h := HO1.out
        rw [List.take_zero, List.flatMap_nil, List.append_nil]
        exact h⟩)
      clear q1
      go_loopw [37] (fun iv wr2 => ∃ j, BRel w1 (d.decks.flatMap deckB) lineI d.items iv wr2 j) (fun iv _ => m - (intOf iv).toNat)
      case atStart => exact ⟨0, HR1.out⟩
      case round =>
        clear HR1 HBL HO1
        obtain ⟨j, hR⟩ := hrel
        obtain ⟨rfl, hlej, hbl, hout⟩ := hR
        have HBL := Lib.hid hbl
        have HOUT := Lib.hid hout
        clear hout
        by_cases hjlt : j < m
        · have hj1 : j < d.items.length := by rw [← HM.out]; exact hjlt
          have hmem : d.items[j] ∈ d.items := List.getElem_mem hj1
          have hwr := B1.out.trans (hbl.mono (by omega))
          obtain ⟨b2, o2, A3, n3, c3, rfl, hb2, k0, k1, k2, k3, k4, t1⟩ := (HI.out.keep hwr).cell hj1
          have HRI := Lib.hid (HG4.out _ hmem)
          have HLO : Hid (∀ w2, Below wr.heap.size wr w2 → Calls Tryd.prog 31 #[.agg #[.int .i64 d.items[j].kind, .int .i64 d.items[j].line, str d.items[j].name, str d.items[j].other, .slice A3 n3 c3]] w2 fun e w' => ∃ v, e = .returned v ∧ HasTexts w' v (wordsOf d.items[j]) ∧ Below w2.heap.size w2 w') := Lib.hid fun w2 hw2 => lineOf_any (t1.keep hw2) HRI.out (HFT.out _ hmem) (HVF.out.lift (hwr.trans (hw2.mono hwr.size))) (HVD.out.lift (hwr.trans (hw2.mono hwr.size)))
          have HNX := Lib.hid (flat_next (g := lineI) (P := d.decks.flatMap deckB) hj1)
          have HBW : Hid (∀ o, Below wr.heap.size wr (wr.alloc o)) := Lib.hid fun o => below_more wr o
          have htl := Nat.le_trans (take_flat lineI d.items j) HB.out
          have HJ1 := Lib.hid hj1
          generalize d.items[j] = y at *
          have hwl := words_line HRI.out
          obtain ⟨s, hs⟩ := mk_bl (Lib.join (wordsOf y) [32])
          rw [← hs] at hwl
          have hll := lineI_len HRI.out
          rw [← hwl, List.length_append, bl_len] at hll
          have hss : s.size ≤ 300 := by omega
          have HJO : Hid (∀ w2 v, HasTexts w2 v (wordsOf y) → Calls Tryd.prog 30 #[v, .string ⟨#[32]⟩] w2 fun e w' => e = .returned (.string s) ∧ Below w2.heap.size w2 w') := Lib.hid fun w2 v hv => by
            obtain ⟨g1, g2⟩ := words_few HRI.out
            have := join_any hv g1 g2 (by rw [← hs, bl_len]; omega)
            rw [← hs, str_bl] at this
            exact this
          have HTL := Lib.hid htl
          have HW : Hid (∀ w2, Below wr.heap.size wr w2 → Calls Tryd.prog 28 #[Bld.ptr w1.heap.size, .string (s ++ ⟨#[10]⟩)] w2 fun e w' => (∃ z, e = .returned (.tuple #[.int .i64 z, .nilIface])) ∧ Bld.Is w1.heap.size w1.heap.size (d.decks.flatMap deckB ++ (d.items.take j).flatMap lineI ++ lineI y) w' ∧ Below w1.heap.size wr w') := Lib.hid fun w2 bq => by
            rw [cat_b, show bl (⟨#[10]⟩ : ByteArray) = [10] from rfl, hwl]
            refine (Bld.write_any (lineI y) (HOUT.out.keep bq) (by
              have a := HTL.out
              have b := HA.out
              have c : (lineI y).length = s.size + 1 := by rw [← hwl, List.length_append, bl_len]; rfl
              rw [c, List.length_append]
              omega) (Nat.le_trans HBL.out.size bq.size)).mono ?_
            rintro e w' ⟨rfl, h1, h2⟩
            exact ⟨⟨_, rfl⟩, h1, (bq.mono HBL.out.size).trans h2⟩
          have hjlt2 : (j : Int) < m := by omega
          clear hbl hwr t1 hmem hj1 htl hs hwl hll
          go_wp2_with (first
            | (go_at_call 31; go_must (
               refine (HLO.out _ (HBW.out _)).mono ?_; rintro e w3 ⟨v3, rfl, t3, b3⟩
               have B3 := Lib.hid ((HBW.out _).trans (b3.mono (by simp)))
               have T3 := Lib.hid t3
               clear b3 t3))
            | (go_at_call 30; go_must (
               refine (HJO.out _ _ T3.out).mono ?_; rintro e w4 ⟨rfl, b4⟩
               have B4 := Lib.hid (B3.out.trans (b4.mono B3.out.size))
               clear b4))
            | (go_at_call 28; go_must (
               refine (HW.out _ B4.out).mono ?_; rintro e w5 ⟨⟨z, rfl⟩, h5, b5⟩
               have B5 := Lib.hid (HBL.out.trans b5)
               have HO5 := Lib.hid h5
               clear h5 b5)))
          go_roundw
          case rel => exact ⟨j + 1, by simp, by have := HJ1.out; omega, B5.out, by rw [HNX.out]; exact HO5.out⟩
          case measure => simp [intOf]; omega
        · obtain rfl : m = j := by have := HM.out; omega
          have HO5 := Lib.hid (show Bld.Is w1.heap.size w1.heap.size (d.decks.flatMap deckB ++ d.items.flatMap lineI) wr from by
            have := HOUT.out
            rw [HM.out, List.take_length] at this
            exact this)
          clear hbl
          go_wp2_with (go_at_call 32; go_must (
            refine (Bld.string_any HO5.out HBL.out.size).mono ?_; rintro e w6 ⟨rfl, b6⟩
            have B6 := Lib.hid b6
            clear b6))
          go_ret
          exact ⟨rfl, (B1.out.trans (HBL.out.mono (by omega))).trans (B6.out.mono (by omega))⟩
end Drf
end Go.Proofs.YtibeangcjfjeiaaDoor

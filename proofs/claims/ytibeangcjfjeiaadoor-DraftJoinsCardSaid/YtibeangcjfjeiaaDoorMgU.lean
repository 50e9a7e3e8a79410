/- Package draft's Right. Package lex: the reader's wordOrNumber. -/
import Derived.Test.YtibeangcjfjeiaaDoorDpQ
import Derived.Test.YtibeangcjfjeiaaDoorDpN
import Derived.Test.YtibeangcjfjeiaaDoorDecm
import Derived.Test.YtibeangcjfjeiaaDoorMgM
import Derived.Test.YtibeangcjfjeiaaDoorLxO
import Derived.Deep.DeepCutAuto
namespace Go.Proofs.YtibeangcjfjeiaaDoor
open Go.RowKit Txt Wire Lx
set_option linter.unusedVariables false
set_option maxRecDepth 100000
set_option linter.unusedSimpArgs false
namespace Drf

/-- Lists and names that are not too long. -/
structure LimR (d : Df) : Prop where
  lim : LimD d
  nums : ∀ x ∈ d.items, x.n.length ≤ 1000000000
  name : ∀ x ∈ d.items, x.name.length ≤ 1000000000
  other : ∀ x ∈ d.items, x.other.length ≤ 1000000000
  row : ∀ ts ∈ d.decks, ∀ r ∈ ts, r.length ≤ big
def okRows (rows : List (List UInt8)) : Bool := decide (rows.length ≤ 4096) && rows.all fun r => decide (r.length ≤ 4096)
theorem right_is (d : Df) : right d = (decide (d.decks.length ≤ 4) && d.decks.all okRows && decide (d.items.length ≤ 5000) && d.items.all rightIt) := rfl
theorem HasTexts.cell {w : World} {A : Option Addr} {n c : Nat} {ts : List (List UInt8)} (h : HasTexts w (.slice A n c) ts) {i : Nat} (hi : i < ts.length) : ∃ b o, A = some ⟨b, o, none⟩ ∧ b < w.heap.size ∧ w.cell? ⟨b, o + i, none⟩ = some (str ts[i]) := by
  obtain ⟨A', c', e, _, hr⟩ := h
  injection e with e1 e2 e3
  subst e1
  exact hr i (str ts[i]) (by rw [List.getElem?_map, List.getElem?_eq_getElem hi]; rfl)
structure AllRel {α : Type} (W : World) (l : List α) (p : α → Bool) (iv : Value) (w : World) (i : Nat) : Prop where
  iv : iv = .int .i64 i
  le : i ≤ l.length
  below : Below W.heap.size W w
  all : (l.take i).all p = true
theorem all_next {α : Type} {l : List α} {p : α → Bool} {i : Nat} (hi : i < l.length) (h : (l.take i).all p = true) (hp : p l[i] = true) : (l.take (i + 1)).all p = true := by
  rw [List.take_succ_eq_append_getElem hi, List.all_append, h]
  simpa using hp
theorem all_not {α : Type} {l : List α} {p : α → Bool} {i : Nat} (hi : i < l.length) (hp : p l[i] = false) : l.all p = false := by
  rw [Bool.eq_false_iff]
  intro h
  have := List.all_eq_true.1 h l[i] (List.getElem_mem hi)
  rw [hp] at this
  cases this
set_option maxHeartbeats 8000000 in
theorem right_any {w : World} {v : Value} {d : Df} (h : HasDf w v d) (hl : LimR d) (hf : VF w) : Calls Tryd.prog 12 #[v] w fun e w' => e = .returned (.bool (right d)) ∧ Below w.heap.size w w' := by
  obtain ⟨a1, a2, vs, us, rfl, h1, h2⟩ := h
  obtain ⟨A1, c1, rfl, -⟩ := h1.at
  obtain ⟨A2, c2, rfl, -⟩ := h2.at
  have HB0 : Hid (∀ o, Below w.heap.size w (w.alloc o)) := Lib.hid fun o => below_more w o
  have HD := Lib.hid h1
  have HI := Lib.hid h2
  have HL := Lib.hid hl
  have HF := Lib.hid hf
  have hn9 : d.decks.length ≤ 9223372036854775807 := hl.lim.decks
  have hm9 : d.items.length ≤ 9223372036854775807 := hl.lim.items
  have HR := Lib.hid (right_is d)
  obtain ⟨n, hn⟩ : ∃ n, n = d.decks.length := ⟨_, rfl⟩
  obtain ⟨m, hm⟩ : ∃ m, m = d.items.length := ⟨_, rfl⟩
  have HN := Lib.hid hn
  have HM := Lib.hid hm
  rw [← hn] at hn9 HD HR ⊢
  rw [← hm] at hm9 HI HR ⊢
  clear h1 h2 hl hf hn hm
  by_cases h4 : (4 : Int) < n
  · have HX := Lib.hid (show right d = false by rw [HR.out, decide_eq_false (by omega)]; simp)
    go_enter Tryd.func12, Tryd.ntmps12
    go_wp2_with fail
    go_ret
    exact ⟨by rw [HX.out]; rfl, HB0.out _⟩
  by_cases h5 : (5000 : Int) < m
  · have HX := Lib.hid (show right d = false by rw [HR.out, decide_eq_false (show ¬ m ≤ 5000 by omega)]; simp)
    go_enter Tryd.func12, Tryd.ntmps12
    go_wp2_with fail
    go_ret
    exact ⟨by rw [HX.out]; rfl, HB0.out _⟩
  have HR2 := Lib.hid (show right d = (d.decks.all okRows && d.items.all rightIt) by rw [HR.out, decide_eq_true (show n ≤ 4 by omega), decide_eq_true (show m ≤ 5000 by omega)]; simp)
  go_enter Tryd.func12, Tryd.ntmps12
  go_wp2_with fail
  have hbx : Blk (w.alloc (.cells #[.slice A1 n c1, .slice A2 m c2] 25)) w.heap.size 25 #[.slice A1 n c1, .slice A2 m c2] := Blk.fresh w _ _
  have hwb := HB0.out (.cells #[.slice A1 n c1, .slice A2 m c2] 25)
  have hsz : (w.alloc (.cells #[.slice A1 n c1, .slice A2 m c2] 25)).heap.size = w.heap.size + 1 := by simp
  generalize w.alloc (.cells #[.slice A1 n c1, .slice A2 m c2] 25) = w0 at *
  have HBX := Lib.hid hbx
  have HWB := Lib.hid hwb
  have HSZ := Lib.hid hsz
  clear hbx hwb hsz
  go_loopw [22] (fun iv wr => ∃ i, AllRel w0 d.decks okRows iv wr i) (fun iv _ => n - (intOf iv).toNat)
  case atStart => exact ⟨0, rfl, Nat.zero_le _, Below.refl _ _, rfl⟩
  case round =>
    obtain ⟨i, ⟨rfl, hi, hB, HE⟩⟩ := hrel
    have HBB := Lib.hid hB
    by_cases hlt : i < n
    · have hi1 : i < d.decks.length := by rw [← HN.out]; exact hlt
      obtain ⟨b1, o1, A3, n3, c3, rfl, hb1, k1, t1⟩ := (HD.out.keep (HWB.out.trans (hB.mono (by have := HSZ.out; omega)))).cell hi1
      have hn3 : n3 = d.decks[i].length := by
        obtain ⟨_, _, e, _⟩ := t1
        injection e
      have ht3 : d.decks[i].length ≤ 9223372036854775807 := HL.out.lim.rows _ (List.getElem_mem hi1)
      rw [← hn3] at ht3
      have HIF := Lib.hid (show okRows d.decks[i] = false → right d = false from fun h => by rw [HR2.out, all_not hi1 h]; rfl)
      have HIT := Lib.hid (show okRows d.decks[i] = true → (d.decks.take (i + 1)).all okRows = true from fun h => all_next hi1 HE h)
      generalize d.decks[i] = ts at *
      have HT := Lib.hid t1
      have HI1 := Lib.hid hi1
      have HN3 := Lib.hid hn3
      have hlt2 : (i : Int) < n := by omega
      clear t1 HE hB hn3 hi1
      obtain ⟨wq, hwq⟩ : ∃ wq, wq = wr := ⟨wr, rfl⟩
      subst hwq
      by_cases hr : (4096 : Int) < n3
      · have HX := Lib.hid (show right d = false from HIF.out (by unfold okRows; rw [← HN3.out, decide_eq_false (show ¬ n3 ≤ 4096 by omega)]; rfl))
        go_wp2_with fail
        go_ret
        exact ⟨by rw [HX.out]; rfl, HWB.out.trans (HBB.out.mono (by have := HSZ.out; omega))⟩
      · go_wp2_with fail
        go_loopw [31] (fun iv wr2 => ∃ j, AllRel w0 ts (fun r => decide (r.length ≤ 4096)) iv wr2 j ∧ Below wq.heap.size wq wr2) (fun iv _ => n3 - (intOf iv).toNat)
        case atStart => exact ⟨0, ⟨rfl, Nat.zero_le _, HBB.out, rfl⟩, Below.refl _ _⟩
        case round =>
          obtain ⟨j, ⟨rfl, hj, hB2, HE2⟩, hB3⟩ := hrel
          have HBB2 := Lib.hid hB2
          have HBB3 := Lib.hid hB3
          by_cases hjlt : j < n3
          · have hj1 : j < ts.length := by rw [← HN3.out]; exact hjlt
            obtain ⟨b2, o2, rfl, hb2, k2⟩ := (show HasTexts wr _ _ from HT.out.keep hB3).cell hj1
            obtain ⟨s, hs⟩ := mk_bl ts[j]
            rw [← hs, str_bl] at k2
            have hjlt2 : (j : Int) < n3 := by omega
            have HE3 := Lib.hid HE2
            have HJ1 := Lib.hid hj1
            have HSS := Lib.hid hs
            clear hB2 hB3 HE2 hs
            by_cases hq : (4096 : Int) < s.size
            · have HX := Lib.hid (show right d = false from HIF.out (by
                  unfold okRows
                  rw [all_not HJ1.out (by
                    rw [← HSS.out, bl_len]
                    exact decide_eq_false (by omega))]
                  simp))
              go_wp2_with fail
              go_ret
              exact ⟨by rw [HX.out]; rfl, HWB.out.trans (HBB2.out.mono (by have := HSZ.out; omega))⟩
            · have HE4 := Lib.hid (all_next HJ1.out HE3.out (by rw [← HSS.out, bl_len]; exact decide_eq_true (by omega)))
              go_wp2_with fail
              go_roundw
              case rel => exact ⟨j + 1, ⟨by simp, by have := HJ1.out; omega, HBB2.out, HE4.out⟩, HBB3.out⟩
              case measure => simp [intOf]; omega
          · obtain rfl : n3 = j := by have := HN3.out; omega
            have HE3 := Lib.hid (show (d.decks.take (i + 1)).all okRows = true from HIT.out (by
              unfold okRows
              rw [HN3.out, List.take_length] at HE2
              rw [HE2, ← HN3.out, decide_eq_true (show n3 ≤ 4096 by omega)]
              rfl))
            clear hB2 hB3 HE2
            go_wp2_with fail
            go_roundw
            case rel => exact ⟨i + 1, by simp, by have := HI1.out; omega, HBB2.out, HE3.out⟩
            case measure => simp [intOf]; omega
    · obtain rfl : n = i := by have := HN.out; omega
      have HDK := Lib.hid (show d.decks.all okRows = true by rw [HN.out, List.take_length] at HE; exact HE)
      have q1 : wr.cell? ⟨w.heap.size, 1, none⟩ = some (.slice A2 m c2) := (HBX.out.under hB HBX.out.inside).at 1
      have HWR := Lib.hid (HWB.out.trans (hB.mono (by have := HSZ.out; omega)))
      clear hB HE
      go_wp2_with fail
      obtain ⟨wq, hwq⟩ : ∃ wq, wq = wr := ⟨wr, rfl⟩
      subst hwq
      go_loopw [43] (fun iv wr2 => ∃ j, AllRel w d.items rightIt iv wr2 j ∧ Below wq.heap.size wq wr2) (fun iv _ => m - (intOf iv).toNat)
      case atStart => exact ⟨0, ⟨rfl, Nat.zero_le _, HWR.out, rfl⟩, Below.refl _ _⟩
      case round =>
        obtain ⟨j, ⟨rfl, hj, hB2, HE2⟩, hB3⟩ := hrel
        have HBB2 := Lib.hid hB2
        have HBB3 := Lib.hid hB3
        by_cases hjlt : j < m
        · have hj1 : j < d.items.length := by rw [← HM.out]; exact hjlt
          obtain ⟨b2, o2, A3, n3, c3, rfl, hb2, k0, k1, k2, k3, k4, t1⟩ := (HI.out.keep hB2).cell hj1
          have hmem : d.items[j] ∈ d.items := List.getElem_mem hj1
          have HC : Hid (∀ w2, Below wr.heap.size wr w2 → Calls Tryd.prog 26 #[.agg #[.int .i64 d.items[j].kind, .int .i64 d.items[j].line, str d.items[j].name, str d.items[j].other, .slice A3 n3 c3]] w2 fun e w' => e = .returned (.bool (rightIt d.items[j])) ∧ Below w2.heap.size w2 w') := Lib.hid fun w2 hw2 => rightItem_any (t1.keep hw2) (HL.out.nums _ hmem) (HL.out.name _ hmem) (HL.out.other _ hmem) (HF.out.lift (hB2.trans (hw2.mono hB2.size)))
          have HBL : Hid (∀ o, Below wr.heap.size wr (wr.alloc o)) := Lib.hid fun o => below_more wr o
          have HNX := Lib.hid (show rightIt d.items[j] = true → (d.items.take (j + 1)).all rightIt = true from fun h => all_next hj1 HE2 h)
          have HNF := Lib.hid (show rightIt d.items[j] = false → right d = false from fun h => by rw [HR2.out, all_not hj1 h]; simp)
          generalize d.items[j] = y at *
          have HJ1 := Lib.hid hj1
          have hjlt2 : (j : Int) < m := by omega
          clear hB2 hB3 HE2 t1 hmem hj1
          cases hr : rightIt y with
          | true =>
            rw [hr] at HC
            have HE4 := Lib.hid (HNX.out hr)
            clear hr
            go_wp2_with (go_at_call 26; go_must (
              refine (HC.out _ (HBL.out _)).mono ?_; rintro e w3 ⟨rfl, bb⟩
              have B3 := Lib.hid ((HBL.out _).trans (bb.mono (by simp)))
              clear bb))
            go_roundw
            case rel => exact ⟨j + 1, ⟨by simp, by have := HJ1.out; omega, HBB2.out.trans (B3.out.mono HBB2.out.size), HE4.out⟩, HBB3.out.trans (B3.out.mono HBB3.out.size)⟩
            case measure => simp [intOf]; omega
          | false =>
            have HX := Lib.hid (show right d = false from HNF.out hr)
            rw [hr] at HC
            clear hr
            go_wp2_with (go_at_call 26; go_must (
              refine (HC.out _ (HBL.out _)).mono ?_; rintro e w3 ⟨rfl, bb⟩
              have B3 := Lib.hid ((HBL.out _).trans (bb.mono (by simp)))
              clear bb))
            go_ret
            exact ⟨by rw [HX.out]; rfl, HBB2.out.trans (B3.out.mono HBB2.out.size)⟩
        · obtain rfl : m = j := by have := HM.out; omega
          have HX := Lib.hid (show right d = true by rw [HM.out, List.take_length] at HE2; rw [HR2.out, HDK.out, HE2]; rfl)
          clear hB2 hB3 HE2
          go_wp2_with fail
          go_ret
          exact ⟨by rw [HX.out]; rfl, HBB2.out⟩
end Drf
end Go.Proofs.YtibeangcjfjeiaaDoor

namespace Go.Proofs.YtibeangcjfjeiaaDoor
open Go.RowKit Wire
set_option linter.unusedVariables false
set_option maxRecDepth 100000
set_option linter.unusedSimpArgs false
namespace Txt

/-- What the loop has calculated for the digits l. -/
def Sofar (sign : Int) (l : List UInt8) (n : Int) : Prop := Fits n ∧ Mod n (sign * valZ 0 l)

theorem bv_mod (c : UInt8) : ((c.toNat : Int) - 48) % 256 = bv c := by
  unfold bv
  simp [IntKind.wrap, IntKind.bits, IntKind.signed]

theorem Sofar.plus {s : ByteArray} {k : Nat} {n : Int} (h : Sofar 1 ((bl s).take k) n) (hk : k < s.size) :
    Sofar 1 ((bl s).take (k + 1)) (wrap64 (wrap64 (n * 10) + ((s[k].toNat : Int) - 48) % 256)) := by
  refine ⟨wrap_fits _, ?_⟩
  rw [take_at hk, valZ_snoc, bv_mod, Int.one_mul]
  have h2 := h.2
  rw [Int.one_mul] at h2
  exact Mod.wrap (Mod.add (Mod.wrap (Mod.ten h2)) (Mod.refl _))

theorem Sofar.minus {s : ByteArray} {k : Nat} {n : Int} (h : Sofar (-1) ((bl s).take k) n) (hk : k < s.size) :
    Sofar (-1) ((bl s).take (k + 1)) (wrap64 (wrap64 (n * 10) + -(((s[k].toNat : Int) - 48) % 256))) := by
  refine ⟨wrap_fits _, ?_⟩
  rw [take_at hk, valZ_snoc, bv_mod, Int.neg_mul, Int.one_mul, Int.neg_add]
  have h2 := h.2
  rw [Int.neg_mul, Int.one_mul] at h2
  have h3 := Mod.ten h2
  rw [Int.neg_mul] at h3
  exact Mod.wrap (Mod.add (Mod.wrap h3) (Mod.refl _))

structure IntRel (sign : Int) (s : ByteArray) (nv iv : Value) (n : Int) (k : Nat) : Prop where
  nv : nv = .int .i64 n
  iv : iv = .int .i64 k
  le : k ≤ s.size
  told : Sofar sign ((bl s).take k) n

theorem head_of {s : ByteArray} {c : UInt8} {r : List UInt8} (hb : bl s = c :: r) (h0 : 0 < s.size) : s[0] = c := by
  have := drop_at h0
  rw [List.drop_zero, hb] at this
  exact ((List.cons.inj this).1).symm

theorem Sofar.sum {s : ByteArray} {n : Int} (h : Sofar 1 ((bl s).take s.size) n) (h45 : ∀ h : 0 < s.size, s[0] ≠ 45) : Sum1 (bl s) n := by
  rw [List.take_of_length_le (by rw [bl_len]; exact Nat.le_refl _)] at h
  refine ⟨h.1, ?_⟩
  have h2 := h.2
  rw [Int.one_mul] at h2
  cases hb : bl s with
  | nil => rw [hb] at h2; exact h2
  | cons c r =>
    have h0 : 0 < s.size := by rw [← bl_len, hb]; simp
    simp only
    rw [if_neg (by rw [← head_of hb h0]; exact h45 h0), ← hb]
    exact h2

theorem Sofar.neg {s d : ByteArray} {n : Int} (h : Sofar (-1) ((bl d).take d.size) n) (hb : bl s = 45 :: bl d) : Sum1 (bl s) n := by
  rw [List.take_of_length_le (by rw [bl_len]; exact Nat.le_refl _)] at h
  refine ⟨h.1, ?_⟩
  have h2 := h.2
  rw [Int.neg_mul, Int.one_mul] at h2
  rw [hb]
  exact h2

abbrev intR (l : List UInt8) : Value := .tuple #[.int .i64 (intV l), .bool (intB l)]
theorem intR_yes {l : List UInt8} {n : Int} (h : intB l = true ∧ intV l = n) : Ending.returned (.tuple #[.int .i64 n, .bool true]) = .returned (intR l) := by rw [intR, h.1, h.2]
theorem intR_no {l : List UInt8} (h : intB l = false ∧ intV l = 0) : Ending.returned (.tuple #[.int .i64 0, .bool false]) = .returned (intR l) := by rw [intR, h.1, h.2]

set_option maxHeartbeats 400000 in
theorem int_plain (s : ByteArray) (hs : s.size ≤ 281474976710656) (w : World) (h0 : 0 < s.size) (h45 : s[0] ≠ 45) :
    Calls Tryd.prog 64 #[.string s] w fun e w' => e = .returned (intR (bl s)) ∧ Below w.heap.size w w' := by
  have hne : ((s[0].toNat : Int) == 45) = false := byte_ne (k := 45) (by omega) h45
  have hl := not_empty h0
  have HH := Lib.hid h45
  clear h45
  go_enter Tryd.func64, Tryd.ntmps64
  go_wp2_with fail
  go_loopw [6, 20] (fun nv iv wr => (∃ n k, IntRel 1 s nv iv n k) ∧ w = wr) (fun _ iv _ => s.size - (intOf iv).toNat)
  case atStart => exact ⟨⟨0, 0, rfl, rfl, Nat.zero_le _, by unfold Fits; omega, by simp [valZ]; exact Mod.refl _⟩, rfl⟩
  case round =>
    obtain ⟨⟨n, k, ⟨rfl, rfl, hk, htold⟩⟩, rfl⟩ := hrel
    have hf := htold.1
    have hf1 := hf.1
    have hf2 := hf.2
    have HT := Lib.hid htold
    clear htold hf
    by_cases hlt : k < s.size
    · go_wp2_with fail
      go_roundw
      case rel =>
        exact ⟨⟨_, k + 1, ⟨rfl, by simp, hlt, HT.out.plus hlt⟩⟩, trivial⟩
      case measure => simp [intOf]; omega
    · obtain rfl : s.size = k := by omega
      have HS := Lib.hid (HT.out.sum (fun _ => HH.out))
      go_wp2_with (go_at_call 55; refine (decimal_any n ⟨hf1, hf2⟩ _).mono ?_; rintro e w' ⟨rfl, hb⟩)
      · go_ret2
        exact ⟨intR_no (HS.out.no (str_ne ‹_›)), hb⟩
      · go_ret2
        exact ⟨intR_yes (HS.out.yes (str_eq ‹_›)), hb⟩

theorem int_none : intB [] = false ∧ intV [] = 0 := by decide

set_option maxHeartbeats 400000 in
theorem int_empty (s : ByteArray) (w : World) (h0 : ¬ 0 < s.size) :
    Calls Tryd.prog 64 #[.string s] w fun e w' => e = .returned (intR (bl s)) ∧ Below w.heap.size w w' := by
  have hl := is_empty h0
  obtain rfl : s = ByteArray.empty := bl_inj (by rw [ByteArray.toList_eq] at hl; exact hl)
  clear hl h0
  go_enter Tryd.func64, Tryd.ntmps64
  go_wp2_with fail
  go_loopw [6, 20] (fun nv iv wr => (nv = .int .i64 0 ∧ iv = .int .i64 0) ∧ w = wr) (fun _ iv _ => 0)
  case atStart => exact ⟨⟨rfl, rfl⟩, rfl⟩
  case round =>
    obtain ⟨⟨rfl, rfl⟩, rfl⟩ := hrel
    go_wp2_with (go_at_call 55; refine (decimal_any 0 (by unfold Fits; omega) _).mono ?_; rintro e w' ⟨rfl, hb⟩)
    go_ret2
    exact ⟨intR_no int_none, hb⟩

set_option maxHeartbeats 400000 in
theorem int_minus (s : ByteArray) (hs : s.size ≤ 281474976710656) (w : World) (h0 : 0 < s.size) (h45 : s[0] = 45) :
    Calls Tryd.prog 64 #[.string s] w fun e w' => e = .returned (intR (bl s)) ∧ Below w.heap.size w w' := by
  have hne : ((s[0].toNat : Int) == 45) = true := byte_eq (k := 45) (by omega) h45
  have hl := not_empty h0
  have hl2 := not_empty2 h0
  obtain ⟨hc1, hc2⟩ := cut_one h0
  rw [h45] at hc1
  obtain ⟨d, hd⟩ : ∃ d, d = s.extract 1 s.size := ⟨_, rfl⟩
  rw [← hd] at hc1 hc2
  have HD := Lib.hid hd
  have HB := Lib.hid hc1
  have HZ := Lib.hid hc2
  clear h45 hd hc1 hc2
  go_enter Tryd.func64, Tryd.ntmps64
  go_wp2_with fail
  rw [← HD.out]
  go_loopw [6, 20] (fun nv iv wr => (∃ n k, IntRel (-1) d nv iv n k) ∧ w = wr) (fun _ iv _ => d.size - (intOf iv).toNat)
  case atStart => exact ⟨⟨0, 0, rfl, rfl, Nat.zero_le _, by unfold Fits; omega, by simp [valZ]; exact Mod.refl _⟩, rfl⟩
  case round =>
    obtain ⟨⟨n, k, ⟨rfl, rfl, hk, htold⟩⟩, rfl⟩ := hrel
    have hf := htold.1
    have hf1 := hf.1
    have hf2 := hf.2
    have HT := Lib.hid htold
    clear htold hf
    by_cases hlt : k < d.size
    · have hlt2 : k < s.size - 1 := by have := HZ.out; omega
      go_wp2_with fail
      go_roundw
      case rel =>
        exact ⟨⟨_, k + 1, ⟨rfl, by simp, hlt, HT.out.minus hlt⟩⟩, trivial⟩
      case measure => simp [intOf]; omega
    · obtain rfl : d.size = k := by omega
      have hlt2 : ¬ d.size < s.size - 1 := by have := HZ.out; omega
      have HS := Lib.hid (HT.out.neg HB.out)
      go_wp2_with (go_at_call 55; refine (decimal_any n ⟨hf1, hf2⟩ _).mono ?_; rintro e w' ⟨rfl, hb⟩)
      · go_ret2
        exact ⟨intR_no (HS.out.no (str_ne ‹_›)), hb⟩
      · go_ret2
        exact ⟨intR_yes (HS.out.yes (str_eq ‹_›)), hb⟩

theorem int_any (s : ByteArray) (hs : s.size ≤ 281474976710656) (w : World) :
    Calls Tryd.prog 64 #[.string s] w fun e w' => e = .returned (intR (bl s)) ∧ Below w.heap.size w w' := by
  by_cases h0 : 0 < s.size
  · by_cases h45 : s[0] = 45
    · exact int_minus s hs w h0 h45
    · exact int_plain s hs w h0 h45
  · exact int_empty s w h0
end Txt
end Go.Proofs.YtibeangcjfjeiaaDoor

namespace Go.Proofs.YtibeangcjfjeiaaDoor
open Go.RowKit Wire Txt
set_option linter.unusedVariables false
set_option maxRecDepth 100000
set_option linter.unusedSimpArgs false
namespace Lx

theorem take_while (p : UInt8 → Bool) (l : List UInt8) : l.take (l.length - (l.dropWhile p).length) = l.takeWhile p ∧ l.drop (l.length - (l.dropWhile p).length) = l.dropWhile p := by
  have h := List.takeWhile_append_dropWhile (p := p) (l := l)
  have hl : l.length - (l.dropWhile p).length = (l.takeWhile p).length := by
    have := congrArg List.length h
    rw [List.length_append] at this
    omega
  rw [hl]
  have h1 := List.take_left (l₁ := l.takeWhile p) (l₂ := l.dropWhile p)
  have h2 := List.drop_left (l₁ := l.takeWhile p) (l₂ := l.dropWhile p)
  rw [h] at h1 h2
  exact ⟨h1, h2⟩
theorem all_empty (p : UInt8 → Bool) (l : List UInt8) : (l.dropWhile p).isEmpty = l.all p := by
  induction l with
  | nil => rfl
  | cons c r ih =>
    cases hc : p c with
    | true => rw [List.dropWhile_cons_of_pos hc, List.all_cons, hc, ih]; rfl
    | false => rw [List.dropWhile_cons_of_neg (by rw [hc]; decide), List.all_cons, hc]; rfl
theorem tok_won {c : UInt8} {r : List UInt8} (hc : (isL c || isD c) = true) : tok c r = wordT ((c :: r).takeWhile isP) ((c :: r).dropWhile isP) := by
  have h := isL_not hc
  unfold tok
  rw [if_neg h.2.2.1, if_neg h.2.2.2, if_pos hc]

theorem rout_got {w w' : World} {b L : Nat} {T : Tr} {k : Nat} {x rest : List UInt8} {n : Int} (hT : T = .got k x n rest) (g : w.grownBy w' (some b)) (r : RD w' b rest (nxt k L)) : ROut w b L T (.returned (.tuple #[Tk.val ⟨k, x, n, L⟩, .int .i64 0])) w' := by
  subst hT
  exact ⟨g, rfl, r⟩
theorem rout_bad {w w' : World} {b L : Nat} {T : Tr} {er : Nat} {l : List UInt8} (hT : T = .bad er) (g : w.grownBy w' (some b)) (r : RD w' b l L) : ROut w b L T (.returned (.tuple #[zeroTk, .int .i64 er])) w' := by
  subst hT
  exact ⟨g, rfl, l, r⟩

set_option maxHeartbeats 1000000 in
theorem wordOrNumber_any {w : World} {b : Nat} {c : UInt8} {r : List UInt8} {L : Nat} (h : RD w b (c :: r) L) (hc : (isL c || isD c) = true) (hl : r.length ≤ 900000000) :
    Calls Tryd.prog 45 #[ptr b] w (ROut w b L (tok c r)) := by
  rw [tok_won hc]
  obtain ⟨s, hs⟩ := mk_bl (c :: r)
  have hsz : s.size = r.length + 1 := by rw [← bl_len, hs]; rfl
  have hlt := rd_lt h
  have c0 : w.cell? ⟨b, 0, none⟩ = some (.string s) := by have := h.at 0; rw [← hs] at this; exact this
  obtain ⟨d, hd⟩ := mk_bl ((c :: r).dropWhile isP)
  have hdl : d.size ≤ s.size := by rw [← bl_len, ← bl_len, hd, hs]; exact drop_len _ _
  obtain ⟨n, hn⟩ : ∃ n, n = s.size - d.size := ⟨_, rfl⟩
  have htw := take_while isP (c :: r)
  have hlen : (c :: r).length = s.size := by rw [← hs, bl_len]
  have hdlen : ((c :: r).dropWhile isP).length = d.size := by rw [← hd, bl_len]
  rw [hlen, hdlen, ← hn] at htw
  obtain ⟨x, hx⟩ := mk_bl ((c :: r).takeWhile isP)
  have hx0 : bl x = c :: r.takeWhile isP := by rw [hx, List.takeWhile_cons_of_pos (isP_of hc)]
  have hxl : x.size ≤ s.size := by rw [← bl_len, hx, ← htw.1, List.length_take, hlen]; omega
  have hxp : 0 < x.size := by rw [← bl_len, hx0]; simp
  have hxc : x[0] = c := get_of hx0 0 c rfl hxp
  have HR : Hid (∀ o, RD (w.alloc o) b (c :: r) L) := Lib.hid fun o => rd_alloc h o
  have HTR := Lib.hid (fun w => trimLater_any s w)
  rw [hs, ← hd, str_bl] at HTR
  have HT : Hid (∀ w1, RD w1 b (c :: r) L → Calls Tryd.prog 61 #[ptr b, .int .i64 n] w1 fun e w' => e = .returned (.string x) ∧ RD w' b (bl d) L ∧ w1.grownBy w' (some b)) := Lib.hid fun w1 h1 => by
    have := take_any h1 (n := n) (by rw [hlen]; omega) (by simp only [List.length_cons]; omega)
    rw [htw.1, htw.2, ← hx, ← hd] at this
    exact this
  have HW := Lib.hid (fun w => word_any x w (by omega))
  have HI : Hid (∀ w, Calls Tryd.prog 64 #[.string x] w fun e w' => e = .returned (.tuple #[.int .i64 (intV (bl x)), .bool (intB (bl x))]) ∧ Below w.heap.size w w') := Lib.hid (fun w => int_any x (by omega) w)
  have HD := Lib.hid (fun w => trimDigit_any x w)
  rw [← hx, ← hd]
  have hall := all_empty isD (bl x)
  have hhead : ((bl x).head? != some 48) = (c != 48) := by rw [hx0]; rfl
  have hwt : wordT (bl x) (bl d) = if word (bl x) = true then .got 0 (bl x) 0 (bl d) else if intB (bl x) = true then .got 1 (bl x) (intV (bl x)) (bl d) else if (c != 48) && (bl x).all isD then .bad 3 else .bad 11 := by
    rw [← hhead]
    rfl
  rw [hwt]
  obtain ⟨y, hy⟩ := mk_bl ((bl x).dropWhile isD)
  have he : y.toList.isEmpty = (bl x).all isD := by rw [ByteArray.toList_eq, ← hall]; exact congrArg List.isEmpty hy
  rw [← hy, str_bl] at HD
  rw [← he]
  have HXC := Lib.hid hxc
  have HLT := Lib.hid hlt
  have hne : d.size ≤ s.size := hdl
  have HH := Lib.hid h
  have HXS : Hid (str (bl x) = .string x) := Lib.hid rfl
  have HSS : Hid (Value.string s = str (c :: r)) := Lib.hid (by rw [← hs])
  generalize word (bl x) = bw at HW ⊢
  generalize intB (bl x) = bi at HI ⊢
  generalize intV (bl x) = zi at HI ⊢
  generalize bl x = lx at HXS ⊢
  generalize hrest : bl d = rest at HT ⊢
  clear hs hrest hd htw hlen hdlen hx hx0 hxl hxc hall hhead hwt hy he hdl h
  have hn2 : IntKind.i64.wrap ((s.size : Int) - (d.size : Int)) = (n : Int) := by rw [IntWalk.i64_in _ (by omega)]; omega
  have hs3 : s.size ≤ 900000001 := by omega
  clear hn hsz
  generalize hT : (if bw = true then Tr.got 0 lx 0 rest else if bi = true then Tr.got 1 lx zi rest else if (c != 48 && y.toList.isEmpty) = true then Tr.bad 3 else Tr.bad 11) = T
  have HTT := Lib.hid hT
  clear hT
  go_enter Tryd.func45, Tryd.ntmps45
  go_upto_region 1 with (fail)
  have s0 : (w.alloc (.cells #[.int .i64 0, .string ⟨#[]⟩, .int .i64 0, .int .i64 0] 42)).drew.cell? ⟨b, 0, none⟩ = some (.string s) := by rw [HSS.out]; exact (HR.out _).at 0
  refine Dsk.wp_region_behind (fun w' => w'.cell? ⟨b, 0, none⟩ = some (.string s)) 15 [0, 1, 2, 3, 4, 5, 6, 7, 8, 9] [10, 11, 12] [13, 14] (by kernel_rfl) (by kernel_rfl) (by kernel_rfl) s0 ?_
  repeat refine Dsk.RD.next rfl rfl (by intro w' hS; go_simp; with_reducible rfl) ?_
  refine Dsk.RD.done ?_
  refine Dsk.CHW.next rfl rfl fun K hK => ?_
  go_simp
  refine (HTR.out _).mono ?_
  rintro e w2 ⟨rfl, b2⟩
  simp only [Oper.upon]
  have B2 : Hid (Below (w.alloc (.cells #[.int .i64 0, .string ⟨#[]⟩, .int .i64 0, .int .i64 0] 42)).heap.size (w.alloc (.cells #[.int .i64 0, .string ⟨#[]⟩, .int .i64 0, .int .i64 0] 42)) w2) := Lib.hid (Below.trans ((Below.refl _ _).drew) b2)
  have R2 : Hid (RD w2 b (c :: r) L) := Lib.hid (rd_below (HR.out _) B2.out)
  have s2 : w2.cell? ⟨b, 0, none⟩ = some (.string s) := by rw [HSS.out]; exact R2.out.at 0
  refine hK _ _ s2 ?_
  clear hK b2
  refine Dsk.CHW.next rfl rfl fun K hK => ?_
  go_simp
  refine hK _ _ s2 ?_
  clear hK
  refine Dsk.CHW.next rfl rfl fun K hK => ?_
  go_simp
  refine hK _ _ s2 ?_
  clear hK
  refine Dsk.CHW.done ?_
  refine Dsk.CH.next rfl rfl fun K hK => ?_
  go_simp
  refine (HT.out _ R2.out).mono ?_
  rintro e w3 ⟨rfl, h3, g3⟩
  simp only [Oper.upon]
  have H3 := Lib.hid h3
  have G3 := Lib.hid (grown_trans (ch_below (ch_alloc (ch_refl w (some b)) _) B2.out) g3)
  have q2 : TB w2 w.heap.size #[.int .i64 0, .string ⟨#[]⟩, .int .i64 0, .int .i64 0] := (Blk.fresh w _ _).under B2.out (by simp)
  have Q3 := Lib.hid (tb_past q2 g3 (by omega))
  clear h3 g3 q2 s2 s0 R2 B2
  refine hK _ _ trivial ?_
  clear hK
  refine Dsk.CH.next rfl rfl fun K hK => ?_
  go_simp
  refine hK _ _ trivial ?_
  clear hK
  refine Dsk.CH.done (NoPanic.normal ?_)
  have HXC2 : Hid (x[0] = c) := HXC
  clear HTR HT HR HH HSS
  cases bw with
  | true =>
    have HWT : Hid (T = Tr.got 0 lx 0 rest) := Lib.hid (by rw [← HTT.out]; rfl)
    clear HTT
    go_wp2_with (first
      | (go_at_call 50; refine (HW.out _).mono ?_; rintro e w4 ⟨rfl, b4⟩
         have H4 := Lib.hid (rd_below H3.out b4)
         have G4 := Lib.hid (ch_below G3.out b4)
         have r4 := Q3.out.under b4 Q3.out.inside
         have d1 := H4.out.at 1
         have t0 := r4.at 0
         have t1 := r4.at 1
         have t2 := r4.at 2
         have t3 := r4.at 3
         have f0 := r4.thaw 0
         have f1 := r4.thaw 1
         have f2 := r4.thaw 2
         have f3 := r4.thaw 3
         clear b4 r4))
    exact bodyPost_ret (v := .tuple #[Tk.val ⟨0, lx, 0, L⟩, .int .i64 0]) (by rw [← HXS.out] at *; simp [results, Tryd.results45, go_sem, t0, t1, t2, t3]) rfl (rout_got HWT.out (ch_poke4 G4.out (Nat.le_refl _) _ _ _ _) (rd_poke4 H4.out (by have := HLT.out; omega) _ _ _ _))
  | false =>
    cases bi with
    | true =>
      have HWT : Hid (T = Tr.got 1 lx zi rest) := Lib.hid (by rw [← HTT.out]; rfl)
      clear HTT
      go_wp2_with (first
        | (go_at_call 50; refine (HW.out _).mono ?_; rintro e w4 ⟨rfl, b4⟩
           have H4 := Lib.hid (rd_below H3.out b4)
           have G4 := Lib.hid (ch_below G3.out b4)
           have R4 := Lib.hid (Q3.out.under b4 Q3.out.inside)
           clear b4)
        | (go_at_call 64; refine (HI.out _).mono ?_; rintro e w5 ⟨rfl, b5⟩
           have H5 := Lib.hid (rd_below H4.out b5)
           have G5 := Lib.hid (ch_below G4.out b5)
           have R5 := Lib.hid (R4.out.under b5 R4.out.inside)
           have d1 := H5.out.at 1
           have t0 := R5.out.at 0
           have t1 := R5.out.at 1
           have t2 := R5.out.at 2
           have t3 := R5.out.at 3
           have f0 := R5.out.thaw 0
           have f1 := R5.out.thaw 1
           have f2 := R5.out.thaw 2
           have f3 := R5.out.thaw 3
           clear b5))
      exact bodyPost_ret (v := .tuple #[Tk.val ⟨1, lx, zi, L⟩, .int .i64 0]) (by rw [← HXS.out] at *; simp [results, Tryd.results45, go_sem, t0, t1, t2, t3, zeroTk]) rfl (rout_got HWT.out (ch_poke4 G5.out (Nat.le_refl _) _ _ _ _) (rd_poke4 H5.out (by have := HLT.out; omega) _ _ _ _))
    | false =>
      by_cases h48 : c = 48
      · have t48 : ((x[0].toNat : Int) != 48) = false := by have : ((x[0].toNat : Int) == 48) = true := byte_eq (c := x[0]) (k := 48) (by omega) (by rw [HXC.out, h48]; rfl); simp only [bne]; rw [this]; rfl
        have HWT : Hid (T = Tr.bad 11) := Lib.hid (by rw [← HTT.out, h48]; rfl)
        clear HTT h48
        go_wp2_with (first
          | (go_at_call 50; refine (HW.out _).mono ?_; rintro e w4 ⟨rfl, b4⟩
             have H4 := Lib.hid (rd_below H3.out b4)
             have G4 := Lib.hid (ch_below G3.out b4)
             have R4 := Lib.hid (Q3.out.under b4 Q3.out.inside)
             clear b4)
          | (go_at_call 64; refine (HI.out _).mono ?_; rintro e w5 ⟨rfl, b5⟩
             have H5 := Lib.hid (rd_below H4.out b5)
             have G5 := Lib.hid (ch_below G4.out b5)
             have R5 := Lib.hid (R4.out.under b5 R4.out.inside)
             have d1 := H5.out.at 1
             have t0 := R5.out.at 0
             have t1 := R5.out.at 1
             have t2 := R5.out.at 2
             have t3 := R5.out.at 3
             have f0 := R5.out.thaw 0
             have f1 := R5.out.thaw 1
             have f2 := R5.out.thaw 2
             have f3 := R5.out.thaw 3
             clear b5))
        exact bodyPost_ret (v := .tuple #[zeroTk, .int .i64 11]) (by simp [results, Tryd.results45, go_sem, t0, t1, t2, t3, zeroTk]) rfl (rout_bad HWT.out (ch_poke4 G5.out (Nat.le_refl _) _ _ _ _) (rd_poke4 H5.out (by have := HLT.out; omega) _ _ _ _))
      · have t48 : ((x[0].toNat : Int) != 48) = true := by have : ((x[0].toNat : Int) == 48) = false := byte_ne (c := x[0]) (k := 48) (by omega) (by rw [HXC.out]; exact h48); simp only [bne]; rw [this]; rfl
        have HTU : Hid ((if y.toList.isEmpty = true then Tr.bad 3 else Tr.bad 11) = T) := Lib.hid (by rw [← HTT.out]; simp [h48])
        clear HTT h48
        cases hy : y.toList.isEmpty with
        | true =>
          have HWT : Hid (T = Tr.bad 3) := Lib.hid (by rw [← HTU.out, hy]; rfl)
          clear HTU
          go_wp2_with (first
            | (go_at_call 50; refine (HW.out _).mono ?_; rintro e w4 ⟨rfl, b4⟩
               have H4 := Lib.hid (rd_below H3.out b4)
               have G4 := Lib.hid (ch_below G3.out b4)
               have R4 := Lib.hid (Q3.out.under b4 Q3.out.inside)
               clear b4)
            | (go_at_call 64; refine (HI.out _).mono ?_; rintro e w5 ⟨rfl, b5⟩
               have H5 := Lib.hid (rd_below H4.out b5)
               have G5 := Lib.hid (ch_below G4.out b5)
               have R5 := Lib.hid (R4.out.under b5 R4.out.inside)
               clear b5)
            | (go_at_call 58; refine (HD.out _).mono ?_; rintro e w6 ⟨rfl, b6⟩
               have H6 := Lib.hid (rd_below H5.out b6)
               have G6 := Lib.hid (ch_below G5.out b6)
               have R6 := Lib.hid (R5.out.under b6 R5.out.inside)
               have d1 := H6.out.at 1
               have t0 := R6.out.at 0
               have t1 := R6.out.at 1
               have t2 := R6.out.at 2
               have t3 := R6.out.at 3
               have f0 := R6.out.thaw 0
               have f1 := R6.out.thaw 1
               have f2 := R6.out.thaw 2
               have f3 := R6.out.thaw 3
               clear b6))
          exact bodyPost_ret (v := .tuple #[zeroTk, .int .i64 3]) (by simp [results, Tryd.results45, go_sem, t0, t1, t2, t3, zeroTk]) rfl (rout_bad HWT.out (ch_poke4 G6.out (Nat.le_refl _) _ _ _ _) (rd_poke4 H6.out (by have := HLT.out; omega) _ _ _ _))
        | false =>
          have HWT : Hid (T = Tr.bad 11) := Lib.hid (by rw [← HTU.out, hy]; rfl)
          clear HTU
          go_wp2_with (first
            | (go_at_call 50; refine (HW.out _).mono ?_; rintro e w4 ⟨rfl, b4⟩
               have H4 := Lib.hid (rd_below H3.out b4)
               have G4 := Lib.hid (ch_below G3.out b4)
               have R4 := Lib.hid (Q3.out.under b4 Q3.out.inside)
               clear b4)
            | (go_at_call 64; refine (HI.out _).mono ?_; rintro e w5 ⟨rfl, b5⟩
               have H5 := Lib.hid (rd_below H4.out b5)
               have G5 := Lib.hid (ch_below G4.out b5)
               have R5 := Lib.hid (R4.out.under b5 R4.out.inside)
               clear b5)
            | (go_at_call 58; refine (HD.out _).mono ?_; rintro e w6 ⟨rfl, b6⟩
               have H6 := Lib.hid (rd_below H5.out b6)
               have G6 := Lib.hid (ch_below G5.out b6)
               have R6 := Lib.hid (R5.out.under b6 R5.out.inside)
               have d1 := H6.out.at 1
               have t0 := R6.out.at 0
               have t1 := R6.out.at 1
               have t2 := R6.out.at 2
               have t3 := R6.out.at 3
               have f0 := R6.out.thaw 0
               have f1 := R6.out.thaw 1
               have f2 := R6.out.thaw 2
               have f3 := R6.out.thaw 3
               clear b6))
          exact bodyPost_ret (v := .tuple #[zeroTk, .int .i64 11]) (by simp [results, Tryd.results45, go_sem, t0, t1, t2, t3, zeroTk]) rfl (rout_bad HWT.out (ch_poke4 G6.out (Nat.le_refl _) _ _ _ _) (rd_poke4 H6.out (by have := HLT.out; omega) _ _ _ _))
end Lx
end Go.Proofs.YtibeangcjfjeiaaDoor

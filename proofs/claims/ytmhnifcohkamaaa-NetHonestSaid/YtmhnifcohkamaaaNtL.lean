/- Same of the reference; count of the statements. -/
import Derived.Test.YtmhnifcohkamaaaNtK
namespace Go.Proofs.Ytmhnifcohkamaaa
open Go.RowKit Wire
open Txt (Row)
open Dsk (Only below_of_grown Grow.bare)
set_option linter.unusedVariables false
set_option linter.unusedSimpArgs false
namespace Ntw
theorem drewN_below {B : Nat} {w w' : World} (h : Below B w w') (n : Nat) : Below B w (w'.drewN n) := ⟨h.os, h.tape, h.output, h.size, h.block⟩
structure SmRel (w : World) (l m : List Pk) (iv : Value) (wr : World) (i : Nat) : Prop where
  iv : iv = .int .i64 i
  le : i ≤ l.length
  same : l.take i = m.take i
  below : Below w.heap.size w wr
theorem take_same {l m : List Pk} {i : Nat} {p q : Pk} (h : l.take i = m.take i) (hp : l[i]? = some p) (hq : m[i]? = some q) (e : p = q) : l.take (i + 1) = m.take (i + 1) := by
  rw [List.take_add_one, List.take_add_one, h, hp, hq, e]
set_option maxRecDepth 8000 in
set_option maxHeartbeats 1000000 in
theorem qSame_any (w : World) (A B : Option Addr) (c d : Nat) (l m : List Pk) (hl : l.length ≤ 1000000000) (ha : Row w w.heap.size A (pks l)) (hb : Row w w.heap.size B (pks m)) :
    Calls Try.prog 17 #[.slice A l.length c, .slice B m.length d] w fun e w' => e = .returned (.bool (decide (l = m))) ∧ Below w.heap.size w w' := by
  have HA := Lib.hid ha
  have HB := Lib.hid hb
  clear ha hb
  by_cases hlen : l.length = m.length
  · have HE : Hid (∀ i, i = l.length → l.take i = m.take i → decide (l = m) = true) := Lib.hid fun i hi h => decide_eq_true (by subst hi; rw [List.take_length] at h; rw [h, hlen, List.take_length])
    have HN : Hid (∀ (i : Nat) (p q : Pk), l[i]? = some p → m[i]? = some q → p ≠ q → decide (l = m) = false) := Lib.hid fun i p q hp hq hne => decide_eq_false fun e => hne (by rw [e, hq] at hp; exact (Option.some.inj hp).symm)
    have HP : Hid (∀ (i : Nat), i < l.length → ∃ p q : Pk, l[i]? = some p ∧ m[i]? = some q) := Lib.hid fun i hi => ⟨l[i], m[i]'(by omega), List.getElem?_eq_getElem _, List.getElem?_eq_getElem _⟩
    have HT : Hid (∀ (i : Nat) (p q : Pk), l.take i = m.take i → l[i]? = some p → m[i]? = some q → p = q → l.take (i + 1) = m.take (i + 1)) := Lib.hid fun i p q h1 h2 h3 h4 => take_same h1 h2 h3 h4
    rw [← hlen]
    clear hlen
    generalize hn : l.length = n at *
    generalize decide (l = m) = r at *
    have HNN := Lib.hid hn
    clear hn
    go_enter Try.func17, Try.ntmps17
    go_wp2_with fail
    go_loopw [5] (fun iv wr => ∃ i, SmRel w l m iv wr i) (fun iv _ => n - (intOf iv).toNat)
    case atStart => exact ⟨0, rfl, Nat.zero_le _, rfl, Below.refl _ _⟩
    case round =>
      obtain ⟨i, ⟨rfl, hi, hsame, hbel⟩⟩ := hrel
      rw [HNN.out] at hi
      have HS := Lib.hid hsame
      have HBel := Lib.hid hbel
      clear hsame
      by_cases hlt : i < n
      · obtain ⟨p, q, hp, hq⟩ := HP.out i hlt
        obtain ⟨b1, o1, rfl, hb1, hc1⟩ := row_pk HA.out (Below.refl _ _) hp
        obtain ⟨b2, o2, rfl, hb2, hc2⟩ := row_pk HB.out (Below.refl _ _) hq
        obtain ⟨k0, k1, k2⟩ := hc1 wr hbel
        obtain ⟨z0, z1, z2⟩ := hc2 wr hbel
        have HPP := Lib.hid hp
        have HQQ := Lib.hid hq
        clear hp hq hc1 hc2 hbel hb1 hb2
        by_cases e : p = q
        · have hq : ∀ w, (binOp .neq 33 (.agg #[.int .i64 p.src, .int .i64 p.dst, .string p.body]) (.agg #[.int .i64 q.src, .int .i64 q.dst, .string q.body])).run Try.prog w = .ok (.bool false) w := fun w => by rw [show false = (!decide (p = q)) from by simp [e]]; exact neq_pk p q w
          have HT' := Lib.hid (HT.out i p q HS.out HPP.out HQQ.out e)
          clear e
          go_wp2_with fail
          go_quiet (fail)
          go_wp2_with fail
          go_roundw
          case rel => exact ⟨i + 1, by simp, by rw [HNN.out]; exact hlt, HT'.out, drewN_below HBel.out _⟩
          case measure => simp [intOf]; omega
        · have hq : ∀ w, (binOp .neq 33 (.agg #[.int .i64 p.src, .int .i64 p.dst, .string p.body]) (.agg #[.int .i64 q.src, .int .i64 q.dst, .string q.body])).run Try.prog w = .ok (.bool true) w := fun w => by rw [show true = (!decide (p = q)) from by simp [e]]; exact neq_pk p q w
          have HN' := Lib.hid (HN.out i p q HPP.out HQQ.out e)
          clear e
          go_wp2_with fail
          go_quiet (fail)
          go_wp2_with fail
          go_ret
          exact ⟨by rw [HN'.out]; rfl, drewN_below HBel.out _⟩
      · obtain rfl : n = i := by omega
        have HE' := Lib.hid (HE.out n rfl HS.out)
        clear HE HN HP HT
        go_wp2_with fail
        go_ret
        exact ⟨by rw [HE'.out]; rfl, HBel.out⟩
  · have hne : decide (l = m) = false := decide_eq_false fun e => hlen (by rw [e])
    rw [hne]
    have hl2 : ¬ (l.length : Int) = m.length := by omega
    clear hlen hne HA HB
    generalize l.length = n at *
    generalize m.length = k at *
    go_enter Try.func17, Try.ntmps17
    go_wp2_with fail
    all_goals
      first
        | (go_ret; exact ⟨rfl, Below.refl _ _⟩)
        | omega
structure CntRel (w : World) (l : List Pk) (p : Pk) (iv nv : Value) (wr : World) (i : Nat) : Prop where
  iv : iv = .int .i64 i
  nv : nv = .int .i64 ((l.take i).count p : Nat)
  le : i ≤ l.length
  below : Below (w.heap.size + 1) (w.alloc (.cells #[.int .i64 p.src, .int .i64 p.dst, .string p.body] 33)) wr
theorem count_take {l : List Pk} {i : Nat} {p q : Pk} (hq : l[i]? = some q) : (l.take (i + 1)).count p = (l.take i).count p + if q = p then 1 else 0 := by
  have hlt := (List.getElem?_eq_some_iff.1 hq).1
  rw [List.take_succ_eq_append_getElem hlt, (List.getElem?_eq_some_iff.1 hq).2]
  exact count_snoc _ _ _
set_option maxRecDepth 8000 in
set_option maxHeartbeats 1000000 in
theorem pkCount_any (w : World) (A : Option Addr) (c : Nat) (l : List Pk) (p : Pk) (hl : l.length ≤ 1000000000) (ha : Row w w.heap.size A (pks l)) :
    Calls Try.prog 19 #[.slice A l.length c, p.val] w fun e w' => e = .returned (.int .i64 (l.count p : Nat)) ∧ Below w.heap.size w w' := by
  have HA := Lib.hid ha
  have HB0 : Hid (∀ wr, Below (w.heap.size + 1) (w.alloc (.cells #[.int .i64 p.src, .int .i64 p.dst, .string p.body] 33)) wr → Below w.heap.size w wr) := Lib.hid fun wr b => ((Below.refl _ w).alloc (Nat.le_refl _) _).trans (b.mono (Nat.le_succ _))
  have HK : Hid (∀ wr, Below (w.heap.size + 1) (w.alloc (.cells #[.int .i64 p.src, .int .i64 p.dst, .string p.body] 33)) wr → wr.cell? ⟨w.heap.size, 0, none⟩ = some (.int .i64 p.src) ∧ wr.cell? ⟨w.heap.size, 1, none⟩ = some (.int .i64 p.dst) ∧ wr.cell? ⟨w.heap.size, 2, none⟩ = some (.string p.body)) := Lib.hid fun wr b => by
    have h := (Blk.fresh w 33 #[.int .i64 p.src, .int .i64 p.dst, .string p.body]).under b (by omega)
    exact ⟨h.at 0, h.at 1, h.at 2⟩
  have HP : Hid (∀ (i : Nat), i < l.length → ∃ q : Pk, l[i]? = some q) := Lib.hid fun i hi => ⟨l[i], List.getElem?_eq_getElem _⟩
  have HE : Hid (∀ i, i = l.length → (l.take i).count p = l.count p) := Lib.hid fun i hi => by subst hi; rw [List.take_length]
  have HB1 : Hid (Below (w.heap.size + 1) (w.alloc (.cells #[.int .i64 p.src, .int .i64 p.dst, .string p.body] 33)) (w.alloc (.cells #[.int .i64 p.src, .int .i64 p.dst, .string p.body] 33))) := Lib.hid (Below.refl _ _)
  have HL := Lib.hid hl
  clear ha hl
  generalize hn : l.length = n at *
  have HNN := Lib.hid hn
  clear hn
  go_enter Try.func19, Try.ntmps19
  go_wp2_with fail
  go_loopw [5, 6] (fun nv iv wr => ∃ i, CntRel w l p iv nv wr i) (fun nv iv _ => n - (intOf iv).toNat)
  case atStart => exact ⟨0, rfl, rfl, Nat.zero_le _, HB1.out⟩
  case round =>
    obtain ⟨i, ⟨rfl, rfl, hi, hbel⟩⟩ := hrel
    rw [HNN.out] at hi
    have HBel := Lib.hid hbel
    have hcl : (l.take i).count p ≤ i := Nat.le_trans List.count_le_length (by rw [List.length_take]; omega)
    have hil := HL.out
    by_cases hlt : i < n
    · obtain ⟨q, hp⟩ := HP.out i hlt
      obtain ⟨b1, o1, rfl, hb1, hc1⟩ := row_pk HA.out (Below.refl _ _) hp
      obtain ⟨z0, z1, z2⟩ := hc1 wr (HB0.out _ hbel)
      obtain ⟨k0, k1, k2⟩ := HK.out wr hbel
      have HCT := Lib.hid (count_take (p := p) hp)
      clear hp hc1 hbel hb1
      generalize (l.take i).count p = x at *
      by_cases e : q = p
      · have hq : ∀ w, (binOp .eql 33 (.agg #[.int .i64 q.src, .int .i64 q.dst, .string q.body]) (.agg #[.int .i64 p.src, .int .i64 p.dst, .string p.body])).run Try.prog w = .ok (.bool true) w := fun w => by rw [show true = (decide (q = p)) from by simp [e]]; exact eql_pk q p w
        rw [if_pos e] at HCT
        clear e
        go_wp2_with fail
        go_quiet (fail)
        go_wp2_with fail
        go_roundw
        case rel => exact ⟨i + 1, by simp, by rw [HCT.out]; simp, by rw [HNN.out]; exact hlt, drewN_below HBel.out _⟩
        case measure => simp [intOf]; omega
      · have hq : ∀ w, (binOp .eql 33 (.agg #[.int .i64 q.src, .int .i64 q.dst, .string q.body]) (.agg #[.int .i64 p.src, .int .i64 p.dst, .string p.body])).run Try.prog w = .ok (.bool false) w := fun w => by rw [show false = (decide (q = p)) from by simp [e]]; exact eql_pk q p w
        rw [if_neg e] at HCT
        clear e
        go_wp2_with fail
        go_quiet (fail)
        go_wp2_with fail
        go_roundw
        case rel => exact ⟨i + 1, by simp, by rw [HCT.out]; simp, by rw [HNN.out]; exact hlt, drewN_below HBel.out _⟩
        case measure => simp [intOf]; omega
    · obtain rfl : n = i := by omega
      have HE' := Lib.hid (HE.out n rfl)
      go_wp2_with fail
      go_ret
      exact ⟨by rw [← HE'.out]; rfl, HB0.out _ HBel.out⟩
end Ntw
end Go.Proofs.Ytmhnifcohkamaaa

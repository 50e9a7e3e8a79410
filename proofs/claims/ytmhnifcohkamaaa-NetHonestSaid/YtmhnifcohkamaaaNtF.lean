/- Drop, Double, Deliver and Send of package net. -/
import Derived.Test.YtmhnifcohkamaaaNtE
namespace Go.Proofs.Ytmhnifcohkamaaa
open Go.RowKit Wire
open Txt (Row)
open Dsk (Only below_of_grown Grow.bare)
set_option linter.unusedVariables false
set_option linter.unusedSimpArgs false
namespace Ntw
section
variable {ty : TypeId} {w w1 w2 w3 : World} {p : Nat} {S : Nt} {F : Nat → Prop} {v v' : Value}
theorem NetV.at_ (h : NetV ty w p S F v) : NetAt ty w p S F := ⟨h.ok, v, h.blk, h.row, h.apart, h.has⟩
theorem NetV.below (h : NetV ty w p S F v) (b : Below w.heap.size w w1) : NetV ty w1 p S F v := ⟨h.ok, h.blk.under b h.blk.inside, h.row.below b, h.apart, h.has⟩
theorem NetV.cell (h : NetV ty w p S F v) : w.cell? ⟨p, 0, none⟩ = some v := h.blk.at 0
/-- The store behind slices.Delete. -/
theorem drop_store (h : NetV ty w p S F v) {i : Nat} (hi : i < S.L.length) (b : Below w.heap.size w w2) (hg : Grow w3 0 3 v' (S.L.eraseIdx i).length (pks (S.L.eraseIdx i))) (hgr : w2.grownBy w3 v.ownBlock) (hv : v'.ownBlock = v.ownBlock) :
    w3.cell? ⟨p, 0, none⟩ = some v ∧ w3.frozen? ⟨p, 0, none⟩ = false ∧ NPost ty p { S with L := S.L.eraseIdx i } F w (w3.setCell ⟨p, 0, none⟩ v') := by
  have hb : Blk w3 p ty #[v, .int .i64 S.m] := (h.blk.under b h.blk.inside).past hgr (fun e => h.apart e.symm)
  exact ⟨hb.at 0, hb.thaw 0, net_store (S' := { S with L := S.L.eraseIdx i }) h.row h.blk h.apart h.has (h.ok.less i) rfl hb hg (.inl hv)
    ((Only.of_below b).trans (Only.of_grown' (F := F) hgr fun m hm => .inl ((h.has m).2 (.inr hm))) fun x hx => .inl hx)⟩
end
theorem not_zero {S : Nt} (ho : S.ok) {i : Nat} {q : Pk} (hq : S.L[i]? = some q) : decide (q = Pk.zero) = false := decide_eq_false fun e => by
  have := (ho.at hq).2.2
  rw [e] at this
  exact this rfl
theorem is_zero : decide (Pk.zero = Pk.zero) = true := decide_eq_true rfl
set_option maxHeartbeats 1000000 in
theorem nDrop_none {w : World} {p : Nat} {S : Nt} {F : Nat → Prop} (h : NetAt 56 w p S F) (i : Int) (hi : S.has i = false) :
    Calls Try.prog 25 #[ptr p, .int .i64 i] w fun e w' => e = .returned (.int .i64 4) ∧ Below w.heap.size w w' := by
  have HA := Lib.hid (nat_none h i hi)
  have HN := Lib.hid (nisNone_any Pk.zero)
  rw [is_zero] at HN
  clear h hi
  go_enter Try.func25, Try.ntmps25
  go_wp2_with (first
    | (go_at_call 36; refine HA.out.mono ?_; rintro e w1 ⟨rfl, b1⟩)
    | (go_at_call 37; refine (HN.out _).mono ?_; rintro e w2 ⟨rfl, b2⟩))
  go_ret
  exact ⟨rfl, next_below b1 b2⟩
set_option maxHeartbeats 1000000 in
theorem nDrop_some {w : World} {p : Nat} {S : Nt} {F : Nat → Prop} (h : NetAt 56 w p S F) (i : Nat) (q : Pk) (hq : S.L[i]? = some q) :
    Calls Try.prog 25 #[ptr p, .int .i64 i] w fun e w' => e = .returned (.int .i64 0) ∧ NPost 56 p { S with L := S.L.eraseIdx i } F w w' := by
  obtain ⟨v, hV⟩ := h.pieces
  have hlt := (List.getElem?_eq_some_iff.1 hq).1
  have hle := h.ok.len
  have HA := Lib.hid (nat_some h i q hq)
  have HN := Lib.hid (nisNone_any q)
  rw [not_zero h.ok hq] at HN
  have HC := Lib.hid (fun w' (b : Below w.heap.size w w') => (hV.below b).cell)
  have HD : Hid (∀ w', Below w.heap.size w w' → Calls Try.prog 38 #[v, .int .i64 i, .int .i64 ((i : Int) + 1)] w' (DelPost w' 0 i v S.L)) := Lib.hid fun w' b => by
    have := delete_any 0 i (i + 1) rfl v S.L w' (by omega) hlt (hV.below b).row
    rwa [Int.natCast_add] at this
  have HS := Lib.hid (fun w2 w3 v' (b : Below w.heap.size w w2) hg hgr hv => drop_store (w3 := w3) (v' := v') hV hlt b hg hgr hv)
  have hlt2 : (i : Int) + 1 ≤ 500 := by omega
  clear h hV hq hlt hle
  go_enter Try.func25, Try.ntmps25
  go_wp2_with (first
    | (go_at_call 36; refine HA.out.mono ?_; rintro e w1 ⟨rfl, b1⟩)
    | (go_at_call 37; refine (HN.out _).mono ?_; rintro e w2 ⟨rfl, b2⟩; have B2 := Lib.hid (next_below b1 b2); have c0 := HC.out _ B2.out; clear b1 b2)
    | (go_at_call 38; refine (HD.out _ B2.out).mono ?_; rintro e w3 ⟨v', rfl, g3, gr3, hv3⟩; obtain ⟨s0, s1, hp3⟩ := HS.out _ _ _ B2.out g3 gr3 hv3; have HP3 := Lib.hid hp3; obtain ⟨A3, c3, rfl⟩ := g3.slice; clear g3 gr3 hv3 hp3))
  go_ret
  exact ⟨rfl, HP3.out⟩
set_option maxHeartbeats 1000000 in
theorem nDouble_none {w : World} {p : Nat} {S : Nt} {F : Nat → Prop} (h : NetAt 56 w p S F) (i : Int) (hi : S.has i = false) :
    Calls Try.prog 24 #[ptr p, .int .i64 i] w fun e w' => e = .returned (.int .i64 4) ∧ Below w.heap.size w w' := by
  have HA := Lib.hid (nat_none h i hi)
  have HN := Lib.hid (nisNone_any Pk.zero)
  rw [is_zero] at HN
  clear h hi
  have b : ∀ w1, Below w.heap.size w w1 → ∀ o, Below w.heap.size w (w1.alloc o) := fun w1 b o => b.alloc b.size o
  have HB := Lib.hid b
  clear b
  go_enter Try.func24, Try.ntmps24
  go_wp2_with (first
    | (go_at_call 36; refine HA.out.mono ?_; rintro e w1 ⟨rfl, b1⟩)
    | (go_at_call 37; refine (HN.out _).mono ?_; rintro e w2 ⟨rfl, b2⟩))
  go_ret
  exact ⟨rfl, next_below (HB.out _ b1 _) b2⟩
set_option maxHeartbeats 1000000 in
theorem nDouble_some {w : World} {p : Nat} {S : Nt} {F : Nat → Prop} (h : NetAt 56 w p S F) (i : Nat) (q : Pk) (hq : S.L[i]? = some q) :
    Calls Try.prog 24 #[ptr p, .int .i64 i] w fun e w' => e = .returned (.int .i64 (S.double i).1) ∧ NPost 56 p (S.double i).2 F w w' := by
  have hlt := (List.getElem?_eq_some_iff.1 hq).1
  have hF := h.lt
  have HA := Lib.hid (nat_some h i q hq)
  have HN := Lib.hid (nisNone_any q)
  rw [not_zero h.ok hq] at HN
  have hhas : S.has i = true := decide_eq_true (by omega)
  have HADD : Hid (∀ w', Below w.heap.size w w' → Calls Try.prog 35 #[ptr p, q.val] w' fun e w2 => e = .returned (.int .i64 (S.double i).1) ∧ NPost 56 p (S.double i).2 F w w2) := Lib.hid fun w' b => by
    unfold Nt.double
    rw [if_neg (by simp [hhas])]
    by_cases hl : 500 ≤ S.L.length
    · rw [if_pos hl]
      exact (nadd_full (h.below b) q hl).mono fun e w2 ⟨he, hb⟩ => ⟨he, NPost.after b hF (NPost.below (h.below b) hb)⟩
    · rw [if_neg hl]
      have e : S.L[(i : Int).toNat]? = some q := by simpa using hq
      simp only [e]
      exact (nadd_ok (h.below b) q (by omega) (h.ok.at hq)).mono fun e w2 ⟨he, hb⟩ => ⟨he, NPost.after b hF hb⟩
  clear h hq hlt hhas hF
  generalize S.double i = D at *
  have b : ∀ w1, Below w.heap.size w w1 → ∀ o, Below w.heap.size w (w1.alloc o) := fun w1 b o => b.alloc b.size o
  have HB := Lib.hid b
  clear b
  go_enter Try.func24, Try.ntmps24
  go_wp2_with (first
    | (go_at_call 36; refine HA.out.mono ?_; rintro e w1 ⟨rfl, b1⟩; have B1 := Lib.hid b1; clear b1)
    | (go_at_call 37; refine (HN.out _).mono ?_; rintro e w2 ⟨rfl, b2⟩; have B2 := Lib.hid (next_below (HB.out _ B1.out _) b2); have k0 := (b2.cell (p := ⟨w1.heap.size, 0, none⟩) (by simp)).trans ((Blk.fresh w1 _ _).at 0); have k1 := (b2.cell (p := ⟨w1.heap.size, 1, none⟩) (by simp)).trans ((Blk.fresh w1 _ _).at 1); have k2 := (b2.cell (p := ⟨w1.heap.size, 2, none⟩) (by simp)).trans ((Blk.fresh w1 _ _).at 2); clear b2)
    | (go_at_call 35; refine (HADD.out _ B2.out).mono ?_; rintro e w3 ⟨rfl, h3⟩; have H3 := Lib.hid h3; clear h3))
  go_ret
  exact ⟨rfl, H3.out⟩
end Ntw
end Go.Proofs.Ytmhnifcohkamaaa

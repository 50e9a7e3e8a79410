/- parse at every string; Open. -/
import Derived.Test.YtlokgmpdighfaaaDoorClC
namespace Go.Proofs.YtlokgmpdighfaaaDoor
open Go.RowKit Wire
set_option linter.unusedVariables false
set_option linter.unusedSimpArgs false
open Txt
namespace Dsk

/-- What parse returns. -/
def parV (l : List UInt8) : Value := if l.length = 5 ∧ (l.getD 0 0 = 1 ∨ l.getD 0 0 = 2) ∧ hsize l ≤ 65536 then .tuple #[.agg #[.int .i64 (l.getD 0 0).toNat, .int .i64 (hsize l)], .bool true] else .tuple #[.agg #[.int .i64 0, .int .i64 0], .bool false]
set_option maxHeartbeats 1000000 in
theorem parse_any (s : ByteArray) (hm : s.size ≤ 5) (w : World) : Calls Tryd.prog 36 #[.string s] w fun e w' => e = .returned (parV (bl s)) ∧ Below w.heap.size w w' := by
  by_cases h : s.size = 5
  · refine (parse_five s h w).mono ?_
    rintro e w' ⟨rfl, hb⟩
    refine ⟨?_, hb⟩
    unfold parV
    rw [bl_len]
    by_cases h2 : ((bl s).getD 0 0 = 1 ∨ (bl s).getD 0 0 = 2) ∧ hsize (bl s) ≤ 65536
    · rw [if_pos h2, if_pos ⟨h, h2⟩]
    · rw [if_neg h2, if_neg (fun e => h2 e.2)]
  · have e : parV (bl s) = .tuple #[.agg #[.int .i64 0, .int .i64 0], .bool false] := by
      unfold parV
      rw [bl_len, if_neg (fun e => h e.1)]
    rw [e]
    clear e
    have q0 : ((s.size : Int) == 5) = false := beq_eq_false_iff_ne.2 (by omega)
    have q1 := bne_of q0
    have h1 := Blk.fresh w 76 #[.int .i64 0, .int .i64 0]
    have hb := (Below.refl _ w).alloc (Nat.le_refl _) (Obj.cells #[.int .i64 0, .int .i64 0] 76)
    have f0 := h1.thaw 0
    have f1 := h1.thaw 1
    have c0 := (h1.at 0).trans rfl
    have c1 := (h1.at 1).trans rfl
    clear h h1
    go_enter Tryd.func36, Tryd.ntmps36
    go_wp2_with fail
    exact bodyPost_ret (v := .tuple #[.agg #[.int .i64 0, .int .i64 0], .bool false]) (by simp [results, Tryd.results36, go_sem, c0, c1]) rfl ⟨rfl, hb⟩

section
variable {w w' w0 : World} {q p : Nat} {c c' : Cl} {D : Own} {S S' : St}
/-- What Open returns: a new cell, or nil. -/
def OpnPost (w : World) (p : Nat) (r : Int × Option Cl) (e : Ending) (w' : World) : Prop :=
  Below w.heap.size w w' ∧ match r.2 with
    | none => e = .returned (.tuple #[.pointer none, .int .i64 r.1])
    | some c => ∃ q, e = .returned (.tuple #[ptr q, .int .i64 r.1]) ∧ CellAt w' q p c ∧ w.heap.size ≤ q
theorem CellAt.fresh (w : World) (p : Nat) (f : Int) (t : TypeId) : CellAt (w.alloc (.cells #[ptr p, .int .i64 f, .int .i64 0, .string ⟨#[]⟩, .bool false] t)) w.heap.size p ⟨f, 0, [], false⟩ := by
  have h := Blk.fresh w t #[ptr p, .int .i64 f, .int .i64 0, .string ⟨#[]⟩, .bool false]
  refine ⟨(h.at 0).trans rfl, (h.at 1).trans rfl, (h.at 2).trans rfl, (h.at 3).trans rfl, (h.at 4).trans rfl, fun j hj => ⟨?_, h.thaw _⟩⟩
  rw [h.at, Nat.zero_add]
  rcases (by omega : j = 0 ∨ j = 1 ∨ j = 2 ∨ j = 3 ∨ j = 4) with rfl | rfl | rfl | rfl | rfl <;> rfl

/-- What stands there once Open has laid the cell and the header. -/
theorem opened {w5 w6 : World} {k n : Nat} (f : Int) (h5 : Below w.heap.size w w5) (h6 : Below (w5.alloc (.cells #[ptr D.p, .int .i64 f, .int .i64 0, .string ⟨#[]⟩, .bool false] 74)).heap.size (w5.alloc (.cells #[ptr D.p, .int .i64 f, .int .i64 0, .string ⟨#[]⟩, .bool false] 74)) w6) :
    (w6.alloc (Obj.cells #[Value.int IntKind.i64 k, Value.int IntKind.i64 n] 76)).cell? ⟨w5.heap.size, 2, none⟩ = some (.int .i64 0) ∧ (w6.alloc (Obj.cells #[Value.int IntKind.i64 k, Value.int IntKind.i64 n] 76)).frozen? ⟨w5.heap.size, 2, none⟩ = false ∧
    (CellAt ((w6.alloc (Obj.cells #[Value.int IntKind.i64 k, Value.int IntKind.i64 n] 76)).setCell ⟨w5.heap.size, 2, none⟩ (.int .i64 k)) w5.heap.size D.p ⟨f, k, [], false⟩ ∧
      ((w6.alloc (Obj.cells #[Value.int IntKind.i64 k, Value.int IntKind.i64 n] 76)).setCell ⟨w5.heap.size, 2, none⟩ (.int .i64 k)).cell? ⟨w6.heap.size, 0, none⟩ = some (.int .i64 k) ∧
      ((w6.alloc (Obj.cells #[Value.int IntKind.i64 k, Value.int IntKind.i64 n] 76)).setCell ⟨w5.heap.size, 2, none⟩ (.int .i64 k)).cell? ⟨w6.heap.size, 1, none⟩ = some (.int .i64 n) ∧
      (Below w.heap.size w ((w6.alloc (Obj.cells #[Value.int IntKind.i64 k, Value.int IntKind.i64 n] 76)).setCell ⟨w5.heap.size, 2, none⟩ (.int .i64 k)) ∧ w.heap.size ≤ w5.heap.size ∧ w5.heap.size < w6.heap.size)) := by
  have hz : (w5.alloc (.cells #[ptr D.p, .int .i64 f, .int .i64 0, .string ⟨#[]⟩, .bool false] 74)).heap.size = w5.heap.size + 1 := Array.size_push ..
  have hlt : w5.heap.size < w6.heap.size := by have := h6.size; omega
  have b7 := (Below.refl _ w6).alloc (Nat.le_refl _) (Obj.cells #[Value.int IntKind.i64 k, Value.int IntKind.i64 n] 76)
  have hc := ((CellAt.fresh w5 D.p f 74).below h6).below b7
  have hh := Blk.fresh w6 76 #[Value.int IntKind.i64 k, Value.int IntKind.i64 n]
  have hb := (next_below (next_below h5 ((Below.refl _ w5).alloc (Nat.le_refl _) _)) h6)
  have hb7 := next_below hb b7
  generalize w6.alloc (Obj.cells #[Value.int IntKind.i64 k, Value.int IntKind.i64 n] 76) = w7 at *
  have o : ∀ j, (w7.setCell ⟨w5.heap.size, 2, none⟩ (.int .i64 k)).cell? ⟨w6.heap.size, j, none⟩ = w7.cell? ⟨w6.heap.size, j, none⟩ := fun j => World.cell?_setCell_other _ _ _ _ (by intro e; simp only [Addr.mk.injEq] at e; omega)
  refine ⟨hc.k2, hc.free (by omega), hc.set_slot k, (o 0).trans ((hh.at 0).trans rfl), (o 1).trans ((hh.at 1).trans rfl), ?_, h5.size, hlt⟩
  exact hb7.trans ((Only.set (fun b => b = w5.heap.size) w7 ⟨w5.heap.size, 2, none⟩ _ rfl).below hb7.size fun x hx => by subst hx; exact h5.size)

set_option maxRecDepth 8000 in
set_option maxHeartbeats 2000000 in
theorem Open_any (hd : DiskAt w D S) (hk : S.ok) (ho : Off w) (f : Int) : Calls Tryd.prog 12 #[ptr D.p, .int .i64 f] w (OpnPost w D.p (opn S f)) := by
  obtain ⟨R, hR⟩ : ∃ R, R = opn S f := ⟨_, rfl⟩
  rw [← hR]
  unfold opn at hR
  have hrd := diskRead_any hd hk f 0 5 (by omega) (by omega)
  have hlen : (S.Read f 0 5).1.length ≤ 5 := by
    unfold St.Read
    split
    · exact Nat.zero_le _
    · split
      · exact Nat.zero_le _
      · show (S.now.read _ _ _).length ≤ 5
        rw [Con.read_len]
        omega
  have HRD2 : Hid (∀ w' (k n : Nat), Below w.heap.size w w' → n ≤ 65536 → Calls Tryd.prog 28 #[ptr D.p, .int .i64 f, .int .i64 (beg k : Nat), .int .i64 n] w' fun e w2 => e = .returned (.tuple #[str (S.Read f (beg k : Nat) n).1, .int .i64 (S.Read f (beg k : Nat) n).2]) ∧ Below w'.heap.size w' w2) :=
    Lib.hid fun w' k n hb hn => by have := beg_hi k; exact diskRead_any (hd.below hb) hk f _ _ (by omega) (by omega)
  have HO : Hid (∀ w', Below w.heap.size w w' → ∀ k, k = 1 ∨ k = 2 → Calls Tryd.prog 37 #[.int .i64 (k : Nat)] w' fun e w2 => e = .returned (.int .i64 (beg k : Nat)) ∧ w' = w2) := Lib.hid fun w' hb k hk => offset_any (ho.below hb ho.lt) hk
  clear hd hk ho
  generalize S.Read f 0 5 = X at *
  obtain ⟨l, er⟩ := X
  dsimp only at hR hrd hlen
  have HRD := Lib.hid hrd
  have HR := Lib.hid hR
  clear hrd hR
  by_cases e1 : er = 0
  case neg =>
    have q1 : (er == 0) = false := beq_eq_false_iff_ne.2 e1
    have hr : R = (er, none) := by rw [HR.out, if_pos e1]
    subst hr
    clear HR HRD2 HO
    go_enter Tryd.func12, Tryd.ntmps12
    go_wp2_with (go_at_call 28; refine HRD.out.mono ?_; rintro e w5 ⟨rfl, h5⟩)
    go_returns
    exact ⟨h5, rfl⟩
  subst e1
  rw [if_neg (by simp)] at HR
  unfold str at HRD
  obtain ⟨s, hs⟩ : ∃ s : ByteArray, s = ⟨l.toArray⟩ := ⟨_, rfl⟩
  have hl : bl s = l := by rw [hs]
  rw [← hs] at HRD
  have hsz : s.size ≤ 5 := by rw [← bl_len, hl]; exact hlen
  clear hs hlen
  subst hl
  rw [bl_len] at HR
  by_cases h0 : 0 < s.size
  case neg =>
    have hr : R = (0, some ⟨f, 0, [], false⟩) := by
      rw [HR.out, if_pos]
      rw [List.getD_eq_getElem?_getD, List.getElem?_eq_none (by rw [bl_len]; omega)]
      rfl
    have hem := is_empty h0
    subst hr
    clear HR HRD2 HO
    go_enter Tryd.func12, Tryd.ntmps12
    go_wp2_with (go_at_call 28; refine HRD.out.mono ?_; rintro e w5 ⟨rfl, h5⟩)
    go_returns
    exact ⟨next_below h5 ((Below.refl _ w5).alloc (Nat.le_refl _) _), _, rfl, CellAt.fresh _ _ _ _, h5.size⟩
  have ne1 := not_empty h0
  have ne2 := not_empty2 h0
  have hg : (bl s).getD 0 0 = s[0] := by rw [List.getD_eq_getElem?_getD, bl_get h0]; rfl
  rw [hg] at HR
  by_cases hz : s[0] = 0
  · have b0 : ((s[0].toNat : Int) == 0) = true := byte_eq (k := 0) (by omega) hz
    have hr : R = (0, some ⟨f, 0, [], false⟩) := by rw [HR.out, if_pos hz]
    subst hr
    clear HR HRD2 HO hg hz
    go_enter Tryd.func12, Tryd.ntmps12
    go_wp2_with (go_at_call 28; refine HRD.out.mono ?_; rintro e w5 ⟨rfl, h5⟩)
    go_returns
    exact ⟨next_below h5 ((Below.refl _ w5).alloc (Nat.le_refl _) _), _, rfl, CellAt.fresh _ _ _ _, h5.size⟩
  have b0 : ((s[0].toNat : Int) == 0) = false := byte_ne (k := 0) (by omega) hz
  rw [if_neg hz] at HR
  have HP := Lib.hid (fun w => parse_any s hsz w)
  unfold parV at HP
  rw [bl_len, hg] at HP
  by_cases hp : s.size = 5 ∧ (s[0] = 1 ∨ s[0] = 2) ∧ hsize (bl s) ≤ 65536
  case neg =>
    rw [if_neg hp] at HP
    have hr : R = (2, none) := by
      rw [HR.out, if_pos]
      by_cases g1 : s.size = 5
      · by_cases g2 : s[0] = 1 ∨ s[0] = 2
        · refine .inr (.inr ?_)
          have : ¬ hsize (bl s) ≤ 65536 := fun g3 => hp ⟨g1, g2, g3⟩
          omega
        · exact .inr (.inl ⟨fun e => g2 (.inl e), fun e => g2 (.inr e)⟩)
      · exact .inl g1
    subst hr
    clear HR HRD2 HO hg hz hp
    go_enter Tryd.func12, Tryd.ntmps12
    go_wp2_with (first
      | (go_at_call 28; refine HRD.out.mono ?_; rintro e w5 ⟨rfl, h5⟩)
      | (go_at_call 36; refine (HP.out _).mono ?_; rintro e w6 ⟨rfl, h6⟩))
    go_returns
    exact ⟨(next_below (next_below h5 ((Below.refl _ w5).alloc (Nat.le_refl _) _)) h6).alloc (by have := h5.size; have := h6.size; simp at this; omega) _, rfl⟩
  rw [if_pos hp] at HP
  obtain ⟨g1, g2, g3⟩ := hp
  rw [if_neg (by rintro (e | e | e); exact e g1; rcases g2 with g2 | g2; exact e.1 g2; exact e.2 g2; omega)] at HR
  have hk : s[0].toNat = 1 ∨ s[0].toNat = 2 := by rcases g2 with g2 | g2 <;> rw [g2]; exact .inl rfl; exact .inr rfl
  clear g1 g2 hz hg
  generalize hsize (bl s) = n at *
  generalize hkk : s[0].toNat = k at *
  have HRD3 := Lib.hid (fun w' hb => HRD2.out w' k n hb g3)
  have HO2 := Lib.hid (fun w' hb => HO.out w' hb k hk)
  clear HRD2 HO
  have hvl : (S.Read f (beg k : Nat) n).1.length ≤ n := by
    unfold St.Read
    split
    · exact Nat.zero_le _
    · split
      · exact Nat.zero_le _
      · show (S.now.read _ _ _).length ≤ n
        rw [Con.read_len]
        omega
  generalize S.Read f (beg k : Nat) n = V at *
  obtain ⟨v, er2⟩ := V
  dsimp only at HRD3 HR hvl
  unfold str at HRD3
  generalize (beg k : Nat) = bk at *
  go_enter Tryd.func12, Tryd.ntmps12
  go_upto_region 11 with (first
    | (go_at_call 28; refine HRD.out.mono ?_; rintro e w5 ⟨rfl, h5⟩)
    | (go_at_call 36; refine (HP.out _).mono ?_; rintro e w6 ⟨rfl, h6⟩
       obtain ⟨z2, zf, z8⟩ := opened (n := n) (k := k) (D := D) f h5 h6
       have Z8 := Lib.hid z8
       clear z8))
  obtain ⟨hc8, c0, c1, hb8⟩ := Z8.out
  clear Z8 z2 zf HP HRD ne1 ne2 b0 h5 h6
  generalize (w6.alloc (Obj.cells #[Value.int IntKind.i64 ↑k, Value.int IntKind.i64 ↑n] 76)).setCell { block := w5.heap.size, off := 2 } (Value.int IntKind.i64 ↑k) = w8 at *
  obtain ⟨hb80, hle, hlt⟩ := hb8
  have HC8 := Lib.hid hc8
  have HB8 := Lib.hid hb80
  have B8d := Lib.hid (((Below.refl _ w8).drew : Below w8.heap.size w8 w8.drew))
  have hb86 : w6.heap.size < w8.heap.size := World.block_lt_of_cell? w8 _ c0
  have hn56 : w6.heap.size ≠ w5.heap.size := by omega
  have HK : Hid (∀ w', Below w8.heap.size w8 w' → w'.cell? ⟨w6.heap.size, 0, none⟩ = some (.int .i64 k) ∧ w'.cell? ⟨w6.heap.size, 1, none⟩ = some (.int .i64 n)) :=
    Lib.hid fun w' b => ⟨(World.cell?_of_block (a := ⟨w6.heap.size, 0, none⟩) (b.block _ hb86)).trans c0, (World.cell?_of_block (a := ⟨w6.heap.size, 1, none⟩) (b.block _ hb86)).trans c1⟩
  have HK2 : Hid (∀ w' x, Below w8.heap.size w8 w' → (w'.setCell ⟨w5.heap.size, 3, none⟩ x).cell? ⟨w6.heap.size, 0, none⟩ = some (.int .i64 k) ∧ (w'.setCell ⟨w5.heap.size, 3, none⟩ x).cell? ⟨w6.heap.size, 1, none⟩ = some (.int .i64 n)) :=
    Lib.hid fun w' x b => by
      have o : ∀ j, (w'.setCell ⟨w5.heap.size, 3, none⟩ x).cell? ⟨w6.heap.size, j, none⟩ = w'.cell? ⟨w6.heap.size, j, none⟩ := fun j => World.cell?_setCell_other _ _ _ _ (by intro e; simp only [Addr.mk.injEq] at e; omega)
      exact ⟨(o 0).trans (HK.out w' b).1, (o 1).trans (HK.out w' b).2⟩
  have HE : Hid (∀ w', Below w8.heap.size w8 w' → CellAt (w'.setCell ⟨w5.heap.size, 3, none⟩ (str v)) w5.heap.size D.p ⟨f, k, v, false⟩ ∧ Below w.heap.size w (w'.setCell ⟨w5.heap.size, 3, none⟩ (str v))) :=
    Lib.hid fun w' b => ⟨(HC8.out.below b).set_value v, by
      have hb := next_below HB8.out b
      exact hb.trans ((Only.set (fun b => b = w5.heap.size) w' ⟨w5.heap.size, 3, none⟩ _ rfl).below hb.size fun x hx => by subst hx; exact hle)⟩
  have HB9 : Hid (∀ w', Below w8.heap.size w8 w' → Below w.heap.size w w') := Lib.hid fun w' b => next_below HB8.out b
  unfold str at HE
  clear hc8 hb80 c0 c1 hb86 HB8
  go_region_held3 (fun w' => w'.cell? ⟨w6.heap.size, 0, none⟩ = some (.int .i64 k) ∧ w'.cell? ⟨w6.heap.size, 1, none⟩ = some (.int .i64 n)) (first | exact HK.out _ B8d.out | exact HK.out _ b9 | exact HK2.out _ _ b9 | go_keep)
    (first
      | (go_at_call 37; refine (HO2.out _ (HB9.out _ B8d.out)).mono ?_; rintro e w4 ⟨rfl, rfl⟩)
      | (go_at_call 28; refine (HRD3.out _ (HB9.out _ B8d.out)).mono ?_; rintro e w9 ⟨rfl, b90⟩; have b9 := next_below B8d.out b90; have z3 := (HC8.out.below b9).k3; have f3 := (HC8.out.below b9).free (j := 3) (by omega)))
  obtain ⟨hc, hb⟩ := HE.out w9 b9
  obtain ⟨d0, d1⟩ := HK2.out w9 (.string ⟨v.toArray⟩) b9
  have HC := Lib.hid hc
  have HB := Lib.hid hb
  have v3 := hc.k3
  unfold str at v3
  clear HE HK HK2 HC8 B8d HB9 HO2 HRD3 z3 f3 b9 b90 hc hb
  have hvz : (⟨v.toArray⟩ : ByteArray).size = v.length := rfl
  generalize w9.setCell { block := w5.heap.size, off := 3 } (Value.string ⟨v.toArray⟩) = wa at *
  by_cases e2 : er2 = 0
  case neg =>
    have q2 : (er2 == 0) = false := beq_eq_false_iff_ne.2 e2
    have hr : R = (er2, none) := by rw [HR.out, if_pos e2]
    subst hr
    clear HR
    go_wp2_with fail
    go_returns
    exact ⟨HB.out, rfl⟩
  subst e2
  rw [if_neg (by simp)] at HR
  by_cases e3 : v.length = n
  case neg =>
    have hr : R = (2, none) := by rw [HR.out, if_pos e3]
    have hlt2 : ((⟨v.toArray⟩ : ByteArray).size : Int) < n := by rw [hvz]; omega
    subst hr
    clear HR
    generalize (⟨v.toArray⟩ : ByteArray) = vs at *
    go_wp2_with fail
    go_quiet (fail)
    generalize hwq : wa.drewN _ = wq at *
    have HWQ : Hid (Below w.heap.size w wq) := Lib.hid (by rw [← hwq]; exact next_below HB.out ⟨rfl, rfl, rfl, Nat.le_refl _, fun _ _ => rfl⟩)
    clear hwq
    go_wp2_with fail
    go_returns
    exact ⟨HWQ.out, rfl⟩
  have hr : R = (0, some ⟨f, k, v, false⟩) := by rw [HR.out, if_neg (by rw [e3]; simp)]
  have hlt2 : ¬ ((⟨v.toArray⟩ : ByteArray).size : Int) < n := by rw [hvz]; omega
  subst hr
  clear HR e3 hvz hvl
  have HP : Hid (∀ m, OpnPost w D.p (0, some ⟨f, k, v, false⟩) (.returned (.tuple #[ptr w5.heap.size, .int .i64 0])) (wa.drewN m)) :=
    Lib.hid fun m => ⟨next_below HB.out ⟨rfl, rfl, rfl, Nat.le_refl _, fun _ _ => rfl⟩, _, rfl, HC.out.still rfl, hle⟩
  generalize (⟨v.toArray⟩ : ByteArray) = vs at *
  go_wp2_with fail
  go_quiet (fail)
  go_wp2_with fail
  go_returns
  exact HP.out _
end
end Dsk
end Go.Proofs.YtlokgmpdighfaaaDoor

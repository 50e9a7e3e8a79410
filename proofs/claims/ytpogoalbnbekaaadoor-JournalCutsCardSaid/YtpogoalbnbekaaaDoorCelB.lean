/- The header; replace, Set, Get, parse, Open. -/
import Derived.Test.YtpogoalbnbekaaaDoorCelA

namespace Go.Proofs.YtpogoalbnbekaaaDoor
open Go.RowKit Wire
set_option linter.unusedVariables false
set_option linter.unusedSimpArgs false
open Txt
namespace Dsk

theorem hdr_1 (k n : Nat) : ((hdr k n).getD 1 0).toNat = n % 256 := by
  show (UInt8.ofNat (n % 256)).toNat = _
  rw [UInt8.toNat_ofNat']
  omega
theorem hdr_2 (k n : Nat) : ((hdr k n).getD 2 0).toNat = n / 256 % 256 := by
  show (UInt8.ofNat (n / 256 % 256)).toNat = _
  rw [UInt8.toNat_ofNat']
  omega
theorem hdr_3 (k n : Nat) : ((hdr k n).getD 3 0).toNat = n / 65536 % 256 := by
  show (UInt8.ofNat (n / 65536)).toNat = _
  rw [UInt8.toNat_ofNat']
theorem hdr_4 (k n : Nat) : ((hdr k n).getD 4 0).toNat = 0 := rfl
/-- The byte j of the header, when those before i are laid. -/
def hb (k n i j : Nat) : Nat := if j < i then ((hdr k n).getD j 0).toNat else 0
structure BytRel (w : World) (k n g h : Nat) (iv : Value) (wr : World) (i : Nat) : Prop where
  iv : iv = .int .i64 i
  i1 : 1 ≤ i
  i5 : i ≤ 5
  size : wr.cell? ⟨h, 1, none⟩ = some (.int .i64 n)
  bs : ∀ j, j < 5 → wr.cell? ⟨g, j, none⟩ = some (.int .u8 (hb k n i j))
  there : wr.there g 0 5
  below : Below w.heap.size w wr
theorem BytRel.next {w wr : World} {k n g h i : Nat} {iv : Value} {x : Int} (r : BytRel w k n g h iv wr i) (hi : i < 5) (hx : x = ((hdr k n).getD i 0).toNat) (hg : g ≠ h) (hw : w.heap.size ≤ g) :
    BytRel w k n g h (.int .i64 ((i + 1 : Nat) : Int)) (wr.setCell ⟨g, i, none⟩ (.int .u8 x)) (i + 1) := by
  obtain ⟨_, h1, h5, hs, hb0, ht, hbl⟩ := r
  refine ⟨rfl, by omega, hi, ?_, fun j hj => ?_, there_put ht _ _, ?_⟩
  · rw [World.cell?_setCell_other _ _ _ _ (by intro e; simp only [Addr.mk.injEq] at e; exact hg e.1)]
    exact hs
  · by_cases e : j = i
    · subst e
      rw [set_cell_same (by rw [hb0 j hj]; rfl), hx]
      unfold hb
      rw [if_pos (by omega)]
    · rw [set_cell_other e, hb0 j hj]
      unfold hb
      by_cases hji : j < i
      · rw [if_pos hji, if_pos (by omega)]
      · rw [if_neg hji, if_neg (by omega)]
  · exact hbl.trans ((Only.set (fun b => b = g) wr ⟨g, i, none⟩ _ rfl).below hbl.size fun x hx => by subst hx; exact hw)

set_option maxRecDepth 8000 in
set_option maxHeartbeats 1000000 in
theorem bytes_any (w : World) {k n : Nat} (hk : k = 1 ∨ k = 2) (hn : n ≤ 65536) : Calls Tryd.prog 81 #[.agg #[.int .i64 k, .int .i64 n]] w fun e w' => e = .returned (str (hdr k n)) ∧ Below w.heap.size w w' := by
  have hk1 : (k : Int) % 256 = k := by omega
  have hw1 : IntKind.u8.wrap (k : Int) = k := by rcases hk with rfl | rfl <;> rfl
  go_enter Tryd.func81, Tryd.ntmps81
  go_wp2_with fail
  go_loopw [4] (fun iv wr => ∃ i, BytRel w k n (w.heap.size + 1) w.heap.size iv wr i) (fun iv _ => 5 - (intOf iv).toNat)
  case atStart =>
    have e1 : (w.alloc (Obj.cells #[Value.int IntKind.i64 ↑k, Value.int IntKind.i64 ↑n] 121)).heap.size = w.heap.size + 1 := Array.size_push ..
    have h1 := (Blk.fresh w 121 #[.int .i64 k, .int .i64 n]).kept (Obj.cells #[.int .u8 k, .int .u8 0, .int .u8 0, .int .u8 0, .int .u8 0] 133)
    have h2 := Blk.fresh (w.alloc (Obj.cells #[Value.int IntKind.i64 ↑k, Value.int IntKind.i64 ↑n] 121)) 133 #[.int .u8 k, .int .u8 0, .int .u8 0, .int .u8 0, .int .u8 0]
    rw [e1] at h2
    refine ⟨1, rfl, by omega, by omega, (h1.at 1).trans rfl, fun j hj => ?_, fun j hj => ⟨?_, h2.thaw _⟩, ((Below.refl _ w).alloc (Nat.le_refl _) _).alloc (by rw [e1]; omega) _⟩
    · rw [h2.at]
      rcases (by omega : j = 0 ∨ j = 1 ∨ j = 2 ∨ j = 3 ∨ j = 4) with rfl | rfl | rfl | rfl | rfl
      · have : (hb k n 1 0 : Nat) = k := by rcases hk with rfl | rfl <;> rfl
        rw [this]
        rfl
      · rfl
      · rfl
      · rfl
      · rfl
    · rw [h2.at, Nat.zero_add]
      rcases (by omega : j = 0 ∨ j = 1 ∨ j = 2 ∨ j = 3 ∨ j = 4) with rfl | rfl | rfl | rfl | rfl <;> rfl
  case round =>
    obtain ⟨i, hr⟩ := hrel
    have HR := Lib.hid hr
    obtain ⟨rfl, hi1, hi5, hsz, hbs, ht, hbel⟩ := hr
    have f1 : wr.frozen? ⟨w.heap.size + 1, i, none⟩ = false ∨ i = 5 := by
      by_cases h5 : i = 5
      · exact .inr h5
      · have := (ht i (by omega)).2
        rw [Nat.zero_add] at this
        exact .inl this
    have b1 : wr.cell? ⟨w.heap.size + 1, i, none⟩ = some (.int .u8 (hb k n i i)) ∨ i = 5 := by
      by_cases h5 : i = 5
      · exact .inr h5
      · exact .inl (hbs i (by omega))
    clear ht hbel hbs
    rcases (by omega : i = 1 ∨ i = 2 ∨ i = 3 ∨ i = 4 ∨ i = 5) with rfl | rfl | rfl | rfl | rfl
    · obtain f2 := f1.resolve_right (by omega)
      obtain b2 := b1.resolve_right (by omega)
      clear f1 b1
      go_wp2_with fail
      refine ⟨⟨_, HR.out.next (by omega) ?_ (by omega) (by omega)⟩, by simp [intOf]⟩
      have := hdr_1 k n
      omega
    · obtain f2 := f1.resolve_right (by omega)
      obtain b2 := b1.resolve_right (by omega)
      clear f1 b1
      go_wp2_with fail
      refine ⟨⟨_, HR.out.next (by omega) ?_ (by omega) (by omega)⟩, by simp [intOf]⟩
      have := hdr_2 k n
      omega
    · obtain f2 := f1.resolve_right (by omega)
      obtain b2 := b1.resolve_right (by omega)
      clear f1 b1
      go_wp2_with fail
      refine ⟨⟨_, HR.out.next (by omega) ?_ (by omega) (by omega)⟩, by simp [intOf]⟩
      have := hdr_3 k n
      omega
    · obtain f2 := f1.resolve_right (by omega)
      obtain b2 := b1.resolve_right (by omega)
      clear f1 b1
      go_wp2_with fail
      refine ⟨⟨_, HR.out.next (by omega) ?_ (by omega) (by omega)⟩, by simp [intOf]⟩
      have := hdr_4 k n
      omega
    · clear f1 b1
      have hl : ∀ j, (hj : j < (hdr k n).length) → wr.cell? ((⟨w.heap.size + 1, 0, none⟩ : Addr).add j) = some (.int .u8 ((hdr k n)[j]).toNat) := fun j hj => by
        rw [row_add', Nat.zero_add, HR.out.bs j hj]
        unfold hb
        rw [hdr_len] at hj
        rw [if_pos hj, List.getD_eq_getElem?_getD, List.getElem?_eq_getElem hj]
        rfl
      have hcv := run_convert_bytes_back (P := Tryd.prog) wr 50 9 5 ⟨w.heap.size + 1, 0, none⟩ 5 (hdr k n) Tryd.underlying50 Tryd.underlying5 Tryd.underlying9 hl
      rw [hdr_len] at hcv
      clear hl
      go_wp2_with fail
      go_ret
      exact ⟨rfl, HR.out.below⟩

section
variable {w w' w0 : World} {q p : Nat} {c c' : Cl} {D : Own} {S S' : St}
/-- The header that replace has laid stays. -/
theorem CC.aside {w1 : World} (h : CC D q w1 w S c) {b j : Nat} {v : Value} (hb : w1.cell? ⟨b, j, none⟩ = some v) (hn : ¬ D.has b) (hq : b ≠ q) : w.cell? ⟨b, j, none⟩ = some v :=
  (World.cell?_of_block (a := ⟨b, j, none⟩) (h.only.block b (World.block_lt_of_cell? w1 _ hb) (by rintro (e | e); exact hn e; exact hq e))).trans hb
/-- What the regions of replace read. -/
abbrev Four0 (q p : Nat) (f : Int) (b k n : Nat) (w : World) : Prop := w.cell? ⟨q, 0, none⟩ = some (ptr p) ∧ w.cell? ⟨q, 1, none⟩ = some (.int .i64 f) ∧ w.cell? ⟨b, 0, none⟩ = some (.int .i64 k) ∧ w.cell? ⟨b, 1, none⟩ = some (.int .i64 n)

set_option maxRecDepth 8000 in
set_option maxHeartbeats 2000000 in
theorem replace_at (s : ByteArray) (hs : s.size ≤ 65536) (hd : DiskAt w D S) (hk : S.ok) (hc : CellAt w q D.p c) (ho : Off w) (ha : ¬ D.has q) (hg : ¬ D.has 0) (hq : q ≠ 0) :
    Calls Tryd.prog 75 #[ptr q, .string s] w fun e w' => e = .returned (.int .i64 (c.replace S (bl s)).1) ∧ CC D q w w' (c.replace S (bl s)).2.2 (c.replace S (bl s)).2.1 := by
  obtain ⟨R, hR⟩ : ∃ R, R = c.replace S (bl s) := ⟨_, rfl⟩
  rw [← hR]
  have hk12 := othK_two c.slot
  have hos := Lib.hid (otherSlot_any c.slot)
  have k0 := hc.k0
  have k1 := hc.k1
  have k2 := hc.k2
  have hlen : (bl s).length = s.size := bl_len s
  have hsm : s.size ≤ maxLen := small_max (by omega)
  unfold Cl.replace at hR
  rw [hlen] at hR
  generalize hok : othK c.slot = k at *
  generalize hW1 : S.Write c.file (beg k : Nat) (bl s) = W1 at *
  generalize hY1 : W1.1.Sync c.file = Y1 at *
  generalize hW2 : Y1.1.Write c.file 0 (hdr k s.size) = W2 at *
  generalize hw1 : w.alloc (Obj.cells #[Value.int IntKind.i64 (k : Nat), Value.int IntKind.i64 (s.size : Nat)] 121) = w1
  have hb1 : Below w.heap.size w w1 := by rw [← hw1]; exact (Below.refl _ w).alloc (Nat.le_refl _) _
  have hz1 : w1.heap.size = w.heap.size + 1 := by rw [← hw1]; exact Array.size_push ..
  have c0 : w1.cell? ⟨w.heap.size, 0, none⟩ = some (.int .i64 k) := by rw [← hw1]; exact ((Blk.fresh w _ _).at 0).trans rfl
  have c1 : w1.cell? ⟨w.heap.size, 1, none⟩ = some (.int .i64 s.size) := by rw [← hw1]; exact ((Blk.fresh w _ _).at 1).trans rfl
  have hnh : ¬ D.has w.heap.size := fun e => by have := hd.inside _ e; omega
  have hqh : w.heap.size ≠ q := fun e => by have := hc.lt; omega
  have H1 : Hid (CC D q w1 w1 S c) := Lib.hid (CC.init (hd.below hb1) hk (hc.below hb1) (ho.below hb1 ho.lt) ha hg hq)
  have HF : Hid (∀ w' S' c', CC D q w1 w' S' c' → CC D q w w' S' c') := Lib.hid (fun w' S' c' h => h.ahead hb1 hc.lt ho.lt)
  have HA : Hid (∀ w' S' c', CC D q w1 w' S' c' → c'.file = c.file → Four0 q D.p c.file w.heap.size k s.size w') := Lib.hid (fun w' S' c' h e => ⟨h.cell.k0, by rw [← e]; exact h.cell.k1, h.aside c0 hnh hqh, h.aside c1 hnh hqh⟩)
  have HO : Hid (∀ w', Off w' → Calls Tryd.prog 71 #[.int .i64 k] w' fun e w2 => e = .returned (.int .i64 (beg k : Nat)) ∧ w' = w2) := Lib.hid (fun w' h => offset_any h hk12)
  have HB : Hid (∀ w', Calls Tryd.prog 81 #[.agg #[.int .i64 k, .int .i64 s.size]] w' fun e w2 => e = .returned (str (hdr k s.size)) ∧ Below w'.heap.size w' w2) := Lib.hid (fun w' => bytes_any w' hk12 hs)
  have HW1 : Hid (∀ w', CC D q w1 w' S c → Calls Tryd.prog 23 #[ptr D.p, .int .i64 c.file, .int .i64 (beg k : Nat), .string s] w' fun e w2 => e = .returned (.int .i64 W1.2) ∧ CC D q w1 w2 W1.1 c) := Lib.hid (fun w' h => by have := h.write c.file (beg k : Nat) s hsm; rwa [hW1] at this)
  have HY1 : Hid (∀ w', CC D q w1 w' W1.1 c → Calls Tryd.prog 54 #[ptr D.p, .int .i64 c.file] w' fun e w2 => e = .returned (.int .i64 Y1.2) ∧ CC D q w1 w2 Y1.1 c) := Lib.hid (fun w' h => by have := h.sync c.file; rwa [hY1] at this)
  have HW2 : Hid (∀ w', CC D q w1 w' Y1.1 c → Calls Tryd.prog 23 #[ptr D.p, .int .i64 c.file, .int .i64 0, str (hdr k s.size)] w' fun e w2 => e = .returned (.int .i64 W2.2) ∧ CC D q w1 w2 W2.1 c) := Lib.hid (fun w' h => by have := h.write c.file 0 ⟨(hdr k s.size).toArray⟩ (small_max (by rw [bytes_size, hdr_len]; omega)); rw [bl_mk, hW2] at this; exact this)
  have HOF : Hid (∀ w' S', CC D q w1 w' S' c → Off w') := Lib.hid (fun w' S' h => h.off)
  have HRR := Lib.hid hR
  unfold str at HB HW2
  generalize beg k = bk at *
  generalize (⟨(hdr k s.size).toArray⟩ : ByteArray) = hx at *
  generalize hdr k s.size = hy at *
  clear hd hk hc ho ha hg hq hR hb1 hz1 hnh hqh c0 c1 hW1 hY1 hW2 hok hk12 hlen
  obtain ⟨W1s, er1⟩ := W1
  obtain ⟨Y1s, er2⟩ := Y1
  obtain ⟨W2s, er3⟩ := W2
  dsimp only at HW1 HY1 HW2 HRR
  go_enter Tryd.func75, Tryd.ntmps75
  go_upto_region 2 with (go_at_call 80; refine (hos.out w).mono ?_; rintro e w2 ⟨rfl, rfl⟩)
  clear hw1 k0 k1 k2 hos
  have H1d := Lib.hid (H1.out.below (Below.refl _ w1).drew)
  clear H1
  go_region_held3 (fun w' => Four0 q D.p c.file w.heap.size k s.size w') (first | exact HA.out _ _ _ H1d.out rfl | exact HA.out _ _ _ h5 rfl | go_keep)
    (first
      | (go_at_call 71; refine (HO.out _ (HOF.out _ _ H1d.out)).mono ?_; rintro e w4 ⟨rfl, rfl⟩)
      | (go_at_call 23; refine (HW1.out _ H1d.out).mono ?_; rintro e w5 ⟨rfl, h5⟩))
  clear H1d HW1 HO
  have H5 := Lib.hid h5
  clear h5
  by_cases e1 : er1 = 0
  case neg =>
    have q1 : (er1 == 0) = false := beq_eq_false_iff_ne.2 e1
    have hr : R = (er1, c, W1s) := by rw [HRR.out, if_pos e1]
    subst hr
    clear HRR HY1 HW2
    go_wp2_with fail
    go_ret
    exact ⟨rfl, HF.out _ _ _ H5.out⟩
  subst e1
  go_upto_region 5 with (fail)
  have H5d := Lib.hid (H5.out.below (Below.refl _ _).drew)
  clear H5
  go_region_held3 (fun w' => Four0 q D.p c.file w.heap.size k s.size w') (first | exact HA.out _ _ _ H5d.out rfl | exact HA.out _ _ _ h6 rfl | go_keep)
    (first
      | (go_at_call 54; refine (HY1.out _ H5d.out).mono ?_; rintro e w6 ⟨rfl, h6⟩))
  clear H5d HY1
  have H6 := Lib.hid h6
  clear h6
  by_cases e2 : er2 = 0
  case neg =>
    have q2 : (er2 == 0) = false := beq_eq_false_iff_ne.2 e2
    have hr : R = (er2, c, Y1s) := by rw [HRR.out, if_neg (by simp), if_pos e2]
    subst hr
    clear HRR HW2
    go_wp2_with fail
    go_ret
    exact ⟨rfl, HF.out _ _ _ H6.out⟩
  subst e2
  go_upto_region 8 with (fail)
  have H6d := Lib.hid (H6.out.below (Below.refl _ _).drew)
  clear H6
  go_region_held3 (fun w' => Four0 q D.p c.file w.heap.size k s.size w') (first | exact HA.out _ _ _ H6d.out rfl | exact HA.out _ _ _ h7 rfl | exact HA.out _ _ _ h8 rfl | go_keep)
    (first
      | (go_at_call 81; refine (HB.out _).mono ?_; rintro e w7 ⟨rfl, b7⟩; have h7 := H6d.out.below b7)
      | (go_at_call 23; refine (HW2.out _ h7).mono ?_; rintro e w8 ⟨rfl, h8⟩))
  clear H6d HW2 HB
  have H8 := Lib.hid h8
  clear h8 h7 b7
  by_cases e3 : er3 = 0
  case neg =>
    have q3 : (er3 == 0) = false := beq_eq_false_iff_ne.2 e3
    have hr : R = (er3, c, W2s) := by rw [HRR.out, if_neg (by simp), if_neg (by simp), if_pos e3]
    subst hr
    clear HRR
    go_wp2_with fail
    go_ret
    exact ⟨rfl, HF.out _ _ _ H8.out⟩
  subst e3
  have hr : R = (0, ⟨c.file, k, bl s, false⟩, W2s) := by rw [HRR.out, if_neg (by simp), if_neg (by simp), if_neg (by simp)]
  subst hr
  have k2 := H8.out.cell.k2
  have k3 := H8.out.cell.k3
  have k4 := H8.out.cell.k4
  have f2 := H8.out.cell.free (j := 2) (by omega)
  have f3 := H8.out.cell.free (j := 3) (by omega)
  have f4 := H8.out.cell.free (j := 4) (by omega)
  obtain ⟨z0, z1, z2, z3⟩ := HA.out _ _ _ H8.out rfl
  have HE : Hid (CC D q w (((w8.setCell ⟨q, 2, none⟩ (.int .i64 k)).setCell ⟨q, 3, none⟩ (.string s)).setCell ⟨q, 4, none⟩ (.bool false)) W2s ⟨c.file, k, bl s, false⟩) := Lib.hid (by
    have g1 := H8.out.put (H8.out.cell.set_slot k)
    have g2 := g1.put (g1.cell.set_value (bl s))
    have g3 := g2.put (g2.cell.set_sure false)
    exact HF.out _ _ _ g3)
  clear HF HA H8 HOF HRR
  go_wp2_with fail
  go_ret
  exact ⟨rfl, HE.out⟩
end
end Dsk
end Go.Proofs.YtpogoalbnbekaaaDoor

namespace Go.Proofs.YtpogoalbnbekaaaDoor
open Go.RowKit Wire
set_option linter.unusedVariables false
set_option linter.unusedSimpArgs false
open Txt
namespace Dsk

section
variable {w w' w0 : World} {q p : Nat} {c c' : Cl} {D : Own} {S S' : St}
theorem replace_any (s : ByteArray) (hs : s.size ≤ 65536) (h : CC D q w0 w S c) : Calls Tryd.prog 75 #[ptr q, .string s] w fun e w' => e = .returned (.int .i64 (c.replace S (bl s)).1) ∧ CC D q w0 w' (c.replace S (bl s)).2.2 (c.replace S (bl s)).2.1 :=
  h.call fun D' hp hd hk hc ho ha hg hq => replace_at s hs hd hk hc ho ha hg hq

set_option maxHeartbeats 1000000 in
theorem Set_any (s : ByteArray) (hs : s.size ≤ maxLen) (h : CC D q w0 w S c) : Calls Tryd.prog 63 #[ptr q, .string s] w fun e w' => e = .returned (.int .i64 (c.set S (bl s)).1) ∧ CC D q w0 w' (c.set S (bl s)).2.2 (c.set S (bl s)).2.1 := by
  obtain ⟨R, hR⟩ : ∃ R, R = c.set S (bl s) := ⟨_, rfl⟩
  rw [← hR]
  unfold Cl.set at hR
  rw [bl_len] at hR
  have HR := Lib.hid hR
  have H := Lib.hid h
  by_cases hb : 65536 < s.size
  · have hr : R = (6, c, S) := by rw [HR.out, if_pos hb]
    subst hr
    clear HR hR h
    go_enter Tryd.func63, Tryd.ntmps63
    go_wp2_with fail
    go_ret
    exact ⟨rfl, H.out⟩
  · have HS := Lib.hid (settle_any' h)
    have HP : Hid (∀ w' S' c', CC D q w0 w' S' c' → Calls Tryd.prog 75 #[ptr q, .string s] w' fun e w2 => e = .returned (.int .i64 (c'.replace S' (bl s)).1) ∧ CC D q w0 w2 (c'.replace S' (bl s)).2.2 (c'.replace S' (bl s)).2.1) := Lib.hid fun w' S' c' h => replace_any s (by omega) h
    have HS2 : Hid (∀ w' S' c', CC D q w0 w' S' c' → Calls Tryd.prog 74 #[ptr q] w' fun e w2 => e = .returned (.int .i64 (c'.settle S').1) ∧ CC D q w0 w2 (c'.settle S').2.2 (c'.settle S').2.1) := Lib.hid fun w' S' c' h => settle_any' h
    have HR := Lib.hid hR
    clear hR h H
    generalize c.settle S = X at *
    obtain ⟨er1, c1, S1⟩ := X
    dsimp only at HS HR
    rw [if_neg hb] at HR
    by_cases e1 : er1 = 0
    case neg =>
      have q1 : (er1 == 0) = false := beq_eq_false_iff_ne.2 e1
      have hr : R = (er1, c1, S1) := by rw [HR.out, if_pos e1]
      subst hr
      clear HR HP HS2
      go_enter Tryd.func63, Tryd.ntmps63
      go_wp2_with (go_at_call 74; refine HS.out.mono ?_; rintro e w5 ⟨rfl, h5⟩; have H5 := Lib.hid h5; clear h5)
      go_ret
      exact ⟨rfl, H5.out⟩
    subst e1
    rw [if_neg (by simp)] at HR
    have HP1 := Lib.hid (fun w' h => HP.out w' S1 c1 h)
    generalize c1.replace S1 (bl s) = Y at *
    obtain ⟨er2, c2, S2⟩ := Y
    dsimp only at HP1 HR
    clear HP
    by_cases e2 : er2 = 0
    case neg =>
      have q2 : (er2 == 0) = false := beq_eq_false_iff_ne.2 e2
      have hr : R = (er2, c2, S2) := by rw [HR.out, if_pos e2]
      subst hr
      clear HR HS2
      go_enter Tryd.func63, Tryd.ntmps63
      go_wp2_with (first
        | (go_at_call 74; refine HS.out.mono ?_; rintro e w5 ⟨rfl, h5⟩; have H5 := Lib.hid h5; clear h5)
        | (go_at_call 75; refine (HP1.out _ H5.out).mono ?_; rintro e w6 ⟨rfl, h6⟩; have H6 := Lib.hid h6; clear h6))
      go_ret
      exact ⟨rfl, H6.out⟩
    subst e2
    rw [if_neg (by simp)] at HR
    have HS3 := Lib.hid (fun w' h => HS2.out w' S2 c2 h)
    have hr := HR.out
    clear HR HS2
    rw [← hr] at HS3
    clear hr
    obtain ⟨er3, c3, S3⟩ := R
    dsimp only at HS3 ⊢
    go_enter Tryd.func63, Tryd.ntmps63
    go_wp2_with (first
      | (go_at_call 74; ((with_reducible refine HS.out.mono ?_); rintro e w5 ⟨rfl, h5⟩; have H5 := Lib.hid h5; clear h5 HS))
      | (go_at_call 75; refine (HP1.out _ H5.out).mono ?_; rintro e w6 ⟨rfl, h6⟩; have H6 := Lib.hid h6; clear h6)
      | (go_at_call 74; ((with_reducible refine (HS3.out _ H6.out).mono ?_); rintro e w7 ⟨rfl, h7⟩; have H7 := Lib.hid h7; clear h7)))
    go_ret
    exact ⟨rfl, H7.out⟩
end

theorem Get_any {w : World} {q p : Nat} {c : Cl} (h : CellAt w q p c) : Calls Tryd.prog 56 #[ptr q] w fun e w' => e = .returned (.tuple #[str c.value, .bool (decide (c.slot ≠ 0))]) ∧ Below w.heap.size w w' := by
  have k2 := h.k2
  have k3 := h.k3
  clear h
  by_cases h0 : c.slot = 0
  · rw [h0] at k2
    rw [decide_eq_false (by simp [h0])]
    go_enter Tryd.func56, Tryd.ntmps56
    go_wp2_with fail
    go_quiet (fail)
    go_wp2_with fail
    go_returns
    exact ⟨rfl, ⟨rfl, rfl, rfl, Nat.le_refl _, fun _ _ => rfl⟩⟩
  · have q0 : ((c.slot : Int) == 0) = false := beq_eq_false_iff_ne.2 (by omega)
    have qn : ((c.slot : Int) != 0) = true := by rw [bne, q0]; rfl
    rw [decide_eq_true h0]
    go_enter Tryd.func56, Tryd.ntmps56
    go_wp2_with fail
    go_quiet (fail)
    go_wp2_with fail
    go_returns
    exact ⟨rfl, ⟨rfl, rfl, rfl, Nat.le_refl _, fun _ _ => rfl⟩⟩

/-- 'or' of numbers that have no bit in common. -/
theorem or_add (P x k : Nat) (hP : P < 2 ^ k) (hs : P + 2 ^ k * x < 9223372036854775808) : bits .or .i64 (P : Int) ((2 ^ k * x : Nat) : Int) = ((P + 2 ^ k * x : Nat) : Int) := by
  unfold bits
  show IntKind.i64.wrap (((BitVec.ofInt 64 (P : Int) ||| BitVec.ofInt 64 ((2 ^ k * x : Nat) : Int)).toNat : Nat) : Int) = _
  have e : (BitVec.ofInt 64 (P : Int) ||| BitVec.ofInt 64 ((2 ^ k * x : Nat) : Int)).toNat = P + 2 ^ k * x := by
    rw [BitVec.toNat_or, BitVec.ofInt_natCast, BitVec.ofInt_natCast, BitVec.toNat_ofNat, BitVec.toNat_ofNat, Nat.mod_eq_of_lt (by omega), Nat.mod_eq_of_lt (by omega), Nat.or_comm, ← Nat.two_pow_add_eq_or_of_lt hP, Nat.add_comm]
  rw [e]
  exact IntWalk.i64_in _ (by omega)

/-- The size, as far as it is put together. -/
def part5 (s : ByteArray) (i : Nat) : Nat := (if 1 < i then ((bl s).getD 1 0).toNat else 0) + (if 2 < i then 256 * ((bl s).getD 2 0).toNat else 0) + (if 3 < i then 65536 * ((bl s).getD 3 0).toNat else 0) + (if 4 < i then 16777216 * ((bl s).getD 4 0).toNat else 0)
structure ParRel (w : World) (s : ByteArray) (x0 : Int) (g l : Nat) (iv : Value) (wr : World) (i : Nat) : Prop where
  iv : iv = .int .i64 i
  i1 : 1 ≤ i
  i5 : i ≤ 5
  c0 : wr.cell? ⟨g, 0, none⟩ = some (.int .i64 x0)
  c1 : wr.cell? ⟨g, 1, none⟩ = some (.int .i64 (part5 s i))
  f1 : wr.frozen? ⟨g, 1, none⟩ = false
  l0 : wr.cell? ⟨l, 0, none⟩ = some (.int .i64 0)
  l1 : wr.cell? ⟨l, 1, none⟩ = some (.int .i64 0)
  g0 : wr.frozen? ⟨l, 0, none⟩ = false
  g1 : wr.frozen? ⟨l, 1, none⟩ = false
  below : Below w.heap.size w wr
theorem ParRel.next {w wr : World} {s : ByteArray} {x0 x : Int} {g l i : Nat} {iv : Value} (r : ParRel w s x0 g l iv wr i) (hi : i < 5) (hx : x = part5 s (i + 1)) (hg : g ≠ l) (hw : w.heap.size ≤ g) :
    ParRel w s x0 g l (.int .i64 ((i + 1 : Nat) : Int)) (wr.setCell ⟨g, 1, none⟩ (.int .i64 x)).drew (i + 1) := by
  obtain ⟨_, h1, h5, c0, c1, f1, l0, l1, g0, g1, hbl⟩ := r
  have o : ∀ j, (wr.setCell ⟨g, 1, none⟩ (.int .i64 x)).cell? ⟨l, j, none⟩ = wr.cell? ⟨l, j, none⟩ := fun j => World.cell?_setCell_other _ _ _ _ (by intro e; simp only [Addr.mk.injEq] at e; exact hg e.1)
  refine ⟨rfl, by omega, hi, ?_, ?_, ?_, (o 0).trans l0, (o 1).trans l1, ?_, ?_, ?_⟩
  · show (wr.setCell ⟨g, 1, none⟩ (.int .i64 x)).cell? ⟨g, 0, none⟩ = _
    rw [set_cell_other (by omega)]
    exact c0
  · show (wr.setCell ⟨g, 1, none⟩ (.int .i64 x)).cell? ⟨g, 1, none⟩ = _
    rw [set_cell_same (by rw [c1]; rfl), hx]
  · exact (World.frozen?_setCell _ _ _ _).trans f1
  · exact (World.frozen?_setCell _ _ _ _).trans g0
  · exact (World.frozen?_setCell _ _ _ _).trans g1
  · exact (hbl.trans ((Only.set (fun b => b = g) wr ⟨g, 1, none⟩ _ rfl).below hbl.size fun x hx => by subst hx; exact hw)).drew


theorem u8_wrap (x : UInt8) : wrap64 (x.toNat : Int) = x.toNat := by
  have := x.toNat_lt
  exact IntWalk.wrap64_in (x.toNat : Int) (by omega)
theorem u8_mul (x : UInt8) (k : Int) (hk : k = 256 ∨ k = 65536 ∨ k = 16777216) : wrap64 ((x.toNat : Int) * k) = (x.toNat : Int) * k := by
  have := x.toNat_lt
  rcases hk with rfl | rfl | rfl
  · exact IntWalk.wrap64_in ((x.toNat : Int) * 256) (by omega)
  · exact IntWalk.wrap64_in ((x.toNat : Int) * 65536) (by omega)
  · exact IntWalk.wrap64_in ((x.toNat : Int) * 16777216) (by omega)
theorem or_part {s : ByteArray} {i k : Nat} (x : UInt8) {q : Int} (hk : part5 s i < 2 ^ k) (hx : (bl s).getD i 0 = x) (hq : q = ((2 ^ k * x.toNat : Nat) : Int)) (hk2 : k ≤ 24) (he : part5 s (i + 1) = part5 s i + 2 ^ k * x.toNat) : bits .or .i64 (part5 s i : Int) q = (part5 s (i + 1) : Nat) := by
  have h1 := x.toNat_lt
  have h2 : 2 ^ k ≤ 2 ^ 24 := Nat.pow_le_pow_right (by omega) hk2
  have h3 : 2 ^ k * x.toNat ≤ 2 ^ 24 * 256 := Nat.mul_le_mul h2 (by omega)
  rw [hq, or_add _ _ _ hk (by omega), he]
set_option maxRecDepth 8000 in
set_option maxHeartbeats 1000000 in
theorem parse_five (s : ByteArray) (hs : s.size = 5) (w : World) : Calls Tryd.prog 70 #[.string s] w fun e w' =>
    e = .returned (if ((bl s).getD 0 0 = 1 ∨ (bl s).getD 0 0 = 2) ∧ hsize (bl s) ≤ 65536 then .tuple #[.agg #[.int .i64 ((bl s).getD 0 0).toNat, .int .i64 (hsize (bl s))], .bool true] else .tuple #[.agg #[.int .i64 0, .int .i64 0], .bool false]) ∧ Below w.heap.size w w' := by
  have gd : ∀ i, (hi : i < s.size) → (bl s).getD i 0 = s[i] := fun i hi => by rw [List.getD_eq_getElem?_getD, bl_get hi]; rfl
  have e0 := gd 0 (by omega)
  have e1 := gd 1 (by omega)
  have e2 := gd 2 (by omega)
  have e3 := gd 3 (by omega)
  have e4 := gd 4 (by omega)
  have E := Lib.hid (And.intro e0 (And.intro e1 (And.intro e2 (And.intro e3 e4))))
  have w0 := u8_wrap (s[0]'(by omega))
  have w1 := u8_wrap (s[1]'(by omega))
  have w2 := u8_wrap (s[2]'(by omega))
  have w3 := u8_wrap (s[3]'(by omega))
  have w4 := u8_wrap (s[4]'(by omega))
  have m2 := u8_mul (s[2]'(by omega)) 256 (by omega)
  have m3 := u8_mul (s[3]'(by omega)) 65536 (by omega)
  have m4 := u8_mul (s[4]'(by omega)) 16777216 (by omega)
  have l1 := (s[1]'(by omega)).toNat_lt
  have l2 := (s[2]'(by omega)).toNat_lt
  have l3 := (s[3]'(by omega)).toNat_lt
  have l4 := (s[4]'(by omega)).toNat_lt
  have p1 : part5 s 1 = 0 := rfl
  have p2 : part5 s 2 = (s[1]'(by omega)).toNat := by rw [← e1]; rfl
  have p3 : part5 s 3 = (s[1]'(by omega)).toNat + 256 * (s[2]'(by omega)).toNat := by rw [← e1, ← e2]; rfl
  have p4 : part5 s 4 = (s[1]'(by omega)).toNat + 256 * (s[2]'(by omega)).toNat + 65536 * (s[3]'(by omega)).toNat := by rw [← e1, ← e2, ← e3]; rfl
  have p5 : part5 s 5 = (s[1]'(by omega)).toNat + 256 * (s[2]'(by omega)).toNat + 65536 * (s[3]'(by omega)).toNat + 16777216 * (s[4]'(by omega)).toNat := by rw [← e1, ← e2, ← e3, ← e4]; rfl
  have P5 : hsize (bl s) = part5 s 5 := rfl
  have o1 : bits .or .i64 (part5 s 1 : Int) ((s[1]'(by omega)).toNat : Int) = (part5 s (1 + 1) : Nat) := or_part (k := 0) _ (by omega) e1 (by omega) (by omega) (by show part5 s 2 = _; omega)
  have o2 : bits .or .i64 (part5 s 2 : Int) (((s[2]'(by omega)).toNat : Int) * 256) = (part5 s (2 + 1) : Nat) := or_part (k := 8) _ (by omega) e2 (by omega) (by omega) (by show part5 s 3 = _; omega)
  have o3 : bits .or .i64 (part5 s 3 : Int) (((s[3]'(by omega)).toNat : Int) * 65536) = (part5 s (3 + 1) : Nat) := or_part (k := 16) _ (by omega) e3 (by omega) (by omega) (by show part5 s 4 = _; omega)
  have o4 : bits .or .i64 (part5 s 4 : Int) (((s[4]'(by omega)).toNat : Int) * 16777216) = (part5 s (4 + 1) : Nat) := or_part (k := 24) _ (by omega) e4 (by omega) (by omega) (by show part5 s 5 = _; omega)
  have O := Lib.hid (And.intro o1 (And.intro o2 (And.intro o3 o4)))
  rw [P5]
  clear p1 p2 p3 p4 p5 P5 o1 o2 o3 o4 l1 l2 l3 l4
  clear E
  clear gd e1 e2 e3 e4
  rw [e0]
  clear e0
  obtain ⟨V, hV⟩ : ∃ V, V = if (s[0]'(by omega) = 1 ∨ s[0]'(by omega) = 2) ∧ part5 s 5 ≤ 65536 then Value.tuple #[.agg #[.int .i64 (s[0]'(by omega)).toNat, .int .i64 (part5 s 5)], .bool true] else .tuple #[.agg #[.int .i64 0, .int .i64 0], .bool false] := ⟨_, rfl⟩
  rw [← hV]
  have HV := Lib.hid hV
  clear hV
  go_enter Tryd.func70, Tryd.ntmps70
  go_wp2_with fail
  go_loopw [5] (fun iv wr => ∃ i, ParRel w s (s[0]'(by omega)).toNat (w.heap.size + 1) w.heap.size iv wr i) (fun iv _ => 5 - (intOf iv).toNat)
  case atStart =>
    have q1 : (w.alloc (Obj.cells #[Value.int IntKind.i64 0, Value.int IntKind.i64 0] 121)).heap.size = w.heap.size + 1 := Array.size_push ..
    have h1 := (Blk.fresh w 121 #[.int .i64 0, .int .i64 0]).kept (Obj.cells #[.int .i64 (s[0]'(by omega)).toNat, .int .i64 0] 121)
    have h2 := Blk.fresh (w.alloc (Obj.cells #[Value.int IntKind.i64 0, Value.int IntKind.i64 0] 121)) 121 #[.int .i64 (s[0]'(by omega)).toNat, .int .i64 0]
    rw [q1] at h2
    exact ⟨1, rfl, by omega, by omega, (h2.at 0).trans rfl, (h2.at 1).trans rfl, h2.thaw _, (h1.at 0).trans rfl, (h1.at 1).trans rfl, h1.thaw _, h1.thaw _, ((Below.refl _ w).alloc (Nat.le_refl _) _).alloc (by rw [q1]; omega) _⟩
  case round =>
    obtain ⟨i, hr⟩ := hrel
    have HR := Lib.hid hr
    obtain ⟨rfl, hi1, hi5, c0, c1, f1, l0, l1, g0, g1, hbel⟩ := hr
    clear hbel
    rcases (by omega : i = 1 ∨ i = 2 ∨ i = 3 ∨ i = 4 ∨ i = 5) with rfl | rfl | rfl | rfl | rfl
    · go_upto_region 7 with (fail)
      go_region
      go_wp2_with fail
      exact ⟨⟨_, HR.out.next (by omega) O.out.1 (by omega) (by omega)⟩, by simp [intOf]⟩
    · go_upto_region 7 with (fail)
      go_region
      go_wp2_with fail
      exact ⟨⟨_, HR.out.next (by omega) O.out.2.1 (by omega) (by omega)⟩, by simp [intOf]⟩
    · go_upto_region 7 with (fail)
      go_region
      go_wp2_with fail
      exact ⟨⟨_, HR.out.next (by omega) O.out.2.2.1 (by omega) (by omega)⟩, by simp [intOf]⟩
    · go_upto_region 7 with (fail)
      go_region
      go_wp2_with fail
      exact ⟨⟨_, HR.out.next (by omega) O.out.2.2.2 (by omega) (by omega)⟩, by simp [intOf]⟩
    · have r0 : ∀ a b, ((wr.setCell ⟨w.heap.size, 0, none⟩ a).setCell ⟨w.heap.size, 1, none⟩ b).cell? ⟨w.heap.size, 0, none⟩ = some a := fun a b => by rw [set_cell_other (by omega), set_cell_same (by rw [l0]; rfl)]
      have r1 : ∀ a b, ((wr.setCell ⟨w.heap.size, 0, none⟩ a).setCell ⟨w.heap.size, 1, none⟩ b).cell? ⟨w.heap.size, 1, none⟩ = some b := fun a b => by rw [set_cell_same (by rw [set_cell_other (by omega), l1]; rfl)]
      have HR0 := Lib.hid (fun a b => And.intro (r0 a b) (r1 a b))
      clear r0 r1
      have HBL : Hid (∀ a b, Below w.heap.size w ((wr.setCell ⟨w.heap.size, 0, none⟩ a).setCell ⟨w.heap.size, 1, none⟩ b)) := Lib.hid fun a b =>
        HR.out.below.trans (((Only.set (fun b => b = w.heap.size) wr ⟨w.heap.size, 0, none⟩ a rfl).same (Only.set _ _ ⟨w.heap.size, 1, none⟩ b rfl)).below HR.out.below.size fun x hx => by subst hx; exact Nat.le_refl _)
      have hv := HV.out
      clear HR HV O
      generalize part5 s 5 = z at *
      have z0 : (s[0]'(by omega) = 1 → ((s[0]'(by omega)).toNat : Int) = 1) ∧ (s[0]'(by omega) = 2 → ((s[0]'(by omega)).toNat : Int) = 2) ∧ (s[0]'(by omega) ≠ 1 → (((s[0]'(by omega)).toNat : Int) == 1) = false) ∧ (s[0]'(by omega) ≠ 2 → (((s[0]'(by omega)).toNat : Int) == 2) = false) :=
        ⟨fun e => by rw [e]; rfl, fun e => by rw [e]; rfl, fun e => byte_ne (k := 1) (by omega) e, fun e => byte_ne (k := 2) (by omega) e⟩
      by_cases hz : z ≤ 65536
      · have hz1 : (z : Int) ≤ 65536 := by omega
        by_cases h1 : s[0]'(by omega) = 1
        · rw [if_pos ⟨.inl h1, hz⟩, z0.1 h1] at hv
          have x0 := z0.1 h1
          subst hv
          clear z0 hz
          generalize ((s[0]'(by omega)).toNat : Int) = y at *
          subst x0
          go_wp2_with fail
          obtain ⟨t0, t1⟩ := HR0.out (.int .i64 1) (.int .i64 z)
          have T := HBL.out (.int .i64 1) (.int .i64 z)
          generalize (wr.setCell ⟨w.heap.size, 0, none⟩ (.int .i64 1)).setCell ⟨w.heap.size, 1, none⟩ (.int .i64 z) = wf at *
          exact bodyPost_ret (v := .tuple #[.agg #[.int .i64 1, .int .i64 z], .bool true]) (by simp [results, Tryd.results70, go_sem, t0, t1]) rfl ⟨rfl, T⟩
        · by_cases h2 : s[0]'(by omega) = 2
          · rw [if_pos ⟨.inr h2, hz⟩, z0.2.1 h2] at hv
            have x0 := z0.2.1 h2
            subst hv
            clear z0 hz
            generalize ((s[0]'(by omega)).toNat : Int) = y at *
            subst x0
            go_wp2_with fail
            obtain ⟨t0, t1⟩ := HR0.out (.int .i64 2) (.int .i64 z)
            have T := HBL.out (.int .i64 2) (.int .i64 z)
            generalize (wr.setCell ⟨w.heap.size, 0, none⟩ (.int .i64 2)).setCell ⟨w.heap.size, 1, none⟩ (.int .i64 z) = wf at *
            exact bodyPost_ret (v := .tuple #[.agg #[.int .i64 2, .int .i64 z], .bool true]) (by simp [results, Tryd.results70, go_sem, t0, t1]) rfl ⟨rfl, T⟩
          · rw [if_neg (by rintro ⟨e | e, _⟩; exact h1 e; exact h2 e)] at hv
            have x1 := z0.2.2.1 h1
            have x2 := z0.2.2.2 h2
            have x3 := bne_of x1
            have x4 := bne_of x2
            subst hv
            clear z0 hz
            generalize ((s[0]'(by omega)).toNat : Int) = y at *
            go_wp2_with fail
            obtain ⟨t0, t1⟩ := HR0.out (.int .i64 0) (.int .i64 0)
            have T := HBL.out (.int .i64 0) (.int .i64 0)
            generalize (wr.setCell ⟨w.heap.size, 0, none⟩ (.int .i64 0)).setCell ⟨w.heap.size, 1, none⟩ (.int .i64 0) = wf at *
            exact bodyPost_ret (v := .tuple #[.agg #[.int .i64 0, .int .i64 0], .bool false]) (by simp [results, Tryd.results70, go_sem, t0, t1]) rfl ⟨rfl, T⟩
      · rw [if_neg (by rintro ⟨_, e⟩; exact hz e)] at hv
        have hz1 : (65536 : Int) < z := by omega
        subst hv
        clear hz
        by_cases h1 : s[0]'(by omega) = 1
        · have x0 := z0.1 h1
          clear z0
          generalize ((s[0]'(by omega)).toNat : Int) = y at *
          subst x0
          go_wp2_with fail
          obtain ⟨t0, t1⟩ := HR0.out (.int .i64 0) (.int .i64 0)
          have T := HBL.out (.int .i64 0) (.int .i64 0)
          generalize (wr.setCell ⟨w.heap.size, 0, none⟩ (.int .i64 0)).setCell ⟨w.heap.size, 1, none⟩ (.int .i64 0) = wf at *
          exact bodyPost_ret (v := .tuple #[.agg #[.int .i64 0, .int .i64 0], .bool false]) (by simp [results, Tryd.results70, go_sem, t0, t1]) rfl ⟨rfl, T⟩
        · by_cases h2 : s[0]'(by omega) = 2
          · have x0 := z0.2.1 h2
            clear z0
            generalize ((s[0]'(by omega)).toNat : Int) = y at *
            subst x0
            go_wp2_with fail
            obtain ⟨t0, t1⟩ := HR0.out (.int .i64 0) (.int .i64 0)
            have T := HBL.out (.int .i64 0) (.int .i64 0)
            generalize (wr.setCell ⟨w.heap.size, 0, none⟩ (.int .i64 0)).setCell ⟨w.heap.size, 1, none⟩ (.int .i64 0) = wf at *
            exact bodyPost_ret (v := .tuple #[.agg #[.int .i64 0, .int .i64 0], .bool false]) (by simp [results, Tryd.results70, go_sem, t0, t1]) rfl ⟨rfl, T⟩
          · have x1 := z0.2.2.1 h1
            have x2 := z0.2.2.2 h2
            have x3 := bne_of x1
            have x4 := bne_of x2
            clear z0
            generalize ((s[0]'(by omega)).toNat : Int) = y at *
            go_wp2_with fail
            obtain ⟨t0, t1⟩ := HR0.out (.int .i64 0) (.int .i64 0)
            have T := HBL.out (.int .i64 0) (.int .i64 0)
            generalize (wr.setCell ⟨w.heap.size, 0, none⟩ (.int .i64 0)).setCell ⟨w.heap.size, 1, none⟩ (.int .i64 0) = wf at *
            exact bodyPost_ret (v := .tuple #[.agg #[.int .i64 0, .int .i64 0], .bool false]) (by simp [results, Tryd.results70, go_sem, t0, t1]) rfl ⟨rfl, T⟩
end Dsk
end Go.Proofs.YtpogoalbnbekaaaDoor

namespace Go.Proofs.YtpogoalbnbekaaaDoor
open Go.RowKit Wire
set_option linter.unusedVariables false
set_option linter.unusedSimpArgs false
open Txt
namespace Dsk

/-- What parse returns. -/
def parV (l : List UInt8) : Value := if l.length = 5 ∧ (l.getD 0 0 = 1 ∨ l.getD 0 0 = 2) ∧ hsize l ≤ 65536 then .tuple #[.agg #[.int .i64 (l.getD 0 0).toNat, .int .i64 (hsize l)], .bool true] else .tuple #[.agg #[.int .i64 0, .int .i64 0], .bool false]
set_option maxHeartbeats 1000000 in
theorem parse_any (s : ByteArray) (hm : s.size ≤ 5) (w : World) : Calls Tryd.prog 70 #[.string s] w fun e w' => e = .returned (parV (bl s)) ∧ Below w.heap.size w w' := by
  by_cases h : s.size = 5
  · refine (parse_five s h w).mono ?_
    rintro e w' ⟨rfl, hb⟩
    refine ⟨?_, hb⟩
    unfold parV
    rw [bl_len]
    by_cases h2 : ((bl s).getD 0 0 = 1 ∨ (bl s).getD 0 0 = 2) ∧ hsize (bl s) ≤ 65536
    · rw [if_pos h2, if_pos ⟨h, h2⟩]
    · rw [if_neg h2, if_neg (fun e => h2 e.2)]
  · have e : parV (bl s) = .tuple #[.agg #[.int .i64 0, .int .i64 0], .bool false] := by
      unfold parV
      rw [bl_len, if_neg (fun e => h e.1)]
    rw [e]
    clear e
    have q0 : ((s.size : Int) == 5) = false := beq_eq_false_iff_ne.2 (by omega)
    have q1 := bne_of q0
    have h1 := Blk.fresh w 121 #[.int .i64 0, .int .i64 0]
    have hb := (Below.refl _ w).alloc (Nat.le_refl _) (Obj.cells #[.int .i64 0, .int .i64 0] 121)
    have f0 := h1.thaw 0
    have f1 := h1.thaw 1
    have c0 := (h1.at 0).trans rfl
    have c1 := (h1.at 1).trans rfl
    clear h h1
    go_enter Tryd.func70, Tryd.ntmps70
    go_wp2_with fail
    exact bodyPost_ret (v := .tuple #[.agg #[.int .i64 0, .int .i64 0], .bool false]) (by simp [results, Tryd.results70, go_sem, c0, c1]) rfl ⟨rfl, hb⟩

section
variable {w w' w0 : World} {q p : Nat} {c c' : Cl} {D : Own} {S S' : St}
/-- What Open returns: a new cell, or nil. -/
def OpnPost (w : World) (p : Nat) (r : Int × Option Cl) (e : Ending) (w' : World) : Prop :=
  Below w.heap.size w w' ∧ match r.2 with
    | none => e = .returned (.tuple #[.pointer none, .int .i64 r.1])
    | some c => ∃ q, e = .returned (.tuple #[ptr q, .int .i64 r.1]) ∧ CellAt w' q p c ∧ w.heap.size ≤ q
theorem CellAt.fresh (w : World) (p : Nat) (f : Int) (t : TypeId) : CellAt (w.alloc (.cells #[ptr p, .int .i64 f, .int .i64 0, .string ⟨#[]⟩, .bool false] t)) w.heap.size p ⟨f, 0, [], false⟩ := by
  have h := Blk.fresh w t #[ptr p, .int .i64 f, .int .i64 0, .string ⟨#[]⟩, .bool false]
  refine ⟨(h.at 0).trans rfl, (h.at 1).trans rfl, (h.at 2).trans rfl, (h.at 3).trans rfl, (h.at 4).trans rfl, fun j hj => ⟨?_, h.thaw _⟩⟩
  rw [h.at, Nat.zero_add]
  rcases (by omega : j = 0 ∨ j = 1 ∨ j = 2 ∨ j = 3 ∨ j = 4) with rfl | rfl | rfl | rfl | rfl <;> rfl

/-- What stands there once Open has laid the cell and the header. -/
theorem opened {w5 w6 : World} {k n : Nat} (f : Int) (h5 : Below w.heap.size w w5) (h6 : Below (w5.alloc (.cells #[ptr D.p, .int .i64 f, .int .i64 0, .string ⟨#[]⟩, .bool false] 119)).heap.size (w5.alloc (.cells #[ptr D.p, .int .i64 f, .int .i64 0, .string ⟨#[]⟩, .bool false] 119)) w6) :
    (w6.alloc (Obj.cells #[Value.int IntKind.i64 k, Value.int IntKind.i64 n] 121)).cell? ⟨w5.heap.size, 2, none⟩ = some (.int .i64 0) ∧ (w6.alloc (Obj.cells #[Value.int IntKind.i64 k, Value.int IntKind.i64 n] 121)).frozen? ⟨w5.heap.size, 2, none⟩ = false ∧
    (CellAt ((w6.alloc (Obj.cells #[Value.int IntKind.i64 k, Value.int IntKind.i64 n] 121)).setCell ⟨w5.heap.size, 2, none⟩ (.int .i64 k)) w5.heap.size D.p ⟨f, k, [], false⟩ ∧
      ((w6.alloc (Obj.cells #[Value.int IntKind.i64 k, Value.int IntKind.i64 n] 121)).setCell ⟨w5.heap.size, 2, none⟩ (.int .i64 k)).cell? ⟨w6.heap.size, 0, none⟩ = some (.int .i64 k) ∧
      ((w6.alloc (Obj.cells #[Value.int IntKind.i64 k, Value.int IntKind.i64 n] 121)).setCell ⟨w5.heap.size, 2, none⟩ (.int .i64 k)).cell? ⟨w6.heap.size, 1, none⟩ = some (.int .i64 n) ∧
      (Below w.heap.size w ((w6.alloc (Obj.cells #[Value.int IntKind.i64 k, Value.int IntKind.i64 n] 121)).setCell ⟨w5.heap.size, 2, none⟩ (.int .i64 k)) ∧ w.heap.size ≤ w5.heap.size ∧ w5.heap.size < w6.heap.size)) := by
  have hz : (w5.alloc (.cells #[ptr D.p, .int .i64 f, .int .i64 0, .string ⟨#[]⟩, .bool false] 119)).heap.size = w5.heap.size + 1 := Array.size_push ..
  have hlt : w5.heap.size < w6.heap.size := by have := h6.size; omega
  have b7 := (Below.refl _ w6).alloc (Nat.le_refl _) (Obj.cells #[Value.int IntKind.i64 k, Value.int IntKind.i64 n] 121)
  have hc := ((CellAt.fresh w5 D.p f 119).below h6).below b7
  have hh := Blk.fresh w6 121 #[Value.int IntKind.i64 k, Value.int IntKind.i64 n]
  have hb := (next_below (next_below h5 ((Below.refl _ w5).alloc (Nat.le_refl _) _)) h6)
  have hb7 := next_below hb b7
  generalize w6.alloc (Obj.cells #[Value.int IntKind.i64 k, Value.int IntKind.i64 n] 121) = w7 at *
  have o : ∀ j, (w7.setCell ⟨w5.heap.size, 2, none⟩ (.int .i64 k)).cell? ⟨w6.heap.size, j, none⟩ = w7.cell? ⟨w6.heap.size, j, none⟩ := fun j => World.cell?_setCell_other _ _ _ _ (by intro e; simp only [Addr.mk.injEq] at e; omega)
  refine ⟨hc.k2, hc.free (by omega), hc.set_slot k, (o 0).trans ((hh.at 0).trans rfl), (o 1).trans ((hh.at 1).trans rfl), ?_, h5.size, hlt⟩
  exact hb7.trans ((Only.set (fun b => b = w5.heap.size) w7 ⟨w5.heap.size, 2, none⟩ _ rfl).below hb7.size fun x hx => by subst hx; exact h5.size)

set_option maxRecDepth 8000 in
set_option maxHeartbeats 2000000 in
theorem Open_any (hd : DiskAt w D S) (hk : S.ok) (ho : Off w) (f : Int) : Calls Tryd.prog 55 #[ptr D.p, .int .i64 f] w (OpnPost w D.p (opn S f)) := by
  obtain ⟨R, hR⟩ : ∃ R, R = opn S f := ⟨_, rfl⟩
  rw [← hR]
  unfold opn at hR
  have hrd := diskRead_any hd hk f 0 5 (by omega) (by omega)
  have hlen : (S.Read f 0 5).1.length ≤ 5 := by
    unfold St.Read
    split
    · exact Nat.zero_le _
    · split
      · exact Nat.zero_le _
      · show (S.now.read _ _ _).length ≤ 5
        rw [Con.read_len]
        omega
  have HRD2 : Hid (∀ w' (k n : Nat), Below w.heap.size w w' → n ≤ 65536 → Calls Tryd.prog 34 #[ptr D.p, .int .i64 f, .int .i64 (beg k : Nat), .int .i64 n] w' fun e w2 => e = .returned (.tuple #[str (S.Read f (beg k : Nat) n).1, .int .i64 (S.Read f (beg k : Nat) n).2]) ∧ Below w'.heap.size w' w2) :=
    Lib.hid fun w' k n hb hn => by have := beg_hi k; exact diskRead_any (hd.below hb) hk f _ _ (by omega) (by omega)
  have HO : Hid (∀ w', Below w.heap.size w w' → ∀ k, k = 1 ∨ k = 2 → Calls Tryd.prog 71 #[.int .i64 (k : Nat)] w' fun e w2 => e = .returned (.int .i64 (beg k : Nat)) ∧ w' = w2) := Lib.hid fun w' hb k hk => offset_any (ho.below hb ho.lt) hk
  clear hd hk ho
  generalize S.Read f 0 5 = X at *
  obtain ⟨l, er⟩ := X
  dsimp only at hR hrd hlen
  have HRD := Lib.hid hrd
  have HR := Lib.hid hR
  clear hrd hR
  by_cases e1 : er = 0
  case neg =>
    have q1 : (er == 0) = false := beq_eq_false_iff_ne.2 e1
    have hr : R = (er, none) := by rw [HR.out, if_pos e1]
    subst hr
    clear HR HRD2 HO
    go_enter Tryd.func55, Tryd.ntmps55
    go_wp2_with (go_at_call 34; refine HRD.out.mono ?_; rintro e w5 ⟨rfl, h5⟩)
    go_returns
    exact ⟨h5, rfl⟩
  subst e1
  rw [if_neg (by simp)] at HR
  unfold str at HRD
  obtain ⟨s, hs⟩ : ∃ s : ByteArray, s = ⟨l.toArray⟩ := ⟨_, rfl⟩
  have hl : bl s = l := by rw [hs]
  rw [← hs] at HRD
  have hsz : s.size ≤ 5 := by rw [← bl_len, hl]; exact hlen
  clear hs hlen
  subst hl
  rw [bl_len] at HR
  by_cases h0 : 0 < s.size
  case neg =>
    have hr : R = (0, some ⟨f, 0, [], false⟩) := by
      rw [HR.out, if_pos]
      rw [List.getD_eq_getElem?_getD, List.getElem?_eq_none (by rw [bl_len]; omega)]
      rfl
    have hem := is_empty h0
    subst hr
    clear HR HRD2 HO
    go_enter Tryd.func55, Tryd.ntmps55
    go_wp2_with (go_at_call 34; refine HRD.out.mono ?_; rintro e w5 ⟨rfl, h5⟩)
    go_returns
    exact ⟨next_below h5 ((Below.refl _ w5).alloc (Nat.le_refl _) _), _, rfl, CellAt.fresh _ _ _ _, h5.size⟩
  have ne1 := not_empty h0
  have ne2 := not_empty2 h0
  have hg : (bl s).getD 0 0 = s[0] := by rw [List.getD_eq_getElem?_getD, bl_get h0]; rfl
  rw [hg] at HR
  by_cases hz : s[0] = 0
  · have b0 : ((s[0].toNat : Int) == 0) = true := byte_eq (k := 0) (by omega) hz
    have hr : R = (0, some ⟨f, 0, [], false⟩) := by rw [HR.out, if_pos hz]
    subst hr
    clear HR HRD2 HO hg hz
    go_enter Tryd.func55, Tryd.ntmps55
    go_wp2_with (go_at_call 34; refine HRD.out.mono ?_; rintro e w5 ⟨rfl, h5⟩)
    go_returns
    exact ⟨next_below h5 ((Below.refl _ w5).alloc (Nat.le_refl _) _), _, rfl, CellAt.fresh _ _ _ _, h5.size⟩
  have b0 : ((s[0].toNat : Int) == 0) = false := byte_ne (k := 0) (by omega) hz
  rw [if_neg hz] at HR
  have HP := Lib.hid (fun w => parse_any s hsz w)
  unfold parV at HP
  rw [bl_len, hg] at HP
  by_cases hp : s.size = 5 ∧ (s[0] = 1 ∨ s[0] = 2) ∧ hsize (bl s) ≤ 65536
  case neg =>
    rw [if_neg hp] at HP
    have hr : R = (2, none) := by
      rw [HR.out, if_pos]
      by_cases g1 : s.size = 5
      · by_cases g2 : s[0] = 1 ∨ s[0] = 2
        · refine .inr (.inr ?_)
          have : ¬ hsize (bl s) ≤ 65536 := fun g3 => hp ⟨g1, g2, g3⟩
          omega
        · exact .inr (.inl ⟨fun e => g2 (.inl e), fun e => g2 (.inr e)⟩)
      · exact .inl g1
    subst hr
    clear HR HRD2 HO hg hz hp
    go_enter Tryd.func55, Tryd.ntmps55
    go_wp2_with (first
      | (go_at_call 34; refine HRD.out.mono ?_; rintro e w5 ⟨rfl, h5⟩)
      | (go_at_call 70; refine (HP.out _).mono ?_; rintro e w6 ⟨rfl, h6⟩))
    go_returns
    exact ⟨(next_below (next_below h5 ((Below.refl _ w5).alloc (Nat.le_refl _) _)) h6).alloc (by have := h5.size; have := h6.size; simp at this; omega) _, rfl⟩
  rw [if_pos hp] at HP
  obtain ⟨g1, g2, g3⟩ := hp
  rw [if_neg (by rintro (e | e | e); exact e g1; rcases g2 with g2 | g2; exact e.1 g2; exact e.2 g2; omega)] at HR
  have hk : s[0].toNat = 1 ∨ s[0].toNat = 2 := by rcases g2 with g2 | g2 <;> rw [g2]; exact .inl rfl; exact .inr rfl
  clear g1 g2 hz hg
  generalize hsize (bl s) = n at *
  generalize hkk : s[0].toNat = k at *
  have HRD3 := Lib.hid (fun w' hb => HRD2.out w' k n hb g3)
  have HO2 := Lib.hid (fun w' hb => HO.out w' hb k hk)
  clear HRD2 HO
  have hvl : (S.Read f (beg k : Nat) n).1.length ≤ n := by
    unfold St.Read
    split
    · exact Nat.zero_le _
    · split
      · exact Nat.zero_le _
      · show (S.now.read _ _ _).length ≤ n
        rw [Con.read_len]
        omega
  generalize S.Read f (beg k : Nat) n = V at *
  obtain ⟨v, er2⟩ := V
  dsimp only at HRD3 HR hvl
  unfold str at HRD3
  generalize (beg k : Nat) = bk at *
  go_enter Tryd.func55, Tryd.ntmps55
  go_upto_region 11 with (first
    | (go_at_call 34; refine HRD.out.mono ?_; rintro e w5 ⟨rfl, h5⟩)
    | (go_at_call 70; refine (HP.out _).mono ?_; rintro e w6 ⟨rfl, h6⟩
       obtain ⟨z2, zf, z8⟩ := opened (n := n) (k := k) (D := D) f h5 h6
       have Z8 := Lib.hid z8
       clear z8))
  obtain ⟨hc8, c0, c1, hb8⟩ := Z8.out
  clear Z8 z2 zf HP HRD ne1 ne2 b0 h5 h6
  generalize (w6.alloc (Obj.cells #[Value.int IntKind.i64 ↑k, Value.int IntKind.i64 ↑n] 121)).setCell { block := w5.heap.size, off := 2 } (Value.int IntKind.i64 ↑k) = w8 at *
  obtain ⟨hb80, hle, hlt⟩ := hb8
  have HC8 := Lib.hid hc8
  have HB8 := Lib.hid hb80
  have B8d := Lib.hid (((Below.refl _ w8).drew : Below w8.heap.size w8 w8.drew))
  have hb86 : w6.heap.size < w8.heap.size := World.block_lt_of_cell? w8 _ c0
  have hn56 : w6.heap.size ≠ w5.heap.size := by omega
  have HK : Hid (∀ w', Below w8.heap.size w8 w' → w'.cell? ⟨w6.heap.size, 0, none⟩ = some (.int .i64 k) ∧ w'.cell? ⟨w6.heap.size, 1, none⟩ = some (.int .i64 n)) :=
    Lib.hid fun w' b => ⟨(World.cell?_of_block (a := ⟨w6.heap.size, 0, none⟩) (b.block _ hb86)).trans c0, (World.cell?_of_block (a := ⟨w6.heap.size, 1, none⟩) (b.block _ hb86)).trans c1⟩
  have HK2 : Hid (∀ w' x, Below w8.heap.size w8 w' → (w'.setCell ⟨w5.heap.size, 3, none⟩ x).cell? ⟨w6.heap.size, 0, none⟩ = some (.int .i64 k) ∧ (w'.setCell ⟨w5.heap.size, 3, none⟩ x).cell? ⟨w6.heap.size, 1, none⟩ = some (.int .i64 n)) :=
    Lib.hid fun w' x b => by
      have o : ∀ j, (w'.setCell ⟨w5.heap.size, 3, none⟩ x).cell? ⟨w6.heap.size, j, none⟩ = w'.cell? ⟨w6.heap.size, j, none⟩ := fun j => World.cell?_setCell_other _ _ _ _ (by intro e; simp only [Addr.mk.injEq] at e; omega)
      exact ⟨(o 0).trans (HK.out w' b).1, (o 1).trans (HK.out w' b).2⟩
  have HE : Hid (∀ w', Below w8.heap.size w8 w' → CellAt (w'.setCell ⟨w5.heap.size, 3, none⟩ (str v)) w5.heap.size D.p ⟨f, k, v, false⟩ ∧ Below w.heap.size w (w'.setCell ⟨w5.heap.size, 3, none⟩ (str v))) :=
    Lib.hid fun w' b => ⟨(HC8.out.below b).set_value v, by
      have hb := next_below HB8.out b
      exact hb.trans ((Only.set (fun b => b = w5.heap.size) w' ⟨w5.heap.size, 3, none⟩ _ rfl).below hb.size fun x hx => by subst hx; exact hle)⟩
  have HB9 : Hid (∀ w', Below w8.heap.size w8 w' → Below w.heap.size w w') := Lib.hid fun w' b => next_below HB8.out b
  unfold str at HE
  clear hc8 hb80 c0 c1 hb86 HB8
  go_region_held3 (fun w' => w'.cell? ⟨w6.heap.size, 0, none⟩ = some (.int .i64 k) ∧ w'.cell? ⟨w6.heap.size, 1, none⟩ = some (.int .i64 n)) (first | exact HK.out _ B8d.out | exact HK.out _ b9 | exact HK2.out _ _ b9 | go_keep)
    (first
      | (go_at_call 71; refine (HO2.out _ (HB9.out _ B8d.out)).mono ?_; rintro e w4 ⟨rfl, rfl⟩)
      | (go_at_call 34; refine (HRD3.out _ (HB9.out _ B8d.out)).mono ?_; rintro e w9 ⟨rfl, b90⟩; have b9 := next_below B8d.out b90; have z3 := (HC8.out.below b9).k3; have f3 := (HC8.out.below b9).free (j := 3) (by omega)))
  obtain ⟨hc, hb⟩ := HE.out w9 b9
  obtain ⟨d0, d1⟩ := HK2.out w9 (.string ⟨v.toArray⟩) b9
  have HC := Lib.hid hc
  have HB := Lib.hid hb
  have v3 := hc.k3
  unfold str at v3
  clear HE HK HK2 HC8 B8d HB9 HO2 HRD3 z3 f3 b9 b90 hc hb
  have hvz : (⟨v.toArray⟩ : ByteArray).size = v.length := rfl
  generalize w9.setCell { block := w5.heap.size, off := 3 } (Value.string ⟨v.toArray⟩) = wa at *
  by_cases e2 : er2 = 0
  case neg =>
    have q2 : (er2 == 0) = false := beq_eq_false_iff_ne.2 e2
    have hr : R = (er2, none) := by rw [HR.out, if_pos e2]
    subst hr
    clear HR
    go_wp2_with fail
    go_returns
    exact ⟨HB.out, rfl⟩
  subst e2
  rw [if_neg (by simp)] at HR
  by_cases e3 : v.length = n
  case neg =>
    have hr : R = (2, none) := by rw [HR.out, if_pos e3]
    have hlt2 : ((⟨v.toArray⟩ : ByteArray).size : Int) < n := by rw [hvz]; omega
    subst hr
    clear HR
    generalize (⟨v.toArray⟩ : ByteArray) = vs at *
    go_wp2_with fail
    go_quiet (fail)
    generalize hwq : wa.drewN _ = wq at *
    have HWQ : Hid (Below w.heap.size w wq) := Lib.hid (by rw [← hwq]; exact next_below HB.out ⟨rfl, rfl, rfl, Nat.le_refl _, fun _ _ => rfl⟩)
    clear hwq
    go_wp2_with fail
    go_returns
    exact ⟨HWQ.out, rfl⟩
  have hr : R = (0, some ⟨f, k, v, false⟩) := by rw [HR.out, if_neg (by rw [e3]; simp)]
  have hlt2 : ¬ ((⟨v.toArray⟩ : ByteArray).size : Int) < n := by rw [hvz]; omega
  subst hr
  clear HR e3 hvz hvl
  have HP : Hid (∀ m, OpnPost w D.p (0, some ⟨f, k, v, false⟩) (.returned (.tuple #[ptr w5.heap.size, .int .i64 0])) (wa.drewN m)) :=
    Lib.hid fun m => ⟨next_below HB.out ⟨rfl, rfl, rfl, Nat.le_refl _, fun _ _ => rfl⟩, _, rfl, HC.out.still rfl, hle⟩
  generalize (⟨v.toArray⟩ : ByteArray) = vs at *
  go_wp2_with fail
  go_quiet (fail)
  go_wp2_with fail
  go_returns
  exact HP.out _
end
end Dsk
end Go.Proofs.YtpogoalbnbekaaaDoor

/- The header's bytes; replace; Set. -/
import Derived.Test.YtlokgmpdighfaaaDoorClA
namespace Go.Proofs.YtlokgmpdighfaaaDoor
open Go.RowKit Wire
set_option linter.unusedVariables false
set_option linter.unusedSimpArgs false
open Txt
namespace Dsk

theorem hdr_1 (k n : Nat) : ((hdr k n).getD 1 0).toNat = n % 256 := by
  show (UInt8.ofNat (n % 256)).toNat = _
  rw [UInt8.toNat_ofNat']
  omega
theorem hdr_2 (k n : Nat) : ((hdr k n).getD 2 0).toNat = n / 256 % 256 := by
  show (UInt8.ofNat (n / 256 % 256)).toNat = _
  rw [UInt8.toNat_ofNat']
  omega
theorem hdr_3 (k n : Nat) : ((hdr k n).getD 3 0).toNat = n / 65536 % 256 := by
  show (UInt8.ofNat (n / 65536)).toNat = _
  rw [UInt8.toNat_ofNat']
theorem hdr_4 (k n : Nat) : ((hdr k n).getD 4 0).toNat = 0 := rfl
/-- The byte j of the header, when those before i are laid. -/
def hb (k n i j : Nat) : Nat := if j < i then ((hdr k n).getD j 0).toNat else 0
structure BytRel (w : World) (k n g h : Nat) (iv : Value) (wr : World) (i : Nat) : Prop where
  iv : iv = .int .i64 i
  i1 : 1 ≤ i
  i5 : i ≤ 5
  size : wr.cell? ⟨h, 1, none⟩ = some (.int .i64 n)
  bs : ∀ j, j < 5 → wr.cell? ⟨g, j, none⟩ = some (.int .u8 (hb k n i j))
  there : wr.there g 0 5
  below : Below w.heap.size w wr
theorem BytRel.next {w wr : World} {k n g h i : Nat} {iv : Value} {x : Int} (r : BytRel w k n g h iv wr i) (hi : i < 5) (hx : x = ((hdr k n).getD i 0).toNat) (hg : g ≠ h) (hw : w.heap.size ≤ g) :
    BytRel w k n g h (.int .i64 ((i + 1 : Nat) : Int)) (wr.setCell ⟨g, i, none⟩ (.int .u8 x)) (i + 1) := by
  obtain ⟨_, h1, h5, hs, hb0, ht, hbl⟩ := r
  refine ⟨rfl, by omega, hi, ?_, fun j hj => ?_, there_put ht _ _, ?_⟩
  · rw [World.cell?_setCell_other _ _ _ _ (by intro e; simp only [Addr.mk.injEq] at e; exact hg e.1)]
    exact hs
  · by_cases e : j = i
    · subst e
      rw [set_cell_same (by rw [hb0 j hj]; rfl), hx]
      unfold hb
      rw [if_pos (by omega)]
    · rw [set_cell_other e, hb0 j hj]
      unfold hb
      by_cases hji : j < i
      · rw [if_pos hji, if_pos (by omega)]
      · rw [if_neg hji, if_neg (by omega)]
  · exact hbl.trans ((Only.set (fun b => b = g) wr ⟨g, i, none⟩ _ rfl).below hbl.size fun x hx => by subst hx; exact hw)

set_option maxRecDepth 8000 in
set_option maxHeartbeats 1000000 in
theorem bytes_any (w : World) {k n : Nat} (hk : k = 1 ∨ k = 2) (hn : n ≤ 65536) : Calls Tryd.prog 59 #[.agg #[.int .i64 k, .int .i64 n]] w fun e w' => e = .returned (str (hdr k n)) ∧ Below w.heap.size w w' := by
  have hk1 : (k : Int) % 256 = k := by omega
  have hw1 : IntKind.u8.wrap (k : Int) = k := by rcases hk with rfl | rfl <;> rfl
  go_enter Tryd.func59, Tryd.ntmps59
  go_wp2_with fail
  go_loopw [4] (fun iv wr => ∃ i, BytRel w k n (w.heap.size + 1) w.heap.size iv wr i) (fun iv _ => 5 - (intOf iv).toNat)
  case atStart =>
    have e1 : (w.alloc (Obj.cells #[Value.int IntKind.i64 ↑k, Value.int IntKind.i64 ↑n] 76)).heap.size = w.heap.size + 1 := Array.size_push ..
    have h1 := (Blk.fresh w 76 #[.int .i64 k, .int .i64 n]).kept (Obj.cells #[.int .u8 k, .int .u8 0, .int .u8 0, .int .u8 0, .int .u8 0] 109)
    have h2 := Blk.fresh (w.alloc (Obj.cells #[Value.int IntKind.i64 ↑k, Value.int IntKind.i64 ↑n] 76)) 109 #[.int .u8 k, .int .u8 0, .int .u8 0, .int .u8 0, .int .u8 0]
    rw [e1] at h2
    refine ⟨1, rfl, by omega, by omega, (h1.at 1).trans rfl, fun j hj => ?_, fun j hj => ⟨?_, h2.thaw _⟩, ((Below.refl _ w).alloc (Nat.le_refl _) _).alloc (by rw [e1]; omega) _⟩
    · rw [h2.at]
      rcases (by omega : j = 0 ∨ j = 1 ∨ j = 2 ∨ j = 3 ∨ j = 4) with rfl | rfl | rfl | rfl | rfl
      · have : (hb k n 1 0 : Nat) = k := by rcases hk with rfl | rfl <;> rfl
        rw [this]
        rfl
      · rfl
      · rfl
      · rfl
      · rfl
    · rw [h2.at, Nat.zero_add]
      rcases (by omega : j = 0 ∨ j = 1 ∨ j = 2 ∨ j = 3 ∨ j = 4) with rfl | rfl | rfl | rfl | rfl <;> rfl
  case round =>
    obtain ⟨i, hr⟩ := hrel
    have HR := Lib.hid hr
    obtain ⟨rfl, hi1, hi5, hsz, hbs, ht, hbel⟩ := hr
    have f1 : wr.frozen? ⟨w.heap.size + 1, i, none⟩ = false ∨ i = 5 := by
      by_cases h5 : i = 5
      · exact .inr h5
      · have := (ht i (by omega)).2
        rw [Nat.zero_add] at this
        exact .inl this
    have b1 : wr.cell? ⟨w.heap.size + 1, i, none⟩ = some (.int .u8 (hb k n i i)) ∨ i = 5 := by
      by_cases h5 : i = 5
      · exact .inr h5
      · exact .inl (hbs i (by omega))
    clear ht hbel hbs
    rcases (by omega : i = 1 ∨ i = 2 ∨ i = 3 ∨ i = 4 ∨ i = 5) with rfl | rfl | rfl | rfl | rfl
    · obtain f2 := f1.resolve_right (by omega)
      obtain b2 := b1.resolve_right (by omega)
      clear f1 b1
      go_wp2_with fail
      refine ⟨⟨_, HR.out.next (by omega) ?_ (by omega) (by omega)⟩, by simp [intOf]⟩
      have := hdr_1 k n
      omega
    · obtain f2 := f1.resolve_right (by omega)
      obtain b2 := b1.resolve_right (by omega)
      clear f1 b1
      go_wp2_with fail
      refine ⟨⟨_, HR.out.next (by omega) ?_ (by omega) (by omega)⟩, by simp [intOf]⟩
      have := hdr_2 k n
      omega
    · obtain f2 := f1.resolve_right (by omega)
      obtain b2 := b1.resolve_right (by omega)
      clear f1 b1
      go_wp2_with fail
      refine ⟨⟨_, HR.out.next (by omega) ?_ (by omega) (by omega)⟩, by simp [intOf]⟩
      have := hdr_3 k n
      omega
    · obtain f2 := f1.resolve_right (by omega)
      obtain b2 := b1.resolve_right (by omega)
      clear f1 b1
      go_wp2_with fail
      refine ⟨⟨_, HR.out.next (by omega) ?_ (by omega) (by omega)⟩, by simp [intOf]⟩
      have := hdr_4 k n
      omega
    · clear f1 b1
      have hl : ∀ j, (hj : j < (hdr k n).length) → wr.cell? ((⟨w.heap.size + 1, 0, none⟩ : Addr).add j) = some (.int .u8 ((hdr k n)[j]).toNat) := fun j hj => by
        rw [row_add', Nat.zero_add, HR.out.bs j hj]
        unfold hb
        rw [hdr_len] at hj
        rw [if_pos hj, List.getD_eq_getElem?_getD, List.getElem?_eq_getElem hj]
        rfl
      have hcv := run_convert_bytes_back (P := Tryd.prog) wr 54 9 5 ⟨w.heap.size + 1, 0, none⟩ 5 (hdr k n) Tryd.underlying54 Tryd.underlying5 Tryd.underlying9 hl
      rw [hdr_len] at hcv
      clear hl
      go_wp2_with fail
      go_ret
      exact ⟨rfl, HR.out.below⟩

section
variable {w w' w0 : World} {q p : Nat} {c c' : Cl} {D : Own} {S S' : St}
/-- The header that replace has laid stays. -/
theorem CC.aside {w1 : World} (h : CC D q w1 w S c) {b j : Nat} {v : Value} (hb : w1.cell? ⟨b, j, none⟩ = some v) (hn : ¬ D.has b) (hq : b ≠ q) : w.cell? ⟨b, j, none⟩ = some v :=
  (World.cell?_of_block (a := ⟨b, j, none⟩) (h.only.block b (World.block_lt_of_cell? w1 _ hb) (by rintro (e | e); exact hn e; exact hq e))).trans hb
/-- What the regions of replace read. -/
abbrev Four0 (q p : Nat) (f : Int) (b k n : Nat) (w : World) : Prop := w.cell? ⟨q, 0, none⟩ = some (ptr p) ∧ w.cell? ⟨q, 1, none⟩ = some (.int .i64 f) ∧ w.cell? ⟨b, 0, none⟩ = some (.int .i64 k) ∧ w.cell? ⟨b, 1, none⟩ = some (.int .i64 n)

set_option maxRecDepth 8000 in
set_option maxHeartbeats 2000000 in
theorem replace_at (s : ByteArray) (hs : s.size ≤ 65536) (hd : DiskAt w D S) (hk : S.ok) (hc : CellAt w q D.p c) (ho : Off w) (ha : ¬ D.has q) (hg : ¬ D.has 0) (hq : q ≠ 0) :
    Calls Tryd.prog 40 #[ptr q, .string s] w fun e w' => e = .returned (.int .i64 (c.replace S (bl s)).1) ∧ CC D q w w' (c.replace S (bl s)).2.2 (c.replace S (bl s)).2.1 := by
  obtain ⟨R, hR⟩ : ∃ R, R = c.replace S (bl s) := ⟨_, rfl⟩
  rw [← hR]
  have hk12 := othK_two c.slot
  have hos := Lib.hid (otherSlot_any c.slot)
  have k0 := hc.k0
  have k1 := hc.k1
  have k2 := hc.k2
  have hlen : (bl s).length = s.size := bl_len s
  have hsm : s.size ≤ maxLen := small_max (by omega)
  unfold Cl.replace at hR
  rw [hlen] at hR
  generalize hok : othK c.slot = k at *
  generalize hW1 : S.Write c.file (beg k : Nat) (bl s) = W1 at *
  generalize hY1 : W1.1.Sync c.file = Y1 at *
  generalize hW2 : Y1.1.Write c.file 0 (hdr k s.size) = W2 at *
  generalize hw1 : w.alloc (Obj.cells #[Value.int IntKind.i64 (k : Nat), Value.int IntKind.i64 (s.size : Nat)] 76) = w1
  have hb1 : Below w.heap.size w w1 := by rw [← hw1]; exact (Below.refl _ w).alloc (Nat.le_refl _) _
  have hz1 : w1.heap.size = w.heap.size + 1 := by rw [← hw1]; exact Array.size_push ..
  have c0 : w1.cell? ⟨w.heap.size, 0, none⟩ = some (.int .i64 k) := by rw [← hw1]; exact ((Blk.fresh w _ _).at 0).trans rfl
  have c1 : w1.cell? ⟨w.heap.size, 1, none⟩ = some (.int .i64 s.size) := by rw [← hw1]; exact ((Blk.fresh w _ _).at 1).trans rfl
  have hnh : ¬ D.has w.heap.size := fun e => by have := hd.inside _ e; omega
  have hqh : w.heap.size ≠ q := fun e => by have := hc.lt; omega
  have H1 : Hid (CC D q w1 w1 S c) := Lib.hid (CC.init (hd.below hb1) hk (hc.below hb1) (ho.below hb1 ho.lt) ha hg hq)
  have HF : Hid (∀ w' S' c', CC D q w1 w' S' c' → CC D q w w' S' c') := Lib.hid (fun w' S' c' h => h.ahead hb1 hc.lt ho.lt)
  have HA : Hid (∀ w' S' c', CC D q w1 w' S' c' → c'.file = c.file → Four0 q D.p c.file w.heap.size k s.size w') := Lib.hid (fun w' S' c' h e => ⟨h.cell.k0, by rw [← e]; exact h.cell.k1, h.aside c0 hnh hqh, h.aside c1 hnh hqh⟩)
  have HO : Hid (∀ w', Off w' → Calls Tryd.prog 37 #[.int .i64 k] w' fun e w2 => e = .returned (.int .i64 (beg k : Nat)) ∧ w' = w2) := Lib.hid (fun w' h => offset_any h hk12)
  have HB : Hid (∀ w', Calls Tryd.prog 59 #[.agg #[.int .i64 k, .int .i64 s.size]] w' fun e w2 => e = .returned (str (hdr k s.size)) ∧ Below w'.heap.size w' w2) := Lib.hid (fun w' => bytes_any w' hk12 hs)
  have HW1 : Hid (∀ w', CC D q w1 w' S c → Calls Tryd.prog 31 #[ptr D.p, .int .i64 c.file, .int .i64 (beg k : Nat), .string s] w' fun e w2 => e = .returned (.int .i64 W1.2) ∧ CC D q w1 w2 W1.1 c) := Lib.hid (fun w' h => by have := h.write c.file (beg k : Nat) s hsm; rwa [hW1] at this)
  have HY1 : Hid (∀ w', CC D q w1 w' W1.1 c → Calls Tryd.prog 57 #[ptr D.p, .int .i64 c.file] w' fun e w2 => e = .returned (.int .i64 Y1.2) ∧ CC D q w1 w2 Y1.1 c) := Lib.hid (fun w' h => by have := h.sync c.file; rwa [hY1] at this)
  have HW2 : Hid (∀ w', CC D q w1 w' Y1.1 c → Calls Tryd.prog 31 #[ptr D.p, .int .i64 c.file, .int .i64 0, str (hdr k s.size)] w' fun e w2 => e = .returned (.int .i64 W2.2) ∧ CC D q w1 w2 W2.1 c) := Lib.hid (fun w' h => by have := h.write c.file 0 ⟨(hdr k s.size).toArray⟩ (small_max (by rw [bytes_size, hdr_len]; omega)); rw [bl_mk, hW2] at this; exact this)
  have HOF : Hid (∀ w' S', CC D q w1 w' S' c → Off w') := Lib.hid (fun w' S' h => h.off)
  have HRR := Lib.hid hR
  unfold str at HB HW2
  generalize beg k = bk at *
  generalize (⟨(hdr k s.size).toArray⟩ : ByteArray) = hx at *
  generalize hdr k s.size = hy at *
  clear hd hk hc ho ha hg hq hR hb1 hz1 hnh hqh c0 c1 hW1 hY1 hW2 hok hk12 hlen
  obtain ⟨W1s, er1⟩ := W1
  obtain ⟨Y1s, er2⟩ := Y1
  obtain ⟨W2s, er3⟩ := W2
  dsimp only at HW1 HY1 HW2 HRR
  go_enter Tryd.func40, Tryd.ntmps40
  go_upto_region 2 with (go_at_call 58; refine (hos.out w).mono ?_; rintro e w2 ⟨rfl, rfl⟩)
  clear hw1 k0 k1 k2 hos
  have H1d := Lib.hid (H1.out.below (Below.refl _ w1).drew)
  clear H1
  go_region_held3 (fun w' => Four0 q D.p c.file w.heap.size k s.size w') (first | exact HA.out _ _ _ H1d.out rfl | exact HA.out _ _ _ h5 rfl | go_keep)
    (first
      | (go_at_call 37; refine (HO.out _ (HOF.out _ _ H1d.out)).mono ?_; rintro e w4 ⟨rfl, rfl⟩)
      | (go_at_call 31; refine (HW1.out _ H1d.out).mono ?_; rintro e w5 ⟨rfl, h5⟩))
  clear H1d HW1 HO
  have H5 := Lib.hid h5
  clear h5
  by_cases e1 : er1 = 0
  case neg =>
    have q1 : (er1 == 0) = false := beq_eq_false_iff_ne.2 e1
    have hr : R = (er1, c, W1s) := by rw [HRR.out, if_pos e1]
    subst hr
    clear HRR HY1 HW2
    go_wp2_with fail
    go_ret
    exact ⟨rfl, HF.out _ _ _ H5.out⟩
  subst e1
  go_upto_region 5 with (fail)
  have H5d := Lib.hid (H5.out.below (Below.refl _ _).drew)
  clear H5
  go_region_held3 (fun w' => Four0 q D.p c.file w.heap.size k s.size w') (first | exact HA.out _ _ _ H5d.out rfl | exact HA.out _ _ _ h6 rfl | go_keep)
    (first
      | (go_at_call 57; refine (HY1.out _ H5d.out).mono ?_; rintro e w6 ⟨rfl, h6⟩))
  clear H5d HY1
  have H6 := Lib.hid h6
  clear h6
  by_cases e2 : er2 = 0
  case neg =>
    have q2 : (er2 == 0) = false := beq_eq_false_iff_ne.2 e2
    have hr : R = (er2, c, Y1s) := by rw [HRR.out, if_neg (by simp), if_pos e2]
    subst hr
    clear HRR HW2
    go_wp2_with fail
    go_ret
    exact ⟨rfl, HF.out _ _ _ H6.out⟩
  subst e2
  go_upto_region 8 with (fail)
  have H6d := Lib.hid (H6.out.below (Below.refl _ _).drew)
  clear H6
  go_region_held3 (fun w' => Four0 q D.p c.file w.heap.size k s.size w') (first | exact HA.out _ _ _ H6d.out rfl | exact HA.out _ _ _ h7 rfl | exact HA.out _ _ _ h8 rfl | go_keep)
    (first
      | (go_at_call 59; refine (HB.out _).mono ?_; rintro e w7 ⟨rfl, b7⟩; have h7 := H6d.out.below b7)
      | (go_at_call 31; refine (HW2.out _ h7).mono ?_; rintro e w8 ⟨rfl, h8⟩))
  clear H6d HW2 HB
  have H8 := Lib.hid h8
  clear h8 h7 b7
  by_cases e3 : er3 = 0
  case neg =>
    have q3 : (er3 == 0) = false := beq_eq_false_iff_ne.2 e3
    have hr : R = (er3, c, W2s) := by rw [HRR.out, if_neg (by simp), if_neg (by simp), if_pos e3]
    subst hr
    clear HRR
    go_wp2_with fail
    go_ret
    exact ⟨rfl, HF.out _ _ _ H8.out⟩
  subst e3
  have hr : R = (0, ⟨c.file, k, bl s, false⟩, W2s) := by rw [HRR.out, if_neg (by simp), if_neg (by simp), if_neg (by simp)]
  subst hr
  have k2 := H8.out.cell.k2
  have k3 := H8.out.cell.k3
  have k4 := H8.out.cell.k4
  have f2 := H8.out.cell.free (j := 2) (by omega)
  have f3 := H8.out.cell.free (j := 3) (by omega)
  have f4 := H8.out.cell.free (j := 4) (by omega)
  obtain ⟨z0, z1, z2, z3⟩ := HA.out _ _ _ H8.out rfl
  have HE : Hid (CC D q w (((w8.setCell ⟨q, 2, none⟩ (.int .i64 k)).setCell ⟨q, 3, none⟩ (.string s)).setCell ⟨q, 4, none⟩ (.bool false)) W2s ⟨c.file, k, bl s, false⟩) := Lib.hid (by
    have g1 := H8.out.put (H8.out.cell.set_slot k)
    have g2 := g1.put (g1.cell.set_value (bl s))
    have g3 := g2.put (g2.cell.set_sure false)
    exact HF.out _ _ _ g3)
  clear HF HA H8 HOF HRR
  go_wp2_with fail
  go_ret
  exact ⟨rfl, HE.out⟩
end
end Dsk
end Go.Proofs.YtlokgmpdighfaaaDoor

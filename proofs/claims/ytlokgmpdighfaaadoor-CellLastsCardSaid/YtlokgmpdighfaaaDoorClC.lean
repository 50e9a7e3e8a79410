/- Set; parse; Open; Get. -/
import Derived.Test.YtlokgmpdighfaaaDoorClB
namespace Go.Proofs.YtlokgmpdighfaaaDoor
open Go.RowKit Wire
set_option linter.unusedVariables false
set_option linter.unusedSimpArgs false
open Txt
namespace Dsk

section
variable {w w' w0 : World} {q p : Nat} {c c' : Cl} {D : Own} {S S' : St}
theorem replace_any (s : ByteArray) (hs : s.size ≤ 65536) (h : CC D q w0 w S c) : Calls Tryd.prog 40 #[ptr q, .string s] w fun e w' => e = .returned (.int .i64 (c.replace S (bl s)).1) ∧ CC D q w0 w' (c.replace S (bl s)).2.2 (c.replace S (bl s)).2.1 :=
  h.call fun D' hp hd hk hc ho ha hg hq => replace_at s hs hd hk hc ho ha hg hq

set_option maxHeartbeats 1000000 in
theorem Set_any (s : ByteArray) (hs : s.size ≤ maxLen) (h : CC D q w0 w S c) : Calls Tryd.prog 14 #[ptr q, .string s] w fun e w' => e = .returned (.int .i64 (c.set S (bl s)).1) ∧ CC D q w0 w' (c.set S (bl s)).2.2 (c.set S (bl s)).2.1 := by
  obtain ⟨R, hR⟩ : ∃ R, R = c.set S (bl s) := ⟨_, rfl⟩
  rw [← hR]
  unfold Cl.set at hR
  rw [bl_len] at hR
  have HR := Lib.hid hR
  have H := Lib.hid h
  by_cases hb : 65536 < s.size
  · have hr : R = (6, c, S) := by rw [HR.out, if_pos hb]
    subst hr
    clear HR hR h
    go_enter Tryd.func14, Tryd.ntmps14
    go_wp2_with fail
    go_ret
    exact ⟨rfl, H.out⟩
  · have HS := Lib.hid (settle_any' h)
    have HP : Hid (∀ w' S' c', CC D q w0 w' S' c' → Calls Tryd.prog 40 #[ptr q, .string s] w' fun e w2 => e = .returned (.int .i64 (c'.replace S' (bl s)).1) ∧ CC D q w0 w2 (c'.replace S' (bl s)).2.2 (c'.replace S' (bl s)).2.1) := Lib.hid fun w' S' c' h => replace_any s (by omega) h
    have HS2 : Hid (∀ w' S' c', CC D q w0 w' S' c' → Calls Tryd.prog 39 #[ptr q] w' fun e w2 => e = .returned (.int .i64 (c'.settle S').1) ∧ CC D q w0 w2 (c'.settle S').2.2 (c'.settle S').2.1) := Lib.hid fun w' S' c' h => settle_any' h
    have HR := Lib.hid hR
    clear hR h H
    generalize c.settle S = X at *
    obtain ⟨er1, c1, S1⟩ := X
    dsimp only at HS HR
    rw [if_neg hb] at HR
    by_cases e1 : er1 = 0
    case neg =>
      have q1 : (er1 == 0) = false := beq_eq_false_iff_ne.2 e1
      have hr : R = (er1, c1, S1) := by rw [HR.out, if_pos e1]
      subst hr
      clear HR HP HS2
      go_enter Tryd.func14, Tryd.ntmps14
      go_wp2_with (go_at_call 39; refine HS.out.mono ?_; rintro e w5 ⟨rfl, h5⟩; have H5 := Lib.hid h5; clear h5)
      go_ret
      exact ⟨rfl, H5.out⟩
    subst e1
    rw [if_neg (by simp)] at HR
    have HP1 := Lib.hid (fun w' h => HP.out w' S1 c1 h)
    generalize c1.replace S1 (bl s) = Y at *
    obtain ⟨er2, c2, S2⟩ := Y
    dsimp only at HP1 HR
    clear HP
    by_cases e2 : er2 = 0
    case neg =>
      have q2 : (er2 == 0) = false := beq_eq_false_iff_ne.2 e2
      have hr : R = (er2, c2, S2) := by rw [HR.out, if_pos e2]
      subst hr
      clear HR HS2
      go_enter Tryd.func14, Tryd.ntmps14
      go_wp2_with (first
        | (go_at_call 39; refine HS.out.mono ?_; rintro e w5 ⟨rfl, h5⟩; have H5 := Lib.hid h5; clear h5)
        | (go_at_call 40; refine (HP1.out _ H5.out).mono ?_; rintro e w6 ⟨rfl, h6⟩; have H6 := Lib.hid h6; clear h6))
      go_ret
      exact ⟨rfl, H6.out⟩
    subst e2
    rw [if_neg (by simp)] at HR
    have HS3 := Lib.hid (fun w' h => HS2.out w' S2 c2 h)
    have hr := HR.out
    clear HR HS2
    rw [← hr] at HS3
    clear hr
    obtain ⟨er3, c3, S3⟩ := R
    dsimp only at HS3 ⊢
    go_enter Tryd.func14, Tryd.ntmps14
    go_wp2_with (first
      | (go_at_call 39; ((with_reducible refine HS.out.mono ?_); rintro e w5 ⟨rfl, h5⟩; have H5 := Lib.hid h5; clear h5 HS))
      | (go_at_call 40; refine (HP1.out _ H5.out).mono ?_; rintro e w6 ⟨rfl, h6⟩; have H6 := Lib.hid h6; clear h6)
      | (go_at_call 39; ((with_reducible refine (HS3.out _ H6.out).mono ?_); rintro e w7 ⟨rfl, h7⟩; have H7 := Lib.hid h7; clear h7)))
    go_ret
    exact ⟨rfl, H7.out⟩
end

theorem Get_any {w : World} {q p : Nat} {c : Cl} (h : CellAt w q p c) : Calls Tryd.prog 23 #[ptr q] w fun e w' => e = .returned (.tuple #[str c.value, .bool (decide (c.slot ≠ 0))]) ∧ Below w.heap.size w w' := by
  have k2 := h.k2
  have k3 := h.k3
  clear h
  by_cases h0 : c.slot = 0
  · rw [h0] at k2
    rw [decide_eq_false (by simp [h0])]
    go_enter Tryd.func23, Tryd.ntmps23
    go_wp2_with fail
    go_quiet (fail)
    go_wp2_with fail
    go_returns
    exact ⟨rfl, ⟨rfl, rfl, rfl, Nat.le_refl _, fun _ _ => rfl⟩⟩
  · have q0 : ((c.slot : Int) == 0) = false := beq_eq_false_iff_ne.2 (by omega)
    have qn : ((c.slot : Int) != 0) = true := by rw [bne, q0]; rfl
    rw [decide_eq_true h0]
    go_enter Tryd.func23, Tryd.ntmps23
    go_wp2_with fail
    go_quiet (fail)
    go_wp2_with fail
    go_returns
    exact ⟨rfl, ⟨rfl, rfl, rfl, Nat.le_refl _, fun _ _ => rfl⟩⟩

/-- 'or' of numbers that have no bit in common. -/
theorem or_add (P x k : Nat) (hP : P < 2 ^ k) (hs : P + 2 ^ k * x < 9223372036854775808) : bits .or .i64 (P : Int) ((2 ^ k * x : Nat) : Int) = ((P + 2 ^ k * x : Nat) : Int) := by
  unfold bits
  show IntKind.i64.wrap (((BitVec.ofInt 64 (P : Int) ||| BitVec.ofInt 64 ((2 ^ k * x : Nat) : Int)).toNat : Nat) : Int) = _
  have e : (BitVec.ofInt 64 (P : Int) ||| BitVec.ofInt 64 ((2 ^ k * x : Nat) : Int)).toNat = P + 2 ^ k * x := by
    rw [BitVec.toNat_or, BitVec.ofInt_natCast, BitVec.ofInt_natCast, BitVec.toNat_ofNat, BitVec.toNat_ofNat, Nat.mod_eq_of_lt (by omega), Nat.mod_eq_of_lt (by omega), Nat.or_comm, ← Nat.two_pow_add_eq_or_of_lt hP, Nat.add_comm]
  rw [e]
  exact IntWalk.i64_in _ (by omega)

/-- The size, as far as it is put together. -/
def part5 (s : ByteArray) (i : Nat) : Nat := (if 1 < i then ((bl s).getD 1 0).toNat else 0) + (if 2 < i then 256 * ((bl s).getD 2 0).toNat else 0) + (if 3 < i then 65536 * ((bl s).getD 3 0).toNat else 0) + (if 4 < i then 16777216 * ((bl s).getD 4 0).toNat else 0)
structure ParRel (w : World) (s : ByteArray) (x0 : Int) (g l : Nat) (iv : Value) (wr : World) (i : Nat) : Prop where
  iv : iv = .int .i64 i
  i1 : 1 ≤ i
  i5 : i ≤ 5
  c0 : wr.cell? ⟨g, 0, none⟩ = some (.int .i64 x0)
  c1 : wr.cell? ⟨g, 1, none⟩ = some (.int .i64 (part5 s i))
  f1 : wr.frozen? ⟨g, 1, none⟩ = false
  l0 : wr.cell? ⟨l, 0, none⟩ = some (.int .i64 0)
  l1 : wr.cell? ⟨l, 1, none⟩ = some (.int .i64 0)
  g0 : wr.frozen? ⟨l, 0, none⟩ = false
  g1 : wr.frozen? ⟨l, 1, none⟩ = false
  below : Below w.heap.size w wr
theorem ParRel.next {w wr : World} {s : ByteArray} {x0 x : Int} {g l i : Nat} {iv : Value} (r : ParRel w s x0 g l iv wr i) (hi : i < 5) (hx : x = part5 s (i + 1)) (hg : g ≠ l) (hw : w.heap.size ≤ g) :
    ParRel w s x0 g l (.int .i64 ((i + 1 : Nat) : Int)) (wr.setCell ⟨g, 1, none⟩ (.int .i64 x)).drew (i + 1) := by
  obtain ⟨_, h1, h5, c0, c1, f1, l0, l1, g0, g1, hbl⟩ := r
  have o : ∀ j, (wr.setCell ⟨g, 1, none⟩ (.int .i64 x)).cell? ⟨l, j, none⟩ = wr.cell? ⟨l, j, none⟩ := fun j => World.cell?_setCell_other _ _ _ _ (by intro e; simp only [Addr.mk.injEq] at e; exact hg e.1)
  refine ⟨rfl, by omega, hi, ?_, ?_, ?_, (o 0).trans l0, (o 1).trans l1, ?_, ?_, ?_⟩
  · show (wr.setCell ⟨g, 1, none⟩ (.int .i64 x)).cell? ⟨g, 0, none⟩ = _
    rw [set_cell_other (by omega)]
    exact c0
  · show (wr.setCell ⟨g, 1, none⟩ (.int .i64 x)).cell? ⟨g, 1, none⟩ = _
    rw [set_cell_same (by rw [c1]; rfl), hx]
  · exact (World.frozen?_setCell _ _ _ _).trans f1
  · exact (World.frozen?_setCell _ _ _ _).trans g0
  · exact (World.frozen?_setCell _ _ _ _).trans g1
  · exact (hbl.trans ((Only.set (fun b => b = g) wr ⟨g, 1, none⟩ _ rfl).below hbl.size fun x hx => by subst hx; exact hw)).drew


theorem u8_wrap (x : UInt8) : wrap64 (x.toNat : Int) = x.toNat := by
  have := x.toNat_lt
  exact IntWalk.wrap64_in (x.toNat : Int) (by omega)
theorem u8_mul (x : UInt8) (k : Int) (hk : k = 256 ∨ k = 65536 ∨ k = 16777216) : wrap64 ((x.toNat : Int) * k) = (x.toNat : Int) * k := by
  have := x.toNat_lt
  rcases hk with rfl | rfl | rfl
  · exact IntWalk.wrap64_in ((x.toNat : Int) * 256) (by omega)
  · exact IntWalk.wrap64_in ((x.toNat : Int) * 65536) (by omega)
  · exact IntWalk.wrap64_in ((x.toNat : Int) * 16777216) (by omega)
theorem or_part {s : ByteArray} {i k : Nat} (x : UInt8) {q : Int} (hk : part5 s i < 2 ^ k) (hx : (bl s).getD i 0 = x) (hq : q = ((2 ^ k * x.toNat : Nat) : Int)) (hk2 : k ≤ 24) (he : part5 s (i + 1) = part5 s i + 2 ^ k * x.toNat) : bits .or .i64 (part5 s i : Int) q = (part5 s (i + 1) : Nat) := by
  have h1 := x.toNat_lt
  have h2 : 2 ^ k ≤ 2 ^ 24 := Nat.pow_le_pow_right (by omega) hk2
  have h3 : 2 ^ k * x.toNat ≤ 2 ^ 24 * 256 := Nat.mul_le_mul h2 (by omega)
  rw [hq, or_add _ _ _ hk (by omega), he]
set_option maxRecDepth 8000 in
set_option maxHeartbeats 1000000 in
theorem parse_five (s : ByteArray) (hs : s.size = 5) (w : World) : Calls Tryd.prog 36 #[.string s] w fun e w' =>
    e = .returned (if ((bl s).getD 0 0 = 1 ∨ (bl s).getD 0 0 = 2) ∧ hsize (bl s) ≤ 65536 then .tuple #[.agg #[.int .i64 ((bl s).getD 0 0).toNat, .int .i64 (hsize (bl s))], .bool true] else .tuple #[.agg #[.int .i64 0, .int .i64 0], .bool false]) ∧ Below w.heap.size w w' := by
  have gd : ∀ i, (hi : i < s.size) → (bl s).getD i 0 = s[i] := fun i hi => by rw [List.getD_eq_getElem?_getD, bl_get hi]; rfl
  have e0 := gd 0 (by omega)
  have e1 := gd 1 (by omega)
  have e2 := gd 2 (by omega)
  have e3 := gd 3 (by omega)
  have e4 := gd 4 (by omega)
  have E := Lib.hid (And.intro e0 (And.intro e1 (And.intro e2 (And.intro e3 e4))))
  have w0 := u8_wrap (s[0]'(by omega))
  have w1 := u8_wrap (s[1]'(by omega))
  have w2 := u8_wrap (s[2]'(by omega))
  have w3 := u8_wrap (s[3]'(by omega))
  have w4 := u8_wrap (s[4]'(by omega))
  have m2 := u8_mul (s[2]'(by omega)) 256 (by omega)
  have m3 := u8_mul (s[3]'(by omega)) 65536 (by omega)
  have m4 := u8_mul (s[4]'(by omega)) 16777216 (by omega)
  have l1 := (s[1]'(by omega)).toNat_lt
  have l2 := (s[2]'(by omega)).toNat_lt
  have l3 := (s[3]'(by omega)).toNat_lt
  have l4 := (s[4]'(by omega)).toNat_lt
  have p1 : part5 s 1 = 0 := rfl
  have p2 : part5 s 2 = (s[1]'(by omega)).toNat := by rw [← e1]; rfl
  have p3 : part5 s 3 = (s[1]'(by omega)).toNat + 256 * (s[2]'(by omega)).toNat := by rw [← e1, ← e2]; rfl
  have p4 : part5 s 4 = (s[1]'(by omega)).toNat + 256 * (s[2]'(by omega)).toNat + 65536 * (s[3]'(by omega)).toNat := by rw [← e1, ← e2, ← e3]; rfl
  have p5 : part5 s 5 = (s[1]'(by omega)).toNat + 256 * (s[2]'(by omega)).toNat + 65536 * (s[3]'(by omega)).toNat + 16777216 * (s[4]'(by omega)).toNat := by rw [← e1, ← e2, ← e3, ← e4]; rfl
  have P5 : hsize (bl s) = part5 s 5 := rfl
  have o1 : bits .or .i64 (part5 s 1 : Int) ((s[1]'(by omega)).toNat : Int) = (part5 s (1 + 1) : Nat) := or_part (k := 0) _ (by omega) e1 (by omega) (by omega) (by show part5 s 2 = _; omega)
  have o2 : bits .or .i64 (part5 s 2 : Int) (((s[2]'(by omega)).toNat : Int) * 256) = (part5 s (2 + 1) : Nat) := or_part (k := 8) _ (by omega) e2 (by omega) (by omega) (by show part5 s 3 = _; omega)
  have o3 : bits .or .i64 (part5 s 3 : Int) (((s[3]'(by omega)).toNat : Int) * 65536) = (part5 s (3 + 1) : Nat) := or_part (k := 16) _ (by omega) e3 (by omega) (by omega) (by show part5 s 4 = _; omega)
  have o4 : bits .or .i64 (part5 s 4 : Int) (((s[4]'(by omega)).toNat : Int) * 16777216) = (part5 s (4 + 1) : Nat) := or_part (k := 24) _ (by omega) e4 (by omega) (by omega) (by show part5 s 5 = _; omega)
  have O := Lib.hid (And.intro o1 (And.intro o2 (And.intro o3 o4)))
  rw [P5]
  clear p1 p2 p3 p4 p5 P5 o1 o2 o3 o4 l1 l2 l3 l4
  clear E
  clear gd e1 e2 e3 e4
  rw [e0]
  clear e0
  obtain ⟨V, hV⟩ : ∃ V, V = if (s[0]'(by omega) = 1 ∨ s[0]'(by omega) = 2) ∧ part5 s 5 ≤ 65536 then Value.tuple #[.agg #[.int .i64 (s[0]'(by omega)).toNat, .int .i64 (part5 s 5)], .bool true] else .tuple #[.agg #[.int .i64 0, .int .i64 0], .bool false] := ⟨_, rfl⟩
  rw [← hV]
  have HV := Lib.hid hV
  clear hV
  go_enter Tryd.func36, Tryd.ntmps36
  go_wp2_with fail
  go_loopw [5] (fun iv wr => ∃ i, ParRel w s (s[0]'(by omega)).toNat (w.heap.size + 1) w.heap.size iv wr i) (fun iv _ => 5 - (intOf iv).toNat)
  case atStart =>
    have q1 : (w.alloc (Obj.cells #[Value.int IntKind.i64 0, Value.int IntKind.i64 0] 76)).heap.size = w.heap.size + 1 := Array.size_push ..
    have h1 := (Blk.fresh w 76 #[.int .i64 0, .int .i64 0]).kept (Obj.cells #[.int .i64 (s[0]'(by omega)).toNat, .int .i64 0] 76)
    have h2 := Blk.fresh (w.alloc (Obj.cells #[Value.int IntKind.i64 0, Value.int IntKind.i64 0] 76)) 76 #[.int .i64 (s[0]'(by omega)).toNat, .int .i64 0]
    rw [q1] at h2
    exact ⟨1, rfl, by omega, by omega, (h2.at 0).trans rfl, (h2.at 1).trans rfl, h2.thaw _, (h1.at 0).trans rfl, (h1.at 1).trans rfl, h1.thaw _, h1.thaw _, ((Below.refl _ w).alloc (Nat.le_refl _) _).alloc (by rw [q1]; omega) _⟩
  case round =>
    obtain ⟨i, hr⟩ := hrel
    have HR := Lib.hid hr
    obtain ⟨rfl, hi1, hi5, c0, c1, f1, l0, l1, g0, g1, hbel⟩ := hr
    clear hbel
    rcases (by omega : i = 1 ∨ i = 2 ∨ i = 3 ∨ i = 4 ∨ i = 5) with rfl | rfl | rfl | rfl | rfl
    · go_upto_region 7 with (fail)
      go_region
      go_wp2_with fail
      exact ⟨⟨_, HR.out.next (by omega) O.out.1 (by omega) (by omega)⟩, by simp [intOf]⟩
    · go_upto_region 7 with (fail)
      go_region
      go_wp2_with fail
      exact ⟨⟨_, HR.out.next (by omega) O.out.2.1 (by omega) (by omega)⟩, by simp [intOf]⟩
    · go_upto_region 7 with (fail)
      go_region
      go_wp2_with fail
      exact ⟨⟨_, HR.out.next (by omega) O.out.2.2.1 (by omega) (by omega)⟩, by simp [intOf]⟩
    · go_upto_region 7 with (fail)
      go_region
      go_wp2_with fail
      exact ⟨⟨_, HR.out.next (by omega) O.out.2.2.2 (by omega) (by omega)⟩, by simp [intOf]⟩
    · have r0 : ∀ a b, ((wr.setCell ⟨w.heap.size, 0, none⟩ a).setCell ⟨w.heap.size, 1, none⟩ b).cell? ⟨w.heap.size, 0, none⟩ = some a := fun a b => by rw [set_cell_other (by omega), set_cell_same (by rw [l0]; rfl)]
      have r1 : ∀ a b, ((wr.setCell ⟨w.heap.size, 0, none⟩ a).setCell ⟨w.heap.size, 1, none⟩ b).cell? ⟨w.heap.size, 1, none⟩ = some b := fun a b => by rw [set_cell_same (by rw [set_cell_other (by omega), l1]; rfl)]
      have HR0 := Lib.hid (fun a b => And.intro (r0 a b) (r1 a b))
      clear r0 r1
      have HBL : Hid (∀ a b, Below w.heap.size w ((wr.setCell ⟨w.heap.size, 0, none⟩ a).setCell ⟨w.heap.size, 1, none⟩ b)) := Lib.hid fun a b =>
        HR.out.below.trans (((Only.set (fun b => b = w.heap.size) wr ⟨w.heap.size, 0, none⟩ a rfl).same (Only.set _ _ ⟨w.heap.size, 1, none⟩ b rfl)).below HR.out.below.size fun x hx => by subst hx; exact Nat.le_refl _)
      have hv := HV.out
      clear HR HV O
      generalize part5 s 5 = z at *
      have z0 : (s[0]'(by omega) = 1 → ((s[0]'(by omega)).toNat : Int) = 1) ∧ (s[0]'(by omega) = 2 → ((s[0]'(by omega)).toNat : Int) = 2) ∧ (s[0]'(by omega) ≠ 1 → (((s[0]'(by omega)).toNat : Int) == 1) = false) ∧ (s[0]'(by omega) ≠ 2 → (((s[0]'(by omega)).toNat : Int) == 2) = false) :=
        ⟨fun e => by rw [e]; rfl, fun e => by rw [e]; rfl, fun e => byte_ne (k := 1) (by omega) e, fun e => byte_ne (k := 2) (by omega) e⟩
      by_cases hz : z ≤ 65536
      · have hz1 : (z : Int) ≤ 65536 := by omega
        by_cases h1 : s[0]'(by omega) = 1
        · rw [if_pos ⟨.inl h1, hz⟩, z0.1 h1] at hv
          have x0 := z0.1 h1
          subst hv
          clear z0 hz
          generalize ((s[0]'(by omega)).toNat : Int) = y at *
          subst x0
          go_wp2_with fail
          obtain ⟨t0, t1⟩ := HR0.out (.int .i64 1) (.int .i64 z)
          have T := HBL.out (.int .i64 1) (.int .i64 z)
          generalize (wr.setCell ⟨w.heap.size, 0, none⟩ (.int .i64 1)).setCell ⟨w.heap.size, 1, none⟩ (.int .i64 z) = wf at *
          exact bodyPost_ret (v := .tuple #[.agg #[.int .i64 1, .int .i64 z], .bool true]) (by simp [results, Tryd.results36, go_sem, t0, t1]) rfl ⟨rfl, T⟩
        · by_cases h2 : s[0]'(by omega) = 2
          · rw [if_pos ⟨.inr h2, hz⟩, z0.2.1 h2] at hv
            have x0 := z0.2.1 h2
            subst hv
            clear z0 hz
            generalize ((s[0]'(by omega)).toNat : Int) = y at *
            subst x0
            go_wp2_with fail
            obtain ⟨t0, t1⟩ := HR0.out (.int .i64 2) (.int .i64 z)
            have T := HBL.out (.int .i64 2) (.int .i64 z)
            generalize (wr.setCell ⟨w.heap.size, 0, none⟩ (.int .i64 2)).setCell ⟨w.heap.size, 1, none⟩ (.int .i64 z) = wf at *
            exact bodyPost_ret (v := .tuple #[.agg #[.int .i64 2, .int .i64 z], .bool true]) (by simp [results, Tryd.results36, go_sem, t0, t1]) rfl ⟨rfl, T⟩
          · rw [if_neg (by rintro ⟨e | e, _⟩; exact h1 e; exact h2 e)] at hv
            have x1 := z0.2.2.1 h1
            have x2 := z0.2.2.2 h2
            have x3 := bne_of x1
            have x4 := bne_of x2
            subst hv
            clear z0 hz
            generalize ((s[0]'(by omega)).toNat : Int) = y at *
            go_wp2_with fail
            obtain ⟨t0, t1⟩ := HR0.out (.int .i64 0) (.int .i64 0)
            have T := HBL.out (.int .i64 0) (.int .i64 0)
            generalize (wr.setCell ⟨w.heap.size, 0, none⟩ (.int .i64 0)).setCell ⟨w.heap.size, 1, none⟩ (.int .i64 0) = wf at *
            exact bodyPost_ret (v := .tuple #[.agg #[.int .i64 0, .int .i64 0], .bool false]) (by simp [results, Tryd.results36, go_sem, t0, t1]) rfl ⟨rfl, T⟩
      · rw [if_neg (by rintro ⟨_, e⟩; exact hz e)] at hv
        have hz1 : (65536 : Int) < z := by omega
        subst hv
        clear hz
        by_cases h1 : s[0]'(by omega) = 1
        · have x0 := z0.1 h1
          clear z0
          generalize ((s[0]'(by omega)).toNat : Int) = y at *
          subst x0
          go_wp2_with fail
          obtain ⟨t0, t1⟩ := HR0.out (.int .i64 0) (.int .i64 0)
          have T := HBL.out (.int .i64 0) (.int .i64 0)
          generalize (wr.setCell ⟨w.heap.size, 0, none⟩ (.int .i64 0)).setCell ⟨w.heap.size, 1, none⟩ (.int .i64 0) = wf at *
          exact bodyPost_ret (v := .tuple #[.agg #[.int .i64 0, .int .i64 0], .bool false]) (by simp [results, Tryd.results36, go_sem, t0, t1]) rfl ⟨rfl, T⟩
        · by_cases h2 : s[0]'(by omega) = 2
          · have x0 := z0.2.1 h2
            clear z0
            generalize ((s[0]'(by omega)).toNat : Int) = y at *
            subst x0
            go_wp2_with fail
            obtain ⟨t0, t1⟩ := HR0.out (.int .i64 0) (.int .i64 0)
            have T := HBL.out (.int .i64 0) (.int .i64 0)
            generalize (wr.setCell ⟨w.heap.size, 0, none⟩ (.int .i64 0)).setCell ⟨w.heap.size, 1, none⟩ (.int .i64 0) = wf at *
            exact bodyPost_ret (v := .tuple #[.agg #[.int .i64 0, .int .i64 0], .bool false]) (by simp [results, Tryd.results36, go_sem, t0, t1]) rfl ⟨rfl, T⟩
          · have x1 := z0.2.2.1 h1
            have x2 := z0.2.2.2 h2
            have x3 := bne_of x1
            have x4 := bne_of x2
            clear z0
            generalize ((s[0]'(by omega)).toNat : Int) = y at *
            go_wp2_with fail
            obtain ⟨t0, t1⟩ := HR0.out (.int .i64 0) (.int .i64 0)
            have T := HBL.out (.int .i64 0) (.int .i64 0)
            generalize (wr.setCell ⟨w.heap.size, 0, none⟩ (.int .i64 0)).setCell ⟨w.heap.size, 1, none⟩ (.int .i64 0) = wf at *
            exact bodyPost_ret (v := .tuple #[.agg #[.int .i64 0, .int .i64 0], .bool false]) (by simp [results, Tryd.results36, go_sem, t0, t1]) rfl ⟨rfl, T⟩
end Dsk
end Go.Proofs.YtlokgmpdighfaaaDoor

/- The reference's cell: begin, Set, Get. -/
import Derived.Test.YtlokgmpdighfaaaDoorClB
import Derived.Test.YtlokgmpdighfaaaDoorRefD
namespace Go.Proofs.YtlokgmpdighfaaaDoor
open Go.RowKit Wire
set_option linter.unusedVariables false
set_option linter.unusedSimpArgs false
open Txt
namespace Dsk

/-- The reference's disk and one of its cells, as a call that began in w0 has them. -/
structure RC (R : ROwn) (q : Nat) (w0 w : World) (S : St) (c : Cl) : Prop where
  ok : S.ok
  disk : ∃ R' n, RefAt w R' n S ∧ R'.g = R.g ∧ ∀ b, R'.has b → R.has b ∨ w0.heap.size ≤ b
  cell : CellAt w q R.g c
  only : Only (fun b => R.has b ∨ b = q) w0 w
  apart : ¬ R.has q
  old : q < w0.heap.size

section
variable {w w' w0 : World} {q p : Nat} {c c' : Cl} {R : ROwn} {S S' : St} {nums : List Nat}
theorem RC.init (hd : RefAt w R nums S) (hk : S.ok) (hc : CellAt w q R.g c) (ha : ¬ R.has q) : RC R q w w S c :=
  ⟨hk, ⟨R, nums, hd, rfl, fun _ h => .inl h⟩, hc, Only.refl _ _, ha, hc.lt⟩
theorem RC.below (h : RC R q w0 w S c) (b : Below w.heap.size w w') : RC R q w0 w' S c := by
  obtain ⟨hk, ⟨R', n, hd, hp, hh⟩, hc, hn, ha, hl⟩ := h
  exact ⟨hk, ⟨R', n, hd.below b, hp, hh⟩, hc.below b, hn.same (Only.of_below b), ha, hl⟩
theorem RC.step {f : FuncId} {args : Array Value} {r : Ending} (h : RC R q w0 w S c) (hk : S'.ok) (hc : ∀ R' n, R'.g = R.g → RefAt w R' n S → Calls Tryd.prog f args w fun e w' => e = r ∧ RPost R' S' w w') :
    Calls Tryd.prog f args w fun e w' => e = r ∧ RC R q w0 w' S' c := by
  obtain ⟨_, ⟨R', n, hd, hp, hh⟩, hcl, hn, ha, hl⟩ := h
  refine (hc R' n hp hd).mono ?_
  rintro e w' ⟨he, hpost⟩
  obtain ⟨⟨R2, n2, hd2, hp2, hh2⟩, ho2⟩ := hpost.done
  have hs := hn.size
  have nq : ¬ R'.has q := fun e => by rcases hh _ e with h1 | h1; exact ha h1; omega
  refine ⟨he, hk, ⟨R2, n2, hd2, hp2.trans hp, fun b hb => ?_⟩, hcl.only ho2 nq, hn.trans ho2 (fun x hx => ?_), ha, hl⟩
  · rcases hh2 b hb with h1 | h1
    · exact hh b h1
    · exact .inr (by omega)
  · rcases hh x hx with h1 | h1
    · exact .inl (.inl h1)
    · exact .inr h1
theorem RC.put {i : Nat} {v : Value} (h : RC R q w0 w S c) (hc : CellAt (w.setCell ⟨q, i, none⟩ v) q R.g c') : RC R q w0 (w.setCell ⟨q, i, none⟩ v) S c' := by
  obtain ⟨hk, ⟨R', n, hd, hp, hh⟩, _, hn, ha, hl⟩ := h
  have o : Only (fun b => b = q) w (w.setCell ⟨q, i, none⟩ v) := Only.set _ _ _ _ rfl
  have hs := hn.size
  refine ⟨hk, ⟨R', n, hd.only o (fun b hb e => ?_), hp, hh⟩, hc, hn.trans o (fun x hx => .inl (.inr hx)), ha, hl⟩
  subst e
  rcases hh _ hb with h1 | h1
  · exact ha h1
  · omega
theorem RC.sync (h : RC R q w0 w S c) (f : Int) : Calls Tryd.prog 41 #[ptr R.g, .int .i64 f] w fun e w' => e = .returned (.int .i64 (S.Sync f).2) ∧ RC R q w0 w' (S.Sync f).1 c :=
  h.step (h.ok.Sync f) fun R' n hp hd => by rw [← hp]; exact rSync_any hd h.ok f
theorem RC.write (h : RC R q w0 w S c) (f a : Int) (s : ByteArray) (hs : s.size ≤ 16777216) : Calls Tryd.prog 32 #[ptr R.g, .int .i64 f, .int .i64 a, .string s] w fun e w' => e = .returned (.int .i64 (S.Write f a (bl s)).2) ∧ RC R q w0 w' (S.Write f a (bl s)).1 c :=
  h.step (h.ok.Write f a (bl s)) fun R' n hp hd => by rw [← hp]; exact rWrite_any hd h.ok f a s hs
end

theorem begin_any (k : Nat) (w : World) : Calls Tryd.prog 38 #[.int .i64 k] w fun e w' => e = .returned (.int .i64 (beg k : Nat)) ∧ w = w' := by
  unfold beg
  by_cases h : k = 2
  · subst h
    rw [if_pos rfl]
    go_enter Tryd.func38, Tryd.ntmps38
    go_wp2_with fail
    go_ret
    exact ⟨rfl, rfl⟩
  · rw [if_neg h]
    have hq : ((k : Int) == 2) = false := beq_eq_false_iff_ne.2 (by omega)
    clear h
    go_enter Tryd.func38, Tryd.ntmps38
    go_wp2_with fail
    go_ret
    exact ⟨rfl, rfl⟩

theorem rGet_any {w : World} {q p : Nat} {c : Cl} (h : CellAt w q p c) : Calls Tryd.prog 24 #[ptr q] w fun e w' => e = .returned (.tuple #[str c.value, .bool (decide (c.slot ≠ 0))]) ∧ Below w.heap.size w w' := by
  have k2 := h.k2
  have k3 := h.k3
  clear h
  by_cases h0 : c.slot = 0
  · rw [h0] at k2
    rw [decide_eq_false (by simp [h0])]
    go_enter Tryd.func24, Tryd.ntmps24
    go_wp2_with fail
    go_quiet (fail)
    go_wp2_with fail
    go_returns
    exact ⟨rfl, ⟨rfl, rfl, rfl, Nat.le_refl _, fun _ _ => rfl⟩⟩
  · have q0 : ((c.slot : Int) == 0) = false := beq_eq_false_iff_ne.2 (by omega)
    have qn : ((c.slot : Int) != 0) = true := by rw [bne, q0]; rfl
    rw [decide_eq_true h0]
    go_enter Tryd.func24, Tryd.ntmps24
    go_wp2_with fail
    go_quiet (fail)
    go_wp2_with fail
    go_returns
    exact ⟨rfl, ⟨rfl, rfl, rfl, Nat.le_refl _, fun _ _ => rfl⟩⟩

section
variable {w w' w0 : World} {q p : Nat} {c c' : Cl} {R : ROwn} {S S' : St} {nums : List Nat}
/-- What a set does once the cell is settled. -/
structure Tail (R : ROwn) (q : Nat) (w0 : World) (f : Int) (k n : Nat) (s : ByteArray) (c1 : Cl) (S1 W1 Y1 W2 Z : St) (er1 er2 er3 er4 : Int) : Prop where
  cell : ∀ w' S' c', RC R q w0 w' S' c' → c'.file = f → Two0 q R.g f w'
  w1 : ∀ w', RC R q w0 w' S1 c1 → Calls Tryd.prog 32 #[ptr R.g, .int .i64 f, .int .i64 (beg k : Nat), .string s] w' fun e w2 => e = .returned (.int .i64 er1) ∧ RC R q w0 w2 W1 c1
  y1 : ∀ w', RC R q w0 w' W1 c1 → Calls Tryd.prog 41 #[ptr R.g, .int .i64 f] w' fun e w2 => e = .returned (.int .i64 er2) ∧ RC R q w0 w2 Y1 c1
  w2 : ∀ w', RC R q w0 w' Y1 c1 → Calls Tryd.prog 32 #[ptr R.g, .int .i64 f, .int .i64 0, str (hdr k n)] w' fun e w2 => e = .returned (.int .i64 er3) ∧ RC R q w0 w2 W2 c1
  z : ∀ w' c', c'.file = f → RC R q w0 w' W2 c' → Calls Tryd.prog 41 #[ptr R.g, .int .i64 f] w' fun e w2 => e = .returned (.int .i64 er4) ∧ RC R q w0 w2 Z c'
theorem Tail.of (c1 : Cl) (S1 : St) (s : ByteArray) (hs : s.size ≤ 65536) : ∃ W1 Y1 W2 Z er1 er2 er3 er4, Tail R q w0 c1.file (othK c1.slot) s.size s c1 S1 W1 Y1 W2 Z er1 er2 er3 er4 ∧
    (if (c1.replace S1 (bl s)).1 ≠ 0 then c1.replace S1 (bl s) else (c1.replace S1 (bl s)).2.1.settle (c1.replace S1 (bl s)).2.2) =
      if er1 ≠ 0 then (er1, c1, W1) else if er2 ≠ 0 then (er2, c1, Y1) else if er3 ≠ 0 then (er3, c1, W2) else (er4, ⟨c1.file, othK c1.slot, bl s, er4 == 0⟩, Z) := by
  refine ⟨(S1.Write c1.file (beg (othK c1.slot) : Nat) (bl s)).1, ((S1.Write c1.file (beg (othK c1.slot) : Nat) (bl s)).1.Sync c1.file).1, (((S1.Write c1.file (beg (othK c1.slot) : Nat) (bl s)).1.Sync c1.file).1.Write c1.file 0 (hdr (othK c1.slot) s.size)).1,
    ((((S1.Write c1.file (beg (othK c1.slot) : Nat) (bl s)).1.Sync c1.file).1.Write c1.file 0 (hdr (othK c1.slot) s.size)).1.Sync c1.file).1, _, _, _, _, ⟨fun w' S' c' h e => ⟨h.cell.k0, by rw [← e]; exact h.cell.k1⟩, fun w' h => h.write _ _ s (by omega), fun w' h => h.sync _,
    fun w' h => by have := h.write c1.file 0 ⟨(hdr (othK c1.slot) s.size).toArray⟩ (by rw [bytes_size, hdr_len]; omega); rwa [bl_mk] at this, fun w' c' e h => h.sync _⟩, ?_⟩
  have hk := othK_two c1.slot
  unfold Cl.replace
  rw [bl_len]
  generalize S1.Write c1.file (beg (othK c1.slot) : Nat) (bl s) = A
  by_cases e1 : A.2 ≠ 0
  · rw [if_pos e1, if_pos e1, if_pos e1]
  rw [if_neg e1, if_neg e1]
  generalize A.1.Sync c1.file = B
  by_cases e2 : B.2 ≠ 0
  · rw [if_pos e2, if_pos e2, if_pos e2]
  rw [if_neg e2, if_neg e2]
  generalize B.1.Write c1.file 0 (hdr (othK c1.slot) s.size) = C
  by_cases e3 : C.2 ≠ 0
  · rw [if_pos e3, if_pos e3, if_pos e3]
  rw [if_neg e3, if_neg e3, if_neg (by simp)]
  unfold Cl.settle
  rw [if_neg (by rintro (e | e); cases e; have : othK c1.slot = 0 := e; omega)]

theorem conv5 (w : World) (xs : Array Value) (l : List UInt8) (h5 : l.length = 5) (hx : ∀ j, j < 5 → xs[j]? = some (.int .u8 (l.getD j 0).toNat)) :
    (convert 54 9 (.slice (some ⟨w.heap.size, 0, none⟩) 5 5)).run Tryd.prog ((w.alloc (Obj.cells xs 5)).drew) = .ok (str l) ((w.alloc (Obj.cells xs 5)).drew) := by
  have h := run_convert_bytes_back (P := Tryd.prog) ((w.alloc (Obj.cells xs 5)).drew) 54 9 5 ⟨w.heap.size, 0, none⟩ 5 l Tryd.underlying54 Tryd.underlying5 Tryd.underlying9 (fun j hj => by
    rw [row_add', Nat.zero_add]
    have h1 := (Blk.fresh w 5 xs).at j
    rw [hx j (by omega), List.getD_eq_getElem?_getD, List.getElem?_eq_getElem hj] at h1
    exact h1)
  rw [h5] at h
  exact h
theorem conv_hdr (w : World) {k n : Nat} (K : Int) (hK : K = k) (hk : k = 1 ∨ k = 2) (hn : n ≤ 65536) :
    (convert 54 9 (.slice (some ⟨w.heap.size, 0, none⟩) 5 5)).run Tryd.prog ((w.alloc (Obj.cells #[.int .u8 (IntKind.u8.wrap K), .int .u8 (IntKind.u8.wrap ((n : Int).tmod 256)), .int .u8 (IntKind.u8.wrap ((IntKind.i64.wrap ((n : Int) / 256)).tmod 256)), .int .u8 (IntKind.u8.wrap (IntKind.i64.wrap ((n : Int) / 65536))), .int .u8 0] 5)).drew) =
      .ok (str (hdr k n)) ((w.alloc (Obj.cells #[.int .u8 (IntKind.u8.wrap K), .int .u8 (IntKind.u8.wrap ((n : Int).tmod 256)), .int .u8 (IntKind.u8.wrap ((IntKind.i64.wrap ((n : Int) / 256)).tmod 256)), .int .u8 (IntKind.u8.wrap (IntKind.i64.wrap ((n : Int) / 65536))), .int .u8 0] 5)).drew) := by
  subst hK
  refine conv5 w _ (hdr k n) (hdr_len k n) fun j hj => ?_
  have w0 : IntKind.u8.wrap (k : Int) = ((hdr k n).getD 0 0).toNat := by rcases hk with rfl | rfl <;> rfl
  have w1 : IntKind.u8.wrap ((n : Int).tmod 256) = ((hdr k n).getD 1 0).toNat := by
    rw [IntKind.wrap_u8, Int.tmod_eq_emod_of_nonneg (by omega), hdr_1]
    omega
  have w2 : IntKind.u8.wrap ((IntKind.i64.wrap ((n : Int) / 256)).tmod 256) = ((hdr k n).getD 2 0).toNat := by
    rw [IntWalk.i64_in _ (by omega), IntKind.wrap_u8, Int.tmod_eq_emod_of_nonneg (by omega), hdr_2]
    omega
  have w3 : IntKind.u8.wrap (IntKind.i64.wrap ((n : Int) / 65536)) = ((hdr k n).getD 3 0).toNat := by
    rw [IntWalk.i64_in _ (by omega), IntKind.wrap_u8, hdr_3]
    omega
  rcases (by omega : j = 0 ∨ j = 1 ∨ j = 2 ∨ j = 3 ∨ j = 4) with rfl | rfl | rfl | rfl | rfl
  · rw [w0]; rfl
  · rw [w1]; rfl
  · rw [w2]; rfl
  · rw [w3]; rfl
  · rfl
set_option maxRecDepth 8000 in
set_option maxHeartbeats 2000000 in
theorem rSet_any (s : ByteArray) (hs : s.size ≤ maxLen) (h : RC R q w0 w S c) : Calls Tryd.prog 15 #[ptr q, .string s] w fun e w' => e = .returned (.int .i64 (c.set S (bl s)).1) ∧ RC R q w0 w' (c.set S (bl s)).2.2 (c.set S (bl s)).2.1 := by
  obtain ⟨V, hV⟩ : ∃ V, V = c.set S (bl s) := ⟨_, rfl⟩
  rw [← hV]
  unfold Cl.set at hV
  rw [bl_len] at hV
  by_cases hb : 65536 < s.size
  · have hr : V = (6, c, S) := by rw [hV, if_pos hb]
    have H := Lib.hid h
    subst hr
    clear hV h
    go_enter Tryd.func15, Tryd.ntmps15
    go_wp2_with fail
    go_ret
    exact ⟨rfl, H.out⟩
  rw [if_neg hb] at hV
  have hb' : s.size ≤ 65536 := by omega
  obtain ⟨k0, k1, k2, k3, k4, ht⟩ := h.cell
  have H := Lib.hid h
  by_cases hst : c.sure = true ∨ c.slot = 0
  · have hx : c.settle S = (0, c, S) := by unfold Cl.settle; rw [if_pos hst]
    rw [hx] at hV
    dsimp only at hV
    rw [if_neg (by simp)] at hV
    obtain ⟨W1, Y1, W2, Z, er1, er2, er3, er4, hT, hE⟩ := Tail.of (R := R) (q := q) (w0 := w0) c S s hb'
    rw [hE] at hV
    have HT := Lib.hid hT
    have HV := Lib.hid hV
    clear hV hT hE hx h
    by_cases h1 : c.slot = 1
    · have ho : othK c.slot = 2 := by unfold othK; rw [if_pos h1]
      rw [ho] at HT HV
      rw [h1] at k2
      have h5 : c.sure = true := by rcases hst with h5 | h5; exact h5; omega
      rw [h5] at k4
      have HX : Hid (RC R q w0 w S c) := H
      clear H
      go_enter Tryd.func15, Tryd.ntmps15
      go_upto_region 11 with (fail)
      have HXd := Lib.hid (HX.out.below (Below.refl _ _).drew)
      clear HX
      go_region_held3 (fun w' => Two0 q R.g c.file w') (first | exact HT.out.cell _ _ _ HXd.out rfl | exact HT.out.cell _ _ _ h6 rfl | go_keep)
        (first
          | (go_at_call 38; refine (begin_any 2 _).mono ?_; rintro e w4 ⟨rfl, rfl⟩)
          | (go_at_call 32; refine (HT.out.w1 _ HXd.out).mono ?_; rintro e w6 ⟨rfl, h6⟩))
      have H6 := Lib.hid h6
      clear h6 HXd
      by_cases e1 : er1 = 0
      case neg =>
        have q1 : (er1 == 0) = false := beq_eq_false_iff_ne.2 e1
        have hr : V = (er1, c, W1) := by rw [HV.out, if_pos e1]
        subst hr
        clear HV HT
        go_wp2_with fail
        go_ret
        exact ⟨rfl, H6.out⟩
      subst e1
      go_upto_region 14 with (fail)
      have H6d := Lib.hid (H6.out.below (Below.refl _ _).drew)
      clear H6
      go_region_held3 (fun w' => Two0 q R.g c.file w') (first | exact HT.out.cell _ _ _ H6d.out rfl | exact HT.out.cell _ _ _ h7 rfl | go_keep)
        (first
          | (go_at_call 41; refine (HT.out.y1 _ H6d.out).mono ?_; rintro e w7 ⟨rfl, h7⟩))
      have H7 := Lib.hid h7
      clear h7 H6d
      by_cases e2 : er2 = 0
      case neg =>
        have q2 : (er2 == 0) = false := beq_eq_false_iff_ne.2 e2
        have hr : V = (er2, c, Y1) := by rw [HV.out, if_neg (by simp), if_pos e2]
        subst hr
        clear HV HT
        go_wp2_with fail
        go_ret
        exact ⟨rfl, H7.out⟩
      subst e2
      go_upto_region 18 with (fail)
      have H7d := Lib.hid (H7.out.below (Below.refl _ w7).drew)
      have HAL := Lib.hid (fun o => H7.out.below (((Below.refl _ w7).alloc (Nat.le_refl _) o).drew))
      have hcv := conv_hdr w7 (k := 2) (n := s.size) 2 rfl (by omega) hb'
      clear H7
      refine wp_region_sorted (fun w' => Two0 q R.g c.file w') [0, 1, 2, 3, 4, 5, 6, 7, 8, 9, 10, 11, 12, 13, 14, 15, 16, 17, 18, 19] [20, 21, 22, 23] (by kernel_rfl) (by kernel_rfl) (HT.out.cell _ _ _ H7d.out rfl) ?_
      repeat refine RD.next rfl rfl (by intro w' hS; obtain ⟨s0, s1⟩ := hS; go_simp; with_reducible rfl) ?_
      refine RD.done ?_
      refine CH.next rfl rfl fun K hK => ?_
      go_simp
      refine hK _ _ (HT.out.cell _ _ _ (HAL.out _) rfl) ?_
      clear hK
      refine CH.next rfl rfl fun K hK => ?_
      go_simp
      refine hK _ _ (HT.out.cell _ _ _ (HAL.out _) rfl) ?_
      clear hK
      refine CH.next rfl rfl fun K hK => ?_
      go_simp
      refine (HT.out.w2 _ (HAL.out _)).mono ?_
      rintro e w8 ⟨rfl, h8⟩
      refine hK _ _ (HT.out.cell _ _ _ h8 rfl) ?_
      clear hK
      refine CH.next rfl rfl fun K hK => ?_
      go_simp
      refine hK _ _ (HT.out.cell _ _ _ h8 rfl) ?_
      clear hK
      refine CH.done (NoPanic.normal ?_)
      clear hcv HAL H7d
      have H8 := Lib.hid h8
      clear h8
      by_cases e3 : er3 = 0
      case neg =>
        have q3 : (er3 == 0) = false := beq_eq_false_iff_ne.2 e3
        have hr : V = (er3, c, W2) := by rw [HV.out, if_neg (by simp), if_neg (by simp), if_pos e3]
        subst hr
        clear HV HT
        go_wp2_with fail
        go_ret
        exact ⟨rfl, H8.out⟩
      subst e3
      have hr : V = (er4, ⟨c.file, 2, bl s, er4 == 0⟩, Z) := by rw [HV.out, if_neg (by simp), if_neg (by simp), if_neg (by simp)]
      subst hr
      clear HV
      have x2 := H8.out.cell.k2
      have x3 := H8.out.cell.k3
      have x4 := H8.out.cell.k4
      have f2 := H8.out.cell.free (j := 2) (by omega)
      have f3 := H8.out.cell.free (j := 3) (by omega)
      have f4 := H8.out.cell.free (j := 4) (by omega)
      have HE : Hid (RC R q w0 (((w8.setCell ⟨q, 2, none⟩ (.int .i64 2)).setCell ⟨q, 3, none⟩ (.string s)).setCell ⟨q, 4, none⟩ (.bool false)) W2 ⟨c.file, 2, bl s, false⟩) := Lib.hid (by
        have g1 := H8.out.put (H8.out.cell.set_slot 2)
        have g2 := g1.put (g1.cell.set_value (bl s))
        exact g2.put (g2.cell.set_sure false))
      clear H8
      go_upto_region 24 with (fail)
      generalize ((w8.setCell ⟨q, 2, none⟩ (.int .i64 2)).setCell ⟨q, 3, none⟩ (.string s)).setCell ⟨q, 4, none⟩ (.bool false) = wa at *
      have HEd := Lib.hid (HE.out.below (Below.refl _ _).drew)
      clear HE x2 x3 x4 f2 f3 f4
      go_region_held3 (fun w' => Two0 q R.g c.file w') (first | exact HT.out.cell _ _ _ HEd.out rfl | exact HT.out.cell _ _ _ h9 rfl | go_keep)
        (first
          | (go_at_call 41; refine (HT.out.z _ ⟨c.file, 2, bl s, false⟩ rfl HEd.out).mono ?_; rintro e w9 ⟨rfl, h9⟩))
      have H9 := Lib.hid h9
      have x4 := H9.out.cell.k4
      have f4 := H9.out.cell.free (j := 4) (by omega)
      clear h9 HEd HT
      have HF := Lib.hid (H9.out.put (H9.out.cell.set_sure (er4 == 0)))
      clear H9
      go_wp2_with fail
      go_ret
      exact ⟨rfl, HF.out⟩
    · have ho : othK c.slot = 1 := by unfold othK; rw [if_neg h1]
      rw [ho] at HT HV
      have q9 : ((c.slot : Int) == 1) = false := beq_eq_false_iff_ne.2 (by omega)
      cases h5 : c.sure with
      | true =>
        rw [h5] at k4
        have HX : Hid (RC R q w0 w S c) := H
        clear H
        go_enter Tryd.func15, Tryd.ntmps15
        go_upto_region 11 with (fail)
        have HXd := Lib.hid (HX.out.below (Below.refl _ _).drew)
        clear HX
        go_region_held3 (fun w' => Two0 q R.g c.file w') (first | exact HT.out.cell _ _ _ HXd.out rfl | exact HT.out.cell _ _ _ h6 rfl | go_keep)
          (first
            | (go_at_call 38; refine (begin_any 1 _).mono ?_; rintro e w4 ⟨rfl, rfl⟩)
            | (go_at_call 32; refine (HT.out.w1 _ HXd.out).mono ?_; rintro e w6 ⟨rfl, h6⟩))
        have H6 := Lib.hid h6
        clear h6 HXd
        by_cases e1 : er1 = 0
        case neg =>
          have q1 : (er1 == 0) = false := beq_eq_false_iff_ne.2 e1
          have hr : V = (er1, c, W1) := by rw [HV.out, if_pos e1]
          subst hr
          clear HV HT
          go_wp2_with fail
          go_ret
          exact ⟨rfl, H6.out⟩
        subst e1
        go_upto_region 14 with (fail)
        have H6d := Lib.hid (H6.out.below (Below.refl _ _).drew)
        clear H6
        go_region_held3 (fun w' => Two0 q R.g c.file w') (first | exact HT.out.cell _ _ _ H6d.out rfl | exact HT.out.cell _ _ _ h7 rfl | go_keep)
          (first
            | (go_at_call 41; refine (HT.out.y1 _ H6d.out).mono ?_; rintro e w7 ⟨rfl, h7⟩))
        have H7 := Lib.hid h7
        clear h7 H6d
        by_cases e2 : er2 = 0
        case neg =>
          have q2 : (er2 == 0) = false := beq_eq_false_iff_ne.2 e2
          have hr : V = (er2, c, Y1) := by rw [HV.out, if_neg (by simp), if_pos e2]
          subst hr
          clear HV HT
          go_wp2_with fail
          go_ret
          exact ⟨rfl, H7.out⟩
        subst e2
        go_upto_region 18 with (fail)
        have H7d := Lib.hid (H7.out.below (Below.refl _ w7).drew)
        have HAL := Lib.hid (fun o => H7.out.below (((Below.refl _ w7).alloc (Nat.le_refl _) o).drew))
        have hcv := conv_hdr w7 (k := 1) (n := s.size) 1 rfl (by omega) hb'
        clear H7
        refine wp_region_sorted (fun w' => Two0 q R.g c.file w') [0, 1, 2, 3, 4, 5, 6, 7, 8, 9, 10, 11, 12, 13, 14, 15, 16, 17, 18, 19] [20, 21, 22, 23] (by kernel_rfl) (by kernel_rfl) (HT.out.cell _ _ _ H7d.out rfl) ?_
        repeat refine RD.next rfl rfl (by intro w' hS; obtain ⟨s0, s1⟩ := hS; go_simp; with_reducible rfl) ?_
        refine RD.done ?_
        refine CH.next rfl rfl fun K hK => ?_
        go_simp
        refine hK _ _ (HT.out.cell _ _ _ (HAL.out _) rfl) ?_
        clear hK
        refine CH.next rfl rfl fun K hK => ?_
        go_simp
        refine hK _ _ (HT.out.cell _ _ _ (HAL.out _) rfl) ?_
        clear hK
        refine CH.next rfl rfl fun K hK => ?_
        go_simp
        refine (HT.out.w2 _ (HAL.out _)).mono ?_
        rintro e w8 ⟨rfl, h8⟩
        refine hK _ _ (HT.out.cell _ _ _ h8 rfl) ?_
        clear hK
        refine CH.next rfl rfl fun K hK => ?_
        go_simp
        refine hK _ _ (HT.out.cell _ _ _ h8 rfl) ?_
        clear hK
        refine CH.done (NoPanic.normal ?_)
        clear hcv HAL H7d
        have H8 := Lib.hid h8
        clear h8
        by_cases e3 : er3 = 0
        case neg =>
          have q3 : (er3 == 0) = false := beq_eq_false_iff_ne.2 e3
          have hr : V = (er3, c, W2) := by rw [HV.out, if_neg (by simp), if_neg (by simp), if_pos e3]
          subst hr
          clear HV HT
          go_wp2_with fail
          go_ret
          exact ⟨rfl, H8.out⟩
        subst e3
        have hr : V = (er4, ⟨c.file, 1, bl s, er4 == 0⟩, Z) := by rw [HV.out, if_neg (by simp), if_neg (by simp), if_neg (by simp)]
        subst hr
        clear HV
        have x2 := H8.out.cell.k2
        have x3 := H8.out.cell.k3
        have x4 := H8.out.cell.k4
        have f2 := H8.out.cell.free (j := 2) (by omega)
        have f3 := H8.out.cell.free (j := 3) (by omega)
        have f4 := H8.out.cell.free (j := 4) (by omega)
        have HE : Hid (RC R q w0 (((w8.setCell ⟨q, 2, none⟩ (.int .i64 1)).setCell ⟨q, 3, none⟩ (.string s)).setCell ⟨q, 4, none⟩ (.bool false)) W2 ⟨c.file, 1, bl s, false⟩) := Lib.hid (by
          have g1 := H8.out.put (H8.out.cell.set_slot 1)
          have g2 := g1.put (g1.cell.set_value (bl s))
          exact g2.put (g2.cell.set_sure false))
        clear H8
        go_upto_region 24 with (fail)
        generalize ((w8.setCell ⟨q, 2, none⟩ (.int .i64 1)).setCell ⟨q, 3, none⟩ (.string s)).setCell ⟨q, 4, none⟩ (.bool false) = wa at *
        have HEd := Lib.hid (HE.out.below (Below.refl _ _).drew)
        clear HE x2 x3 x4 f2 f3 f4
        go_region_held3 (fun w' => Two0 q R.g c.file w') (first | exact HT.out.cell _ _ _ HEd.out rfl | exact HT.out.cell _ _ _ h9 rfl | go_keep)
          (first
            | (go_at_call 41; refine (HT.out.z _ ⟨c.file, 1, bl s, false⟩ rfl HEd.out).mono ?_; rintro e w9 ⟨rfl, h9⟩))
        have H9 := Lib.hid h9
        have x4 := H9.out.cell.k4
        have f4 := H9.out.cell.free (j := 4) (by omega)
        clear h9 HEd HT
        have HF := Lib.hid (H9.out.put (H9.out.cell.set_sure (er4 == 0)))
        clear H9
        go_wp2_with fail
        go_ret
        exact ⟨rfl, HF.out⟩
      | false =>
        rw [h5] at k4
        have h6 : c.slot = 0 := by rcases hst with h6 | h6; rw [h5] at h6; cases h6; exact h6
        rw [h6] at k2
        have HX : Hid (RC R q w0 w S c) := H
        clear H
        go_enter Tryd.func15, Tryd.ntmps15
        go_upto_region 11 with (fail)
        have HXd := Lib.hid (HX.out.below (Below.refl _ _).drew)
        clear HX
        go_region_held3 (fun w' => Two0 q R.g c.file w') (first | exact HT.out.cell _ _ _ HXd.out rfl | exact HT.out.cell _ _ _ h6 rfl | go_keep)
          (first
            | (go_at_call 38; refine (begin_any 1 _).mono ?_; rintro e w4 ⟨rfl, rfl⟩)
            | (go_at_call 32; refine (HT.out.w1 _ HXd.out).mono ?_; rintro e w6 ⟨rfl, h6⟩))
        have H6 := Lib.hid h6
        clear h6 HXd
        by_cases e1 : er1 = 0
        case neg =>
          have q1 : (er1 == 0) = false := beq_eq_false_iff_ne.2 e1
          have hr : V = (er1, c, W1) := by rw [HV.out, if_pos e1]
          subst hr
          clear HV HT
          go_wp2_with fail
          go_ret
          exact ⟨rfl, H6.out⟩
        subst e1
        go_upto_region 14 with (fail)
        have H6d := Lib.hid (H6.out.below (Below.refl _ _).drew)
        clear H6
        go_region_held3 (fun w' => Two0 q R.g c.file w') (first | exact HT.out.cell _ _ _ H6d.out rfl | exact HT.out.cell _ _ _ h7 rfl | go_keep)
          (first
            | (go_at_call 41; refine (HT.out.y1 _ H6d.out).mono ?_; rintro e w7 ⟨rfl, h7⟩))
        have H7 := Lib.hid h7
        clear h7 H6d
        by_cases e2 : er2 = 0
        case neg =>
          have q2 : (er2 == 0) = false := beq_eq_false_iff_ne.2 e2
          have hr : V = (er2, c, Y1) := by rw [HV.out, if_neg (by simp), if_pos e2]
          subst hr
          clear HV HT
          go_wp2_with fail
          go_ret
          exact ⟨rfl, H7.out⟩
        subst e2
        go_upto_region 18 with (fail)
        have H7d := Lib.hid (H7.out.below (Below.refl _ w7).drew)
        have HAL := Lib.hid (fun o => H7.out.below (((Below.refl _ w7).alloc (Nat.le_refl _) o).drew))
        have hcv := conv_hdr w7 (k := 1) (n := s.size) 1 rfl (by omega) hb'
        clear H7
        refine wp_region_sorted (fun w' => Two0 q R.g c.file w') [0, 1, 2, 3, 4, 5, 6, 7, 8, 9, 10, 11, 12, 13, 14, 15, 16, 17, 18, 19] [20, 21, 22, 23] (by kernel_rfl) (by kernel_rfl) (HT.out.cell _ _ _ H7d.out rfl) ?_
        repeat refine RD.next rfl rfl (by intro w' hS; obtain ⟨s0, s1⟩ := hS; go_simp; with_reducible rfl) ?_
        refine RD.done ?_
        refine CH.next rfl rfl fun K hK => ?_
        go_simp
        refine hK _ _ (HT.out.cell _ _ _ (HAL.out _) rfl) ?_
        clear hK
        refine CH.next rfl rfl fun K hK => ?_
        go_simp
        refine hK _ _ (HT.out.cell _ _ _ (HAL.out _) rfl) ?_
        clear hK
        refine CH.next rfl rfl fun K hK => ?_
        go_simp
        refine (HT.out.w2 _ (HAL.out _)).mono ?_
        rintro e w8 ⟨rfl, h8⟩
        refine hK _ _ (HT.out.cell _ _ _ h8 rfl) ?_
        clear hK
        refine CH.next rfl rfl fun K hK => ?_
        go_simp
        refine hK _ _ (HT.out.cell _ _ _ h8 rfl) ?_
        clear hK
        refine CH.done (NoPanic.normal ?_)
        clear hcv HAL H7d
        have H8 := Lib.hid h8
        clear h8
        by_cases e3 : er3 = 0
        case neg =>
          have q3 : (er3 == 0) = false := beq_eq_false_iff_ne.2 e3
          have hr : V = (er3, c, W2) := by rw [HV.out, if_neg (by simp), if_neg (by simp), if_pos e3]
          subst hr
          clear HV HT
          go_wp2_with fail
          go_ret
          exact ⟨rfl, H8.out⟩
        subst e3
        have hr : V = (er4, ⟨c.file, 1, bl s, er4 == 0⟩, Z) := by rw [HV.out, if_neg (by simp), if_neg (by simp), if_neg (by simp)]
        subst hr
        clear HV
        have x2 := H8.out.cell.k2
        have x3 := H8.out.cell.k3
        have x4 := H8.out.cell.k4
        have f2 := H8.out.cell.free (j := 2) (by omega)
        have f3 := H8.out.cell.free (j := 3) (by omega)
        have f4 := H8.out.cell.free (j := 4) (by omega)
        have HE : Hid (RC R q w0 (((w8.setCell ⟨q, 2, none⟩ (.int .i64 1)).setCell ⟨q, 3, none⟩ (.string s)).setCell ⟨q, 4, none⟩ (.bool false)) W2 ⟨c.file, 1, bl s, false⟩) := Lib.hid (by
          have g1 := H8.out.put (H8.out.cell.set_slot 1)
          have g2 := g1.put (g1.cell.set_value (bl s))
          exact g2.put (g2.cell.set_sure false))
        clear H8
        go_upto_region 24 with (fail)
        generalize ((w8.setCell ⟨q, 2, none⟩ (.int .i64 1)).setCell ⟨q, 3, none⟩ (.string s)).setCell ⟨q, 4, none⟩ (.bool false) = wa at *
        have HEd := Lib.hid (HE.out.below (Below.refl _ _).drew)
        clear HE x2 x3 x4 f2 f3 f4
        go_region_held3 (fun w' => Two0 q R.g c.file w') (first | exact HT.out.cell _ _ _ HEd.out rfl | exact HT.out.cell _ _ _ h9 rfl | go_keep)
          (first
            | (go_at_call 41; refine (HT.out.z _ ⟨c.file, 1, bl s, false⟩ rfl HEd.out).mono ?_; rintro e w9 ⟨rfl, h9⟩))
        have H9 := Lib.hid h9
        have x4 := H9.out.cell.k4
        have f4 := H9.out.cell.free (j := 4) (by omega)
        clear h9 HEd HT
        have HF := Lib.hid (H9.out.put (H9.out.cell.set_sure (er4 == 0)))
        clear H9
        go_wp2_with fail
        go_ret
        exact ⟨rfl, HF.out⟩
  · have h5 : c.sure = false := by cases hq : c.sure with | false => rfl | true => exact absurd (.inl hq) hst
    have h6 : c.slot ≠ 0 := fun e => hst (.inr e)
    have hx : c.settle S = ((S.Sync c.file).2, { c with sure := (S.Sync c.file).2 == 0 }, (S.Sync c.file).1) := by unfold Cl.settle; rw [if_neg hst]
    have hc0 : ({ c with sure := false } : Cl) = c := by rw [← h5]
    rw [hx] at hV
    have HSY := Lib.hid (fun w' (h : RC R q w0 w' S c) => h.sync c.file)
    have q8 : ((c.slot : Int) == 0) = false := beq_eq_false_iff_ne.2 (by omega)
    have q7 := bne_of q8
    rw [h5] at k4
    have H0 := Lib.hid (h.below (Below.refl _ _).drew)
    generalize (S.Sync c.file).2 = er0 at *
    generalize (S.Sync c.file).1 = S1 at *
    by_cases e0 : er0 = 0
    case neg =>
      have q0 : (er0 == 0) = false := beq_eq_false_iff_ne.2 e0
      have hr : V = (er0, c, S1) := by
        rw [hV]
        dsimp only
        rw [if_pos e0, q0, hc0]
      subst hr
      clear hV hx hst h H
      go_enter Tryd.func15, Tryd.ntmps15
      go_upto_region 4 with (fail)
      go_region_held3 (fun w' => Two0 q R.g c.file w') (first | exact H0.out.cell.two | exact h4.cell.two | go_keep)
        (first
          | (go_at_call 41; refine (HSY.out _ H0.out).mono ?_; rintro e w4 ⟨rfl, h4⟩))
      have H4 := Lib.hid h4
      clear h4
      go_wp2_with fail
      go_ret
      exact ⟨rfl, H4.out⟩
    subst e0
    dsimp only at hV
    rw [if_neg (by simp)] at hV
    obtain ⟨c1, hc1⟩ : ∃ c1 : Cl, c1 = { c with sure := true } := ⟨_, rfl⟩
    have hV2 : V = if (c1.replace S1 (bl s)).1 ≠ 0 then c1.replace S1 (bl s) else (c1.replace S1 (bl s)).2.1.settle (c1.replace S1 (bl s)).2.2 := by rw [hc1]; exact hV
    obtain ⟨W1, Y1, W2, Z, er1, er2, er3, er4, hT, hE⟩ := Tail.of (R := R) (q := q) (w0 := w0) c1 S1 s hb'
    rw [hE] at hV2
    have hcf : c1.file = c.file := by rw [hc1]
    have hcs : c1.slot = c.slot := by rw [hc1]
    rw [hcf, hcs] at hT hV2
    have HT := Lib.hid hT
    have HV := Lib.hid hV2
    have HPT : Hid (∀ w', RC R q w0 w' S1 c → RC R q w0 (w'.setCell ⟨q, 4, none⟩ (.bool true)) S1 c1) := Lib.hid fun w' h => by rw [hc1]; exact h.put (h.cell.set_sure true)
    clear hV hV2 hT hE hx h H hst hc0 hcs hc1
    by_cases h1 : c.slot = 1
    · have ho : othK c.slot = 2 := by unfold othK; rw [if_pos h1]
      rw [ho] at HT HV
      rw [h1] at k2
      go_enter Tryd.func15, Tryd.ntmps15
      go_upto_region 4 with (fail)
      go_region_held3 (fun w' => Two0 q R.g c.file w') (first | exact H0.out.cell.two | exact h4.cell.two | go_keep)
        (first
          | (go_at_call 41; refine (HSY.out _ H0.out).mono ?_; rintro e w4 ⟨rfl, h4⟩))
      have x2 := h4.cell.k2
      have x4 := h4.cell.k4
      have f4 := h4.cell.free (j := 4) (by omega)
      rw [h1] at x2
      have HX := Lib.hid (HPT.out _ h4)
      clear h4 H0 HSY
      go_upto_region 11 with (fail)
      generalize w4.setCell ⟨q, 4, none⟩ (.bool true) = wb at *
      clear x2 x4 f4
      have HXd := Lib.hid (HX.out.below (Below.refl _ _).drew)
      clear HX
      go_region_held3 (fun w' => Two0 q R.g c.file w') (first | exact HT.out.cell _ _ _ HXd.out hcf | exact HT.out.cell _ _ _ h6 hcf | go_keep)
        (first
          | (go_at_call 38; refine (begin_any 2 _).mono ?_; rintro e w4 ⟨rfl, rfl⟩)
          | (go_at_call 32; refine (HT.out.w1 _ HXd.out).mono ?_; rintro e w6 ⟨rfl, h6⟩))
      have H6 := Lib.hid h6
      clear h6 HXd
      by_cases e1 : er1 = 0
      case neg =>
        have q1 : (er1 == 0) = false := beq_eq_false_iff_ne.2 e1
        have hr : V = (er1, c1, W1) := by rw [HV.out, if_pos e1]
        subst hr
        clear HV HT
        go_wp2_with fail
        go_ret
        exact ⟨rfl, H6.out⟩
      subst e1
      go_upto_region 14 with (fail)
      have H6d := Lib.hid (H6.out.below (Below.refl _ _).drew)
      clear H6
      go_region_held3 (fun w' => Two0 q R.g c.file w') (first | exact HT.out.cell _ _ _ H6d.out hcf | exact HT.out.cell _ _ _ h7 hcf | go_keep)
        (first
          | (go_at_call 41; refine (HT.out.y1 _ H6d.out).mono ?_; rintro e w7 ⟨rfl, h7⟩))
      have H7 := Lib.hid h7
      clear h7 H6d
      by_cases e2 : er2 = 0
      case neg =>
        have q2 : (er2 == 0) = false := beq_eq_false_iff_ne.2 e2
        have hr : V = (er2, c1, Y1) := by rw [HV.out, if_neg (by simp), if_pos e2]
        subst hr
        clear HV HT
        go_wp2_with fail
        go_ret
        exact ⟨rfl, H7.out⟩
      subst e2
      go_upto_region 18 with (fail)
      have H7d := Lib.hid (H7.out.below (Below.refl _ w7).drew)
      have HAL := Lib.hid (fun o => H7.out.below (((Below.refl _ w7).alloc (Nat.le_refl _) o).drew))
      have hcv := conv_hdr w7 (k := 2) (n := s.size) 2 rfl (by omega) hb'
      clear H7
      refine wp_region_sorted (fun w' => Two0 q R.g c.file w') [0, 1, 2, 3, 4, 5, 6, 7, 8, 9, 10, 11, 12, 13, 14, 15, 16, 17, 18, 19] [20, 21, 22, 23] (by kernel_rfl) (by kernel_rfl) (HT.out.cell _ _ _ H7d.out hcf) ?_
      repeat refine RD.next rfl rfl (by intro w' hS; obtain ⟨s0, s1⟩ := hS; go_simp; with_reducible rfl) ?_
      refine RD.done ?_
      refine CH.next rfl rfl fun K hK => ?_
      go_simp
      refine hK _ _ (HT.out.cell _ _ _ (HAL.out _) hcf) ?_
      clear hK
      refine CH.next rfl rfl fun K hK => ?_
      go_simp
      refine hK _ _ (HT.out.cell _ _ _ (HAL.out _) hcf) ?_
      clear hK
      refine CH.next rfl rfl fun K hK => ?_
      go_simp
      refine (HT.out.w2 _ (HAL.out _)).mono ?_
      rintro e w8 ⟨rfl, h8⟩
      refine hK _ _ (HT.out.cell _ _ _ h8 hcf) ?_
      clear hK
      refine CH.next rfl rfl fun K hK => ?_
      go_simp
      refine hK _ _ (HT.out.cell _ _ _ h8 hcf) ?_
      clear hK
      refine CH.done (NoPanic.normal ?_)
      clear hcv HAL H7d
      have H8 := Lib.hid h8
      clear h8
      by_cases e3 : er3 = 0
      case neg =>
        have q3 : (er3 == 0) = false := beq_eq_false_iff_ne.2 e3
        have hr : V = (er3, c1, W2) := by rw [HV.out, if_neg (by simp), if_neg (by simp), if_pos e3]
        subst hr
        clear HV HT
        go_wp2_with fail
        go_ret
        exact ⟨rfl, H8.out⟩
      subst e3
      have hr : V = (er4, ⟨c.file, 2, bl s, er4 == 0⟩, Z) := by rw [HV.out, if_neg (by simp), if_neg (by simp), if_neg (by simp)]
      subst hr
      clear HV
      have x2 := H8.out.cell.k2
      have x3 := H8.out.cell.k3
      have x4 := H8.out.cell.k4
      have f2 := H8.out.cell.free (j := 2) (by omega)
      have f3 := H8.out.cell.free (j := 3) (by omega)
      have f4 := H8.out.cell.free (j := 4) (by omega)
      have HE : Hid (RC R q w0 (((w8.setCell ⟨q, 2, none⟩ (.int .i64 2)).setCell ⟨q, 3, none⟩ (.string s)).setCell ⟨q, 4, none⟩ (.bool false)) W2 ⟨c.file, 2, bl s, false⟩) := Lib.hid (by
        have g1 := H8.out.put (H8.out.cell.set_slot 2)
        have g2 := g1.put (g1.cell.set_value (bl s))
        rw [← hcf]
        exact g2.put (g2.cell.set_sure false))
      clear H8
      go_upto_region 24 with (fail)
      generalize ((w8.setCell ⟨q, 2, none⟩ (.int .i64 2)).setCell ⟨q, 3, none⟩ (.string s)).setCell ⟨q, 4, none⟩ (.bool false) = wa at *
      have HEd := Lib.hid (HE.out.below (Below.refl _ _).drew)
      clear HE x2 x3 x4 f2 f3 f4
      go_region_held3 (fun w' => Two0 q R.g c.file w') (first | exact HT.out.cell _ _ _ HEd.out rfl | exact HT.out.cell _ _ _ h9 rfl | go_keep)
        (first
          | (go_at_call 41; refine (HT.out.z _ ⟨c.file, 2, bl s, false⟩ rfl HEd.out).mono ?_; rintro e w9 ⟨rfl, h9⟩))
      have H9 := Lib.hid h9
      have x4 := H9.out.cell.k4
      have f4 := H9.out.cell.free (j := 4) (by omega)
      clear h9 HEd HT
      have HF := Lib.hid (H9.out.put (H9.out.cell.set_sure (er4 == 0)))
      clear H9
      go_wp2_with fail
      go_ret
      exact ⟨rfl, HF.out⟩
    · have ho : othK c.slot = 1 := by unfold othK; rw [if_neg h1]
      rw [ho] at HT HV
      have q9 : ((c.slot : Int) == 1) = false := beq_eq_false_iff_ne.2 (by omega)
      go_enter Tryd.func15, Tryd.ntmps15
      go_upto_region 4 with (fail)
      go_region_held3 (fun w' => Two0 q R.g c.file w') (first | exact H0.out.cell.two | exact h4.cell.two | go_keep)
        (first
          | (go_at_call 41; refine (HSY.out _ H0.out).mono ?_; rintro e w4 ⟨rfl, h4⟩))
      have x2 := h4.cell.k2
      have x4 := h4.cell.k4
      have f4 := h4.cell.free (j := 4) (by omega)
      have HX := Lib.hid (HPT.out _ h4)
      clear h4 H0 HSY
      go_upto_region 11 with (fail)
      generalize w4.setCell ⟨q, 4, none⟩ (.bool true) = wb at *
      clear x2 x4 f4
      have HXd := Lib.hid (HX.out.below (Below.refl _ _).drew)
      clear HX
      go_region_held3 (fun w' => Two0 q R.g c.file w') (first | exact HT.out.cell _ _ _ HXd.out hcf | exact HT.out.cell _ _ _ h6 hcf | go_keep)
        (first
          | (go_at_call 38; refine (begin_any 1 _).mono ?_; rintro e w4 ⟨rfl, rfl⟩)
          | (go_at_call 32; refine (HT.out.w1 _ HXd.out).mono ?_; rintro e w6 ⟨rfl, h6⟩))
      have H6 := Lib.hid h6
      clear h6 HXd
      by_cases e1 : er1 = 0
      case neg =>
        have q1 : (er1 == 0) = false := beq_eq_false_iff_ne.2 e1
        have hr : V = (er1, c1, W1) := by rw [HV.out, if_pos e1]
        subst hr
        clear HV HT
        go_wp2_with fail
        go_ret
        exact ⟨rfl, H6.out⟩
      subst e1
      go_upto_region 14 with (fail)
      have H6d := Lib.hid (H6.out.below (Below.refl _ _).drew)
      clear H6
      go_region_held3 (fun w' => Two0 q R.g c.file w') (first | exact HT.out.cell _ _ _ H6d.out hcf | exact HT.out.cell _ _ _ h7 hcf | go_keep)
        (first
          | (go_at_call 41; refine (HT.out.y1 _ H6d.out).mono ?_; rintro e w7 ⟨rfl, h7⟩))
      have H7 := Lib.hid h7
      clear h7 H6d
      by_cases e2 : er2 = 0
      case neg =>
        have q2 : (er2 == 0) = false := beq_eq_false_iff_ne.2 e2
        have hr : V = (er2, c1, Y1) := by rw [HV.out, if_neg (by simp), if_pos e2]
        subst hr
        clear HV HT
        go_wp2_with fail
        go_ret
        exact ⟨rfl, H7.out⟩
      subst e2
      go_upto_region 18 with (fail)
      have H7d := Lib.hid (H7.out.below (Below.refl _ w7).drew)
      have HAL := Lib.hid (fun o => H7.out.below (((Below.refl _ w7).alloc (Nat.le_refl _) o).drew))
      have hcv := conv_hdr w7 (k := 1) (n := s.size) 1 rfl (by omega) hb'
      clear H7
      refine wp_region_sorted (fun w' => Two0 q R.g c.file w') [0, 1, 2, 3, 4, 5, 6, 7, 8, 9, 10, 11, 12, 13, 14, 15, 16, 17, 18, 19] [20, 21, 22, 23] (by kernel_rfl) (by kernel_rfl) (HT.out.cell _ _ _ H7d.out hcf) ?_
      repeat refine RD.next rfl rfl (by intro w' hS; obtain ⟨s0, s1⟩ := hS; go_simp; with_reducible rfl) ?_
      refine RD.done ?_
      refine CH.next rfl rfl fun K hK => ?_
      go_simp
      refine hK _ _ (HT.out.cell _ _ _ (HAL.out _) hcf) ?_
      clear hK
      refine CH.next rfl rfl fun K hK => ?_
      go_simp
      refine hK _ _ (HT.out.cell _ _ _ (HAL.out _) hcf) ?_
      clear hK
      refine CH.next rfl rfl fun K hK => ?_
      go_simp
      refine (HT.out.w2 _ (HAL.out _)).mono ?_
      rintro e w8 ⟨rfl, h8⟩
      refine hK _ _ (HT.out.cell _ _ _ h8 hcf) ?_
      clear hK
      refine CH.next rfl rfl fun K hK => ?_
      go_simp
      refine hK _ _ (HT.out.cell _ _ _ h8 hcf) ?_
      clear hK
      refine CH.done (NoPanic.normal ?_)
      clear hcv HAL H7d
      have H8 := Lib.hid h8
      clear h8
      by_cases e3 : er3 = 0
      case neg =>
        have q3 : (er3 == 0) = false := beq_eq_false_iff_ne.2 e3
        have hr : V = (er3, c1, W2) := by rw [HV.out, if_neg (by simp), if_neg (by simp), if_pos e3]
        subst hr
        clear HV HT
        go_wp2_with fail
        go_ret
        exact ⟨rfl, H8.out⟩
      subst e3
      have hr : V = (er4, ⟨c.file, 1, bl s, er4 == 0⟩, Z) := by rw [HV.out, if_neg (by simp), if_neg (by simp), if_neg (by simp)]
      subst hr
      clear HV
      have x2 := H8.out.cell.k2
      have x3 := H8.out.cell.k3
      have x4 := H8.out.cell.k4
      have f2 := H8.out.cell.free (j := 2) (by omega)
      have f3 := H8.out.cell.free (j := 3) (by omega)
      have f4 := H8.out.cell.free (j := 4) (by omega)
      have HE : Hid (RC R q w0 (((w8.setCell ⟨q, 2, none⟩ (.int .i64 1)).setCell ⟨q, 3, none⟩ (.string s)).setCell ⟨q, 4, none⟩ (.bool false)) W2 ⟨c.file, 1, bl s, false⟩) := Lib.hid (by
        have g1 := H8.out.put (H8.out.cell.set_slot 1)
        have g2 := g1.put (g1.cell.set_value (bl s))
        rw [← hcf]
        exact g2.put (g2.cell.set_sure false))
      clear H8
      go_upto_region 24 with (fail)
      generalize ((w8.setCell ⟨q, 2, none⟩ (.int .i64 1)).setCell ⟨q, 3, none⟩ (.string s)).setCell ⟨q, 4, none⟩ (.bool false) = wa at *
      have HEd := Lib.hid (HE.out.below (Below.refl _ _).drew)
      clear HE x2 x3 x4 f2 f3 f4
      go_region_held3 (fun w' => Two0 q R.g c.file w') (first | exact HT.out.cell _ _ _ HEd.out rfl | exact HT.out.cell _ _ _ h9 rfl | go_keep)
        (first
          | (go_at_call 41; refine (HT.out.z _ ⟨c.file, 1, bl s, false⟩ rfl HEd.out).mono ?_; rintro e w9 ⟨rfl, h9⟩))
      have H9 := Lib.hid h9
      have x4 := H9.out.cell.k4
      have f4 := H9.out.cell.free (j := 4) (by omega)
      clear h9 HEd HT
      have HF := Lib.hid (H9.out.put (H9.out.cell.set_sure (er4 == 0)))
      clear H9
      go_wp2_with fail
      go_ret
      exact ⟨rfl, HF.out⟩
end
end Dsk
end Go.Proofs.YtlokgmpdighfaaaDoor

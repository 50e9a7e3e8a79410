/- The reference's Open. -/
import Derived.Test.YtlokgmpdighfaaaDoorClD
import Derived.Test.YtlokgmpdighfaaaDoorClR
namespace Go.Proofs.YtlokgmpdighfaaaDoor
open Go.RowKit Wire
set_option linter.unusedVariables false
set_option linter.unusedSimpArgs false
open Txt
namespace Dsk

section
variable {w w' w0 : World} {q p : Nat} {c c' : Cl} {R : ROwn} {S S' : St} {nums : List Nat}
theorem read_short (S : St) (f a : Int) (n : Nat) : (S.Read f a n).1.length ≤ n := by
  unfold St.Read
  split
  · exact Nat.zero_le _
  · split
    · exact Nat.zero_le _
    · show (S.now.read _ _ _).length ≤ n
      rw [Con.read_len]
      omega

set_option maxRecDepth 8000 in
set_option maxHeartbeats 2000000 in
theorem rOpen_any (hd : RefAt w R nums S) (hk : S.ok) (f : Int) : Calls Tryd.prog 13 #[ptr R.g, .int .i64 f] w (OpnPost w R.g (opn S f)) := by
  obtain ⟨V, hV⟩ : ∃ V, V = opn S f := ⟨_, rfl⟩
  rw [← hV]
  unfold opn at hV
  have hrd := rRead_any hd hk f 0 5 ⟨by omega, by omega⟩
  have hlen : (S.Read f 0 5).1.length ≤ 5 := read_short S f 0 5
  have HRD2 : Hid (∀ w' (k n : Nat), Below w.heap.size w w' → n ≤ 65536 → Calls Tryd.prog 29 #[ptr R.g, .int .i64 f, .int .i64 (beg k : Nat), .int .i64 n] w' fun e w2 => e = .returned (.tuple #[str (S.Read f (beg k : Nat) n).1, .int .i64 (S.Read f (beg k : Nat) n).2]) ∧ Below w'.heap.size w' w2) :=
    Lib.hid fun w' k n hb hn => by have := beg_hi k; exact rRead_any (hd.below hb) hk f _ _ ⟨by omega, by omega⟩
  clear hd hk
  generalize S.Read f 0 5 = X at *
  obtain ⟨l, er⟩ := X
  dsimp only at hV hrd hlen
  have HRD := Lib.hid hrd
  have HV := Lib.hid hV
  clear hrd hV
  by_cases e1 : er = 0
  case neg =>
    have q1 : (er == 0) = false := beq_eq_false_iff_ne.2 e1
    have hr : V = (er, none) := by rw [HV.out, if_pos e1]
    subst hr
    clear HV HRD2
    go_enter Tryd.func13, Tryd.ntmps13
    go_wp2_with (go_at_call 29; refine HRD.out.mono ?_; rintro e w5 ⟨rfl, h5⟩)
    go_returns
    exact ⟨h5, rfl⟩
  subst e1
  rw [if_neg (by simp)] at HV
  unfold str at HRD
  obtain ⟨s, hs⟩ : ∃ s : ByteArray, s = ⟨l.toArray⟩ := ⟨_, rfl⟩
  have hl : bl s = l := by rw [hs]
  rw [← hs] at HRD
  have hsz : s.size ≤ 5 := by rw [← bl_len, hl]; exact hlen
  clear hs hlen
  subst hl
  rw [bl_len] at HV
  by_cases h0 : 0 < s.size
  case neg =>
    have hr : V = (0, some ⟨f, 0, [], false⟩) := by
      rw [HV.out, if_pos]
      rw [List.getD_eq_getElem?_getD, List.getElem?_eq_none (by rw [bl_len]; omega)]
      rfl
    have hem := is_empty h0
    subst hr
    clear HV HRD2
    go_enter Tryd.func13, Tryd.ntmps13
    go_wp2_with (go_at_call 29; refine HRD.out.mono ?_; rintro e w5 ⟨rfl, h5⟩)
    go_returns
    exact ⟨next_below h5 ((Below.refl _ w5).alloc (Nat.le_refl _) _), _, rfl, CellAt.fresh _ _ _ _, h5.size⟩
  have ne1 := not_empty h0
  have ne2 := not_empty2 h0
  have hg : (bl s).getD 0 0 = s[0] := by rw [List.getD_eq_getElem?_getD, bl_get h0]; rfl
  rw [hg] at HV
  by_cases hz : s[0] = 0
  · have b0 : ((s[0].toNat : Int) == 0) = true := byte_eq (k := 0) (by omega) hz
    have hr : V = (0, some ⟨f, 0, [], false⟩) := by rw [HV.out, if_pos hz]
    subst hr
    clear HV HRD2 hg hz
    go_enter Tryd.func13, Tryd.ntmps13
    go_wp2_with (go_at_call 29; refine HRD.out.mono ?_; rintro e w5 ⟨rfl, h5⟩)
    go_returns
    exact ⟨next_below h5 ((Below.refl _ w5).alloc (Nat.le_refl _) _), _, rfl, CellAt.fresh _ _ _ _, h5.size⟩
  have b0 : ((s[0].toNat : Int) == 0) = false := byte_ne (k := 0) (by omega) hz
  rw [if_neg hz] at HV
  by_cases g1 : s.size = 5
  case neg =>
    have hr : V = (2, none) := by rw [HV.out, if_pos (.inl g1)]
    have hlt : (s.size : Int) < 5 := by omega
    subst hr
    clear HV HRD2 hg hz g1
    go_enter Tryd.func13, Tryd.ntmps13
    go_wp2_with (go_at_call 29; refine HRD.out.mono ?_; rintro e w5 ⟨rfl, h5⟩)
    go_returns
    exact ⟨next_below h5 ((Below.refl _ w5).alloc (Nat.le_refl _) _), rfl⟩
  have gd : ∀ i, (hi : i < s.size) → (bl s).getD i 0 = s[i] := fun i hi => by rw [List.getD_eq_getElem?_getD, bl_get hi]; rfl
  have l1 := (s[1]'(by omega)).toNat_lt
  have l2 := (s[2]'(by omega)).toNat_lt
  have l3 := (s[3]'(by omega)).toNat_lt
  have l4 := (s[4]'(by omega)).toNat_lt
  have hn : hsize (bl s) = (s[1]'(by omega)).toNat + 256 * (s[2]'(by omega)).toNat + 65536 * (s[3]'(by omega)).toNat + 16777216 * (s[4]'(by omega)).toNat := by
    rw [← gd 1 (by omega), ← gd 2 (by omega), ← gd 3 (by omega), ← gd 4 (by omega)]
    rfl
  have hni : ((s[1]'(by omega)).toNat : Int) + (256 : Int) * ((s[2]'(by omega)).toNat : Int) + (65536 : Int) * ((s[3]'(by omega)).toNat : Int) + (16777216 : Int) * ((s[4]'(by omega)).toNat : Int) = (hsize (bl s) : Nat) := by omega
  have a1 : ((s[1]'(by omega)).toNat : Int) ≤ 255 := by omega
  have a2 : ((s[2]'(by omega)).toNat : Int) ≤ 255 := by omega
  have a3 : ((s[3]'(by omega)).toNat : Int) ≤ 255 := by omega
  have a4 : ((s[4]'(by omega)).toNat : Int) ≤ 255 := by omega
  clear gd hn hg hz l1 l2 l3 l4
  generalize hsize (bl s) = n at *
  have hs5 : ¬ (s.size : Int) < 5 := by omega
  go_enter Tryd.func13, Tryd.ntmps13
  go_upto_region 11 with (go_at_call 29; refine HRD.out.mono ?_; rintro e w5 ⟨rfl, h5⟩)
  go_quiet (fail)
  clear hni a1 a2 a3 a4
  have hcf := CellAt.fresh w5 R.g f 80
  have hbf := next_below h5 ((Below.refl _ w5).alloc (Nat.le_refl _) (.cells #[ptr R.g, .int .i64 f, .int .i64 0, .string ⟨#[]⟩, .bool false] 80))
  have hle := h5.size
  generalize hwa : (w5.alloc (Obj.cells #[ptr R.g, Value.int IntKind.i64 f, Value.int IntKind.i64 0, Value.string ⟨#[]⟩, Value.bool false] 80)).drewN _ = wa
  have hc0 : CellAt wa w5.heap.size R.g ⟨f, 0, [], false⟩ := by rw [← hwa]; exact hcf.still rfl
  have hb0 : Below w.heap.size w wa := by rw [← hwa]; exact next_below hbf ⟨rfl, rfl, rfl, Nat.le_refl _, fun _ _ => rfl⟩
  clear hwa hcf hbf h5 HRD
  generalize w5.heap.size = q at *
  have z0 : (s[0] = 1 → (s[0].toNat : Int) = 1) ∧ (s[0] = 2 → (s[0].toNat : Int) = 2) ∧ (s[0] ≠ 1 → ((s[0].toNat : Int) == 1) = false) ∧ (s[0] ≠ 2 → ((s[0].toNat : Int) == 2) = false) :=
    ⟨fun e => by rw [e]; rfl, fun e => by rw [e]; rfl, fun e => byte_ne (k := 1) (by omega) e, fun e => byte_ne (k := 2) (by omega) e⟩
  have HC0 := Lib.hid hc0
  have HB0 := Lib.hid hb0
  have k2 := hc0.k2
  have f2 := hc0.free (j := 2) (by omega)
  clear hc0 hb0
  by_cases hp : (s[0] = 1 ∨ s[0] = 2) ∧ n ≤ 65536
  case neg =>
    have hr : V = (2, none) := by
      rw [HV.out, if_pos]
      by_cases g2 : s[0] = 1 ∨ s[0] = 2
      · refine .inr (.inr ?_)
        have : ¬ n ≤ 65536 := fun g3 => hp ⟨g2, g3⟩
        omega
      · exact .inr (.inl ⟨fun e => g2 (.inl e), fun e => g2 (.inr e)⟩)
    subst hr
    have HE : Hid (OpnPost w R.g (2, none) (.returned (.tuple #[.pointer none, .int .i64 2])) wa) := Lib.hid ⟨HB0.out, rfl⟩
    clear HV HRD2 HC0 HB0 k2 f2 ne1 ne2
    by_cases y1 : s[0] = 1
    · have e1 := z0.1 y1
      have hn2 : (65536 : Int) < n := by have : ¬ n ≤ 65536 := fun g3 => hp ⟨.inl y1, g3⟩; omega
      clear z0 hp y1
      go_wp2_with fail
      go_returns
      exact HE.out
    · by_cases y2 : s[0] = 2
      · have e1 := z0.2.1 y2
        have hn2 : (65536 : Int) < n := by have : ¬ n ≤ 65536 := fun g3 => hp ⟨.inr y2, g3⟩; omega
        clear z0 hp y1 y2
        go_wp2_with fail
        go_returns
        exact HE.out
      · have x1 := z0.2.2.1 y1
        have x2 := z0.2.2.2 y2
        have x3 := bne_of x1
        have x4 := bne_of x2
        clear z0 hp y1 y2
        go_wp2_with fail
        go_returns
        exact HE.out
  obtain ⟨hp1, hp2⟩ := hp
  rw [if_neg (by rintro (e | e | e); exact e g1; rcases hp1 with g2 | g2; exact e.1 g2; exact e.2 g2; omega)] at HV
  have HRD3 := Lib.hid (fun w' hb => HRD2.out w' s[0].toNat n hb hp2)
  clear HRD2
  have hvl := read_short S f (beg s[0].toNat : Nat) n
  generalize S.Read f (beg s[0].toNat : Nat) n = U at *
  obtain ⟨v, er2⟩ := U
  dsimp only at HRD3 HV hvl
  unfold str at HRD3
  have hvz : (⟨v.toArray⟩ : ByteArray).size = v.length := rfl
  have hni : (n : Int) ≤ 65536 := by omega
  have HE : Hid (∀ (k : Nat) w', Below wa.heap.size wa w' → CellAt ((w'.setCell ⟨q, 3, none⟩ (str v))) q R.g ⟨f, k, v, false⟩ ∨ True) := Lib.hid fun _ _ _ => .inr trivial
  clear HE
  rcases hp1 with hy | hy
  · have y0 : s[0].toNat = 1 := by rw [hy]; rfl
    rw [y0] at HRD3 HV
    have e1 : (s[0].toNat : Int) = 1 := by rw [y0]; rfl
    rw [e1] at b0
    clear z0
    have HW8 : Hid (CellAt (wa.setCell ⟨q, 2, none⟩ (.int .i64 1)) q R.g ⟨f, 1, [], false⟩ ∧ Below w.heap.size w (wa.setCell ⟨q, 2, none⟩ (.int .i64 1))) := Lib.hid ⟨HC0.out.set_slot 1, HB0.out.trans ((Only.set (fun b => b = q) wa ⟨q, 2, none⟩ _ rfl).below HB0.out.size fun x hx => by subst hx; exact hle)⟩
    clear HC0 HB0
    go_upto_region 15 with (fail)
    clear k2 f2
    obtain ⟨hc8, hb8⟩ := HW8.out
    clear HW8
    generalize wa.setCell ⟨q, 2, none⟩ (.int .i64 1) = w8 at *
    have HC8 := Lib.hid hc8
    have HB8 := Lib.hid hb8
    have HE : Hid (∀ w', Below w8.heap.size w8 w' → CellAt (w'.setCell ⟨q, 3, none⟩ (str v)) q R.g ⟨f, 1, v, false⟩ ∧ Below w.heap.size w (w'.setCell ⟨q, 3, none⟩ (str v))) :=
      Lib.hid fun w' b => ⟨(HC8.out.below b).set_value v, by
        have hb := next_below HB8.out b
        exact hb.trans ((Only.set (fun b => b = q) w' ⟨q, 3, none⟩ _ rfl).below hb.size fun x hx => by subst hx; exact hle)⟩
    unfold str at HE
    clear hc8 hb8
    have k8 := HC8.out.k2
    go_upto_region 16 with (first
      | (go_at_call 38; refine (begin_any 1 _).mono ?_; rintro e w4 ⟨rfl, rfl⟩)
      | (go_at_call 29; refine (HRD3.out _ HB8.out).mono ?_; rintro e w9 ⟨rfl, b9⟩; have z3 := (HC8.out.below b9).k3; have f3 := (HC8.out.below b9).free (j := 3) (by omega)))
    obtain ⟨hc, hb⟩ := HE.out w9 b9
    have HC := Lib.hid hc
    have HB := Lib.hid hb
    have v3 := hc.k3
    unfold str at v3
    clear HE HC8 HB8 HRD3 z3 f3 b9 k8 hc hb
    generalize w9.setCell ⟨q, 3, none⟩ (Value.string ⟨v.toArray⟩) = wb at *
    by_cases e2 : er2 = 0
    case neg =>
      have q2 : (er2 == 0) = false := beq_eq_false_iff_ne.2 e2
      have hr : V = (er2, none) := by rw [HV.out, if_pos e2]
      subst hr
      clear HV
      go_wp2_with fail
      go_returns
      exact ⟨HB.out, rfl⟩
    subst e2
    rw [if_neg (by simp)] at HV
    by_cases e3 : v.length = n
    case neg =>
      have hr : V = (2, none) := by rw [HV.out, if_pos e3]
      have hq2 : (((⟨v.toArray⟩ : ByteArray).size : Int) == n) = false := beq_eq_false_iff_ne.2 (by rw [hvz]; omega)
      subst hr
      clear HV hvz
      generalize (⟨v.toArray⟩ : ByteArray) = vs at *
      have hq3 := bne_of hq2
      have HWQ : Hid (∀ m, Below w.heap.size w (wb.drewN m)) := Lib.hid (fun m => next_below HB.out ⟨rfl, rfl, rfl, Nat.le_refl _, fun _ _ => rfl⟩)
      go_wp2_with fail
      go_returns
      exact ⟨HB.out, rfl⟩
    have hr : V = (0, some ⟨f, 1, v, false⟩) := by rw [HV.out, if_neg (by rw [e3]; simp)]
    have hq2 : (((⟨v.toArray⟩ : ByteArray).size : Int) == n) = true := beq_iff_eq.2 (by rw [hvz]; omega)
    subst hr
    clear HV e3 hvz hvl
    have HP : Hid (OpnPost w R.g (0, some ⟨f, 1, v, false⟩) (.returned (.tuple #[ptr q, .int .i64 0])) wb) :=
      Lib.hid ⟨HB.out, _, rfl, HC.out, hle⟩
    generalize (⟨v.toArray⟩ : ByteArray) = vs at *
    have hq3 : ((vs.size : Int) != n) = false := by rw [bne, hq2]; rfl
    go_wp2_with fail
    go_returns
    exact HP.out
  · have y0 : s[0].toNat = 2 := by rw [hy]; rfl
    rw [y0] at HRD3 HV
    have e1 : (s[0].toNat : Int) = 2 := by rw [y0]; rfl
    rw [e1] at b0
    clear z0
    have HW8 : Hid (CellAt (wa.setCell ⟨q, 2, none⟩ (.int .i64 2)) q R.g ⟨f, 2, [], false⟩ ∧ Below w.heap.size w (wa.setCell ⟨q, 2, none⟩ (.int .i64 2))) := Lib.hid ⟨HC0.out.set_slot 2, HB0.out.trans ((Only.set (fun b => b = q) wa ⟨q, 2, none⟩ _ rfl).below HB0.out.size fun x hx => by subst hx; exact hle)⟩
    clear HC0 HB0
    go_upto_region 15 with (fail)
    clear k2 f2
    obtain ⟨hc8, hb8⟩ := HW8.out
    clear HW8
    generalize wa.setCell ⟨q, 2, none⟩ (.int .i64 2) = w8 at *
    have HC8 := Lib.hid hc8
    have HB8 := Lib.hid hb8
    have HE : Hid (∀ w', Below w8.heap.size w8 w' → CellAt (w'.setCell ⟨q, 3, none⟩ (str v)) q R.g ⟨f, 2, v, false⟩ ∧ Below w.heap.size w (w'.setCell ⟨q, 3, none⟩ (str v))) :=
      Lib.hid fun w' b => ⟨(HC8.out.below b).set_value v, by
        have hb := next_below HB8.out b
        exact hb.trans ((Only.set (fun b => b = q) w' ⟨q, 3, none⟩ _ rfl).below hb.size fun x hx => by subst hx; exact hle)⟩
    unfold str at HE
    clear hc8 hb8
    have k8 := HC8.out.k2
    go_upto_region 16 with (first
      | (go_at_call 38; refine (begin_any 2 _).mono ?_; rintro e w4 ⟨rfl, rfl⟩)
      | (go_at_call 29; refine (HRD3.out _ HB8.out).mono ?_; rintro e w9 ⟨rfl, b9⟩; have z3 := (HC8.out.below b9).k3; have f3 := (HC8.out.below b9).free (j := 3) (by omega)))
    obtain ⟨hc, hb⟩ := HE.out w9 b9
    have HC := Lib.hid hc
    have HB := Lib.hid hb
    have v3 := hc.k3
    unfold str at v3
    clear HE HC8 HB8 HRD3 z3 f3 b9 k8 hc hb
    generalize w9.setCell ⟨q, 3, none⟩ (Value.string ⟨v.toArray⟩) = wb at *
    by_cases e2 : er2 = 0
    case neg =>
      have q2 : (er2 == 0) = false := beq_eq_false_iff_ne.2 e2
      have hr : V = (er2, none) := by rw [HV.out, if_pos e2]
      subst hr
      clear HV
      go_wp2_with fail
      go_returns
      exact ⟨HB.out, rfl⟩
    subst e2
    rw [if_neg (by simp)] at HV
    by_cases e3 : v.length = n
    case neg =>
      have hr : V = (2, none) := by rw [HV.out, if_pos e3]
      have hq2 : (((⟨v.toArray⟩ : ByteArray).size : Int) == n) = false := beq_eq_false_iff_ne.2 (by rw [hvz]; omega)
      subst hr
      clear HV hvz
      generalize (⟨v.toArray⟩ : ByteArray) = vs at *
      have hq3 := bne_of hq2
      have HWQ : Hid (∀ m, Below w.heap.size w (wb.drewN m)) := Lib.hid (fun m => next_below HB.out ⟨rfl, rfl, rfl, Nat.le_refl _, fun _ _ => rfl⟩)
      go_wp2_with fail
      go_returns
      exact ⟨HB.out, rfl⟩
    have hr : V = (0, some ⟨f, 2, v, false⟩) := by rw [HV.out, if_neg (by rw [e3]; simp)]
    have hq2 : (((⟨v.toArray⟩ : ByteArray).size : Int) == n) = true := beq_iff_eq.2 (by rw [hvz]; omega)
    subst hr
    clear HV e3 hvz hvl
    have HP : Hid (OpnPost w R.g (0, some ⟨f, 2, v, false⟩) (.returned (.tuple #[ptr q, .int .i64 0])) wb) :=
      Lib.hid ⟨HB.out, _, rfl, HC.out, hle⟩
    generalize (⟨v.toArray⟩ : ByteArray) = vs at *
    have hq3 : ((vs.size : Int) != n) = false := by rw [bne, hq2]; rfl
    go_wp2_with fail
    go_returns
    exact HP.out
end
end Dsk
end Go.Proofs.YtlokgmpdighfaaaDoor

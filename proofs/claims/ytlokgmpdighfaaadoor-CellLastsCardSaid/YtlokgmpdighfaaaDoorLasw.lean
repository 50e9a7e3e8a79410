/- CellLasts: the walk. -/
import Derived.Test.YtlokgmpdighfaaaDoorHlf
namespace Go.Proofs.YtlokgmpdighfaaaDoor
open Go.RowKit Wire
set_option linter.unusedVariables false
set_option linter.unusedSimpArgs false
open Txt
namespace Dsk

/-- What the file may name: one of these values, or nothing, if there was none. -/
def MayBe (m : List ByteArray) (nf : Bool) : Nm → Prop
  | none => nf = true
  | some (k, v) => ∃ s ∈ m, bl s = v

theorem MayBe.more {m : List ByteArray} {nf : Bool} {s : ByteArray} {z : Nm} (h : MayBe m nf z) : MayBe (m ++ [s]) nf z := by
  cases z with
  | none => exact h
  | some p =>
    obtain ⟨x, hx, e⟩ := h
    exact ⟨x, by simp [hx], e⟩
structure LasRel (W : World) (p : Nat) (l : List Opr) (cv mv nv iv : Value) (wr : World) (q i : Nat) (S : St) (c : Cl) (m : List ByteArray) (nf : Bool) : Prop where
  cv : cv = ptr q
  nv : nv = .bool nf
  iv : iv = .int .i64 i
  le : i ≤ l.length + 1
  ones : OnesF (fun b => mv.ownBlock = some b) W wr p S [(q, c)]
  row : Grow wr W.heap.size 1 mv m.length (m.map Value.string)
  len : m.length ≤ i + 1
  rel : Rel 3 S c (MayBe m nf)

abbrev opCells (k : Int) (s : ByteArray) (n : Int) (A : Option Addr) (len cp : Nat) : Array Value := #[.int .i64 k, .string s, .int .i64 n, .slice A len cp]

set_option maxRecDepth 8000 in
set_option maxHeartbeats 4000000 in
theorem lasts_law (A : Option Addr) (cp : Nat) (l : List Opr) (A2 : Option Addr) (cp2 : Nat) (ks : List Int) (W : World) (ho : Off W) (hl : Ops W A l) (hr : Row W W.heap.size A2 (ks.map (Value.int .i64))) :
    Calls Tryd.prog 5 #[.slice A l.length cp, .slice A2 ks.length cp2] W fun e w' => e = .returned (.bool true) ∧ Below W.heap.size W w' := by
  have HSM := Lib.hid (csmall_any ho)
  have HOF := Lib.hid ho
  have HL := Lib.hid hl
  have HRK : Hid (Row W W.heap.size A2 (ks.map (Value.int .i64))) := Lib.hid hr
  have hlen := hl.len
  clear ho hl hr
  obtain ⟨i0, hi0, hi1, hi2, hi3⟩ := info_parts info_str
  go_enter Tryd.func5, Tryd.ntmps5
  go_wp2_with (go_at_call 8; refine HSM.out.mono ?_; rintro e w1 ⟨rfl, h1⟩; have H1 := Lib.hid h1; clear h1 HSM)
  refine (few_any A cp l HL.out H1.out).mono ?_
  rintro e w2 ⟨b, rfl, hb, b2⟩
  have HB := Lib.hid hb
  have B2 := Lib.hid (next_below H1.out b2)
  clear hb b2 H1
  cases b with
  | false =>
    go_wp2_with fail
    go_ret
    exact ⟨rfl, B2.out⟩
  | true =>
    have HFW := Lib.hid (HB.out rfl).2
    have h30 : l.length ≤ 30 := (HB.out rfl).1
    clear HB
    by_cases b3 : 100 < ks.length
    · go_wp2_with fail
      go_ret
      exact ⟨rfl, B2.out⟩
    obtain ⟨o1, r1⟩ := opn_new (f := 3) (by omega)
    have HO1 := Lib.hid (fun w p (h : Ones W w p St.new []) => h.open_some (f := 3) o1)
    have HRL := Lib.hid (r1.mono (B := MayBe [] true) (fun z hz => by subst hz; rfl))
    clear o1 r1
    go_wp2_with (first
      | (go_at_call 10; refine (new_one B2.out).mono ?_; rintro e w3 ⟨p, rfl, h3⟩; have H3 := Lib.hid (Ones.of h3 HOF.out); clear h3)
      | (go_at_call 12; ((with_reducible refine (HO1.out _ _ H3.out).mono ?_); rintro e w4 ⟨q0, rfl, h4⟩; have H4 := Lib.hid h4; clear h4 H3)))
    clear HO1
    go_loopw [8, 9, 10, 11, 12] (fun cv _ mv nv iv wr => ∃ q i S c m nf, LasRel W p l cv mv nv iv wr q i S c m nf) (fun _ _ _ _ iv _ => l.length + 2 - (intOf iv).toNat)
    case atStart => exact ⟨q0, 0, _, _, [], true, rfl, rfl, rfl, Nat.zero_le _, OnesF.of H4.out (fun b h => by cases h), Grow.nil _ _ _, Nat.zero_le _, HRL.out⟩
    case round =>
      obtain ⟨q, i, S, c, m, nf, ⟨rfl, rfl, rfl, hi, hones, hrow, hml, hrel2⟩⟩ := hrel
      have HON := Lib.hid hones
      have HRW := Lib.hid hrow
      have HRE := Lib.hid hrel2
      clear hones hrow hrel2 HRL H4
      by_cases hlt : i < l.length
      · obtain ⟨b, o, A', c', hat⟩ := HL.out.all hlt
        have hb0 := HON.out.below
        obtain ⟨rfl, x0, x1, x2, x3, hro, hfit⟩ := hat (wr.alloc (.cells (opCells 3 ⟨#[]⟩ 0 A2 ks.length cp2) 38)) (hb0.alloc hb0.size _)
        clear hb0
        have hfw := HFW.out l[i] (List.getElem_mem hlt)
        clear hat
        generalize l[i] = a at *
        have HK := Lib.hid hfw
        have HFI := Lib.hid hfit
        have HRO := Lib.hid hro
        clear hfw hfit hro
        go_upto_region 17 with (fail)
        have hal := HON.out.alloc (.cells (opCells a.kind a.s a.n A' a.keep.length c') 38)
        have hrow2 := HRW.out.alloc (.cells (opCells a.kind a.s a.n A' a.keep.length c') 38)
        have hbk := Blk.fresh wr 38 (opCells a.kind a.s a.n A' a.keep.length c')
        have hWF : ∀ b, (u10.ownBlock = some b ∨ b = wr.heap.size) → W.heap.size ≤ b := fun b h => by
          rcases h with h | h
          · exact (HRW.out.block b h).1
          · have := HON.out.below.size; omega
        have c0 := (hbk.at 0).trans rfl
        have c1 := (hbk.at 1).trans rfl
        have c2 := (hbk.at 2).trans rfl
        have c3 := (hbk.at 3).trans rfl
        clear hbk x0 x1 x2 x3
        generalize wr.alloc (Obj.cells #[Value.int IntKind.i64 a.kind, Value.string a.s, Value.int IntKind.i64 a.n, Value.slice A' a.keep.length c'] 38) = wa at *
        have HAL := Lib.hid hal
        have HR2 := Lib.hid hrow2
        have HWF := Lib.hid hWF
        have HC : Hid (∀ w', SameF (fun b => u10.ownBlock = some b ∨ b = wr.heap.size) wa w' → w'.cell? ⟨wr.heap.size, 1, none⟩ = wa.cell? ⟨wr.heap.size, 1, none⟩ ∧ Grow w' W.heap.size 1 u10 m.length (m.map Value.string)) := Lib.hid fun w' h => ⟨h.cell (.inr rfl), h.row HR2.out (fun b hb => .inl hb)⟩
        clear hal hrow2 hWF HON HRW
        by_cases d0 : a.kind = 0
        · rw [d0] at c0
          have HS := Lib.hid (HAL.out.set a.s HFI.out.s)
          have HRA := Lib.hid ((HRE.out.set (B := MayBe (m ++ [a.s]) nf) (bl a.s) (by rw [bl_len]; have := HK.out.s; omega) (fun z hz => MayBe.more hz) (fun k => ⟨a.s, by simp, rfl⟩)))
          generalize c.set S (bl a.s) = X at *
          obtain ⟨er, c5, S5⟩ := X
          dsimp only at HS HRA
          by_cases e1 : er = 0
          case neg =>
            have q1 : (er == 0) = false := beq_eq_false_iff_ne.2 e1
            have HRB := Lib.hid HRA.out.1
            have HB := Lib.hid (And.intro (small_max (n := m.length + 1) (by omega)) (by omega : (m.length + 1) * 16 ≤ 140737488355328))
            clear HRA
            go_wp2_with (first
              | (go_at_call 14; refine HS.out.mono ?_; rintro e w5 ⟨rfl, h5, s5⟩; have H5 := Lib.hid h5; have g5 := HC.out _ s5; have y1 := g5.1.trans c1; have G5 := Lib.hid g5.2; clear h5 s5 g5)
              | (at_builtin; refine wpList_append_src _ rfl (.tmp 69) (.tmp 72) _ _ rfl W.heap.size 9 i0 _ 1 16 Tryd.underlying51 hi0 hi1 hi2 hi3 rfl (by omega) _ _ _ rfl (G5.out.alloc _) _ 1 [.string a.s] rfl (Src.ofSlice _ Tryd.underlying51 ⟨w5.heap.size, 0, none⟩ 1 1 [.string a.s] rfl (new_cells w5 _ [.string a.s]) (by simp [Value.oneCell'])) HB.out.1 HB.out.2 (by have := H5.out.below.size; simp; omega) ?_; intro v6 w6 hown6 hg6 hor6))
            go_roundw
            case rel =>
              refine ⟨q, i + 1, S5, c5, m ++ [a.s], nf, rfl, rfl, by simp, by omega, ?_, ?_, by simp; omega, HRB.out⟩
              · refine (H5.out.alloc _).grown hg6 (fun b hb => .inl (.inl hb)) (fun b hb => ?_) hor6 (fun b hb => (hown6.block b hb).2)
                rcases hb with hb | hb
                · exact HWF.out b hb
                · have := H5.out.below.size; omega
              · rw [List.length_append, List.map_append]
                exact hown6
            case measure => simp [intOf]; omega
          subst e1
          have HRB := Lib.hid ((HRA.out.2 rfl).2.2.2.mono (B := MayBe [a.s] false) (fun z hz => by obtain ⟨k, rfl⟩ := hz; exact ⟨a.s, by simp, rfl⟩))
          clear HRA
          go_wp2_with (first
            | (go_at_call 14; refine HS.out.mono ?_; rintro e w5 ⟨rfl, h5, s5⟩; have H5 := Lib.hid h5; have g5 := HC.out _ s5; have y1 := g5.1.trans c1; clear h5 s5 g5)
            | (at_builtin; refine wpList_append_src _ rfl (.tmp 69) (.tmp 72) _ _ rfl W.heap.size 9 i0 _ 1 16 Tryd.underlying51 hi0 hi1 hi2 hi3 rfl (by omega) _ _ _ rfl (Grow.nil _ _ _) _ 1 [.string a.s] rfl (Src.ofSlice _ Tryd.underlying51 ⟨w5.heap.size, 0, none⟩ 1 1 [.string a.s] rfl (new_cells w5 _ [.string a.s]) (by simp [Value.oneCell'])) (small_max (by omega)) (by omega) (by have := H5.out.below.size; simp; omega) ?_; intro v6 w6 hown6 hg6 hor6))
          go_roundw
          case rel =>
            refine ⟨q, i + 1, S5, c5, [a.s], false, rfl, rfl, by simp, by omega, ?_, hown6, by simp, HRB.out⟩
            refine (H5.out.alloc _).grown hg6 (fun b hb => by cases hb) (fun b hb => ?_) hor6 (fun b hb => (hown6.block b hb).2)
            rcases hb with hb | hb
            · exact HWF.out b hb
            · have := H5.out.below.size; omega
          case measure => simp [intOf]; omega
        by_cases d1 : a.kind = 1
        · rw [d1] at c0
          have HS := Lib.hid (HAL.out.lose HFI.out.n.2)
          have HRB := Lib.hid (HRE.out.lose HFI.out.n.2)
          go_wp2_with (go_at_call 16; refine HS.out.mono ?_; rintro e w5 ⟨rfl, h5, s5⟩; have H5 := Lib.hid h5; have G5 := Lib.hid (HC.out _ s5).2; clear h5 s5)
          go_roundw
          case rel => exact ⟨q, i + 1, _, _, m, nf, rfl, rfl, by simp, by omega, H5.out.mono (fun b hb => .inl hb), G5.out, by omega, HRB.out⟩
          case measure => simp [intOf]; omega
        by_cases d2 : a.kind = 2
        · rw [d2] at c0
          have hkl : a.keep.length ≤ 1000000000 := by have := HK.out.keep; omega
          have HS := Lib.hid (HAL.out.arm HFI.out.n.2 A' c' a.keep HRO.out hkl)
          have HRB := Lib.hid (HRE.out.arm (ks := a.keep) HFI.out.n.2 hkl)
          go_wp2_with (go_at_call 18; refine HS.out.mono ?_; rintro e w5 ⟨rfl, h5, s5⟩; have H5 := Lib.hid h5; have G5 := Lib.hid (HC.out _ s5).2; clear h5 s5)
          go_roundw
          case rel => exact ⟨q, i + 1, _, _, m, nf, rfl, rfl, by simp, by omega, H5.out.mono (fun b hb => .inl hb), G5.out, by omega, HRB.out⟩
          case measure => simp [intOf]; omega
        by_cases d3 : a.kind = 3
        · rw [d3] at c0
          have hkl : a.keep.length ≤ 1000000000 := by have := HK.out.keep; omega
          obtain ⟨c5, o5, my5, r5⟩ := HRE.out.can.again HRE.out.lt a.keep
          have HS := Lib.hid (HAL.out.again A' c' a.keep HRO.out hkl o5)
          clear o5
          have HRR := Lib.hid r5
          clear r5
          generalize (S.crash a.keep).start = S5 at *
          have HG := Lib.hid (fun w' q (h : OnesF (fun b => u10.ownBlock = some b ∨ b = wr.heap.size) W w' p S5 [(q, c5)]) => h.get)
          by_cases sl : c5.slot = 0
          · have hnn : c5.nm = none := by unfold Cl.nm; rw [if_pos sl]
            rw [hnn] at my5
            have hnf : nf = true := my5
            subst hnf
            have HRB := Lib.hid (HRR.out.mono (B := MayBe [] true) (fun z hz => by rw [hz, hnn]; rfl))
            rw [decide_eq_false (by rw [sl]; simp)] at HG
            unfold str at HG
            generalize (⟨c5.value.toArray⟩ : ByteArray) = vv at *
            go_wp2_with (first
              | (go_at_call 20; refine HS.out.mono ?_; rintro e w5 ⟨q5, rfl, h5, s5⟩; have H5 := Lib.hid h5; clear h5 s5)
              | (go_at_call 23; refine (HG.out _ _ H5.out).mono ?_; rintro e w6 ⟨rfl, h6, s6⟩; have H6 := Lib.hid h6; clear h6 s6))
            go_roundw
            case rel => exact ⟨q5, i + 1, _, _, [], true, rfl, rfl, by simp, by omega, H6.out.mono (fun b hb => by cases hb), Grow.nil _ _ _, by simp, HRB.out⟩
            case measure => simp [intOf]; omega
          · have hnn : c5.nm = some (c5.slot, c5.value) := by unfold Cl.nm; rw [if_neg sl]
            rw [hnn] at my5
            obtain ⟨s0, hs0, hv0⟩ := my5
            have hsv : (⟨c5.value.toArray⟩ : ByteArray) = s0 := by rw [← hv0]
            rw [decide_eq_true sl] at HG
            unfold str at HG
            rw [hsv] at HG
            have HRB := Lib.hid (HRR.out.mono (B := MayBe [s0] false) (fun z hz => by rw [hz, hnn]; exact ⟨s0, by simp, hv0⟩))
            have HHS : Hid (∀ w', Grow w' W.heap.size 1 u10 m.length (m.map Value.string) → Calls Tryd.prog 33 #[u10, .string s0] w' fun e w2 => e = .returned (.bool true) ∧ w' = w2) := Lib.hid fun w' g => has_any g (by omega) hs0
            clear hs0 hv0 hsv
            go_wp2_with (first
              | (go_at_call 20; refine HS.out.mono ?_; rintro e w5 ⟨q5, rfl, h5, s5⟩; have H5 := Lib.hid h5; have S5 := Lib.hid s5; clear h5 s5)
              | (go_at_call 23; refine (HG.out _ _ H5.out).mono ?_; rintro e w6 ⟨rfl, h6, s6⟩; have H6 := Lib.hid h6; have G6 := Lib.hid (HC.out _ (S5.out.trans s6)).2; clear h6 s6)
              | (go_at_call 33; refine (HHS.out _ G6.out).mono ?_; rintro e w7 ⟨rfl, rfl⟩))
            go_roundw
            case rel =>
              refine ⟨q5, i + 1, _, _, [s0], false, rfl, rfl, by simp, by omega, (H6.out.alloc _).mono (fun b hb => .inr ?_), (Grow.fresh w6 _ [.string s0] (by simp)).lower H6.out.below.size, by simp, HRB.out⟩
              injection hb with hb
              exact hb.symm
            case measure => simp [intOf]; omega
        · have e0 := beq_eq_false_iff_ne.2 d0
          have e1 := beq_eq_false_iff_ne.2 d1
          have e2 := beq_eq_false_iff_ne.2 d2
          have e3 := beq_eq_false_iff_ne.2 d3
          go_wp2_with fail
          go_roundw
          case rel => exact ⟨q, i + 1, _, _, m, nf, rfl, rfl, by simp, by omega, HAL.out.mono (fun b hb => .inl hb), HR2.out, by omega, HRE.out⟩
          case measure => simp [intOf]; omega
      · by_cases hil : i = l.length
        · subst hil
          go_upto_region 17 with (fail)
          have hal := HON.out.alloc (.cells (opCells 3 ⟨#[]⟩ 0 A2 ks.length cp2) 38)
          have hrow2 := HRW.out.alloc (.cells (opCells 3 ⟨#[]⟩ 0 A2 ks.length cp2) 38)
          have hbk := Blk.fresh wr 38 (opCells 3 ⟨#[]⟩ 0 A2 ks.length cp2)
          have hWF : ∀ b, (u10.ownBlock = some b ∨ b = wr.heap.size) → W.heap.size ≤ b := fun b h => by
            rcases h with h | h
            · exact (HRW.out.block b h).1
            · have := HON.out.below.size; omega
          have c0 := (hbk.at 0).trans rfl
          have c1 := (hbk.at 1).trans rfl
          have c2 := (hbk.at 2).trans rfl
          have c3 := (hbk.at 3).trans rfl
          clear hbk
          generalize wr.alloc (Obj.cells #[Value.int IntKind.i64 3, Value.string ⟨#[]⟩, Value.int IntKind.i64 0, Value.slice A2 ks.length cp2] 38) = wa at *
          have HAL := Lib.hid hal
          have HR2 := Lib.hid hrow2
          have HWF := Lib.hid hWF
          have HC : Hid (∀ w', SameF (fun b => u10.ownBlock = some b ∨ b = wr.heap.size) wa w' → w'.cell? ⟨wr.heap.size, 1, none⟩ = wa.cell? ⟨wr.heap.size, 1, none⟩ ∧ Grow w' W.heap.size 1 u10 m.length (m.map Value.string)) := Lib.hid fun w' h => ⟨h.cell (.inr rfl), h.row HR2.out (fun b hb => .inl hb)⟩
          clear hal hrow2 hWF HON HRW
          obtain ⟨c5, o5, my5, r5⟩ := HRE.out.can.again HRE.out.lt ks
          have HS := Lib.hid (HAL.out.again A2 cp2 ks HRK.out (by omega) o5)
          clear o5
          have HRR := Lib.hid r5
          clear r5
          generalize (S.crash ks).start = S5 at *
          have HG := Lib.hid (fun w' q (h : OnesF (fun b => u10.ownBlock = some b ∨ b = wr.heap.size) W w' p S5 [(q, c5)]) => h.get)
          by_cases sl : c5.slot = 0
          · have hnn : c5.nm = none := by unfold Cl.nm; rw [if_pos sl]
            rw [hnn] at my5
            have hnf : nf = true := my5
            subst hnf
            have HRB := Lib.hid (HRR.out.mono (B := MayBe [] true) (fun z hz => by rw [hz, hnn]; rfl))
            rw [decide_eq_false (by rw [sl]; simp)] at HG
            unfold str at HG
            generalize (⟨c5.value.toArray⟩ : ByteArray) = vv at *
            go_wp2_with (first
              | (go_at_call 20; refine HS.out.mono ?_; rintro e w5 ⟨q5, rfl, h5, s5⟩; have H5 := Lib.hid h5; clear h5 s5)
              | (go_at_call 23; refine (HG.out _ _ H5.out).mono ?_; rintro e w6 ⟨rfl, h6, s6⟩; have H6 := Lib.hid h6; clear h6 s6))
            go_roundw
            case rel => exact ⟨q5, l.length + 1, _, _, [], true, rfl, rfl, by simp, by omega, H6.out.mono (fun b hb => by cases hb), Grow.nil _ _ _, by simp, HRB.out⟩
            case measure => simp [intOf]
          · have hnn : c5.nm = some (c5.slot, c5.value) := by unfold Cl.nm; rw [if_neg sl]
            rw [hnn] at my5
            obtain ⟨s0, hs0, hv0⟩ := my5
            have hsv : (⟨c5.value.toArray⟩ : ByteArray) = s0 := by rw [← hv0]
            rw [decide_eq_true sl] at HG
            unfold str at HG
            rw [hsv] at HG
            have HRB := Lib.hid (HRR.out.mono (B := MayBe [s0] false) (fun z hz => by rw [hz, hnn]; exact ⟨s0, by simp, hv0⟩))
            have HHS : Hid (∀ w', Grow w' W.heap.size 1 u10 m.length (m.map Value.string) → Calls Tryd.prog 33 #[u10, .string s0] w' fun e w2 => e = .returned (.bool true) ∧ w' = w2) := Lib.hid fun w' g => has_any g (by omega) hs0
            clear hs0 hv0 hsv
            go_wp2_with (first
              | (go_at_call 20; refine HS.out.mono ?_; rintro e w5 ⟨q5, rfl, h5, s5⟩; have H5 := Lib.hid h5; have S5 := Lib.hid s5; clear h5 s5)
              | (go_at_call 23; refine (HG.out _ _ H5.out).mono ?_; rintro e w6 ⟨rfl, h6, s6⟩; have H6 := Lib.hid h6; have G6 := Lib.hid (HC.out _ (S5.out.trans s6)).2; clear h6 s6)
              | (go_at_call 33; refine (HHS.out _ G6.out).mono ?_; rintro e w7 ⟨rfl, rfl⟩))
            go_roundw
            case rel =>
              refine ⟨q5, l.length + 1, _, _, [s0], false, rfl, rfl, by simp, by omega, (H6.out.alloc _).mono (fun b hb => .inr ?_), (Grow.fresh w6 _ [.string s0] (by simp)).lower H6.out.below.size, by simp, HRB.out⟩
              injection hb with hb
              exact hb.symm
            case measure => simp [intOf]
        · have hgt : ¬ (i : Int) ≤ l.length := by omega
          go_wp2_with fail
          go_ret
          exact ⟨rfl, HON.out.below⟩
end Dsk
end Go.Proofs.YtlokgmpdighfaaaDoor

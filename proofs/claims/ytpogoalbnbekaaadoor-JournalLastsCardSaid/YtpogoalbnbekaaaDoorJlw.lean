/- JournalLasts: the walk. -/
import Derived.Test.YtpogoalbnbekaaaDoorJsw
import Derived.Deep.DeepCutAuto
namespace Go.Proofs.YtpogoalbnbekaaaDoor
open Go.RowKit Wire
set_option linter.unusedVariables false
set_option linter.unusedSimpArgs false
open Txt
open Sls (strs)
namespace Dsk

theorem disky_any (er : Int) (w : World) : Calls Tryd.prog 15 #[.int .i64 er] w fun e w' => e = .returned (.bool (decide (er = 9 ∨ er = 10))) ∧ w = w' := by
  by_cases h1 : er = 9
  · subst h1
    rw [decide_eq_true (.inl rfl)]
    go_enter Tryd.func15, Tryd.ntmps15
    go_wp2_with fail
    go_ret
    exact ⟨rfl, rfl⟩
  · have e1 := beq_eq_false_iff_ne.2 h1
    by_cases h2 : er = 10
    · subst h2
      rw [decide_eq_true (.inr rfl)]
      go_enter Tryd.func15, Tryd.ntmps15
      go_wp2_with fail
      go_ret
      exact ⟨rfl, rfl⟩
    · have e2 := beq_eq_false_iff_ne.2 h2
      rw [decide_eq_false (by rintro (e | e); exact h1 e; exact h2 e)]
      go_enter Tryd.func15, Tryd.ntmps15
      go_wp2_with fail
      go_ret
      exact ⟨rfl, rfl⟩

theorem differ_rows {w w' : World} {A A' : Option Addr} {c c' : Nat} {l m : List ByteArray} (h1 : Row w' w'.heap.size A (strs l)) (h2 : Row w w.heap.size A' (strs m)) (hb : Below w.heap.size w w') (he : l ≠ m) (hn : l.length ≤ 9223372036854775807) (hm : m.length ≤ 9223372036854775807) :
    Calls Tryd.prog 16 #[.slice A l.length c, .slice A' m.length c'] w' fun e w2 => e = .returned (.bool false) ∧ Below w'.heap.size w' w2 := by
  have := Wr.sameTexts_all A A' c c' l m hn hm w' h1 (h2.lift hb)
  rwa [decide_eq_false he] at this
theorem grow_cap {w : World} {B s n c : Nat} {A : Option Addr} {xs : List Value} (h : Grow w B s (.slice A n c) n xs) : n ≤ c := by
  rcases h.form with ⟨e, _⟩ | ⟨g, cap, e, _, _, hc, _⟩
  · cases e
    exact Nat.le_refl _
  · injection e with _ _ e
    omega
/-- The head of a round. -/
structure LajRel (W : World) (p : Nat) (l : List Opr) (jv sv mv fv iv : Value) (wr : World) (i : Nat) (S : St) (K : Option (Nat × Jl)) (sure maybe : List ByteArray) (failed : Bool) : Prop where
  jv : jv = jvar K
  fv : fv = .bool failed
  iv : iv = .int .i64 i
  le : i ≤ l.length + 1
  js : Js (fun b => sv.ownBlock = some b ∨ mv.ownBlock = some b) W wr p S K
  srow : Grow wr W.heap.size 1 sv sure.length (strs sure)
  mrow : Grow wr W.heap.size 1 mv maybe.length (strs maybe)
  slen : sure.length ≤ 16777216
  mlen : maybe.length ≤ 16777300
  inv : LInv 3 S (K.map Prod.snd) sure maybe failed

abbrev opCells (k : Int) (A1 : Option Addr) (n1 c1 : Nat) (n : Int) (A : Option Addr) (len cp : Nat) : Array Value := #[.int .i64 k, .slice A1 n1 c1, .int .i64 n, .slice A len cp]

set_option maxRecDepth 8000 in
set_option maxHeartbeats 8000000 in
theorem jlasts_law (A : Option Addr) (cp : Nat) (l : List Opr) (A2 : Option Addr) (cp2 : Nat) (ks : List Int) (W : World) (ho : Off W) (hl : Ops W A l) (hr : Row W W.heap.size A2 (ks.map (Value.int .i64))) (hks : ks.length ≤ maxLen) :
    Calls Tryd.prog 3 #[.slice A l.length cp, .slice A2 ks.length cp2] W fun e w' => e = .returned (.bool true) ∧ Below W.heap.size W w' := by
  have HSM := Lib.hid (jsmall_any ho)
  have HOF := Lib.hid ho
  have HL := Lib.hid hl
  have HRK : Hid (Row W W.heap.size A2 (ks.map (Value.int .i64))) := Lib.hid hr
  have hlen := hl.len
  unfold maxLen at hks
  clear ho hl hr
  obtain ⟨i0, hi0, hi1, hi2, hi3⟩ := info_parts info_str
  go_enter Tryd.func3, Tryd.ntmps3
  by_cases b3 : 50 < ks.length
  · go_wp2_with (first
      | (go_at_call 7; refine HSM.out.mono ?_; rintro e w1 ⟨rfl, h1⟩; have H1 := Lib.hid h1; clear h1 HSM)
      | (go_at_call 8; refine (few_any A cp l HL.out H1.out).mono ?_; rintro e w2 ⟨b, rfl, hb, b2⟩; have HB := Lib.hid hb; have B2 := Lib.hid (next_below H1.out b2); clear hb b2 H1; cases b))
    · go_ret
      exact ⟨rfl, B2.out⟩
    · go_ret
      exact ⟨rfl, B2.out⟩
  go_wp2_with (first
    | (go_at_call 7; refine HSM.out.mono ?_; rintro e w1 ⟨rfl, h1⟩; have H1 := Lib.hid h1; clear h1 HSM)
    | (go_at_call 8; refine (few_any A cp l HL.out H1.out).mono ?_; rintro e w2 ⟨b, rfl, hb, b2⟩; have HB := Lib.hid hb; have B2 := Lib.hid (next_below H1.out b2); clear hb b2 H1; cases b))
  · go_ret
    exact ⟨rfl, B2.out⟩
  have HFW := Lib.hid (HB.out trivial).2
  have h25 : l.length ≤ 25 := (HB.out trivial).1
  clear HB
  obtain ⟨J0, S0, q0, q1⟩ : ∃ J0 S0, jopn St.new 3 = (0, some J0, S0) ∧ LInv 3 S0 (some J0) [] [] false := by
    obtain ⟨J0, h1, h2, h3, h4, h5⟩ := (CanJ.new (f := 3) (by omega)).opn_calm (by omega) Calm.new
    refine ⟨J0, (jopn St.new ((3 : Nat) : Int)).2.2, by rw [← h1, ← h2]; rfl, ?_⟩
    have := LInv.of h4 []
    rwa [h3] at this
  have HO := Lib.hid (fun w' p (h : Js (fun _ => False) W w' p St.new none) => h.open_some (n := 3) (by omega) q0)
  have HI0 := Lib.hid q1
  clear q0 q1
  go_wp2_with (first
    | (go_at_call 9; refine (new_one B2.out).mono ?_; rintro e w4 ⟨p, rfl, h4⟩; have H4 := Lib.hid (Js.of h4 HOF.out); clear h4)
    | (go_at_call 10; refine (HO.out _ _ H4.out).mono ?_; rintro e w5 ⟨jg, rfl, h5, _⟩; have H5 := Lib.hid (h5.mono (G := fun b => (Value.slice none 0 0).ownBlock = some b ∨ (Value.slice none 0 0).ownBlock = some b) (fun b hb => by rcases hb with hb | hb <;> cases hb)); clear h5 H4))
  clear HO
  go_loopw [7, 9, 10, 11, 12] (fun jv sv mv fv iv wr => ∃ i S K sure maybe failed, LajRel W p l jv sv mv fv iv wr i S K sure maybe failed) (fun _ _ _ _ iv _ => l.length + 2 - (intOf iv).toNat)
  case atStart => exact ⟨0, S0, some (jg, J0), [], [], false, rfl, rfl, rfl, Nat.zero_le _, H5.out, Grow.nil _ _ _, Grow.nil _ _ _, Nat.zero_le _, Nat.zero_le _, HI0.out⟩
  case round =>
    obtain ⟨i, S, K, sure, maybe, failed, ⟨rfl, rfl, rfl, hi, hjs, hsr, hmr, hsl, hml, hinv⟩⟩ := hrel
    have HJS := Lib.hid hjs
    have HSR := Lib.hid hsr
    have HMR := Lib.hid hmr
    have HIN := Lib.hid hinv
    clear hjs hsr hmr hinv H5 HI0
    by_cases hlt : i < l.length
    · obtain ⟨b, o, Al, cl, A', c', hat⟩ := HL.out.all hlt
      have hb0 := HJS.out.below
      obtain ⟨rfl, x0, x1, x2, x3, hrl, hrow, hfit⟩ := hat (wr.alloc (.cells (opCells 4 none 0 0 0 A2 ks.length cp2) 34)) (hb0.alloc hb0.size _)
      clear hb0
      have hfw := HFW.out l[i] (List.getElem_mem hlt)
      clear hat
      generalize l[i] = a at *
      have HK := Lib.hid hfw
      have HFI := Lib.hid hfit
      have HRO := Lib.hid hrow
      have HRL := Lib.hid hrl
      clear hfw hfit hrow hrl
      go_upto_region 21 with (fail)
      have hal := HJS.out.alloc (.cells (opCells a.kind Al a.l.length cl a.n A' a.keep.length c') 34)
      have hsa := HSR.out.alloc (.cells (opCells a.kind Al a.l.length cl a.n A' a.keep.length c') 34)
      have hma := HMR.out.alloc (.cells (opCells a.kind Al a.l.length cl a.n A' a.keep.length c') 34)
      have hbk := Blk.fresh wr 34 (opCells a.kind Al a.l.length cl a.n A' a.keep.length c')
      have c0 := (hbk.at 0).trans rfl
      have c1 := (hbk.at 1).trans rfl
      have c2 := (hbk.at 2).trans rfl
      have c3 := (hbk.at 3).trans rfl
      have hob : wr.heap.size < (wr.alloc (Obj.cells #[Value.int IntKind.i64 a.kind, Value.slice Al a.l.length cl, Value.int IntKind.i64 a.n, Value.slice A' a.keep.length c'] 34)).heap.size := by simp
      clear hbk x0 x1 x2 x3
      generalize wr.alloc (Obj.cells #[Value.int IntKind.i64 a.kind, Value.slice Al a.l.length cl, Value.int IntKind.i64 a.n, Value.slice A' a.keep.length c'] 34) = wa at *
      have HAL := Lib.hid hal
      have HSA := Lib.hid hsa
      have HMA := Lib.hid hma
      have HC : Hid (∀ w', SameF (fun b => (u9.ownBlock = some b ∨ u10.ownBlock = some b) ∨ b = wr.heap.size) wa w' → w'.cell? ⟨wr.heap.size, 0, none⟩ = wa.cell? ⟨wr.heap.size, 0, none⟩ ∧ w'.cell? ⟨wr.heap.size, 1, none⟩ = wa.cell? ⟨wr.heap.size, 1, none⟩ ∧ w'.cell? ⟨wr.heap.size, 2, none⟩ = wa.cell? ⟨wr.heap.size, 2, none⟩ ∧ Grow w' W.heap.size 1 u9 sure.length (strs sure) ∧ Grow w' W.heap.size 1 u10 maybe.length (strs maybe)) := Lib.hid fun w' h => ⟨h.cell (.inr rfl), h.cell (.inr rfl), h.cell (.inr rfl), h.row HSA.out (fun b hb => .inl (.inl hb)), h.row HMA.out (fun b hb => .inl (.inr hb))⟩
      clear hal hsa hma HJS HSR HMR
      by_cases d2 : a.kind = 2
      · as_aux_lemma =>
        rw [d2] at c0
        have HS := Lib.hid (HAL.out.lose HFI.out.n.2)
        have HI2 := Lib.hid (HIN.out.lose HFI.out.n.2)
        go_wp2_with (go_at_call 11; refine HS.out.mono ?_; rintro e w6 ⟨rfl, h6, s6⟩; have H6 := Lib.hid h6; have Q6 := Lib.hid (HC.out _ s6).2.2.2; clear h6 s6)
        go_roundw
        case rel => exact ⟨i + 1, _, K, sure, maybe, failed, rfl, rfl, by simp, by omega, H6.out.mono (fun b hb => .inl hb), Q6.out.1, Q6.out.2, hsl, hml, HI2.out⟩
        case measure => simp [intOf]; omega
      by_cases d3 : a.kind = 3
      · as_aux_lemma =>
        rw [d3] at c0
        have hkl : a.keep.length ≤ 1000000000 := by have := HK.out.keep; omega
        have HS := Lib.hid (HAL.out.arm HFI.out.n.2 A' c' a.keep HRO.out hkl)
        have HI2 := Lib.hid (HIN.out.arm (ks := a.keep) HFI.out.n.2 hkl)
        go_wp2_with (go_at_call 12; refine HS.out.mono ?_; rintro e w6 ⟨rfl, h6, s6⟩; have H6 := Lib.hid h6; have Q6 := Lib.hid (HC.out _ s6).2.2.2; clear h6 s6)
        go_roundw
        case rel => exact ⟨i + 1, _, K, sure, maybe, failed, rfl, rfl, by simp, by omega, H6.out.mono (fun b hb => .inl hb), Q6.out.1, Q6.out.2, hsl, hml, HI2.out⟩
        case measure => simp [intOf]; omega
      have e2 := beq_eq_false_iff_ne.2 d2
      have e3 := beq_eq_false_iff_ne.2 d3
      by_cases d4 : a.kind = 4
      · as_aux_lemma =>
        rw [d4] at c0
        obtain ⟨As, cs, rfl⟩ := HSA.out.slice
        obtain ⟨Am, cm, rfl⟩ := HMA.out.slice
        have HCR := Lib.hid (HAL.out.drop.crash A' c' a.keep HRO.out (by have := HK.out.keep; omega))
        have HST := Lib.hid (fun w' (h : Js (fun b => ((Value.slice As sure.length cs).ownBlock = some b ∨ (Value.slice Am maybe.length cm).ownBlock = some b) ∨ b = wr.heap.size) W w' p (S.crash a.keep) none) => h.start)
        rcases (HIN.out.crash a.keep).opn (by omega) with ⟨h1, h2, h3, _⟩ | ⟨J2, h1, h2, h3, h4, _⟩
        · have HO : Hid (∀ w', Js (fun b => ((Value.slice As sure.length cs).ownBlock = some b ∨ (Value.slice Am maybe.length cm).ownBlock = some b) ∨ b = wr.heap.size) W w' p (S.crash a.keep).start none → Calls Tryd.prog 10 #[ptr p, .int .i64 3] w' fun e w2 => e = .returned (.tuple #[.pointer none, .int .i64 (jopn (S.crash a.keep).start 3).1]) ∧ Js (fun b => ((Value.slice As sure.length cs).ownBlock = some b ∨ (Value.slice Am maybe.length cm).ownBlock = some b) ∨ b = wr.heap.size) W w2 p (jopn (S.crash a.keep).start 3).2.2 none ∧ SameF (fun b => ((Value.slice As sure.length cs).ownBlock = some b ∨ (Value.slice Am maybe.length cm).ownBlock = some b) ∨ b = wr.heap.size) w' w2) := Lib.hid fun w' h => h.open_none (n := 3) (by omega) (by rw [← h1]; rfl)
          have HI2 := Lib.hid h3
          have HDK : Hid (∀ w', Calls Tryd.prog 15 #[.int .i64 (jopn (S.crash a.keep).start 3).1] w' fun e w2 => e = .returned (.bool true) ∧ w' = w2) := Lib.hid fun w' => by
            have := disky_any (jopn (S.crash a.keep).start 3).1 w'
            rwa [decide_eq_true (show (jopn (S.crash a.keep).start 3).1 = 9 ∨ (jopn (S.crash a.keep).start 3).1 = 10 from h2)] at this
          have hq : ((i : Int) == (l.length : Int)) = false := beq_eq_false_iff_ne.2 (by omega)
          clear h1 h2 h3
          have e33 : jopn (S.crash a.keep).start ((3 : Nat) : Int) = jopn (S.crash a.keep).start 3 := rfl
          rw [e33] at HI2
          generalize jopn (S.crash a.keep).start 3 = X at *
          obtain ⟨er, oj, S2⟩ := X
          dsimp only at HO HI2 HDK
          go_wp2_with (first
            | (go_at_call 19; refine HCR.out.mono ?_; rintro e w6 ⟨rfl, h6, s6⟩; have H6 := Lib.hid h6; have S6 := Lib.hid s6; clear h6 s6)
            | (go_at_call 20; refine (HST.out _ H6.out).mono ?_; rintro e w7 ⟨rfl, h7, s7⟩; have H7 := Lib.hid h7; have S7 := Lib.hid (S6.out.trans s7); clear h7 s7)
            | (go_at_call 10; refine (HO.out _ H7.out).mono ?_; rintro e w8 ⟨rfl, h8, s8⟩; have H8 := Lib.hid h8; have Q8 := Lib.hid (HC.out _ (S7.out.trans s8)).2.2.2; clear h8 s8)
            | (go_at_call 15; refine (HDK.out _).mono ?_; rintro e w9 ⟨rfl, rfl⟩))
          go_roundw
          case rel => exact ⟨i + 1, S2, none, sure, maybe, failed, rfl, rfl, by simp, by omega, H8.out.mono (fun b hb => .inl hb), Q8.out.1, Q8.out.2, hsl, hml, HI2.out⟩
          case measure => simp [intOf]; omega
        · have HO : Hid (∀ w', Js (fun b => ((Value.slice As sure.length cs).ownBlock = some b ∨ (Value.slice Am maybe.length cm).ownBlock = some b) ∨ b = wr.heap.size) W w' p (S.crash a.keep).start none → Calls Tryd.prog 10 #[ptr p, .int .i64 3] w' fun e w2 => ∃ g, e = .returned (.tuple #[ptr g, .int .i64 0]) ∧ Js (fun b => ((Value.slice As sure.length cs).ownBlock = some b ∨ (Value.slice Am maybe.length cm).ownBlock = some b) ∨ b = wr.heap.size) W w2 p (jopn (S.crash a.keep).start 3).2.2 (some (g, J2)) ∧ SameF (fun b => ((Value.slice As sure.length cs).ownBlock = some b ∨ (Value.slice Am maybe.length cm).ownBlock = some b) ∨ b = wr.heap.size) w' w2) := Lib.hid fun w' h => h.open_some (n := 3) (by omega) (by rw [← h1, ← h2]; rfl)
          have HI2 := Lib.hid h4
          have e33 : jopn (S.crash a.keep).start ((3 : Nat) : Int) = jopn (S.crash a.keep).start 3 := rfl
          rw [e33] at HI2
          have HOR := Lib.hid h3
          clear h1 h2 h3 h4
          generalize jopn (S.crash a.keep).start 3 = X at *
          obtain ⟨er, oj, S2⟩ := X
          dsimp only at HO HI2
          by_cases hs : J2.L = sure
          · as_aux_lemma =>
            have HSS := Lib.hid hs
            clear hs
            go_wp2_with (first
              | (go_at_call 19; refine HCR.out.mono ?_; rintro e w6 ⟨rfl, h6, s6⟩; have H6 := Lib.hid h6; have S6 := Lib.hid s6; clear h6 s6)
              | (go_at_call 20; refine (HST.out _ H6.out).mono ?_; rintro e w7 ⟨rfl, h7, s7⟩; have H7 := Lib.hid h7; have S7 := Lib.hid (S6.out.trans s7); clear h7 s7)
              | (go_at_call 10; refine (HO.out _ H7.out).mono ?_; rintro e w8 ⟨g8, rfl, h8, s8⟩; have H8 := Lib.hid h8; have Q8 := Lib.hid (HC.out _ (S7.out.trans s8)).2.2.2; have L8 := Lib.hid h8.room; have HA8 := Lib.hid h8.all; clear h8 s8)
              | (go_at_call 17; ((with_reducible refine HA8.out.mono ?_); rintro e w9 ⟨v9, rfl, g9, b9⟩); obtain ⟨A9, c9, rfl, r9⟩ := Sls.Grow.row g9; have R9 := Lib.hid r9; have B9 := Lib.hid b9; clear g9 b9 r9 HA8)
              | (go_at_call 16; obtain ⟨Ax, cx, ex, rx⟩ := Sls.Grow.row Q8.out.1; injection ex with ex1 _ ex2; subst ex1 ex2; refine (same_rows R9.out rx B9.out HSS.out (by have := L8.out; omega)).mono ?_; rintro e w10 ⟨rfl, b10⟩; have B10 := Lib.hid (next_below B9.out b10); have H10 := Lib.hid (H8.out.keep B10.out).1; have HA10 := Lib.hid H10.out.all; clear b10)
              | (go_at_call 17; refine HA10.out.mono ?_; rintro e w11 ⟨v11, rfl, g11, b11⟩; have G11 := Lib.hid g11; have B11 := Lib.hid b11; clear g11 b11))
            go_roundw
            case rel =>
              refine ⟨i + 1, S2, some (g8, J2), J2.L, maybe, false, rfl, rfl, by simp, by omega, H10.out.more B11.out (fun x hx => ?_), G11.out.lower H10.out.below.size, (Q8.out.2.below B10.out).below B11.out, L8.out.2, hml, HI2.out⟩
              rcases hx with hx | hx
              · exact .inr (G11.out.block x hx)
              · exact .inl (.inl (.inr hx))
            case measure => simp [intOf]; omega
          · as_aux_lemma =>
            obtain ⟨hf, hm⟩ := HOR.out.resolve_left hs
            subst hf
            have HSS := Lib.hid hm
            have HNS := Lib.hid hs
            clear hm hs
            go_wp2_with (first
              | (go_at_call 19; refine HCR.out.mono ?_; rintro e w6 ⟨rfl, h6, s6⟩; have H6 := Lib.hid h6; have S6 := Lib.hid s6; clear h6 s6)
              | (go_at_call 20; refine (HST.out _ H6.out).mono ?_; rintro e w7 ⟨rfl, h7, s7⟩; have H7 := Lib.hid h7; have S7 := Lib.hid (S6.out.trans s7); clear h7 s7)
              | (go_at_call 10; refine (HO.out _ H7.out).mono ?_; rintro e w8 ⟨g8, rfl, h8, s8⟩; have H8 := Lib.hid h8; have Q8 := Lib.hid (HC.out _ (S7.out.trans s8)).2.2.2; have L8 := Lib.hid h8.room; have HA8 := Lib.hid h8.all; clear h8 s8)
              | (go_at_call 17; ((with_reducible refine HA8.out.mono ?_); rintro e w9 ⟨v9, rfl, g9, b9⟩); obtain ⟨A9, c9, rfl, r9⟩ := Sls.Grow.row g9; have R9 := Lib.hid r9; have B9 := Lib.hid b9; have BD := Lib.hid trivial; clear g9 b9 r9 HA8)
              | (go_at_call 16; clear BD; obtain ⟨Ax, cx, ex, rx⟩ := Sls.Grow.row Q8.out.1; injection ex with ex1 _ ex2; subst ex1 ex2; refine (differ_rows R9.out rx B9.out HNS.out (by have := L8.out; omega) (by omega)).mono ?_; rintro e w10 ⟨rfl, b10⟩; have B10 := Lib.hid (next_below B9.out b10); have H10 := Lib.hid (H8.out.keep B10.out).1; have HA10 := Lib.hid H10.out.all; clear b10)
              | (go_at_call 17; ((with_reducible refine HA10.out.mono ?_); rintro e w12 ⟨v12, rfl, g12, b12⟩); obtain ⟨A12, c12, rfl, r12⟩ := Sls.Grow.row g12; have R12 := Lib.hid r12; have B12 := Lib.hid b12; clear g12 b12 r12 HA10)
              | (go_at_call 16; obtain ⟨Ay, cy, ey, ry⟩ := Sls.Grow.row (Q8.out.2.below B10.out); injection ey with ey1 _ ey2; subst ey1 ey2; refine (same_rows R12.out ry B12.out HSS.out (by have := L8.out; omega)).mono ?_; rintro e w13 ⟨rfl, b13⟩; have B13 := Lib.hid (next_below B10.out (next_below B12.out b13)); have H13 := Lib.hid (H8.out.keep B13.out).1; have HA13 := Lib.hid H13.out.all; clear b13)
              | (go_at_call 17; refine HA13.out.mono ?_; rintro e w11 ⟨v11, rfl, g11, b11⟩; have G11 := Lib.hid g11; have B11 := Lib.hid b11; clear g11 b11))
            go_roundw
            case rel =>
              refine ⟨i + 1, S2, some (g8, J2), J2.L, maybe, false, rfl, rfl, by simp, by omega, H13.out.more B11.out (fun x hx => ?_), G11.out.lower H13.out.below.size, (Q8.out.2.below B13.out).below B11.out, L8.out.2, hml, HI2.out⟩
              rcases hx with hx | hx
              · exact .inr (G11.out.block x hx)
              · exact .inl (.inl (.inr hx))
            case measure => simp [intOf]; omega
      by_cases d5 : a.kind = 5
      · as_aux_lemma =>
        rw [d5] at c0
        obtain ⟨As, cs, rfl⟩ := HSA.out.slice
        obtain ⟨Am, cm, rfl⟩ := HMA.out.slice
        have HST := Lib.hid HAL.out.drop.start
        rcases (HIN.out.start).opn (by omega) with ⟨h1, h2, h3, _⟩ | ⟨J2, h1, h2, h3, h4, _⟩
        · have HO : Hid (∀ w', Js (fun b => ((Value.slice As sure.length cs).ownBlock = some b ∨ (Value.slice Am maybe.length cm).ownBlock = some b) ∨ b = wr.heap.size) W w' p S.start none → Calls Tryd.prog 10 #[ptr p, .int .i64 3] w' fun e w2 => e = .returned (.tuple #[.pointer none, .int .i64 (jopn S.start 3).1]) ∧ Js (fun b => ((Value.slice As sure.length cs).ownBlock = some b ∨ (Value.slice Am maybe.length cm).ownBlock = some b) ∨ b = wr.heap.size) W w2 p (jopn S.start 3).2.2 none ∧ SameF (fun b => ((Value.slice As sure.length cs).ownBlock = some b ∨ (Value.slice Am maybe.length cm).ownBlock = some b) ∨ b = wr.heap.size) w' w2) := Lib.hid fun w' h => h.open_none (n := 3) (by omega) (by rw [← h1]; rfl)
          have HI2 := Lib.hid h3
          have HDK : Hid (∀ w', Calls Tryd.prog 15 #[.int .i64 (jopn S.start 3).1] w' fun e w2 => e = .returned (.bool true) ∧ w' = w2) := Lib.hid fun w' => by
            have := disky_any (jopn S.start 3).1 w'
            rwa [decide_eq_true (show (jopn S.start 3).1 = 9 ∨ (jopn S.start 3).1 = 10 from h2)] at this
          have hq : ((i : Int) == (l.length : Int)) = false := beq_eq_false_iff_ne.2 (by omega)
          clear h1 h2 h3
          have e33 : jopn S.start ((3 : Nat) : Int) = jopn S.start 3 := rfl
          rw [e33] at HI2
          generalize jopn S.start 3 = X at *
          obtain ⟨er, oj, S2⟩ := X
          dsimp only at HO HI2 HDK
          go_wp2_with (first
            | (go_at_call 20; refine HST.out.mono ?_; rintro e w7 ⟨rfl, h7, s7⟩; have H7 := Lib.hid h7; have S7 := Lib.hid s7; clear h7 s7)
            | (go_at_call 10; refine (HO.out _ H7.out).mono ?_; rintro e w8 ⟨rfl, h8, s8⟩; have H8 := Lib.hid h8; have Q8 := Lib.hid (HC.out _ (S7.out.trans s8)).2.2.2; clear h8 s8)
            | (go_at_call 15; refine (HDK.out _).mono ?_; rintro e w9 ⟨rfl, rfl⟩))
          go_roundw
          case rel => exact ⟨i + 1, S2, none, sure, maybe, failed, rfl, rfl, by simp, by omega, H8.out.mono (fun b hb => .inl hb), Q8.out.1, Q8.out.2, hsl, hml, HI2.out⟩
          case measure => simp [intOf]; omega
        · have HO : Hid (∀ w', Js (fun b => ((Value.slice As sure.length cs).ownBlock = some b ∨ (Value.slice Am maybe.length cm).ownBlock = some b) ∨ b = wr.heap.size) W w' p S.start none → Calls Tryd.prog 10 #[ptr p, .int .i64 3] w' fun e w2 => ∃ g, e = .returned (.tuple #[ptr g, .int .i64 0]) ∧ Js (fun b => ((Value.slice As sure.length cs).ownBlock = some b ∨ (Value.slice Am maybe.length cm).ownBlock = some b) ∨ b = wr.heap.size) W w2 p (jopn S.start 3).2.2 (some (g, J2)) ∧ SameF (fun b => ((Value.slice As sure.length cs).ownBlock = some b ∨ (Value.slice Am maybe.length cm).ownBlock = some b) ∨ b = wr.heap.size) w' w2) := Lib.hid fun w' h => h.open_some (n := 3) (by omega) (by rw [← h1, ← h2]; rfl)
          have HI2 := Lib.hid h4
          have e33 : jopn S.start ((3 : Nat) : Int) = jopn S.start 3 := rfl
          rw [e33] at HI2
          have HOR := Lib.hid h3
          clear h1 h2 h3 h4
          generalize jopn S.start 3 = X at *
          obtain ⟨er, oj, S2⟩ := X
          dsimp only at HO HI2
          by_cases hs : J2.L = sure
          · as_aux_lemma =>
            have HSS := Lib.hid hs
            clear hs
            go_wp2_with (first
              | (go_at_call 20; refine HST.out.mono ?_; rintro e w7 ⟨rfl, h7, s7⟩; have H7 := Lib.hid h7; have S7 := Lib.hid s7; clear h7 s7)
              | (go_at_call 10; refine (HO.out _ H7.out).mono ?_; rintro e w8 ⟨g8, rfl, h8, s8⟩; have H8 := Lib.hid h8; have Q8 := Lib.hid (HC.out _ (S7.out.trans s8)).2.2.2; have L8 := Lib.hid h8.room; have HA8 := Lib.hid h8.all; clear h8 s8)
              | (go_at_call 17; ((with_reducible refine HA8.out.mono ?_); rintro e w9 ⟨v9, rfl, g9, b9⟩); obtain ⟨A9, c9, rfl, r9⟩ := Sls.Grow.row g9; have R9 := Lib.hid r9; have B9 := Lib.hid b9; clear g9 b9 r9 HA8)
              | (go_at_call 16; obtain ⟨Ax, cx, ex, rx⟩ := Sls.Grow.row Q8.out.1; injection ex with ex1 _ ex2; subst ex1 ex2; refine (same_rows R9.out rx B9.out HSS.out (by have := L8.out; omega)).mono ?_; rintro e w10 ⟨rfl, b10⟩; have B10 := Lib.hid (next_below B9.out b10); have H10 := Lib.hid (H8.out.keep B10.out).1; have HA10 := Lib.hid H10.out.all; clear b10)
              | (go_at_call 17; refine HA10.out.mono ?_; rintro e w11 ⟨v11, rfl, g11, b11⟩; have G11 := Lib.hid g11; have B11 := Lib.hid b11; clear g11 b11))
            go_roundw
            case rel =>
              refine ⟨i + 1, S2, some (g8, J2), J2.L, maybe, false, rfl, rfl, by simp, by omega, H10.out.more B11.out (fun x hx => ?_), G11.out.lower H10.out.below.size, (Q8.out.2.below B10.out).below B11.out, L8.out.2, hml, HI2.out⟩
              rcases hx with hx | hx
              · exact .inr (G11.out.block x hx)
              · exact .inl (.inl (.inr hx))
            case measure => simp [intOf]; omega
          · as_aux_lemma =>
            obtain ⟨hf, hm⟩ := HOR.out.resolve_left hs
            subst hf
            have HSS := Lib.hid hm
            have HNS := Lib.hid hs
            clear hm hs
            go_wp2_with (first
              | (go_at_call 20; refine HST.out.mono ?_; rintro e w7 ⟨rfl, h7, s7⟩; have H7 := Lib.hid h7; have S7 := Lib.hid s7; clear h7 s7)
              | (go_at_call 10; refine (HO.out _ H7.out).mono ?_; rintro e w8 ⟨g8, rfl, h8, s8⟩; have H8 := Lib.hid h8; have Q8 := Lib.hid (HC.out _ (S7.out.trans s8)).2.2.2; have L8 := Lib.hid h8.room; have HA8 := Lib.hid h8.all; clear h8 s8)
              | (go_at_call 17; ((with_reducible refine HA8.out.mono ?_); rintro e w9 ⟨v9, rfl, g9, b9⟩); obtain ⟨A9, c9, rfl, r9⟩ := Sls.Grow.row g9; have R9 := Lib.hid r9; have B9 := Lib.hid b9; have BD := Lib.hid trivial; clear g9 b9 r9 HA8)
              | (go_at_call 16; clear BD; obtain ⟨Ax, cx, ex, rx⟩ := Sls.Grow.row Q8.out.1; injection ex with ex1 _ ex2; subst ex1 ex2; refine (differ_rows R9.out rx B9.out HNS.out (by have := L8.out; omega) (by omega)).mono ?_; rintro e w10 ⟨rfl, b10⟩; have B10 := Lib.hid (next_below B9.out b10); have H10 := Lib.hid (H8.out.keep B10.out).1; have HA10 := Lib.hid H10.out.all; clear b10)
              | (go_at_call 17; ((with_reducible refine HA10.out.mono ?_); rintro e w12 ⟨v12, rfl, g12, b12⟩); obtain ⟨A12, c12, rfl, r12⟩ := Sls.Grow.row g12; have R12 := Lib.hid r12; have B12 := Lib.hid b12; clear g12 b12 r12 HA10)
              | (go_at_call 16; obtain ⟨Ay, cy, ey, ry⟩ := Sls.Grow.row (Q8.out.2.below B10.out); injection ey with ey1 _ ey2; subst ey1 ey2; refine (same_rows R12.out ry B12.out HSS.out (by have := L8.out; omega)).mono ?_; rintro e w13 ⟨rfl, b13⟩; have B13 := Lib.hid (next_below B10.out (next_below B12.out b13)); have H13 := Lib.hid (H8.out.keep B13.out).1; have HA13 := Lib.hid H13.out.all; clear b13)
              | (go_at_call 17; refine HA13.out.mono ?_; rintro e w11 ⟨v11, rfl, g11, b11⟩; have G11 := Lib.hid g11; have B11 := Lib.hid b11; clear g11 b11))
            go_roundw
            case rel =>
              refine ⟨i + 1, S2, some (g8, J2), J2.L, maybe, false, rfl, rfl, by simp, by omega, H13.out.more B11.out (fun x hx => ?_), G11.out.lower H13.out.below.size, (Q8.out.2.below B13.out).below B11.out, L8.out.2, hml, HI2.out⟩
              rcases hx with hx | hx
              · exact .inr (G11.out.block x hx)
              · exact .inl (.inl (.inr hx))
            case measure => simp [intOf]; omega
      have e4 := beq_eq_false_iff_ne.2 d4
      have e5 := beq_eq_false_iff_ne.2 d5
      by_cases d0 : a.kind = 0
      · as_aux_lemma =>
        rw [d0] at c0
        cases K with
        | none =>
          unfold jvar
          go_wp2_with fail
          go_roundw
          case rel => exact ⟨i + 1, S, none, sure, maybe, failed, rfl, rfl, by simp, by omega, HAL.out.mono (fun b hb => .inl hb), HSA.out, HMA.out, hsl, hml, HIN.out⟩
          case measure => simp [intOf]; omega
        | some x =>
          obtain ⟨g, J⟩ := x
          unfold jvar
          dsimp only
          obtain ⟨As, cs, rfl⟩ := HSA.out.slice
          obtain ⟨Am, cm, rfl⟩ := HMA.out.slice
          have hJL : J.L = sure := (HIN.out.own J rfl).1
          have hl8 := HK.out.l.1
          have HRS : Hid (Row wa wa.heap.size As (strs sure)) := Lib.hid (by
            obtain ⟨Ax, cx, ex, rx⟩ := Sls.Grow.row HSA.out
            injection ex with ex1 _ ex2
            subst ex1 ex2
            exact rx)
          have HRA : Hid (Row wa wa.heap.size Al (strs a.l)) := Lib.hid (HRL.out.lift HAL.out.below)
          have hbd : sure.length + a.l.length ≤ maxLen ∧ (sure.length + a.l.length) * 16 ≤ 140737488355328 := ⟨small_max (by omega), by omega⟩
          have HBD := Lib.hid hbd
          clear hbd
          go_upto_region 25 with (fail)
          try go_frame
          refine wp_region_sorted (fun w' => w'.cell? ⟨wr.heap.size, 1, none⟩ = some (.slice Al a.l.length cl)) [1, 3, 4] [0, 2, 5, 6] (by kernel_rfl) (by kernel_rfl) c1 ?_
          repeat refine RD.next rfl rfl (by intro w' hS; go_simp; with_reducible rfl) ?_
          refine RD.done ?_
          have bw1 : Below wa.heap.size wa (wa.alloc (.cells #[] 9)).drew := ((Below.refl _ wa).alloc (Nat.le_refl _) _).drew
          refine CH.next rfl rfl fun K hK => ?_
          go_simp
          refine hK _ _ ((bw1.cell (p := ⟨wr.heap.size, 1, none⟩) hob).trans c1) ?_
          clear hK
          refine CH.next rfl rfl fun K hK => ?_
          refine wp_append_src _ _ _ _ rfl wa.heap.size 9 i0 _ 1 16 Tryd.underlying32 hi0 hi1 hi2 hi3 rfl (by omega) (.slice (some ⟨wa.heap.size, 0, none⟩) 0 0) 0 [] (by simp [go_sem]) (Grow.bare wa 9 1).drew (.slice As sure.length cs) sure.length (strs sure) (by simp [go_sem]) (Sls.src_row' (HRS.out.lift bw1)) (by have := HBD.out.1; omega) (by have := HBD.out.2; omega) bw1.size ?_
          intro v2 w2 hown2 hg2 _
          simp only [Nat.zero_add, List.nil_append] at hown2
          have bw2 : Below wa.heap.size wa w2 := bw1.grown hg2 bw1.size (fun k hk => by simp [Value.ownBlock] at hk; omega)
          refine hK _ _ ((bw2.cell (p := ⟨wr.heap.size, 1, none⟩) hob).trans c1) ?_
          clear hK
          refine CH.next rfl rfl fun K hK => ?_
          refine wp_append_src _ _ _ _ rfl wa.heap.size 9 i0 _ 1 16 Tryd.underlying32 hi0 hi1 hi2 hi3 rfl (by omega) v2 sure.length (strs sure) (by simp [go_sem]) hown2 (.slice Al a.l.length cl) a.l.length (strs a.l) (by simp [go_sem]) (Sls.src_row' (HRA.out.lift bw2)) HBD.out.1 HBD.out.2 bw2.size ?_
          intro v3 w3 hown3 hg3 _
          have bw3 : Below wa.heap.size wa w3 := bw2.grown hg3 bw2.size (fun k hk => (hown2.block k hk).1)
          obtain ⟨T, hT⟩ : ∃ T, T = sure ++ a.l := ⟨_, rfl⟩
          have hTl : T.length = sure.length + a.l.length := by rw [hT, List.length_append]
          have G3 : Hid (Grow w3 wa.heap.size 1 v3 T.length (strs T)) := Lib.hid (by rw [hTl, hT, show strs (sure ++ a.l) = strs sure ++ strs a.l from List.map_append]; exact hown3)
          have HTT := Lib.hid hT
          have HTl := Lib.hid hTl
          clear hT hTl
          refine hK _ _ ((bw3.cell (p := ⟨wr.heap.size, 1, none⟩) hob).trans c1) ?_
          clear hK
          refine CH.next rfl rfl fun K hK => ?_
          go_simp
          refine hK _ _ ((bw3.cell (p := ⟨wr.heap.size, 1, none⟩) hob).trans c1) ?_
          clear hK
          refine CH.done (NoPanic.normal ?_)
          try go_frame
          have B3 := Lib.hid bw3
          have d0 := (bw3.cell (p := ⟨wr.heap.size, 0, none⟩) hob).trans c0
          have d1 := (bw3.cell (p := ⟨wr.heap.size, 1, none⟩) hob).trans c1
          have d2' := (bw3.cell (p := ⟨wr.heap.size, 2, none⟩) hob).trans c2
          clear c0 c1 c2 c3 bw1 bw2 bw3 hown2 hown3 hg2 hg3 HRS hJL
          obtain ⟨A3, cp3, rfl⟩ := G3.out.slice
          have JS3 := Lib.hid (HAL.out.more (G := (fun b => (((Value.slice As sure.length cs).ownBlock = some b ∨ (Value.slice Am maybe.length cm).ownBlock = some b) ∨ b = wr.heap.size) ∨ (Value.slice A3 T.length cp3).ownBlock = some b)) B3.out (fun x hx => by
            rcases hx with hx | hx
            · exact .inl hx
            · exact .inr (G3.out.block x hx)))
          have HAP := Lib.hid (JS3.out.append Al cl a.l (HRA.out.lift B3.out) (fun b o e hl => .inl (row_old HRL.out b o e hl)) (by omega))
          have HC3 : Hid (∀ w', SameF (fun b => (((Value.slice As sure.length cs).ownBlock = some b ∨ (Value.slice Am maybe.length cm).ownBlock = some b) ∨ b = wr.heap.size) ∨ (Value.slice A3 T.length cp3).ownBlock = some b) w3 w' → Grow w' W.heap.size 1 (Value.slice As sure.length cs) sure.length (strs sure) ∧ Grow w' W.heap.size 1 (Value.slice Am maybe.length cm) maybe.length (strs maybe) ∧ Grow w' wa.heap.size 1 (Value.slice A3 T.length cp3) T.length (strs T)) := Lib.hid fun w' h => ⟨h.row (HSA.out.below B3.out) (fun b hb => .inl (.inl (.inl hb))), h.row (HMA.out.below B3.out) (fun b hb => .inl (.inl (.inr hb))), h.row G3.out (fun b hb => .inr hb)⟩
          have HW : Hid (Went 3 sure maybe T failed (J.append S a.l)) := Lib.hid (by rw [HTT.out]; exact HIN.out.append a.l)
          have hmx : T.length ≤ 16777300 := by have := HTl.out; omega
          clear JS3 HIN
          generalize J.append S a.l = X at *
          obtain ⟨er, J2, S2⟩ := X
          dsimp only at HAP HW
          by_cases r0 : er = 0
          · as_aux_lemma =>
            subst r0
            have HI2 := Lib.hid (HW.out.ok rfl)
            have HJ2 := Lib.hid (HI2.out.own J2 rfl).1
            have HDK : Hid (∀ w', Calls Tryd.prog 15 #[.int .i64 0] w' fun e w2 => e = .returned (.bool false) ∧ w' = w2) := Lib.hid fun w' => by
              have := disky_any 0 w'
              rwa [decide_eq_false (by omega)] at this
            clear HW
            go_wp2_with (first
              | (go_at_call 13; refine HAP.out.mono ?_; rintro e w4 ⟨rfl, h4, s4⟩; have H4 := Lib.hid h4; have Q4 := Lib.hid (HC3.out _ s4); have L4 := Lib.hid h4.room; have HA4 := Lib.hid h4.all; clear h4 s4)
              | (go_at_call 15; refine (HDK.out _).mono ?_; rintro e w5 ⟨rfl, rfl⟩)
              | (go_at_call 17; refine HA4.out.mono ?_; rintro e w6 ⟨v6, rfl, g6, b6⟩; obtain ⟨A6, c6, rfl, r6⟩ := Sls.Grow.row g6; have R6 := Lib.hid r6; have B6 := Lib.hid b6; clear g6 b6 r6)
              | (go_at_call 16; obtain ⟨Ax, cx, ex, rx⟩ := Sls.Grow.row Q4.out.2.2; injection ex with ex1 _ ex2; subst ex1 ex2; refine (same_rows R6.out rx B6.out HJ2.out (by have := L4.out; omega)).mono ?_; rintro e w7 ⟨rfl, b7⟩; have B7 := Lib.hid (next_below B6.out b7); have H7 := Lib.hid (H4.out.keep B7.out).1; have HLN := Lib.hid H7.out.len; rw [HJ2.out] at HLN; clear b7)
              | (go_at_call 18; refine HLN.out.mono ?_; rintro e w8 ⟨rfl, rfl⟩))
            go_roundw
            case rel =>
              refine ⟨i + 1, S2, some (g, J2), T, maybe, failed, rfl, rfl, by simp, by omega, H7.out.mono (fun b hb => ?_), (Q4.out.2.2.lower HAL.out.below.size).below B7.out, Q4.out.2.1.below B7.out, by have := L4.out.2; rwa [HJ2.out] at this, hml, HI2.out⟩
              rcases hb with hb | hb
              · exact .inr hb
              · exact .inl (.inl (.inr hb))
            case measure => simp [intOf]; omega
          by_cases r9 : er = 9 ∨ er = 10
          · as_aux_lemma =>
            have HI2 := Lib.hid (HW.out.dsk r9)
            have HJ2 := Lib.hid (HI2.out.own J2 rfl).1
            have HDK : Hid (∀ w', Calls Tryd.prog 15 #[.int .i64 er] w' fun e w2 => e = .returned (.bool true) ∧ w' = w2) := Lib.hid fun w' => by
              have := disky_any er w'
              rwa [decide_eq_true r9] at this
            have rq0 : (er == 0) = false := beq_eq_false_iff_ne.2 r0
            clear HW r9 r0
            go_wp2_with (first
              | (go_at_call 13; refine HAP.out.mono ?_; rintro e w4 ⟨rfl, h4, s4⟩; have H4 := Lib.hid h4; have Q4 := Lib.hid (HC3.out _ s4); have L4 := Lib.hid h4.room; have HA4 := Lib.hid h4.all; clear h4 s4)
              | (go_at_call 15; refine (HDK.out _).mono ?_; rintro e w5 ⟨rfl, rfl⟩)
              | (go_at_call 17; refine HA4.out.mono ?_; rintro e w6 ⟨v6, rfl, g6, b6⟩; obtain ⟨A6, c6, rfl, r6⟩ := Sls.Grow.row g6; have R6 := Lib.hid r6; have B6 := Lib.hid b6; clear g6 b6 r6)
              | (go_at_call 16; obtain ⟨Ax, cx, ex, rx⟩ := Sls.Grow.row Q4.out.1; injection ex with ex1 _ ex2; subst ex1 ex2; refine (same_rows R6.out rx B6.out HJ2.out (by have := L4.out; omega)).mono ?_; rintro e w7 ⟨rfl, b7⟩; have B7 := Lib.hid (next_below B6.out b7); have H7 := Lib.hid (H4.out.keep B7.out).1; have HLN := Lib.hid H7.out.len; rw [HJ2.out] at HLN; clear b7)
              | (go_at_call 18; refine HLN.out.mono ?_; rintro e w8 ⟨rfl, rfl⟩))
            go_roundw
            case rel =>
              refine ⟨i + 1, S2, some (g, J2), sure, T, true, rfl, rfl, by simp, by omega, H7.out.mono (fun b hb => ?_), Q4.out.1.below B7.out, (Q4.out.2.2.lower HAL.out.below.size).below B7.out, hsl, hmx, HI2.out⟩
              rcases hb with hb | hb
              · exact .inl (.inl (.inl hb))
              · exact .inr hb
            case measure => simp [intOf]; omega
          as_aux_lemma =>
          have HI2 := Lib.hid (HW.out.els (by show ¬ (er = 0 ∨ er = 9 ∨ er = 10); omega))
          have HJ2 := Lib.hid (HI2.out.own J2 rfl).1
          have HDK : Hid (∀ w', Calls Tryd.prog 15 #[.int .i64 er] w' fun e w2 => e = .returned (.bool false) ∧ w' = w2) := Lib.hid fun w' => by
            have := disky_any er w'
            rwa [decide_eq_false r9] at this
          have rq0 : (er == 0) = false := beq_eq_false_iff_ne.2 r0
          clear HW r9 r0
          go_wp2_with (first
            | (go_at_call 13; refine HAP.out.mono ?_; rintro e w4 ⟨rfl, h4, s4⟩; have H4 := Lib.hid h4; have Q4 := Lib.hid (HC3.out _ s4); have L4 := Lib.hid h4.room; have HA4 := Lib.hid h4.all; clear h4 s4)
            | (go_at_call 15; refine (HDK.out _).mono ?_; rintro e w5 ⟨rfl, rfl⟩)
            | (go_at_call 17; refine HA4.out.mono ?_; rintro e w6 ⟨v6, rfl, g6, b6⟩; obtain ⟨A6, c6, rfl, r6⟩ := Sls.Grow.row g6; have R6 := Lib.hid r6; have B6 := Lib.hid b6; clear g6 b6 r6)
            | (go_at_call 16; obtain ⟨Ax, cx, ex, rx⟩ := Sls.Grow.row Q4.out.1; injection ex with ex1 _ ex2; subst ex1 ex2; refine (same_rows R6.out rx B6.out HJ2.out (by have := L4.out; omega)).mono ?_; rintro e w7 ⟨rfl, b7⟩; have B7 := Lib.hid (next_below B6.out b7); have H7 := Lib.hid (H4.out.keep B7.out).1; have HLN := Lib.hid H7.out.len; rw [HJ2.out] at HLN; clear b7)
            | (go_at_call 18; refine HLN.out.mono ?_; rintro e w8 ⟨rfl, rfl⟩))
          go_roundw
          case rel => exact ⟨i + 1, S2, some (g, J2), sure, maybe, failed, rfl, rfl, by simp, by omega, H7.out.mono (fun b hb => .inl (.inl hb)), Q4.out.1.below B7.out, Q4.out.2.1.below B7.out, hsl, hml, HI2.out⟩
          case measure => simp [intOf]; omega
      by_cases d1 : a.kind = 1
      · as_aux_lemma =>
        rw [d1] at c0
        cases K with
        | none =>
          unfold jvar
          go_wp2_with fail
          go_roundw
          case rel => exact ⟨i + 1, S, none, sure, maybe, failed, rfl, rfl, by simp, by omega, HAL.out.mono (fun b hb => .inl hb), HSA.out, HMA.out, hsl, hml, HIN.out⟩
          case measure => simp [intOf]; omega
        | some x =>
          obtain ⟨g, J⟩ := x
          unfold jvar
          dsimp only
          obtain ⟨As, cs, rfl⟩ := HSA.out.slice
          obtain ⟨Am, cm, rfl⟩ := HMA.out.slice
          have hJL : J.L = sure := (HIN.out.own J rfl).1
          have hl8 := HK.out.l.1
          have HRS : Hid (Row wa wa.heap.size As (strs sure)) := Lib.hid (by
            obtain ⟨Ax, cx, ex, rx⟩ := Sls.Grow.row HSA.out
            injection ex with ex1 _ ex2
            subst ex1 ex2
            exact rx)
          have HRA : Hid (Row wa wa.heap.size Al (strs a.l)) := Lib.hid (HRL.out.lift HAL.out.below)
          have hbd : sure.length + a.l.length ≤ maxLen ∧ (sure.length + a.l.length) * 16 ≤ 140737488355328 := ⟨small_max (by omega), by omega⟩
          have HBD := Lib.hid hbd
          clear hbd
          go_upto_region 25 with (fail)
          try go_frame
          refine wp_region_sorted (fun w' => w'.cell? ⟨wr.heap.size, 1, none⟩ = some (.slice Al a.l.length cl)) [1, 3, 4] [0, 2, 5, 6] (by kernel_rfl) (by kernel_rfl) c1 ?_
          repeat refine RD.next rfl rfl (by intro w' hS; go_simp; with_reducible rfl) ?_
          refine RD.done ?_
          have bw1 : Below wa.heap.size wa (wa.alloc (.cells #[] 9)).drew := ((Below.refl _ wa).alloc (Nat.le_refl _) _).drew
          refine CH.next rfl rfl fun K hK => ?_
          go_simp
          refine hK _ _ ((bw1.cell (p := ⟨wr.heap.size, 1, none⟩) hob).trans c1) ?_
          clear hK
          refine CH.next rfl rfl fun K hK => ?_
          refine wp_append_src _ _ _ _ rfl wa.heap.size 9 i0 _ 1 16 Tryd.underlying32 hi0 hi1 hi2 hi3 rfl (by omega) (.slice (some ⟨wa.heap.size, 0, none⟩) 0 0) 0 [] (by simp [go_sem]) (Grow.bare wa 9 1).drew (.slice As sure.length cs) sure.length (strs sure) (by simp [go_sem]) (Sls.src_row' (HRS.out.lift bw1)) (by have := HBD.out.1; omega) (by have := HBD.out.2; omega) bw1.size ?_
          intro v2 w2 hown2 hg2 _
          simp only [Nat.zero_add, List.nil_append] at hown2
          have bw2 : Below wa.heap.size wa w2 := bw1.grown hg2 bw1.size (fun k hk => by simp [Value.ownBlock] at hk; omega)
          refine hK _ _ ((bw2.cell (p := ⟨wr.heap.size, 1, none⟩) hob).trans c1) ?_
          clear hK
          refine CH.next rfl rfl fun K hK => ?_
          refine wp_append_src _ _ _ _ rfl wa.heap.size 9 i0 _ 1 16 Tryd.underlying32 hi0 hi1 hi2 hi3 rfl (by omega) v2 sure.length (strs sure) (by simp [go_sem]) hown2 (.slice Al a.l.length cl) a.l.length (strs a.l) (by simp [go_sem]) (Sls.src_row' (HRA.out.lift bw2)) HBD.out.1 HBD.out.2 bw2.size ?_
          intro v3 w3 hown3 hg3 _
          have bw3 : Below wa.heap.size wa w3 := bw2.grown hg3 bw2.size (fun k hk => (hown2.block k hk).1)
          obtain ⟨T, hT⟩ : ∃ T, T = sure ++ a.l := ⟨_, rfl⟩
          have hTl : T.length = sure.length + a.l.length := by rw [hT, List.length_append]
          have G3 : Hid (Grow w3 wa.heap.size 1 v3 T.length (strs T)) := Lib.hid (by rw [hTl, hT, show strs (sure ++ a.l) = strs sure ++ strs a.l from List.map_append]; exact hown3)
          have HTT := Lib.hid hT
          have HTl := Lib.hid hTl
          clear hT hTl
          refine hK _ _ ((bw3.cell (p := ⟨wr.heap.size, 1, none⟩) hob).trans c1) ?_
          clear hK
          refine CH.next rfl rfl fun K hK => ?_
          go_simp
          refine hK _ _ ((bw3.cell (p := ⟨wr.heap.size, 1, none⟩) hob).trans c1) ?_
          clear hK
          refine CH.done (NoPanic.normal ?_)
          try go_frame
          have B3 := Lib.hid bw3
          have d0 := (bw3.cell (p := ⟨wr.heap.size, 0, none⟩) hob).trans c0
          have d1 := (bw3.cell (p := ⟨wr.heap.size, 1, none⟩) hob).trans c1
          have d2' := (bw3.cell (p := ⟨wr.heap.size, 2, none⟩) hob).trans c2
          clear c0 c1 c2 c3 bw1 bw2 bw3 hown2 hown3 hg2 hg3 HRS hJL
          obtain ⟨A3, cp3, rfl⟩ := G3.out.slice
          have JS3 := Lib.hid (HAL.out.keep B3.out).1
          have HAP := Lib.hid (JS3.out.cut a.n HFI.out.n.1 HFI.out.n.2)
          have HC3 : Hid (∀ w', SameF (fun b => ((Value.slice As sure.length cs).ownBlock = some b ∨ (Value.slice Am maybe.length cm).ownBlock = some b) ∨ b = wr.heap.size) w3 w' → w'.cell? ⟨wr.heap.size, 2, none⟩ = some (.int .i64 a.n) ∧ Grow w' W.heap.size 1 (Value.slice As sure.length cs) sure.length (strs sure) ∧ Grow w' W.heap.size 1 (Value.slice Am maybe.length cm) maybe.length (strs maybe)) := Lib.hid fun w' h => ⟨(h.cell (.inr rfl)).trans d2', h.row (HSA.out.below B3.out) (fun b hb => .inl (.inl hb)), h.row (HMA.out.below B3.out) (fun b hb => .inl (.inr hb))⟩
          obtain ⟨T2, hT2⟩ : ∃ T2, T2 = sure.take (max 0 (min a.n sure.length)).toNat := ⟨_, rfl⟩
          have hm : (max 0 (min a.n sure.length)).toNat = T2.length := by rw [hT2, List.length_take]; omega
          have hst : strs T2 = (strs sure).take T2.length := by rw [← hm, hT2]; exact List.map_take
          have hms : T2.length ≤ sure.length := by omega
          have HW : Hid (Went 3 sure maybe T2 failed (J.cut S a.n)) := Lib.hid (by rw [hT2]; exact HIN.out.cut a.n)
          have HM := Lib.hid hm
          have HST := Lib.hid hst
          clear JS3 HIN hm G3 HTT HTl hT2 hst
          generalize J.cut S a.n = X at *
          obtain ⟨er, J2, S2⟩ := X
          dsimp only at HAP HW
          go_upto_region 30 with (go_at_call 14; go_must (refine HAP.out.mono ?_; rintro e w4 ⟨rfl, h4, s4⟩; have H4 := Lib.hid h4; have k4 := (HC3.out _ s4).1; have Q4 := Lib.hid (HC3.out _ s4).2; have hz4 := s4.1; clear h4 s4))
          clear d0 d1 d2' HC3
          go_cut [14] (fun v14 wx => Grow wx w4.heap.size 1 v14 T2.length (strs T2) ∧ Below w4.heap.size w4 wx)
          case first =>
            have hob4 : wr.heap.size < w4.heap.size := by have := B3.out.size; omega
            have hcap := grow_cap Q4.out.1
            have bw4 : Below w4.heap.size w4 (w4.alloc (.cells #[] 9)) := (Below.refl _ w4).alloc (Nat.le_refl _) _
            have k5 := (bw4.cell (p := ⟨wr.heap.size, 2, none⟩) hob4).trans k4
            have HRT : Hid (Row w4 w4.heap.size As (strs T2)) := Lib.hid (by
              obtain ⟨Ax, cx, ex, rx⟩ := Sls.Grow.row Q4.out.1
              injection ex with ex1 _ ex2
              subst ex1 ex2
              intro k u hu
              rw [HST.out, List.getElem?_take] at hu
              split at hu
              · exact rx k u hu
              · cases hu)
            have BW4 := Lib.hid bw4
            clear bw4
            go_wp2_with (at_builtin; go_must (refine wpList_append_src _ rfl (.tmp 81) (.tmp 89) _ _ rfl w4.heap.size 9 i0 _ 1 16 Tryd.underlying32 hi0 hi1 hi2 hi3 rfl (by omega) (.slice (some ⟨w4.heap.size, 0, none⟩) 0 0) 0 [] (by simp [go_sem]) (Grow.bare w4 9 1) (.slice As T2.length cs) T2.length (strs T2) (by have := HM.out; simp [go_sem]; omega) (Sls.src_row' (HRT.out.lift BW4.out)) (small_max (by omega)) (by omega) BW4.out.size ?_; intro v8 w8 hown8 hg8 _; have BX := Lib.hid (BW4.out.grown hg8 BW4.out.size (fun k hk => by simp [Value.ownBlock] at hk; omega)); have GX := Lib.hid hown8; clear hown8 hg8))
            all_goals first | (exfalso; omega) | skip
            all_goals
              go_meet
              case rel => exact ⟨by have := GX.out; rwa [Nat.zero_add, List.nil_append] at this, BX.out⟩
          case rest =>
            obtain ⟨hg5, hb5⟩ := hcut
            obtain ⟨A5, c5, rfl⟩ := hg5.slice
            have JS5 := Lib.hid (H4.out.more (G := (fun b => (((Value.slice As sure.length cs).ownBlock = some b ∨ (Value.slice Am maybe.length cm).ownBlock = some b) ∨ b = wr.heap.size) ∨ (Value.slice A5 T2.length c5).ownBlock = some b)) hb5 (fun x hx => by
              rcases hx with hx | hx
              · exact .inl hx
              · exact .inr (hg5.block x hx)))
            have G5 := Lib.hid hg5
            have QS := Lib.hid (Q4.out.1.below hb5)
            have QM := Lib.hid (Q4.out.2.below hb5)
            have HA5 := Lib.hid JS5.out.all
            have L5 := Lib.hid JS5.out.room
            have hsz := H4.out.below.size
            clear hg5 hb5 k4 Q4 B3
            by_cases r0 : er = 0
            · as_aux_lemma =>
              subst r0
              have HI2 := Lib.hid (HW.out.ok rfl)
              have HJ2 := Lib.hid (HI2.out.own J2 rfl).1
              have HDK : Hid (∀ w', Calls Tryd.prog 15 #[.int .i64 0] w' fun e w2 => e = .returned (.bool false) ∧ w' = w2) := Lib.hid fun w' => by
                have := disky_any 0 w'
                rwa [decide_eq_false (by omega)] at this
              clear HW
              go_wp2_with (first
                | (go_at_call 15; refine (HDK.out _).mono ?_; rintro e w5 ⟨rfl, rfl⟩)
                | (go_at_call 17; refine HA5.out.mono ?_; rintro e w6 ⟨v6, rfl, g6, b6⟩; obtain ⟨A6, c6, rfl, r6⟩ := Sls.Grow.row g6; have R6 := Lib.hid r6; have B6 := Lib.hid b6; clear g6 b6 r6)
                | (go_at_call 16; obtain ⟨Ax, cx, ex, rx⟩ := Sls.Grow.row G5.out; injection ex with ex1 _ ex2; subst ex1 ex2; refine (same_rows R6.out rx B6.out HJ2.out (by have := L5.out; omega)).mono ?_; rintro e w7 ⟨rfl, b7⟩; have B7 := Lib.hid (next_below B6.out b7); have H7 := Lib.hid (JS5.out.keep B7.out).1; have HLN := Lib.hid H7.out.len; rw [HJ2.out] at HLN; clear b7)
                | (go_at_call 18; refine HLN.out.mono ?_; rintro e w8 ⟨rfl, rfl⟩))
              go_roundw
              case rel =>
                refine ⟨i + 1, S2, some (g, J2), T2, maybe, failed, rfl, rfl, by simp, by omega, H7.out.mono (fun b hb => ?_), (G5.out.lower hsz).below B7.out, QM.out.below B7.out, by omega, hml, HI2.out⟩
                rcases hb with hb | hb
                · exact .inr hb
                · exact .inl (.inl (.inr hb))
              case measure => simp [intOf]; omega
            by_cases r9 : er = 9 ∨ er = 10
            · as_aux_lemma =>
              have HI2 := Lib.hid (HW.out.dsk r9)
              have HJ2 := Lib.hid (HI2.out.own J2 rfl).1
              have HDK : Hid (∀ w', Calls Tryd.prog 15 #[.int .i64 er] w' fun e w2 => e = .returned (.bool true) ∧ w' = w2) := Lib.hid fun w' => by
                have := disky_any er w'
                rwa [decide_eq_true r9] at this
              have rq0 : (er == 0) = false := beq_eq_false_iff_ne.2 r0
              clear HW r9 r0
              go_wp2_with (first
                | (go_at_call 15; refine (HDK.out _).mono ?_; rintro e w5 ⟨rfl, rfl⟩)
                | (go_at_call 17; refine HA5.out.mono ?_; rintro e w6 ⟨v6, rfl, g6, b6⟩; obtain ⟨A6, c6, rfl, r6⟩ := Sls.Grow.row g6; have R6 := Lib.hid r6; have B6 := Lib.hid b6; clear g6 b6 r6)
                | (go_at_call 16; obtain ⟨Ax, cx, ex, rx⟩ := Sls.Grow.row QS.out; injection ex with ex1 _ ex2; subst ex1 ex2; refine (same_rows R6.out rx B6.out HJ2.out (by have := L5.out; omega)).mono ?_; rintro e w7 ⟨rfl, b7⟩; have B7 := Lib.hid (next_below B6.out b7); have H7 := Lib.hid (JS5.out.keep B7.out).1; have HLN := Lib.hid H7.out.len; rw [HJ2.out] at HLN; clear b7)
                | (go_at_call 18; refine HLN.out.mono ?_; rintro e w8 ⟨rfl, rfl⟩))
              go_roundw
              case rel =>
                refine ⟨i + 1, S2, some (g, J2), sure, T2, true, rfl, rfl, by simp, by omega, H7.out.mono (fun b hb => ?_), QS.out.below B7.out, (G5.out.lower hsz).below B7.out, hsl, by omega, HI2.out⟩
                rcases hb with hb | hb
                · exact .inl (.inl (.inl hb))
                · exact .inr hb
              case measure => simp [intOf]; omega
            as_aux_lemma =>
            have HI2 := Lib.hid (HW.out.els (by show ¬ (er = 0 ∨ er = 9 ∨ er = 10); omega))
            have HJ2 := Lib.hid (HI2.out.own J2 rfl).1
            have HDK : Hid (∀ w', Calls Tryd.prog 15 #[.int .i64 er] w' fun e w2 => e = .returned (.bool false) ∧ w' = w2) := Lib.hid fun w' => by
              have := disky_any er w'
              rwa [decide_eq_false r9] at this
            have rq0 : (er == 0) = false := beq_eq_false_iff_ne.2 r0
            clear HW r9 r0
            go_wp2_with (first
              | (go_at_call 15; refine (HDK.out _).mono ?_; rintro e w5 ⟨rfl, rfl⟩)
              | (go_at_call 17; refine HA5.out.mono ?_; rintro e w6 ⟨v6, rfl, g6, b6⟩; obtain ⟨A6, c6, rfl, r6⟩ := Sls.Grow.row g6; have R6 := Lib.hid r6; have B6 := Lib.hid b6; clear g6 b6 r6)
              | (go_at_call 16; obtain ⟨Ax, cx, ex, rx⟩ := Sls.Grow.row QS.out; injection ex with ex1 _ ex2; subst ex1 ex2; refine (same_rows R6.out rx B6.out HJ2.out (by have := L5.out; omega)).mono ?_; rintro e w7 ⟨rfl, b7⟩; have B7 := Lib.hid (next_below B6.out b7); have H7 := Lib.hid (JS5.out.keep B7.out).1; have HLN := Lib.hid H7.out.len; rw [HJ2.out] at HLN; clear b7)
              | (go_at_call 18; refine HLN.out.mono ?_; rintro e w8 ⟨rfl, rfl⟩))
            go_roundw
            case rel => exact ⟨i + 1, S2, some (g, J2), sure, maybe, failed, rfl, rfl, by simp, by omega, H7.out.mono (fun b hb => .inl (.inl hb)), QS.out.below B7.out, QM.out.below B7.out, hsl, hml, HI2.out⟩
            case measure => simp [intOf]; omega
      have e0 := beq_eq_false_iff_ne.2 d0
      have e1 := beq_eq_false_iff_ne.2 d1
      go_wp2_with fail
      go_roundw
      case rel => exact ⟨i + 1, S, K, sure, maybe, failed, rfl, rfl, by simp, by omega, HAL.out.mono (fun b hb => .inl hb), HSA.out, HMA.out, hsl, hml, HIN.out⟩
      case measure => simp [intOf]; omega
    · by_cases hgt : i = l.length
      · as_aux_lemma =>
        have hni : ¬ ((i : Int) < (l.length : Int)) := by omega
        have hal := HJS.out.alloc (.cells (opCells 4 none 0 0 0 A2 ks.length cp2) 34)
        have hsa := HSR.out.alloc (.cells (opCells 4 none 0 0 0 A2 ks.length cp2) 34)
        have hma := HMR.out.alloc (.cells (opCells 4 none 0 0 0 A2 ks.length cp2) 34)
        have hbk := Blk.fresh wr 34 (opCells 4 none 0 0 0 A2 ks.length cp2)
        obtain ⟨As, cs, rfl⟩ := hsa.slice
        obtain ⟨Am, cm, rfl⟩ := hma.slice
        have HAL : Hid (Js (fun b => ((Value.slice As sure.length cs).ownBlock = some b ∨ (Value.slice Am maybe.length cm).ownBlock = some b) ∨ b = wr.heap.size) W (wr.alloc (.cells (opCells 4 none 0 0 0 A2 ks.length cp2) 34)) p S K) := Lib.hid hal
        have HSA := Lib.hid hsa
        have HMA := Lib.hid hma
        have HC : Hid (∀ w', SameF (fun b => ((Value.slice As sure.length cs).ownBlock = some b ∨ (Value.slice Am maybe.length cm).ownBlock = some b) ∨ b = wr.heap.size) (wr.alloc (.cells (opCells 4 none 0 0 0 A2 ks.length cp2) 34)) w' → w'.cell? ⟨wr.heap.size, 0, none⟩ = some (.int .i64 4) ∧ w'.cell? ⟨wr.heap.size, 3, none⟩ = some (.slice A2 ks.length cp2) ∧ Grow w' W.heap.size 1 (Value.slice As sure.length cs) sure.length (strs sure) ∧ Grow w' W.heap.size 1 (Value.slice Am maybe.length cm) maybe.length (strs maybe)) := Lib.hid fun w' h => ⟨(h.cell (.inr rfl)).trans ((hbk.at 0).trans rfl), (h.cell (.inr rfl)).trans ((hbk.at 3).trans rfl), h.row HSA.out (fun b hb => .inl (.inl hb)), h.row HMA.out (fun b hb => .inl (.inr hb))⟩
        clear hal hsa hma hbk
        have HLS := Lib.hid (HAL.out.lose (n := 0) (by omega))
        have HAR : Hid (∀ w', Js (fun b => ((Value.slice As sure.length cs).ownBlock = some b ∨ (Value.slice Am maybe.length cm).ownBlock = some b) ∨ b = wr.heap.size) W w' p (S.lose 0) K → Calls Tryd.prog 12 #[ptr p, .int .i64 0, .slice none 0 0] w' fun e w2 => e = .returned (.tuple #[]) ∧ Js (fun b => ((Value.slice As sure.length cs).ownBlock = some b ∨ (Value.slice Am maybe.length cm).ownBlock = some b) ∨ b = wr.heap.size) W w2 p ((S.lose 0).arm 0 []) K ∧ SameF (fun b => ((Value.slice As sure.length cs).ownBlock = some b ∨ (Value.slice Am maybe.length cm).ownBlock = some b) ∨ b = wr.heap.size) w' w2) := Lib.hid fun w' h => h.arm (n := 0) (by omega) none 0 [] (fun k u hu => by simp at hu) (by decide)
        have HI2 := Lib.hid (((HIN.out.lose (n := 0) (by omega)).arm (n := 0) (ks := []) (by omega) (by decide)).crash ks)
        have HCA : Hid (Calm ((((S.lose 0).arm 0 []).crash ks).start)) := Lib.hid (Calm.crash rfl rfl ks)
        clear HIN HJS HSR HMR
        generalize (S.lose 0).arm 0 [] = SA at *
        have HCR := Lib.hid (fun w' (h : Js (fun b => ((Value.slice As sure.length cs).ownBlock = some b ∨ (Value.slice Am maybe.length cm).ownBlock = some b) ∨ b = wr.heap.size) W w' p SA none) => h.crash A2 cp2 ks HRK.out (by omega))
        have HST := Lib.hid (fun w' (h : Js (fun b => ((Value.slice As sure.length cs).ownBlock = some b ∨ (Value.slice Am maybe.length cm).ownBlock = some b) ∨ b = wr.heap.size) W w' p (SA.crash ks) none) => h.start)
        rcases HI2.out.opn (by omega) with ⟨_, _, _, h4⟩ | ⟨J2, h1, h2, h3, h4, _⟩
        · exact absurd HCA.out h4
        have HO : Hid (∀ w', Js (fun b => ((Value.slice As sure.length cs).ownBlock = some b ∨ (Value.slice Am maybe.length cm).ownBlock = some b) ∨ b = wr.heap.size) W w' p (SA.crash ks).start none → Calls Tryd.prog 10 #[ptr p, .int .i64 3] w' fun e w2 => ∃ g, e = .returned (.tuple #[ptr g, .int .i64 0]) ∧ Js (fun b => ((Value.slice As sure.length cs).ownBlock = some b ∨ (Value.slice Am maybe.length cm).ownBlock = some b) ∨ b = wr.heap.size) W w2 p (jopn (SA.crash ks).start 3).2.2 (some (g, J2)) ∧ SameF (fun b => ((Value.slice As sure.length cs).ownBlock = some b ∨ (Value.slice Am maybe.length cm).ownBlock = some b) ∨ b = wr.heap.size) w' w2) := Lib.hid fun w' h => h.open_some (n := 3) (by omega) (by rw [← h1, ← h2]; rfl)
        have HI3 := Lib.hid h4
        have e33 : jopn (SA.crash ks).start ((3 : Nat) : Int) = jopn (SA.crash ks).start 3 := rfl
        rw [e33] at HI3
        have HOR := Lib.hid h3
        clear h1 h2 h3 h4 HI2 HCA e33
        generalize jopn (SA.crash ks).start 3 = X at *
        obtain ⟨er, oj, S2⟩ := X
        dsimp only at HO HI3
        by_cases hs : J2.L = sure
        · as_aux_lemma =>
          have HSS := Lib.hid hs
          clear hs
          go_wp2_with (first
            | (go_at_call 11; refine HLS.out.mono ?_; rintro e w4 ⟨rfl, h4, s4⟩; have H4 := Lib.hid h4; have S4 := Lib.hid s4; clear h4 s4)
            | (go_at_call 12; refine (HAR.out _ H4.out).mono ?_; rintro e w5 ⟨rfl, h5, s5⟩; have H5 := Lib.hid h5; have S5 := Lib.hid (S4.out.trans s5); clear h5 s5; have c0 := (HC.out _ S5.out).1; have c3 := (HC.out _ S5.out).2.1)
            | (go_at_call 19; refine (HCR.out _ H5.out.drop).mono ?_; rintro e w6 ⟨rfl, h6, s6⟩; have H6 := Lib.hid h6; have S6 := Lib.hid (S5.out.trans s6); clear h6 s6 c0 c3)
            | (go_at_call 20; refine (HST.out _ H6.out).mono ?_; rintro e w7 ⟨rfl, h7, s7⟩; have H7 := Lib.hid h7; have S7 := Lib.hid (S6.out.trans s7); clear h7 s7)
            | (go_at_call 10; refine (HO.out _ H7.out).mono ?_; rintro e w8 ⟨g8, rfl, h8, s8⟩; have H8 := Lib.hid h8; have Q8 := Lib.hid (HC.out _ (S7.out.trans s8)).2.2; have L8 := Lib.hid h8.room; have HA8 := Lib.hid h8.all; clear h8 s8)
            | (go_at_call 17; ((with_reducible refine HA8.out.mono ?_); rintro e w9 ⟨v9, rfl, g9, b9⟩); obtain ⟨A9, c9, rfl, r9⟩ := Sls.Grow.row g9; have R9 := Lib.hid r9; have B9 := Lib.hid b9; clear g9 b9 r9 HA8)
            | (go_at_call 16; obtain ⟨Ax, cx, ex, rx⟩ := Sls.Grow.row Q8.out.1; injection ex with ex1 _ ex2; subst ex1 ex2; refine (same_rows R9.out rx B9.out HSS.out (by have := L8.out; omega)).mono ?_; rintro e w10 ⟨rfl, b10⟩; have B10 := Lib.hid (next_below B9.out b10); have H10 := Lib.hid (H8.out.keep B10.out).1; have HA10 := Lib.hid H10.out.all; clear b10)
            | (go_at_call 17; refine HA10.out.mono ?_; rintro e w11 ⟨v11, rfl, g11, b11⟩; have G11 := Lib.hid g11; have B11 := Lib.hid b11; clear g11 b11))
          go_roundw
          case rel =>
            refine ⟨i + 1, S2, some (g8, J2), J2.L, maybe, false, rfl, rfl, by simp [hgt], by omega, H10.out.more B11.out (fun x hx => ?_), G11.out.lower H10.out.below.size, (Q8.out.2.below B10.out).below B11.out, L8.out.2, hml, HI3.out⟩
            rcases hx with hx | hx
            · exact .inr (G11.out.block x hx)
            · exact .inl (.inl (.inr hx))
          case measure => simp [intOf]; omega
        obtain ⟨hf, hm⟩ := HOR.out.resolve_left hs
        subst hf
        have HSS := Lib.hid hm
        have HNS := Lib.hid hs
        clear hm hs
        go_wp2_with (first
          | (go_at_call 11; refine HLS.out.mono ?_; rintro e w4 ⟨rfl, h4, s4⟩; have H4 := Lib.hid h4; have S4 := Lib.hid s4; clear h4 s4)
          | (go_at_call 12; refine (HAR.out _ H4.out).mono ?_; rintro e w5 ⟨rfl, h5, s5⟩; have H5 := Lib.hid h5; have S5 := Lib.hid (S4.out.trans s5); clear h5 s5; have c0 := (HC.out _ S5.out).1; have c3 := (HC.out _ S5.out).2.1)
          | (go_at_call 19; refine (HCR.out _ H5.out.drop).mono ?_; rintro e w6 ⟨rfl, h6, s6⟩; have H6 := Lib.hid h6; have S6 := Lib.hid (S5.out.trans s6); clear h6 s6 c0 c3)
          | (go_at_call 20; refine (HST.out _ H6.out).mono ?_; rintro e w7 ⟨rfl, h7, s7⟩; have H7 := Lib.hid h7; have S7 := Lib.hid (S6.out.trans s7); clear h7 s7)
          | (go_at_call 10; refine (HO.out _ H7.out).mono ?_; rintro e w8 ⟨g8, rfl, h8, s8⟩; have H8 := Lib.hid h8; have Q8 := Lib.hid (HC.out _ (S7.out.trans s8)).2.2; have L8 := Lib.hid h8.room; have HA8 := Lib.hid h8.all; clear h8 s8)
          | (go_at_call 17; ((with_reducible refine HA8.out.mono ?_); rintro e w9 ⟨v9, rfl, g9, b9⟩); obtain ⟨A9, c9, rfl, r9⟩ := Sls.Grow.row g9; have R9 := Lib.hid r9; have B9 := Lib.hid b9; have BD := Lib.hid trivial; clear g9 b9 r9 HA8)
          | (go_at_call 16; clear BD; obtain ⟨Ax, cx, ex, rx⟩ := Sls.Grow.row Q8.out.1; injection ex with ex1 _ ex2; subst ex1 ex2; refine (differ_rows R9.out rx B9.out HNS.out (by have := L8.out; omega) (by omega)).mono ?_; rintro e w10 ⟨rfl, b10⟩; have B10 := Lib.hid (next_below B9.out b10); have H10 := Lib.hid (H8.out.keep B10.out).1; have HA10 := Lib.hid H10.out.all; clear b10)
          | (go_at_call 17; ((with_reducible refine HA10.out.mono ?_); rintro e w12 ⟨v12, rfl, g12, b12⟩); obtain ⟨A12, c12, rfl, r12⟩ := Sls.Grow.row g12; have R12 := Lib.hid r12; have B12 := Lib.hid b12; clear g12 b12 r12 HA10)
          | (go_at_call 16; obtain ⟨Ay, cy, ey, ry⟩ := Sls.Grow.row (Q8.out.2.below B10.out); injection ey with ey1 _ ey2; subst ey1 ey2; refine (same_rows R12.out ry B12.out HSS.out (by have := L8.out; omega)).mono ?_; rintro e w13 ⟨rfl, b13⟩; have B13 := Lib.hid (next_below B10.out (next_below B12.out b13)); have H13 := Lib.hid (H8.out.keep B13.out).1; have HA13 := Lib.hid H13.out.all; clear b13)
          | (go_at_call 17; refine HA13.out.mono ?_; rintro e w11 ⟨v11, rfl, g11, b11⟩; have G11 := Lib.hid g11; have B11 := Lib.hid b11; clear g11 b11))
        go_roundw
        case rel =>
          refine ⟨i + 1, S2, some (g8, J2), J2.L, maybe, false, rfl, rfl, by simp [hgt], by omega, H13.out.more B11.out (fun x hx => ?_), G11.out.lower H13.out.below.size, (Q8.out.2.below B13.out).below B11.out, L8.out.2, hml, HI3.out⟩
          rcases hx with hx | hx
          · exact .inr (G11.out.block x hx)
          · exact .inl (.inl (.inr hx))
        case measure => simp [intOf]; omega
      · have hni : ¬ ((i : Int) ≤ (l.length : Int)) := by omega
        go_wp2_with fail
        go_ret
        exact ⟨rfl, HJS.out.below⟩
end Dsk
end Go.Proofs.YtpogoalbnbekaaaDoor

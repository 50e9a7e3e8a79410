/- JournalStays: the walk. -/
import Derived.Test.YtpogoalbnbekaaaDoorJop
namespace Go.Proofs.YtpogoalbnbekaaaDoor
open Go.RowKit Wire
set_option linter.unusedVariables false
set_option linter.unusedSimpArgs false
open Txt
open Sls (strs)
namespace Dsk

/-- The variable of a journal. -/
def jvar : Option (Nat × Jl) → Value
  | none => .pointer none
  | some x => ptr x.1
theorem row_old {W : World} {A : Option Addr} {l : List ByteArray} (h : Row W W.heap.size A (strs l)) : ∀ b o, A = some ⟨b, o, none⟩ → l ≠ [] → b < W.heap.size := by
  intro b o e hl
  cases l with
  | nil => exact absurd rfl hl
  | cons s r =>
    obtain ⟨b', o', e', h1, _⟩ := h 0 _ rfl
    rw [e] at e'
    injection e' with e'
    injection e' with e1 _ _
    omega
/-- Some list is sure. -/
def LInvE (f : Nat) (S : St) (j : Option Jl) : Prop := ∃ sure maybe failed, LInv f S j sure maybe failed
section
variable {f : Nat} {S : St} {J : Jl} {j : Option Jl} {sure maybe next : List ByteArray} {failed : Bool}
theorem Went.any {R : Int × Jl × St} (h : Went f sure maybe next failed R) : LInvE f R.2.2 (some R.2.1) := by
  by_cases h0 : R.1 = 0
  · exact ⟨_, _, _, h.ok h0⟩
  · by_cases h1 : R.1 = 9 ∨ R.1 = 10
    · exact ⟨_, _, _, h.dsk h1⟩
    · exact ⟨_, _, _, h.els (by omega)⟩
theorem LInvE.append (h : LInvE f S (some J)) (l : List ByteArray) : LInvE f (J.append S l).2.2 (some (J.append S l).2.1) := by
  obtain ⟨_, _, _, h⟩ := h
  exact (h.append l).any
theorem LInvE.cut (h : LInvE f S (some J)) (n : Int) : LInvE f (J.cut S n).2.2 (some (J.cut S n).2.1) := by
  obtain ⟨_, _, _, h⟩ := h
  exact (h.cut n).any
theorem LInvE.lose (h : LInvE f S j) {n : Int} (hn : n ≤ 9223372036854775807) : LInvE f (S.lose n) j := by
  obtain ⟨_, _, _, h⟩ := h
  exact ⟨_, _, _, h.lose hn⟩
theorem LInvE.again (h : LInvE f S j) (hf : f ≤ 14) (ks : List Int) : (∃ er S2, jopn (S.crash ks).start f = (er, none, S2) ∧ LInvE f S2 none) ∨ ∃ er S2 J2, jopn (S.crash ks).start f = (er, some J2, S2) ∧ LInvE f S2 (some J2) := by
  obtain ⟨_, _, _, h⟩ := h
  rcases (h.crash ks).opn hf with ⟨h1, _, h3, _⟩ | ⟨J2, h1, h2, _, h4, _⟩
  · exact .inl ⟨_, _, by rw [← h1], _, _, _, h3⟩
  · exact .inr ⟨_, _, J2, by rw [← h2], _, _, _, h4⟩
/-- What Append leaves where it fails, or is done. -/
theorem append_err (h : (J.append S sure).1 ≠ 0) : (J.append S sure).2.1.L = J.L := by
  unfold Jl.append at h ⊢
  split
  · rfl
  · rename_i h1
    rw [if_neg h1] at h
    split
    · rfl
    · rename_i h2
      rw [if_neg h2] at h
      split
      · rfl
      · rename_i h3
        rw [if_neg h3] at h
        split
        · rfl
        · rename_i h4
          rw [if_neg h4] at h
          split
          · rfl
          · rename_i h5
            rw [if_neg h5] at h
            unfold Jl.note at h ⊢
            split
            · rfl
            · rename_i h6
              rw [if_neg h6] at h
              exact absurd rfl h
theorem append_good (h : LInvE f S (some J)) (h0 : (J.append S next).1 = 0) : (J.append S next).2.1.L = J.L ++ next ∧ RelJ f (J.append S next).2.2 (J.append S next).2.1 := by
  obtain ⟨s, m, fl, h⟩ := h
  have hb : J.bad = false := by
    cases hb : J.bad with
    | false => rfl
    | true =>
      rw [append_bad hb] at h0
      cases h0
  have hb2 : (J.append S next).2.1.bad = false := by
    obtain ⟨hL, hg⟩ := h.own J rfl
    have hR := (hg hb).1
    by_cases hl : next = []
    · rw [hl, hR.append_nil]
      exact hb
    · by_cases hr : (form (J.L ++ next)).length ≤ 1048576
      · rcases (hR.append next hl hr).1 with ⟨_, _, k⟩ | ⟨k, _⟩
        · exact k.good
        · omega
      · rw [hR.append_full next hl (by omega)] at h0
        cases h0
  have hw := (h.append next).ok h0
  obtain ⟨hL, hg⟩ := h.own J rfl
  obtain ⟨hL2, hg2⟩ := hw.own _ rfl
  exact ⟨by rw [hL2, hL], (hg2 hb2).1⟩
/-- Where no sync is lost, a restart opens the same list. -/
theorem RelJ.again (h : RelJ f S J) (hl : S.lost = 0) (ks : List Int) : ∃ J2 S2, jopn (S.crash ks).start f = (0, some J2, S2) ∧ J2.L = J.L ∧ RelJ f S2 J2 ∧ S2.lost = 0 := by
  obtain ⟨J2, h1, h2, h3, h4, h5⟩ := (h.can.crash ks).start.opn_calm h.lt (Calm.again h.up hl ks)
  exact ⟨J2, _, by rw [← h1, ← h2], h3, h4, h5.lost⟩
end

/-- A row of F has grown. -/
theorem Js.grown {F : Nat → Prop} {W w w' : World} {p : Nat} {S : St} {K : Option (Nat × Jl)} {r : Option Nat} {v' : Value} (h : Js F W w p S K) (hg : w.grownBy w' r) (hr : ∀ m, r = some m → F m) (hW : ∀ b, F b → W.heap.size ≤ b) (hv : v'.ownBlock = r ∨ v'.ownBlock = some w.heap.size) (hin : ∀ b, v'.ownBlock = some b → b < w'.heap.size) : Js (fun b => v'.ownBlock = some b) W w' p S K := by
  have o : Only F w w' := Only.of_grown' hg (fun m e => .inl (hr m e))
  have hb1 := (h.poke o hW).below
  obtain ⟨hb, hk, ho, D, hp, hd, hf, hF, hK⟩ := h
  refine ⟨hb1, hk, ho, D, hp, hd.only o (fun b hb2 e => (hF b e).2 hb2), hf, fun y hy => ⟨hin y hy, ?_⟩, fun x hx => ?_⟩
  · rcases hv with hv | hv
    · rw [hy] at hv
      exact (hF y (hr y hv.symm)).2
    · rw [hy] at hv
      injection hv with hv
      subst hv
      exact fun e => by have := hd.inside _ e; omega
  · obtain ⟨O, h1, h2, h3⟩ := hK x hx
    refine ⟨O, h1, h2.only o (fun b hb => (h3 b hb).2.2), fun y hy => ⟨(h3 y hy).1, (h3 y hy).2.1, fun e => ?_⟩⟩
    rcases hv with hv | hv
    · rw [e] at hv
      exact (h3 y hy).2.2 (hr y hv.symm)
    · rw [e] at hv
      injection hv with hv
      subst hv
      have := h2.inside _ hy
      omega
/-- Two rows compared. -/
theorem same_rows {w w' : World} {A A' : Option Addr} {c c' : Nat} {l m : List ByteArray} (h1 : Row w' w'.heap.size A (strs l)) (h2 : Row w w.heap.size A' (strs m)) (hb : Below w.heap.size w w') (he : l = m) (hn : l.length ≤ 9223372036854775807) :
    Calls Tryd.prog 16 #[.slice A l.length c, .slice A' m.length c'] w' fun e w2 => e = .returned (.bool true) ∧ Below w'.heap.size w' w2 := by
  subst he
  have := Wr.sameTexts_all A A' c c' l l hn hn w' h1 (h2.lift hb)
  rwa [decide_eq_true rfl] at this
/-- The head of a round of the first loop. -/
structure StjRel (W : World) (p : Nat) (l : List Opr) (jv iv : Value) (wr : World) (i : Nat) (S : St) (K : Option (Nat × Jl)) : Prop where
  jv : jv = jvar K
  iv : iv = .int .i64 i
  le : i ≤ l.length
  js : Js (fun _ => False) W wr p S K
  inv : LInvE 0 S (K.map Prod.snd)
/-- .. of the second one. -/
structure StkRel (W : World) (p : Nat) (L : List ByteArray) (wv jv iv : Value) (wr : World) (i g : Nat) (S : St) (J : Jl) : Prop where
  jv : jv = ptr g
  iv : iv = .int .i64 i
  le : i ≤ 2
  js : Js (fun b => wv.ownBlock = some b) W wr p S (some (g, J))
  row : Grow wr W.heap.size 1 wv L.length (strs L)
  rel : RelJ 0 S J
  list : J.L = L
  lost : S.lost = 0

set_option maxRecDepth 8000 in
set_option maxHeartbeats 4000000 in
theorem jstays_law (A : Option Addr) (cp : Nat) (l : List Opr) (A0 : Option Addr) (cp0 : Nat) (s : List ByteArray) (A1 : Option Addr) (cp1 : Nat) (k1 : List Int) (A2 : Option Addr) (cp2 : Nat) (k2 : List Int) (W : World) (ho : Off W) (hl : Ops W A l) (hs : Row W W.heap.size A0 (strs s)) (hsl : s.length ≤ maxLen)
    (hr1 : Row W W.heap.size A1 (k1.map (Value.int .i64))) (hk1 : k1.length ≤ maxLen) (hr2 : Row W W.heap.size A2 (k2.map (Value.int .i64))) (hk2 : k2.length ≤ maxLen) :
    Calls Tryd.prog 4 #[.slice A l.length cp, .slice A0 s.length cp0, .slice A1 k1.length cp1, .slice A2 k2.length cp2] W fun e w' => e = .returned (.bool true) ∧ Below W.heap.size W w' := by
  have HSM := Lib.hid (jsmall_any ho)
  have HOF := Lib.hid ho
  obtain ⟨i0, hi0, hi1, hi2, hi3⟩ := info_parts info_str
  have HS0 : Hid (Row W W.heap.size A0 (strs s)) := Lib.hid hs
  have HR1 : Hid (Row W W.heap.size A1 (k1.map (Value.int .i64))) := Lib.hid hr1
  have HR2 : Hid (Row W W.heap.size A2 (k2.map (Value.int .i64))) := Lib.hid hr2
  have HL := Lib.hid hl
  have hlen := hl.len
  unfold maxLen at hsl hk1 hk2
  clear ho hr1 hr2 hl hs
  go_enter Tryd.func4, Tryd.ntmps4
  go_wp2_with (first
    | (go_at_call 7; refine HSM.out.mono ?_; rintro e w1 ⟨rfl, h1⟩; have H1 := Lib.hid h1; clear h1 HSM)
    | (go_at_call 8; refine (few_any A cp l HL.out H1.out).mono ?_; rintro e w2 ⟨b, rfl, hb, b2⟩; have HB := Lib.hid hb; have B2 := Lib.hid (next_below H1.out b2); clear hb b2 H1; cases b))
  · go_ret
    exact ⟨rfl, B2.out⟩
  refine (short_any A0 cp0 s HS0.out B2.out (by omega)).mono ?_
  rintro e w3 ⟨b, rfl, hb, b3⟩
  have HSH := Lib.hid hb
  have B3 := Lib.hid (next_below B2.out b3)
  clear hb b3 B2
  cases b with
  | false =>
    go_wp2_with fail
    go_ret
    exact ⟨rfl, B3.out⟩
  | true =>
  have HFW := Lib.hid (HB.out trivial).2
  have hs8 := (HSH.out rfl).1
  clear HB HSH
  by_cases g1 : 50 < k1.length
  · go_wp2_with fail
    go_ret
    exact ⟨rfl, B3.out⟩
  by_cases g2 : 50 < k2.length
  · go_wp2_with fail
    go_ret
    exact ⟨rfl, B3.out⟩
  obtain ⟨J0, S0, q0, q1⟩ : ∃ J0 S0, jopn St.new 0 = (0, some J0, S0) ∧ LInvE 0 S0 (some J0) := by
    obtain ⟨J0, h1, h2, h3, h4, h5⟩ := (CanJ.new (f := 0) (by omega)).opn_calm (by omega) Calm.new
    exact ⟨J0, (jopn St.new ((0 : Nat) : Int)).2.2, by rw [← h1, ← h2]; rfl, _, [], _, LInv.of h4 []⟩
  have HO := Lib.hid (fun w' p (h : Js (fun _ => False) W w' p St.new none) => h.open_some (n := 0) (by omega) q0)
  have HI0 := Lib.hid q1
  clear q0 q1
  go_wp2_with (first
    | (go_at_call 9; refine (new_one B3.out).mono ?_; rintro e w4 ⟨p, rfl, h4⟩; have H4 := Lib.hid (Js.of h4 HOF.out); clear h4)
    | (go_at_call 10; refine (HO.out _ _ H4.out).mono ?_; rintro e w5 ⟨jg, rfl, h5, _⟩; have H5 := Lib.hid h5; clear h5 H4))
  clear HO
  go_loopw [11, 13] (fun jv iv wr => ∃ i S K, StjRel W p l jv iv wr i S K) (fun _ iv _ => l.length - (intOf iv).toNat)
  case atStart => exact ⟨0, S0, some (jg, J0), rfl, rfl, Nat.zero_le _, H5.out, HI0.out⟩
  case round =>
    obtain ⟨i, S, K, ⟨rfl, rfl, hi, hjs, hinv⟩⟩ := hrel
    have HJS := Lib.hid hjs
    have HIN := Lib.hid hinv
    clear hjs hinv H5 HI0
    by_cases hlt : i < l.length
    · obtain ⟨b, o, Al, cl, A', c', hat⟩ := HL.out.all hlt
      obtain ⟨rfl, x0, x1, x2, x3, hrl, hrow, hfit⟩ := hat wr HJS.out.below
      have hfw := HFW.out l[i] (List.getElem_mem hlt)
      clear hat
      generalize l[i] = a at *
      have HK := Lib.hid hfw
      have HFI := Lib.hid hfit
      have HRO := Lib.hid hrow
      have HRL : Hid (Row wr wr.heap.size Al (strs a.l) ∧ ∀ b o, Al = some ⟨b, o, none⟩ → a.l ≠ [] → b < W.heap.size ∨ False) := Lib.hid ⟨hrl.lift HJS.out.below, fun b o e hl => .inl (row_old hrl b o e hl)⟩
      clear hfw hfit hrow hrl
      by_cases d4 : a.kind = 4
      · have HCR := Lib.hid (HJS.out.drop.crash A' c' a.keep HRO.out (by have := HK.out.keep; omega))
        have HST := Lib.hid (fun w' (h : Js (fun _ => False) W w' p (S.crash a.keep) none) => h.start)
        rw [d4] at x0
        rcases HIN.out.again (by omega) a.keep with ⟨er, S2, q0, q1⟩ | ⟨er, S2, J2, q0, q1⟩
        · have HO := Lib.hid (fun w' (h : Js (fun _ => False) W w' p (S.crash a.keep).start none) => h.open_none (n := 0) (by omega) q0)
          have HI2 := Lib.hid q1
          clear q0 q1
          go_wp2_with (first
            | (go_at_call 19; refine HCR.out.mono ?_; rintro e w6 ⟨rfl, h6, _⟩; have H6 := Lib.hid h6; clear h6)
            | (go_at_call 20; refine (HST.out _ H6.out).mono ?_; rintro e w7 ⟨rfl, h7, _⟩; have H7 := Lib.hid h7; clear h7)
            | (go_at_call 10; refine (HO.out _ H7.out).mono ?_; rintro e w8 ⟨rfl, h8, _⟩; have H8 := Lib.hid h8; clear h8))
          go_roundw
          case rel => exact ⟨i + 1, S2, none, rfl, by simp, hlt, H8.out, HI2.out⟩
          case measure => simp [intOf]; omega
        · have HO := Lib.hid (fun w' (h : Js (fun _ => False) W w' p (S.crash a.keep).start none) => h.open_some (n := 0) (by omega) q0)
          have HI2 := Lib.hid q1
          clear q0 q1
          go_wp2_with (first
            | (go_at_call 19; refine HCR.out.mono ?_; rintro e w6 ⟨rfl, h6, _⟩; have H6 := Lib.hid h6; clear h6)
            | (go_at_call 20; refine (HST.out _ H6.out).mono ?_; rintro e w7 ⟨rfl, h7, _⟩; have H7 := Lib.hid h7; clear h7)
            | (go_at_call 10; refine (HO.out _ H7.out).mono ?_; rintro e w8 ⟨g8, rfl, h8, _⟩; have H8 := Lib.hid h8; clear h8))
          go_roundw
          case rel => exact ⟨i + 1, S2, some (g8, J2), rfl, by simp, hlt, H8.out, HI2.out⟩
          case measure => simp [intOf]; omega
      by_cases d2 : a.kind = 2
      · have HS := Lib.hid (HJS.out.lose HFI.out.n.2)
        have HR := Lib.hid (HIN.out.lose HFI.out.n.2)
        rw [d2] at x0
        go_wp2_with (go_at_call 11; refine HS.out.mono ?_; rintro e w6 ⟨rfl, h6, _⟩; have H6 := Lib.hid h6; clear h6)
        go_roundw
        case rel => exact ⟨i + 1, _, K, rfl, by simp, hlt, H6.out, HR.out⟩
        case measure => simp [intOf]; omega
      have e2 := beq_eq_false_iff_ne.2 d2
      have e4 := beq_eq_false_iff_ne.2 d4
      cases K with
      | none =>
        unfold jvar
        by_cases d0 : a.kind = 0
        · rw [d0] at x0
          go_wp2_with fail
          go_roundw
          case rel => exact ⟨i + 1, S, none, rfl, by simp, hlt, HJS.out, HIN.out⟩
          case measure => simp [intOf]; omega
        by_cases d1 : a.kind = 1
        · rw [d1] at x0
          go_wp2_with fail
          go_roundw
          case rel => exact ⟨i + 1, S, none, rfl, by simp, hlt, HJS.out, HIN.out⟩
          case measure => simp [intOf]; omega
        have e0 := beq_eq_false_iff_ne.2 d0
        have e1 := beq_eq_false_iff_ne.2 d1
        go_wp2_with fail
        go_roundw
        case rel => exact ⟨i + 1, S, none, rfl, by simp, hlt, HJS.out, HIN.out⟩
        case measure => simp [intOf]; omega
      | some x =>
        obtain ⟨jg2, J⟩ := x
        unfold jvar
        dsimp only
        by_cases d0 : a.kind = 0
        · rw [d0] at x0
          have HA := Lib.hid (HJS.out.append Al cl a.l HRL.out.1 HRL.out.2 (by have := HK.out.l.1; omega))
          have HR := Lib.hid (LInvE.append HIN.out a.l)
          go_wp2_with (go_at_call 13; refine HA.out.mono ?_; rintro e w6 ⟨rfl, h6, _⟩; have H6 := Lib.hid h6; clear h6)
          go_roundw
          case rel => exact ⟨i + 1, _, some (jg2, _), rfl, by simp, hlt, H6.out, HR.out⟩
          case measure => simp [intOf]; omega
        by_cases d1 : a.kind = 1
        · rw [d1] at x0
          have HA := Lib.hid (HJS.out.cut a.n HFI.out.n.1 HFI.out.n.2)
          have HR := Lib.hid (LInvE.cut HIN.out a.n)
          go_wp2_with (go_at_call 14; refine HA.out.mono ?_; rintro e w6 ⟨rfl, h6, _⟩; have H6 := Lib.hid h6; clear h6)
          go_roundw
          case rel => exact ⟨i + 1, _, some (jg2, _), rfl, by simp, hlt, H6.out, HR.out⟩
          case measure => simp [intOf]; omega
        have e0 := beq_eq_false_iff_ne.2 d0
        have e1 := beq_eq_false_iff_ne.2 d1
        go_wp2_with fail
        go_roundw
        case rel => exact ⟨i + 1, S, some (jg2, J), rfl, by simp, hlt, HJS.out, HIN.out⟩
        case measure => simp [intOf]; omega
    · cases K with
      | none =>
        unfold jvar
        go_wp2_with fail
        go_ret
        exact ⟨rfl, HJS.out.below⟩
      | some x =>
        obtain ⟨jg2, J⟩ := x
        unfold jvar
        dsimp only
        have hLr := HJS.out.room
        have HAL := Lib.hid HJS.out.all
        have HSRC : Hid (∀ w', Below W.heap.size W w' → Row w' w'.heap.size A0 (strs s)) := Lib.hid fun w' hb => HS0.out.lift hb
        have HAP : Hid (∀ G w', Js G W w' p S (some (jg2, J)) → Calls Tryd.prog 13 #[ptr jg2, .slice A0 s.length cp0] w' fun e w2 => e = .returned (.int .i64 (J.append S s).1) ∧ Js G W w2 p (J.append S s).2.2 (some (jg2, (J.append S s).2.1)) ∧ SameF G w' w2) := Lib.hid fun G w' h => h.append A0 cp0 s (HS0.out.lift h.below) (fun b o e hl => .inl (row_old HS0.out b o e hl)) (by omega)
        by_cases he : (J.append S s).1 = 0
        case neg =>
          have hJL := append_err he
          have q1 : ((J.append S s).1 == 0) = false := beq_eq_false_iff_ne.2 he
          have HAL2 : Hid (∀ G w', Js G W w' p (J.append S s).2.2 (some (jg2, (J.append S s).2.1)) → Calls Tryd.prog 17 #[ptr jg2] w' fun e w2 => ∃ v', e = .returned v' ∧ Grow w2 w'.heap.size 1 v' J.L.length (strs J.L) ∧ Below w'.heap.size w' w2) := Lib.hid fun G w' h => by
            have := h.all
            rwa [hJL] at this
          clear hJL he
          generalize J.append S s = X at *
          go_wp2_with (first
            | (go_at_call 17; ((with_reducible refine HAL.out.mono ?_); rintro e w6 ⟨v6, rfl, g6, b6⟩); have H6 : Hid (Js (fun b => v6.ownBlock = some b) W w6 p S (some (jg2, J))) := Lib.hid (HJS.out.more b6 (fun x hx => .inr (g6.block x hx))); have G6 := Lib.hid g6; obtain ⟨A6, c6, rfl⟩ := g6.slice; clear g6 b6 HAL)
            | (go_at_call 13; refine (HAP.out _ _ H6.out).mono ?_; rintro e w7 ⟨rfl, h7, s7⟩; have H7 := Lib.hid h7; have G7 := Lib.hid (s7.row G6.out (fun b hb => hb)); clear h7 s7)
            | (go_at_call 17; refine (HAL2.out _ _ H7.out).mono ?_; rintro e w8 ⟨v8, rfl, g8, b8⟩; obtain ⟨A8, c8, rfl, r8⟩ := Sls.Grow.row g8; have R8 := Lib.hid r8; have B8 := Lib.hid b8; clear g8 b8 r8)
            | (go_at_call 16; obtain ⟨A9, c9, e9, r9⟩ := Sls.Grow.row G7.out; injection e9 with e9 _ e10; subst e9 e10; refine (same_rows R8.out r9 B8.out rfl (by omega)).mono ?_; rintro e w9 ⟨rfl, b9⟩; have B9 := Lib.hid b9; clear b9))
          go_ret
          exact ⟨rfl, next_below H7.out.below (next_below B8.out B9.out)⟩
        obtain ⟨hJL, hRJ⟩ := append_good HIN.out he
        have HRJ := Lib.hid hRJ
        have HJL := Lib.hid hJL
        rw [he] at HAP
        clear hJL hRJ he
        generalize J.append S s = X at *
        obtain ⟨erX, J3, S3⟩ := X
        dsimp only at HAP HRJ HJL
        have hcap1 : J.L.length + s.length ≤ maxLen := small_max (by omega)
        have hcap2 : (J.L.length + s.length) * 16 ≤ 140737488355328 := by omega
        have HCAP := Lib.hid (And.intro hcap1 hcap2)
        clear hcap1 hcap2
        go_wp2_with (first
          | (go_at_call 17; ((with_reducible refine HAL.out.mono ?_); rintro e w6 ⟨v6, rfl, g6, b6⟩); have H6 : Hid (Js (fun b => v6.ownBlock = some b) W w6 p S (some (jg2, J))) := Lib.hid (HJS.out.more b6 (fun x hx => .inr (g6.block x hx))); have G6 := Lib.hid (g6.lower HJS.out.below.size); obtain ⟨A6, c6, rfl⟩ := g6.slice; clear g6 b6 HAL)
          | (go_at_call 13; refine (HAP.out _ _ H6.out).mono ?_; rintro e w7 ⟨rfl, h7, s7⟩; have H7 := Lib.hid h7; have G7 := Lib.hid (s7.row G6.out (fun b hb => hb)); clear h7 s7)
          | (at_builtin; go_must (refine wpList_append_src _ rfl (.tmp 120) (.tmp 121) _ _ rfl W.heap.size 9 i0 _ 1 16 Tryd.underlying32 hi0 hi1 hi2 hi3 rfl (by omega) _ _ _ rfl G7.out _ s.length (strs s) rfl (Sls.src_row' (HSRC.out _ H7.out.below)) HCAP.out.1 HCAP.out.2 H7.out.below.size ?_); intro v8 w8 hown8 hg8 hor8
             have H8 : Hid (Js (fun b => v8.ownBlock = some b) W w8 p S3 (some (jg2, J3))) := Lib.hid (H7.out.grown hg8 (fun m e => e) (fun b hb => (G7.out.block b hb).1) hor8 (fun b hb => (hown8.block b hb).2))
             have G8 : Hid (Grow w8 W.heap.size 1 v8 (J.L ++ s).length (strs (J.L ++ s))) := Lib.hid (by rw [List.length_append, show strs (J.L ++ s) = strs J.L ++ strs s from List.map_append]; exact hown8)
             have HL8 := Lib.hid (H8.out.lose (n := 0) (by omega))
             clear hown8 hg8 hor8)
          | (go_at_call 11; refine HL8.out.mono ?_; rintro e w9 ⟨rfl, h9, s9⟩; have H9 := Lib.hid h9; have G9 := Lib.hid (s9.row G8.out (fun b hb => hb)); clear h9 s9))
        have HRL := Lib.hid (HRJ.out.lose (n := 0) (by omega))
        have hlost : (S3.lose 0).lost = 0 := rfl
        have hw8 : (J.L ++ s).length = J.L.length + s.length := List.length_append
        generalize J.L ++ s = LW at *
        have hLW : LW.length ≤ 9223372036854775807 := by omega
        clear hLr hw8 HRJ HAP HSRC HCAP HJS HIN HL8 H8 G8 H7 G7 H6 G6
        generalize S3.lose 0 = S9 at *
        go_loopw [11, 16, 17] (fun jv iv _ wr => ∃ i g S J, StkRel W p LW v8 jv iv wr i g S J) (fun _ iv _ _ => 2 - (intOf iv).toNat)
        case atStart => exact ⟨0, jg2, S9, J3, rfl, rfl, by omega, H9.out, G9.out, HRL.out, HJL.out, hlost⟩
        case round =>
          obtain ⟨i, g, S, J, ⟨rfl, rfl, hi, hjs, hrow, hrel, hlist, hlost2⟩⟩ := hrel
          have HJS := Lib.hid hjs
          have HRW := Lib.hid hrow
          have HRE := Lib.hid hrel
          have HLI := Lib.hid hlist
          have HAL : Hid (Calls Tryd.prog 17 #[ptr g] wr fun e w2 => ∃ v', e = .returned v' ∧ Grow w2 wr.heap.size 1 v' LW.length (strs LW) ∧ Below wr.heap.size wr w2) := Lib.hid (by
            have := hjs.all
            rwa [hlist] at this)
          obtain ⟨Aw, cw, ew, rw8⟩ := Sls.Grow.row hrow
          have RW := Lib.hid rw8
          have HEW := Lib.hid ew
          clear hjs hrow hrel hlist H9 G9 HRL HJL hlost rw8
          rcases (by omega : i = 0 ∨ i = 1 ∨ i = 2) with rfl | rfl | rfl
          · obtain ⟨J4, S4, q0, q1, q2, q3⟩ := HRE.out.again hlost2 k1
            have HCR : Hid (∀ w', Js (fun b => v8.ownBlock = some b) W w' p S (some (g, J)) → Calls Tryd.prog 19 #[ptr p, .slice A1 k1.length cp1] w' fun e w2 => e = .returned (.tuple #[]) ∧ Js (fun b => v8.ownBlock = some b) W w2 p (S.crash k1) none ∧ SameF (fun b => v8.ownBlock = some b) w' w2) := Lib.hid fun w' h => h.drop.crash A1 cp1 k1 HR1.out (by omega)
            have HST := Lib.hid (fun w' (h : Js (fun b => v8.ownBlock = some b) W w' p (S.crash k1) none) => h.start)
            have HO := Lib.hid (fun w' (h : Js (fun b => v8.ownBlock = some b) W w' p (S.crash k1).start none) => h.open_some (n := 0) (by omega) q0)
            have HQ := Lib.hid (And.intro q1 (And.intro q2 q3))
            clear q0 q1 q2 q3 hlost2
            subst ew
            go_wp2_with (first
              | (go_at_call 17; refine HAL.out.mono ?_; rintro e w10 ⟨v10, rfl, g10, b10⟩; obtain ⟨A10, c10, rfl, r10⟩ := Sls.Grow.row g10; have R10 := Lib.hid r10; have B10 := Lib.hid b10; clear g10 b10 r10)
              | (go_at_call 16; refine (same_rows R10.out RW.out B10.out rfl (by omega)).mono ?_; rintro e w11 ⟨rfl, b11⟩; have H11 := Lib.hid (HJS.out.keep (next_below B10.out b11)); clear b11)
              | (go_at_call 19; refine (HCR.out _ H11.out.1).mono ?_; rintro e w12 ⟨rfl, h12, s12⟩; have H12 := Lib.hid h12; have S12 := Lib.hid (H11.out.2.trans s12); clear h12 s12)
              | (go_at_call 20; refine (HST.out _ H12.out).mono ?_; rintro e w13 ⟨rfl, h13, s13⟩; have H13 := Lib.hid h13; have S13 := Lib.hid (S12.out.trans s13); clear h13 s13)
              | (go_at_call 10; refine (HO.out _ H13.out).mono ?_; rintro e w14 ⟨g14, rfl, h14, s14⟩; have H14 := Lib.hid h14; have S14 := Lib.hid (S13.out.trans s14); clear h14 s14))
            exact ⟨⟨1, g14, S4, J4, rfl, rfl, by omega, H14.out, S14.out.row HRW.out (fun b hb => hb), HQ.out.2.1, HQ.out.1.trans HLI.out, HQ.out.2.2⟩, by simp [intOf]⟩
          · obtain ⟨J4, S4, q0, q1, q2, q3⟩ := HRE.out.again hlost2 k2
            have HCR : Hid (∀ w', Js (fun b => v8.ownBlock = some b) W w' p S (some (g, J)) → Calls Tryd.prog 19 #[ptr p, .slice A2 k2.length cp2] w' fun e w2 => e = .returned (.tuple #[]) ∧ Js (fun b => v8.ownBlock = some b) W w2 p (S.crash k2) none ∧ SameF (fun b => v8.ownBlock = some b) w' w2) := Lib.hid fun w' h => h.drop.crash A2 cp2 k2 HR2.out (by omega)
            have HST := Lib.hid (fun w' (h : Js (fun b => v8.ownBlock = some b) W w' p (S.crash k2) none) => h.start)
            have HO := Lib.hid (fun w' (h : Js (fun b => v8.ownBlock = some b) W w' p (S.crash k2).start none) => h.open_some (n := 0) (by omega) q0)
            have HQ := Lib.hid (And.intro q1 (And.intro q2 q3))
            clear q0 q1 q2 q3 hlost2
            subst ew
            go_wp2_with (first
              | (go_at_call 17; refine HAL.out.mono ?_; rintro e w10 ⟨v10, rfl, g10, b10⟩; obtain ⟨A10, c10, rfl, r10⟩ := Sls.Grow.row g10; have R10 := Lib.hid r10; have B10 := Lib.hid b10; clear g10 b10 r10)
              | (go_at_call 16; refine (same_rows R10.out RW.out B10.out rfl (by omega)).mono ?_; rintro e w11 ⟨rfl, b11⟩; have H11 := Lib.hid (HJS.out.keep (next_below B10.out b11)); clear b11)
              | (go_at_call 19; refine (HCR.out _ H11.out.1).mono ?_; rintro e w12 ⟨rfl, h12, s12⟩; have H12 := Lib.hid h12; have S12 := Lib.hid (H11.out.2.trans s12); clear h12 s12)
              | (go_at_call 20; refine (HST.out _ H12.out).mono ?_; rintro e w13 ⟨rfl, h13, s13⟩; have H13 := Lib.hid h13; have S13 := Lib.hid (S12.out.trans s13); clear h13 s13)
              | (go_at_call 10; refine (HO.out _ H13.out).mono ?_; rintro e w14 ⟨g14, rfl, h14, s14⟩; have H14 := Lib.hid h14; have S14 := Lib.hid (S13.out.trans s14); clear h14 s14))
            exact ⟨⟨2, g14, S4, J4, rfl, rfl, by omega, H14.out, S14.out.row HRW.out (fun b hb => hb), HQ.out.2.1, HQ.out.1.trans HLI.out, HQ.out.2.2⟩, by simp [intOf]⟩
          · subst ew
            go_wp2_with (first
              | (go_at_call 17; refine HAL.out.mono ?_; rintro e w10 ⟨v10, rfl, g10, b10⟩; obtain ⟨A10, c10, rfl, r10⟩ := Sls.Grow.row g10; have R10 := Lib.hid r10; have B10 := Lib.hid b10; clear g10 b10 r10)
              | (go_at_call 16; refine (same_rows R10.out RW.out B10.out rfl (by omega)).mono ?_; rintro e w11 ⟨rfl, b11⟩; have B11 := Lib.hid b11; clear b11))
            go_ret
            exact ⟨rfl, next_below HJS.out.below (next_below B10.out B11.out)⟩
end Dsk
end Go.Proofs.YtpogoalbnbekaaaDoor

/- Open. -/
import Derived.Test.YtpogoalbnbekaaaDoorJcG
namespace Go.Proofs.YtpogoalbnbekaaaDoor
open Go.RowKit Wire
set_option linter.unusedVariables false
set_option linter.unusedSimpArgs false
open Txt
open Sls (strs)
namespace Dsk

theorem Read_up {S : St} {f a n : Int} (h : (S.Read f a n).2 = 0) : S.down = false := by
  unfold St.Read at h
  cases hd : S.down with
  | true => rw [hd] at h; simp at h
  | false => rfl
theorem opn_some {S : St} {f e : Int} {c : Cl} (h : opn S f = (e, some c)) : e = 0 ∧ S.down = false ∧ c.value.length ≤ 65536 := by
  unfold opn at h
  split at h
  · cases h
  · rename_i h1
    have hd := Read_up (by simpa using h1)
    split at h
    · simp only [Prod.mk.injEq, Option.some.injEq] at h
      obtain ⟨rfl, rfl⟩ := h
      exact ⟨rfl, hd, Nat.zero_le _⟩
    · split at h
      · cases h
      · rename_i h3
        split at h
        · cases h
        · split at h
          · cases h
          · rename_i h5
            simp only [Prod.mk.injEq, Option.some.injEq] at h
            obtain ⟨rfl, rfl⟩ := h
            refine ⟨rfl, hd, ?_⟩
            dsimp only
            omega
theorem opn_none {S : St} {f e : Int} (h : opn S f = (e, none)) : e ≠ 0 := by
  unfold opn at h
  split at h
  · rename_i h1
    simp only [Prod.mk.injEq, and_true] at h
    rw [← h]
    exact h1
  · split at h
    · cases h
    · split at h
      · simp only [Prod.mk.injEq, and_true] at h
        omega
      · split at h
        · rename_i h4
          simp only [Prod.mk.injEq, and_true] at h
          rw [← h]
          exact h4
        · split at h
          · simp only [Prod.mk.injEq, and_true] at h
            omega
          · cases h
/-- Open by way of openCell. -/
theorem jopn_none {S : St} {f : Nat} (hf : f ≤ 14) {e : Int} {S2 : St} (h : jcell S f = (e, none, S2)) : jopn S f = (e, none, S2) ∧ e ≠ 0 := by
  unfold jcell at h
  unfold jopn
  rw [if_neg (by omega)]
  split at h
  · rename_i h1
    rw [if_pos h1]
    simp only [Prod.mk.injEq, true_and] at h
    exact ⟨by rw [h.1, h.2], by rw [← h.1]; exact h1⟩
  · rename_i h1
    rw [if_neg h1]
    split at h
    · rename_i h2
      rw [if_pos h2]
      simp only [Prod.mk.injEq, true_and] at h
      exact ⟨by rw [h.1, h.2], by rw [← h.1]; exact h2⟩
    · rename_i h2
      rw [if_neg h2]
      unfold jload
      cases ho : opn ((S.Sync f).1.Sync ((f : Int) + 1)).1 ((f : Int) + 1) with
      | mk e2 oc =>
        rw [ho] at h
        simp only [Prod.mk.injEq] at h
        obtain ⟨rfl, rfl, rfl⟩ := h
        exact ⟨rfl, opn_none ho⟩
theorem jopn_some {S : St} {f : Nat} (hf : f ≤ 14) {e : Int} {c : Cl} {S2 : St} (h : jcell S f = (e, some c, S2)) : jopn S f = ((jread S2 f c).1, (jread S2 f c).2, S2) ∧ e = 0 ∧ S2.down = false ∧ c.value.length ≤ 65536 := by
  unfold jcell at h
  unfold jopn
  rw [if_neg (by omega)]
  split at h
  · cases h
  · rename_i h1
    rw [if_neg h1]
    split at h
    · cases h
    · rename_i h2
      rw [if_neg h2]
      unfold jload
      cases ho : opn ((S.Sync f).1.Sync ((f : Int) + 1)).1 ((f : Int) + 1) with
      | mk e2 oc =>
        rw [ho] at h
        simp only [Prod.mk.injEq] at h
        obtain ⟨rfl, rfl, rfl⟩ := h
        exact ⟨rfl, opn_some ho⟩

def OpPost (w : World) (D : Own) (R : Int × Option Jl × St) (e : Ending) (w' : World) : Prop :=
  ∃ D', DK w D R.2.2 w' D' ∧ match R.2.1 with
    | none => e = .returned (.tuple #[.pointer none, .int .i64 R.1])
    | some J => ∃ O, e = .returned (.tuple #[ptr O.g, .int .i64 R.1]) ∧ JAt w' D.p O J ∧ ∀ b, O.has b → w.heap.size ≤ b ∧ ¬ D'.has b

section
variable {w w' w0 w1 w2 : World} {p q : Nat} {J J' : Jl} {O : JO} {D D1 D' : Own} {S S' : St} {c c' : Cl}
theorem open_end {v : Value} {L : List ByteArray} {f : Int} (h : DK w D S w1 D1) (hc : CellAt w1 q D.p c) (hq : w.heap.size ≤ q) (hqd : ¬ D1.has q) (hb : Below w1.heap.size w1 w2) (hg : Grow w2 w1.heap.size 1 v L.length (strs L)) (hroom : (form L).length ≤ 16777216) (t : TypeId) :
    DK w D S (w2.alloc (.cells #[ptr D.p, .int .i64 f, ptr q, v, .int .i64 (form L).length, .bool false] t)) D1 ∧ JAt (w2.alloc (.cells #[ptr D.p, .int .i64 f, ptr q, v, .int .i64 (form L).length, .bool false] t)) D.p ⟨w2.heap.size, q, v⟩ ⟨f, c, L, false⟩ ∧
      ∀ b, (⟨w2.heap.size, q, v⟩ : JO).has b → w.heap.size ≤ b ∧ ¬ D1.has b := by
  have hs := h.only.size
  have hs2 := hb.size
  have b2 := (Below.refl _ w2).alloc (Nat.le_refl _) (.cells #[ptr D.p, .int .i64 f, ptr q, v, .int .i64 (form L).length, .bool false] t)
  have hk := Blk.fresh w2 t #[ptr D.p, .int .i64 f, ptr q, v, .int .i64 (form L).length, .bool false]
  have hin := h.disk.inside
  have hql := hc.lt
  refine ⟨(h.below hb).below b2, ⟨(hk.at 0).trans rfl, (hk.at 1).trans rfl, (hk.at 2).trans rfl, (hk.at 3).trans rfl, (hk.at 4).trans rfl, (hk.at 5).trans rfl, fun j hj => ⟨?_, hk.thaw _⟩, (hg.lower (Nat.zero_le _)).below b2, (hc.below hb).below b2, by show w2.heap.size ≠ q; omega, fun b e => ?_, hroom⟩, ?_⟩
  · rw [hk.at, Nat.zero_add]
    rcases (by omega : j = 0 ∨ j = 1 ∨ j = 2 ∨ j = 3 ∨ j = 4 ∨ j = 5) with rfl | rfl | rfl | rfl | rfl | rfl <;> rfl
  · have := hg.block b e
    show b ≠ w2.heap.size ∧ b ≠ q
    omega
  · rintro b (e | e | e)
    · have e : b = w2.heap.size := e
      exact ⟨by omega, fun k => by have := hin _ k; omega⟩
    · have e : b = q := e
      exact ⟨by omega, by rw [e]; exact hqd⟩
    · have := hg.block b e
      exact ⟨by omega, fun k => by have := hin _ k; omega⟩

set_option maxRecDepth 8000 in
set_option maxHeartbeats 4000000 in
theorem jopen_any (hd : DiskAt w D S) (hk : S.ok) (ho : Off w) (hg : ¬ D.has 0) (f : Nat) (hf : f ≤ 14) : Calls Tryd.prog 10 #[ptr D.p, .int .i64 f] w (OpPost w D (jopn S f)) := by
  have HOC := Lib.hid (openCell_any hd hk ho hg f hf)
  clear hd hk ho hg
  have hf1 : ¬ (f : Int) < 0 := by omega
  have hf2 : ¬ (14 : Int) < (f : Int) := by omega
  cases hjc : jcell S f with
  | mk e0 r0 =>
  obtain ⟨oc, S2⟩ := r0
  rw [hjc] at HOC
  cases oc with
  | none =>
    obtain ⟨hj, hne⟩ := jopn_none hf hjc
    rw [hj]
    have q1 : (e0 == 0) = false := beq_eq_false_iff_ne.2 hne
    clear hj hjc hne
    go_enter Tryd.func10, Tryd.ntmps10
    go_wp2_with (go_at_call 32; refine HOC.out.mono ?_; rintro e w1 ⟨D1, h1, rfl⟩; have K1 := Lib.hid h1; clear h1)
    go_returns
    exact ⟨D1, K1.out, rfl⟩
  | some c =>
    obtain ⟨hj, rfl, hup, hvl⟩ := jopn_some hf hjc
    rw [hj]
    clear hj hjc
    have hf0 : isF (f : Int) = true := by unfold isF; exact decide_eq_true (by omega)
    obtain ⟨R, hR⟩ : ∃ R, R = jread S2 f c := ⟨_, rfl⟩
    rw [← hR]
    unfold jread at hR
    have HNT := Lib.hid (fun w' q (h : CellAt w' q D.p c) => noted_any h (by omega))
    by_cases hn : c.slot ≠ 0 ∧ pairOf c.value = none
    · have hr : R = (2, none) := by rw [hR, if_neg hn.1, hn.2]
      have HNO : Hid (∀ w' q, CellAt w' q D.p c → Calls Tryd.prog 33 #[ptr q] w' fun e w2 => ∃ x y : Int, e = .returned (.tuple #[.int .i64 x, .int .i64 y, .bool false]) ∧ Below w'.heap.size w' w2) := Lib.hid fun w' q h => (HNT.out w' q h).mono fun e w2 ⟨x, y, he, _, _, b⟩ => ⟨x, y, by rw [he, hn.2, decide_eq_false hn.1]; rfl, b⟩
      subst hr
      clear hR hn HNT
      go_enter Tryd.func10, Tryd.ntmps10
      go_wp2_with (first
        | (go_at_call 32; refine HOC.out.mono ?_; rintro e w1 ⟨D1, h1, q, rfl, hq⟩; have K1 := Lib.hid h1; have HQ := Lib.hid hq; clear h1 hq)
        | (go_at_call 33; refine (HNO.out _ _ HQ.out.1).mono ?_; rintro e w2 ⟨x, y, rfl, b2⟩; have B2 := Lib.hid b2; clear b2))
      go_returns
      exact ⟨D1, K1.out.below B2.out, rfl⟩
    obtain ⟨b, n, hbn, hbl, hnl, HNO⟩ : ∃ b n : Nat, (if c.slot = 0 then b = 0 ∧ n = 0 else pairOf c.value = some (b, n)) ∧ b ≤ 9223372036854775807 ∧ n ≤ 9223372036854775807 ∧ Hid (∀ w' q, CellAt w' q D.p c → Calls Tryd.prog 33 #[ptr q] w' fun e w2 => e = .returned (.tuple #[.int .i64 b, .int .i64 n, .bool true]) ∧ Below w'.heap.size w' w2) := by
      by_cases h0 : c.slot = 0
      · refine ⟨0, 0, by rw [if_pos h0]; exact ⟨rfl, rfl⟩, by omega, by omega, Lib.hid fun w' q h => (HNT.out w' q h).mono fun e w2 ⟨x, y, he, hx, _, b⟩ => ⟨?_, b⟩⟩
        obtain ⟨rfl, rfl⟩ := hx h0
        rw [he, decide_eq_true h0]
        rfl
      · cases hp : pairOf c.value with
        | none => exact absurd ⟨h0, hp⟩ hn
        | some bn =>
          obtain ⟨b, n⟩ := bn
          have hbnd : b ≤ 9223372036854775807 ∧ n ≤ 9223372036854775807 := by
            unfold pairOf at hp
            cases h1 : Wr.num 59 c.value with
            | none => rw [h1] at hp; cases hp
            | some p1 =>
              obtain ⟨b1, r1⟩ := p1
              rw [h1] at hp
              dsimp only at hp
              cases h2 : Wr.num 59 r1 with
              | none => rw [h2] at hp; cases hp
              | some p2 =>
                obtain ⟨n1, r2⟩ := p2
                rw [h2] at hp
                cases r2 with
                | nil =>
                  simp only [Option.some.injEq, Prod.mk.injEq] at hp
                  obtain ⟨rfl, rfl⟩ := hp
                  exact ⟨(Wr.num_sound h1).2, (Wr.num_sound h2).2⟩
                | cons a r => cases hp
          refine ⟨b, n, by rw [if_neg h0], hbnd.1, hbnd.2, Lib.hid fun w' q h => (HNT.out w' q h).mono fun e w2 ⟨x, y, he, _, hxy, bb⟩ => ⟨?_, bb⟩⟩
          obtain ⟨rfl, rfl, _, _⟩ := hxy b n h0 hp
          rw [he, hp, decide_eq_false h0]
          rfl
    clear HNT hn
    have hrd : S2.Read (f : Int) 0 (b : Int) = (S2.now.read f 0 b, 0) := Read_good hup hf0 (by omega) (by omega)
    have HRD : Hid (∀ w' D1, DK w D S2 w' D1 → Calls Tryd.prog 34 #[ptr D.p, .int .i64 f, .int .i64 0, .int .i64 b] w' fun e w2 => e = .returned (.tuple #[str (S2.now.read f 0 b), .int .i64 0]) ∧ Below w'.heap.size w' w2 ∧ (S2.now.read f 0 b).length ≤ 16777216) := Lib.hid fun w' D1 h => by
      have := diskRead_any h.disk h.ok (f : Int) 0 (b : Int) (by omega) (by omega)
      rw [h.p, hrd] at this
      exact this.mono fun e w2 ⟨he, hb⟩ => ⟨he, hb, by have h1 := h.ok.now.room f; rw [Con.read_len]; omega⟩
    have hlb : (S2.now.read f 0 b).length ≤ b := by rw [Con.read_len]; omega
    -- what is read, as one list
    have hR2 : R = if (S2.now.read f 0 b).length ≠ b then ((2, none) : Int × Option Jl) else match textsOf n (S2.now.read f 0 b) with | none => ((2, none) : Int × Option Jl) | some L => ((0, some (⟨f, c, L, false⟩ : Jl)) : Int × Option Jl) := by
      rw [hR]
      by_cases h0 : c.slot = 0
      · rw [if_pos h0] at hbn
        obtain ⟨rfl, rfl⟩ := hbn
        have e : S2.now.read f 0 0 = [] := List.eq_nil_of_length_eq_zero (by omega)
        rw [if_pos h0, e]
        rfl
      · rw [if_neg h0] at hbn
        rw [if_neg h0, hbn]
        dsimp only
        rw [hrd, if_neg (by simp)]
        rfl
    clear hR hbn hrd
    generalize S2.now.read f 0 b = l at *
    have hll : (⟨l.toArray⟩ : ByteArray).size = l.length := rfl
    have hbl2 : bl (⟨l.toArray⟩ : ByteArray) = l := rfl
    unfold str at HRD
    generalize (⟨l.toArray⟩ : ByteArray) = s at *
    have HPA : Hid (∀ w', l.length ≤ 16777216 → Calls Tryd.prog 35 #[.string s, .int .i64 n] w' (ParsePost w' l n)) := Lib.hid fun w' h => by have := jparse_any s n w' (by omega) hnl; rwa [hbl2] at this
    cases htx : textsOf n l with
    | none =>
      have hr : R = (2, none) := by rw [hR2, htx]; split <;> rfl
      have HPN : Hid (∀ w', l.length ≤ 16777216 → Calls Tryd.prog 35 #[.string s, .int .i64 n] w' fun e w2 => ∃ v, e = .returned (.tuple #[v, .bool false]) ∧ Below w'.heap.size w' w2) := Lib.hid fun w' h => (HPA.out w' h).mono fun e w2 ⟨v, he, _, hb⟩ => ⟨v, by rw [he, htx]; rfl, hb⟩
      subst hr
      clear hR2 HPA htx
      go_enter Tryd.func10, Tryd.ntmps10
      go_wp2_with (first
        | (go_at_call 32; refine HOC.out.mono ?_; rintro e w1 ⟨D1, h1, q, rfl, hq⟩; have K1 := Lib.hid h1; have HQ := Lib.hid hq; clear h1 hq)
        | (go_at_call 33; refine (HNO.out _ _ HQ.out.1).mono ?_; rintro e w2 ⟨rfl, b2⟩; have K2 := Lib.hid (K1.out.below b2); clear b2)
        | (go_at_call 34; refine (HRD.out _ _ K2.out).mono ?_; rintro e w3 ⟨rfl, b3, l3⟩; have K3 := Lib.hid (K2.out.below b3); have L3 := Lib.hid l3; clear b3 l3)
        | (go_at_call 35; refine (HPN.out _ L3.out).mono ?_; rintro e w4 ⟨v, rfl, b4⟩; have K4 := Lib.hid (K3.out.below b4); clear b4))
      go_returns
      exact ⟨D1, K4.out, rfl⟩
    | some L =>
      obtain ⟨hlf, hLn⟩ := texts_read htx
      have HPS : Hid (∀ w', l.length ≤ 16777216 → Calls Tryd.prog 35 #[.string s, .int .i64 n] w' fun e w2 => ∃ v, e = .returned (.tuple #[v, .bool true]) ∧ Grow w2 w'.heap.size 1 v L.length (strs L) ∧ Below w'.heap.size w' w2) := Lib.hid fun w' h => (HPA.out w' h).mono fun e w2 ⟨v, he, hL, hb⟩ => ⟨v, by rw [he, htx]; rfl, hL L htx, hb⟩
      by_cases hlen : l.length = b
      case neg =>
        have hr : R = (2, none) := by rw [hR2, if_pos hlen]
        have hlt : (s.size : Int) < b := by omega
        subst hr
        clear hR2 HPA htx hlf hLn hlen hll hbl2
        go_enter Tryd.func10, Tryd.ntmps10
        go_wp2_with (first
          | (go_at_call 32; refine HOC.out.mono ?_; rintro e w1 ⟨D1, h1, q, rfl, hq⟩; have K1 := Lib.hid h1; have HQ := Lib.hid hq; clear h1 hq)
          | (go_at_call 33; refine (HNO.out _ _ HQ.out.1).mono ?_; rintro e w2 ⟨rfl, b2⟩; have K2 := Lib.hid (K1.out.below b2); clear b2)
          | (go_at_call 34; refine (HRD.out _ _ K2.out).mono ?_; rintro e w3 ⟨rfl, b3, l3⟩; have K3 := Lib.hid (K2.out.below b3); have L3 := Lib.hid l3; clear b3 l3)
          | (go_at_call 35; refine (HPS.out _ L3.out).mono ?_; rintro e w4 ⟨v, rfl, _, b4⟩; have K4 := Lib.hid (K3.out.below b4); clear b4))
        go_returns
        exact ⟨D1, K4.out, rfl⟩
      have hr : R = (0, some ⟨f, c, L, false⟩) := by rw [hR2, htx, if_neg (by omega)]
      have hge : ¬ (s.size : Int) < b := by omega
      have hfl : (form L).length = b := by rw [← hlf]; exact hlen
      have HEN : Hid (∀ w1 w2 D1 q v, DK w D S2 w1 D1 → CellAt w1 q D.p c → w.heap.size ≤ q → ¬ D1.has q → l.length ≤ 16777216 → Below w1.heap.size w1 w2 → Grow w2 w1.heap.size 1 v L.length (strs L) → DK w D S2 (w2.alloc (.cells #[ptr D.p, .int .i64 f, ptr q, v, .int .i64 b, .bool false] 78)) D1 ∧ JAt (w2.alloc (.cells #[ptr D.p, .int .i64 f, ptr q, v, .int .i64 b, .bool false] 78)) D.p ⟨w2.heap.size, q, v⟩ ⟨f, c, L, false⟩ ∧
          ∀ b, (⟨w2.heap.size, q, v⟩ : JO).has b → w.heap.size ≤ b ∧ ¬ D1.has b) := Lib.hid fun w1 w2 D1 q v h hc hq hqd hl hb hg => by
        have := open_end (f := f) h hc hq hqd hb hg (by omega) 78
        rwa [hfl] at this
      subst hr
      clear hR2 HPA htx hlf hLn hlen hll hbl2 hfl
      go_enter Tryd.func10, Tryd.ntmps10
      go_wp2_with (first
        | (go_at_call 32; refine HOC.out.mono ?_; rintro e w1 ⟨D1, h1, q, rfl, hq⟩; have K1 := Lib.hid h1; have HQ := Lib.hid hq; clear h1 hq)
        | (go_at_call 33; refine (HNO.out _ _ HQ.out.1).mono ?_; rintro e w2 ⟨rfl, b2⟩; have K2 := Lib.hid (K1.out.below b2); have Q2 := Lib.hid (HQ.out.1.below b2); clear b2)
        | (go_at_call 34; refine (HRD.out _ _ K2.out).mono ?_; rintro e w3 ⟨rfl, b3, l3⟩; have K3 := Lib.hid (K2.out.below b3); have Q3 := Lib.hid (Q2.out.below b3); have L3 := Lib.hid l3; clear b3 l3)
        | (go_at_call 35; refine (HPS.out _ L3.out).mono ?_; rintro e w4 ⟨v, rfl, g4, b4⟩; have G4 := Lib.hid g4; have B4 := Lib.hid b4; clear b4 g4; obtain ⟨A4, c4, rfl⟩ := G4.out.slice))
      go_returns
      obtain ⟨e1, e2, e3⟩ := HEN.out _ _ _ _ _ K3.out Q3.out HQ.out.2.1 HQ.out.2.2 L3.out B4.out G4.out
      exact ⟨D1, e1, _, rfl, e2, e3⟩
end
end Dsk
end Go.Proofs.YtpogoalbnbekaaaDoor

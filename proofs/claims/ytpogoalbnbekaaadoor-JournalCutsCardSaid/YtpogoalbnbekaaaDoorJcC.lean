/- openCell; how a journal lies in memory. -/
import Derived.Test.YtpogoalbnbekaaaDoorJcB
namespace Go.Proofs.YtpogoalbnbekaaaDoor
open Go.RowKit Wire
set_option linter.unusedVariables false
set_option linter.unusedSimpArgs false
open Txt
open Sls (strs)
namespace Dsk

/-- A disk that a call which began in w has made of D. -/
structure DK (w : World) (D : Own) (S : St) (w' : World) (D' : Own) : Prop where
  ok : S.ok
  disk : DiskAt w' D' S
  p : D'.p = D.p
  has : ∀ b, D'.has b → D.has b ∨ w.heap.size ≤ b
  only : Only D.has w w'
/-- What openCell does. -/
def jcell (S : St) (f : Int) : Int × Option Cl × St :=
  if (S.Sync f).2 ≠ 0 then ((S.Sync f).2, none, (S.Sync f).1) else
  if ((S.Sync f).1.Sync (f + 1)).2 ≠ 0 then (((S.Sync f).1.Sync (f + 1)).2, none, ((S.Sync f).1.Sync (f + 1)).1) else
  ((opn ((S.Sync f).1.Sync (f + 1)).1 (f + 1)).1, (opn ((S.Sync f).1.Sync (f + 1)).1 (f + 1)).2, ((S.Sync f).1.Sync (f + 1)).1)
def OcPost (w : World) (D : Own) (R : Int × Option Cl × St) (e : Ending) (w' : World) : Prop :=
  ∃ D', DK w D R.2.2 w' D' ∧ match R.2.1 with
    | none => e = .returned (.tuple #[.pointer none, .int .i64 R.1])
    | some c => ∃ q, e = .returned (.tuple #[ptr q, .int .i64 R.1]) ∧ CellAt w' q D.p c ∧ w.heap.size ≤ q ∧ ¬ D'.has q

section
variable {w w' w0 w1 w2 : World} {q p : Nat} {c c' : Cl} {D D1 D' : Own} {S S' : St}
theorem DK.init (hd : DiskAt w D S) (hk : S.ok) : DK w D S w D := ⟨hk, hd, rfl, fun _ h => .inl h, Only.refl _ _⟩
theorem DK.below (h : DK w D S w1 D1) (b : Below w1.heap.size w1 w2) : DK w D S w2 D1 := ⟨h.ok, h.disk.below b, h.p, h.has, h.only.same (Only.of_below b)⟩
theorem DK.post (h : DK w D S w1 D1) (k : Post D1 S' w1 w2) (hk : S'.ok) : ∃ D2, DK w D S' w2 D2 := by
  obtain ⟨⟨D2, h2, p2, e2⟩, o2⟩ := k
  have hs := h.only.size
  refine ⟨D2, hk, h2, p2.trans h.p, fun b hb => ?_, h.only.trans o2 h.has⟩
  rcases e2 b hb with h1 | h1
  · exact h.has b h1
  · exact .inr (by omega)
theorem DK.sync (h : DK w D S w1 D1) (f : Int) : Calls Tryd.prog 54 #[ptr D.p, .int .i64 f] w1 fun e w2 => e = .returned (.int .i64 (S.Sync f).2) ∧ ∃ D2, DK w D (S.Sync f).1 w2 D2 := by
  rw [← h.p]
  exact (Sync_any w1 D1 S h.disk h.ok f).mono fun e w2 ⟨he, k⟩ => ⟨he, h.post k (h.ok.Sync f)⟩
theorem DK.offw (h : DK w D S w1 D1) (ho : Off w) (hg : ¬ D.has 0) : Off w1 := ho.only h.only hg
theorem DK.openc (h : DK w D S w1 D1) (ho : Off w) (hg : ¬ D.has 0) (f : Int) : Calls Tryd.prog 55 #[ptr D.p, .int .i64 f] w1 (OcPost w D ((opn S f).1, (opn S f).2, S)) := by
  have hs := h.only.size
  rw [← h.p]
  refine (Open_any h.disk h.ok (h.offw ho hg) f).mono ?_
  rintro e w2 ⟨hb, hr⟩
  refine ⟨D1, h.below hb, ?_⟩
  revert hr
  show (match (opn S f).2 with | none => _ | some c => _) → (match (opn S f).2 with | none => _ | some c => _)
  cases hc : (opn S f).2 with
  | none => exact fun k => k
  | some c =>
    rintro ⟨q, he, hq, hlt⟩
    exact ⟨q, he, by rw [← h.p]; exact hq, by omega, fun e => by have := h.disk.inside _ e; omega⟩

set_option maxHeartbeats 1000000 in
theorem openCell_any (hd : DiskAt w D S) (hk : S.ok) (ho : Off w) (hg : ¬ D.has 0) (f : Nat) (hf : f ≤ 14) : Calls Tryd.prog 32 #[ptr D.p, .int .i64 f] w (OcPost w D (jcell S f)) := by
  obtain ⟨R, hR⟩ : ∃ R, R = jcell S f := ⟨_, rfl⟩
  rw [← hR]
  unfold jcell at hR
  have H1 := Lib.hid ((DK.init hd hk).sync f)
  have HS2 : Hid (∀ w1 D1, DK w D (S.Sync f).1 w1 D1 → Calls Tryd.prog 54 #[ptr D.p, .int .i64 ((f : Int) + 1)] w1 fun e w2 => e = .returned (.int .i64 ((S.Sync f).1.Sync ((f : Int) + 1)).2) ∧ ∃ D2, DK w D ((S.Sync f).1.Sync ((f : Int) + 1)).1 w2 D2) := Lib.hid fun w1 D1 h => h.sync _
  have HO : Hid (∀ w1 D1, DK w D ((S.Sync f).1.Sync ((f : Int) + 1)).1 w1 D1 → Calls Tryd.prog 55 #[ptr D.p, .int .i64 ((f : Int) + 1)] w1 (OcPost w D ((opn ((S.Sync f).1.Sync ((f : Int) + 1)).1 ((f : Int) + 1)).1, (opn ((S.Sync f).1.Sync ((f : Int) + 1)).1 ((f : Int) + 1)).2, ((S.Sync f).1.Sync ((f : Int) + 1)).1))) := Lib.hid fun w1 D1 h => h.openc ho hg _
  clear hd hk ho hg
  generalize opn ((S.Sync f).1.Sync ((f : Int) + 1)).1 ((f : Int) + 1) = O at *
  generalize (S.Sync f).1.Sync ((f : Int) + 1) = Y at *
  generalize S.Sync f = X at *
  obtain ⟨S1, er1⟩ := X
  obtain ⟨S2, er2⟩ := Y
  obtain ⟨er3, oc⟩ := O
  dsimp only at H1 HS2 HO hR
  have HR := Lib.hid hR
  clear hR
  by_cases e1 : er1 = 0
  case neg =>
    have q1 : (er1 == 0) = false := beq_eq_false_iff_ne.2 e1
    have hr : R = (er1, none, S1) := by rw [HR.out, if_pos e1]
    subst hr
    clear HR HS2 HO
    go_enter Tryd.func32, Tryd.ntmps32
    go_wp2_with (go_at_call 54; refine H1.out.mono ?_; rintro e w1 ⟨rfl, D1, h1⟩; have K1 := Lib.hid h1; clear h1)
    go_returns
    exact ⟨D1, K1.out, rfl⟩
  subst e1
  rw [if_neg (by simp)] at HR
  by_cases e2 : er2 = 0
  case neg =>
    have q2 : (er2 == 0) = false := beq_eq_false_iff_ne.2 e2
    have hr : R = (er2, none, S2) := by rw [HR.out, if_pos e2]
    subst hr
    clear HR HO
    go_enter Tryd.func32, Tryd.ntmps32
    go_wp2_with (first
      | (go_at_call 54; ((with_reducible refine H1.out.mono ?_); rintro e w1 ⟨rfl, D1, h1⟩); have K1 := Lib.hid h1; clear h1 H1)
      | (go_at_call 54; ((with_reducible refine (HS2.out _ _ K1.out).mono ?_); rintro e w2 ⟨rfl, D2, h2⟩); have K2 := Lib.hid h2; clear h2))
    go_returns
    exact ⟨D2, K2.out, rfl⟩
  subst e2
  rw [if_neg (by simp)] at HR
  have hr := HR.out
  subst hr
  clear HR
  cases oc with
  | none =>
    go_enter Tryd.func32, Tryd.ntmps32
    go_wp2_with (first
      | (go_at_call 54; ((with_reducible refine H1.out.mono ?_); rintro e w1 ⟨rfl, D1, h1⟩); have K1 := Lib.hid h1; clear h1 H1)
      | (go_at_call 54; ((with_reducible refine (HS2.out _ _ K1.out).mono ?_); rintro e w2 ⟨rfl, D2, h2⟩); have K2 := Lib.hid h2; clear h2)
      | (go_at_call 55; refine (HO.out _ _ K2.out).mono ?_; rintro e w3 ⟨D3, h3, rfl⟩; have K3 := Lib.hid h3; clear h3))
    go_returns
    exact ⟨D3, K3.out, rfl⟩
  | some c =>
    go_enter Tryd.func32, Tryd.ntmps32
    go_wp2_with (first
      | (go_at_call 54; ((with_reducible refine H1.out.mono ?_); rintro e w1 ⟨rfl, D1, h1⟩); have K1 := Lib.hid h1; clear h1 H1)
      | (go_at_call 54; ((with_reducible refine (HS2.out _ _ K1.out).mono ?_); rintro e w2 ⟨rfl, D2, h2⟩); have K2 := Lib.hid h2; clear h2)
      | (go_at_call 55; refine (HO.out _ _ K2.out).mono ?_; rintro e w3 ⟨D3, h3, q, rfl, hq⟩; have K3 := Lib.hid h3; have HQ := Lib.hid hq; clear h3 hq))
    go_returns
    exact ⟨D3, K3.out, q, rfl, HQ.out⟩

/-! A journal in memory. -/
/-- Its blocks: its own, its cell's, its list's. -/
structure JO where
  g : Nat
  q : Nat
  v : Value
def JO.has (O : JO) (b : Nat) : Prop := b = O.g ∨ b = O.q ∨ O.v.ownBlock = some b
structure JAt (w : World) (p : Nat) (O : JO) (J : Jl) : Prop where
  j0 : w.cell? ⟨O.g, 0, none⟩ = some (ptr p)
  j1 : w.cell? ⟨O.g, 1, none⟩ = some (.int .i64 J.base)
  j2 : w.cell? ⟨O.g, 2, none⟩ = some (ptr O.q)
  j3 : w.cell? ⟨O.g, 3, none⟩ = some O.v
  j4 : w.cell? ⟨O.g, 4, none⟩ = some (.int .i64 (form J.L).length)
  j5 : w.cell? ⟨O.g, 5, none⟩ = some (.bool J.bad)
  there : w.there O.g 0 6
  row : Grow w 0 1 O.v J.L.length (strs J.L)
  cell : CellAt w O.q p J.c
  gq : O.g ≠ O.q
  vg : ∀ b, O.v.ownBlock = some b → b ≠ O.g ∧ b ≠ O.q
  room : (form J.L).length ≤ 16777216
end
section
variable {w w' w0 w1 w2 : World} {p : Nat} {J : Jl} {O : JO} {D D1 D' : Own} {S S' : St}
theorem JAt.lt (h : JAt w p O J) : O.g < w.heap.size := World.block_lt_of_cell? w _ h.j0
theorem JAt.inside (h : JAt w p O J) : ∀ b, O.has b → b < w.heap.size := by
  rintro b (rfl | rfl | hb)
  · exact h.lt
  · exact h.cell.lt
  · exact (h.row.block b hb).2
theorem JAt.still (h : JAt w p O J) (hs : w.heap.size ≤ w'.heap.size) (e : ∀ b, O.has b → w'.heap[b]? = w.heap[b]?) : JAt w' p O J := by
  have eg := e O.g (.inl rfl)
  exact ⟨(World.cell?_of_block (a := ⟨O.g, 0, none⟩) eg).trans h.j0, (World.cell?_of_block (a := ⟨O.g, 1, none⟩) eg).trans h.j1, (World.cell?_of_block (a := ⟨O.g, 2, none⟩) eg).trans h.j2,
    (World.cell?_of_block (a := ⟨O.g, 3, none⟩) eg).trans h.j3, (World.cell?_of_block (a := ⟨O.g, 4, none⟩) eg).trans h.j4, (World.cell?_of_block (a := ⟨O.g, 5, none⟩) eg).trans h.j5,
    there_keep h.there eg, h.row.keep hs fun b hb => e b (.inr (.inr hb)), h.cell.still (e O.q (.inr (.inl rfl))), h.gq, h.vg, h.room⟩
theorem JAt.below (h : JAt w p O J) (b : Below w.heap.size w w') : JAt w' p O J := h.still b.size fun x hx => b.block x (h.inside x hx)
theorem JAt.only {F : Nat → Prop} (h : JAt w p O J) (o : Only F w w') (hF : ∀ b, O.has b → ¬ F b) : JAt w' p O J := h.still o.size fun x hx => o.block x (h.inside x hx) (hF x hx)
theorem JAt.free (h : JAt w p O J) {j : Nat} (hj : j < 6) : w.frozen? ⟨O.g, j, none⟩ = false := by have := (h.there j hj).2; rwa [Nat.zero_add] at this
theorem JAt.isSome (h : JAt w p O J) {j : Nat} (hj : j < 6) : (w.cell? ⟨O.g, j, none⟩).isSome = true := by have := (h.there j hj).1; rwa [Nat.zero_add] at this
end
end Dsk
end Go.Proofs.YtpogoalbnbekaaaDoor

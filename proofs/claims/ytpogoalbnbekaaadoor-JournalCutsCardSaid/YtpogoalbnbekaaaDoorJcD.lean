/- A journal during a call; Len, Get, All, extend. -/
import Derived.Test.YtpogoalbnbekaaaDoorJcC
import Derived.Test.YtpogoalbnbekaaaDoorCelH
namespace Go.Proofs.YtpogoalbnbekaaaDoor
open Go.RowKit Wire
set_option linter.unusedVariables false
set_option linter.unusedSimpArgs false
open Txt
open Sls (strs)
namespace Dsk

/-- A disk and one of its journals, as a call that began in w0 has them. -/
structure JC (D : Own) (O : JO) (w0 w : World) (S : St) (J : Jl) : Prop where
  ok : S.ok
  disk : ∃ D', DiskAt w D' S ∧ D'.p = D.p ∧ ∀ b, D'.has b → D.has b ∨ w0.heap.size ≤ b
  at_ : JAt w D.p O J
  off : Off w
  only : Only (fun b => D.has b ∨ O.has b) w0 w
  apart : ∀ b, O.has b → ¬ D.has b ∧ b < w0.heap.size
  goff : ¬ D.has 0 ∧ ¬ O.has 0 ∧ 0 < w0.heap.size
/-- What a call leaves. -/
structure JP (D : Own) (O : JO) (w0 w : World) (S : St) (J : Jl) : Prop where
  ok : S.ok
  st : ∃ D' O', DiskAt w D' S ∧ D'.p = D.p ∧ (∀ b, D'.has b → D.has b ∨ w0.heap.size ≤ b) ∧ JAt w D.p O' J ∧ O'.g = O.g ∧ (∀ b, O'.has b → O.has b ∨ w0.heap.size ≤ b) ∧ ∀ b, O'.has b → ¬ D'.has b
  only : Only (fun b => D.has b ∨ O.has b) w0 w

section
variable {w w' w0 w1 w2 : World} {p : Nat} {J : Jl} {O : JO} {D D1 D' : Own} {S S' : St} {c c' : Cl}
theorem JC.init (hd : DiskAt w D S) (hk : S.ok) (hj : JAt w D.p O J) (ho : Off w) (ha : ∀ b, O.has b → ¬ D.has b) (hg : ¬ D.has 0) (hg2 : ¬ O.has 0) : JC D O w w S J :=
  ⟨hk, ⟨D, hd, rfl, fun _ h => .inl h⟩, hj, ho, Only.refl _ _, fun b hb => ⟨ha b hb, hj.inside b hb⟩, hg, hg2, ho.lt⟩
theorem JC.jp (h : JC D O w0 w S J) : JP D O w0 w S J := by
  obtain ⟨hk, ⟨D', hd, hp, hh⟩, hj, ho, hn, ha, hg⟩ := h
  refine ⟨hk, ⟨D', O, hd, hp, hh, hj, rfl, fun b hb => .inl hb, fun b hb e => ?_⟩, hn⟩
  rcases hh b e with h1 | h1
  · exact (ha b hb).1 h1
  · have := (ha b hb).2; omega
theorem JC.below (h : JC D O w0 w S J) (b : Below w.heap.size w w') : JC D O w0 w' S J := by
  obtain ⟨hk, ⟨D', hd, hp, hh⟩, hj, ho, hn, ha, hg⟩ := h
  exact ⟨hk, ⟨D', hd.below b, hp, hh⟩, hj.below b, ho.below b ho.lt, hn.same (Only.of_below b), ha, hg⟩
/-- A call that has the disk and the cell. -/
theorem JC.callc {f : FuncId} {args : Array Value} {R : Ending} (h : JC D O w0 w S J) (k : ∀ D', D'.p = D.p → CC D' O.q w w S J.c → Calls Tryd.prog f args w fun e w' => e = R ∧ CC D' O.q w w' S' c') :
    Calls Tryd.prog f args w fun e w' => e = R ∧ JC D O w0 w' S' { J with c := c' } := by
  obtain ⟨hk, ⟨D', hd, hp, hh⟩, hj, ho, hn, ha, hg, hg2, hg3⟩ := h
  have hs := hn.size
  have nD : ∀ b, O.has b → ¬ D'.has b := fun b hb e => by
    rcases hh b e with h1 | h1
    · exact (ha b hb).1 h1
    · have := (ha b hb).2; omega
  have nG : ¬ D'.has 0 := fun e => by
    rcases hh _ e with h1 | h1
    · exact hg h1
    · omega
  have hq : O.q ≠ 0 := fun e => hg2 (.inr (.inl e.symm))
  refine (k D' hp (CC.init hd hk (by rw [hp]; exact hj.cell) ho (nD _ (.inr (.inl rfl))) nG hq)).mono ?_
  rintro e w' ⟨he, ⟨hk2, ⟨D2, hd2, hp2, hh2⟩, hcl2, ho2, hn2, _, _, _⟩⟩
  have hin := hj.inside
  obtain ⟨j0, j1, j2, j3, j4, j5, ht, hrow, hcell, gq, vg, room⟩ := hj
  have sg : w'.heap[O.g]? = w.heap[O.g]? := hn2.block O.g (hin _ (.inl rfl)) (by rintro (e | e); exact nD _ (.inl rfl) e; exact gq e)
  refine ⟨he, hk2, ⟨D2, hd2, hp2.trans hp, fun b hb => ?_⟩, ⟨(World.cell?_of_block (a := ⟨O.g, 0, none⟩) sg).trans j0, (World.cell?_of_block (a := ⟨O.g, 1, none⟩) sg).trans j1, (World.cell?_of_block (a := ⟨O.g, 2, none⟩) sg).trans j2, (World.cell?_of_block (a := ⟨O.g, 3, none⟩) sg).trans j3, (World.cell?_of_block (a := ⟨O.g, 4, none⟩) sg).trans j4, (World.cell?_of_block (a := ⟨O.g, 5, none⟩) sg).trans j5, there_keep ht sg,
    hrow.keep hn2.size (fun b hb => hn2.block b (hin _ (.inr (.inr hb))) (by rintro (e | e); exact nD _ (.inr (.inr hb)) e; exact (vg b hb).2 e)), by rw [← hp]; exact hcl2, gq, vg, room⟩, ho2, hn.trans hn2 (fun x hx => ?_), ha, hg, hg2, hg3⟩
  · rcases hh2 b hb with h1 | h1
    · exact hh b h1
    · exact .inr (by omega)
  · rcases hx with h1 | h1
    · rcases hh x h1 with h2 | h2
      · exact .inl (.inl h2)
      · exact .inr h2
    · exact .inl (.inr (.inr (.inl h1)))
theorem JC.sync (h : JC D O w0 w S J) (f : Int) : Calls Tryd.prog 54 #[ptr D.p, .int .i64 f] w fun e w' => e = .returned (.int .i64 (S.Sync f).2) ∧ JC D O w0 w' (S.Sync f).1 J :=
  h.callc fun D' hp k => by rw [← hp]; exact k.sync f
theorem JC.write (h : JC D O w0 w S J) (f a : Int) (s : ByteArray) (hs : s.size ≤ maxLen) : Calls Tryd.prog 23 #[ptr D.p, .int .i64 f, .int .i64 a, .string s] w fun e w' => e = .returned (.int .i64 (S.Write f a (bl s)).2) ∧ JC D O w0 w' (S.Write f a (bl s)).1 J :=
  h.callc fun D' hp k => by rw [← hp]; exact k.write f a s hs
theorem JC.note (h : JC D O w0 w S J) (a b : Nat) (ha : a ≤ 9223372036854775807) (hb : b ≤ 9223372036854775807) :
    Calls Tryd.prog 40 #[ptr O.q, .int .i64 a, .int .i64 b] w fun e w' => e = .returned (.int .i64 (J.c.set S (Wr.encInt a ++ Wr.encInt b)).1) ∧ JC D O w0 w' (J.c.set S (Wr.encInt a ++ Wr.encInt b)).2.2 { J with c := (J.c.set S (Wr.encInt a ++ Wr.encInt b)).2.1 } :=
  h.callc fun D' hp k => note_any k a b ha hb
/-- The error is kept. -/
theorem JC.bad (h : JC D O w0 w S J) : JC D O w0 (w.setCell ⟨O.g, 5, none⟩ (.bool true)) S { J with bad := true } := by
  obtain ⟨hk, ⟨D', hd, hp, hh⟩, hj, ho, hn, ha, hg, hg2, hg3⟩ := h
  have hs := hn.size
  have nD : ∀ b, O.has b → ¬ D'.has b := fun b hb e => by
    rcases hh b e with h1 | h1
    · exact (ha b hb).1 h1
    · have := (ha b hb).2; omega
  have o : Only (fun b => b = O.g) w (w.setCell ⟨O.g, 5, none⟩ (.bool true)) := Only.set _ _ _ _ rfl
  refine ⟨hk, ⟨D', hd.only o (fun b hb e => by subst e; exact nD _ (.inl rfl) hb), hp, hh⟩, ?_, ho.only o (fun e => hg2 (.inl e)), hn.trans o (fun x hx => .inl (.inr (.inl hx))), ha, hg, hg2, hg3⟩
  have hf := hj.isSome (j := 5) (by omega)
  obtain ⟨j0, j1, j2, j3, j4, j5, ht, hrow, hcell, gq, vg, room⟩ := hj
  exact ⟨by rw [set_cell_other (by omega)]; exact j0, by rw [set_cell_other (by omega)]; exact j1, by rw [set_cell_other (by omega)]; exact j2, by rw [set_cell_other (by omega)]; exact j3, by rw [set_cell_other (by omega)]; exact j4, set_cell_same hf, there_put ht _ _,
    hrow.keep o.size (fun b hb => o.block b (hrow.block b hb).2 (fun e => (vg b hb).1 e)), hcell.only o (fun e => gq e.symm), gq, vg, room⟩
/-- The list is another one. -/
theorem JC.list (h : JC D O w0 w S J) {v' : Value} {L' : List ByteArray} (hr : Grow w2 0 1 v' L'.length (strs L')) (hg : w.grownBy w2 O.v.ownBlock) (hv : v'.ownBlock = O.v.ownBlock ∨ v'.ownBlock = some w.heap.size) (hroom : (form L').length ≤ 16777216) :
    (w2.cell? ⟨O.g, 0, none⟩ = some (ptr D.p) ∧ w2.cell? ⟨O.g, 3, none⟩ = some O.v ∧ w2.cell? ⟨O.g, 4, none⟩ = some (.int .i64 (form J.L).length) ∧ w2.frozen? ⟨O.g, 3, none⟩ = false ∧ w2.frozen? ⟨O.g, 4, none⟩ = false) ∧
    JP D O w0 ((w2.setCell ⟨O.g, 3, none⟩ v').setCell ⟨O.g, 4, none⟩ (.int .i64 (form L').length)) S { J with L := L' } := by
  obtain ⟨hk, ⟨D', hd, hp, hh⟩, hj, ho, hn, ha, hg1, hg2, hg3⟩ := h
  have hs := hn.size
  have hs2 := hg.size
  have nD : ∀ b, O.has b → ¬ D'.has b := fun b hb e => by
    rcases hh b e with h1 | h1
    · exact (ha b hb).1 h1
    · have := (ha b hb).2; omega
  have o1 : Only (fun b => O.v.ownBlock = some b) w w2 := Only.of_grown' hg (fun m e => .inl e)
  have o2 : Only (fun b => b = O.g) w2 ((w2.setCell ⟨O.g, 3, none⟩ v').setCell ⟨O.g, 4, none⟩ (.int .i64 (form L').length)) := (Only.set (fun b => b = O.g) w2 ⟨O.g, 3, none⟩ v' rfl).same (Only.set _ _ ⟨O.g, 4, none⟩ _ rfl)
  have hin := hj.inside
  obtain ⟨j0, j1, j2, j3, j4, j5, ht, hrow, hcell, gq, vg, room⟩ := hj
  have sg : w2.heap[O.g]? = w.heap[O.g]? := o1.block O.g (hin _ (.inl rfl)) (fun e => (vg _ e).1 rfl)
  have k0 := (World.cell?_of_block (a := ⟨O.g, 0, none⟩) sg).trans j0
  have k1 := (World.cell?_of_block (a := ⟨O.g, 1, none⟩) sg).trans j1
  have k2 := (World.cell?_of_block (a := ⟨O.g, 2, none⟩) sg).trans j2
  have k3 := (World.cell?_of_block (a := ⟨O.g, 3, none⟩) sg).trans j3
  have k4 := (World.cell?_of_block (a := ⟨O.g, 4, none⟩) sg).trans j4
  have k5 := (World.cell?_of_block (a := ⟨O.g, 5, none⟩) sg).trans j5
  have kt := there_keep ht sg
  have f3 := (kt 3 (by omega)).2
  have f4 := (kt 4 (by omega)).2
  rw [Nat.zero_add] at f3 f4
  refine ⟨⟨k0, k3, k4, f3, f4⟩, hk, ⟨D', ⟨O.g, O.q, v'⟩, (hd.only o1 (fun b hb e => nD b (.inr (.inr e)) hb)).only o2 (fun b hb e => by subst e; exact nD _ (.inl rfl) hb), hp, hh, ?_, rfl, ?_, ?_⟩, (hn.trans o1 (fun x hx => .inl (.inr (.inr (.inr hx))))).trans o2 (fun x hx => .inl (.inr (.inl hx)))⟩
  · have vg2 : ∀ b, v'.ownBlock = some b → b ≠ O.g ∧ b ≠ O.q := fun b hb => by
      rcases hv with hv | hv
      · exact vg b (hv ▸ hb)
      · rw [hb] at hv
        injection hv with hv
        have := hin O.g (.inl rfl)
        have := hin O.q (.inr (.inl rfl))
        omega
    refine ⟨?_, ?_, ?_, ?_, ?_, ?_, there_put (there_put kt _ _) _ _, hr.keep o2.size (fun b hb => o2.block b (hr.block b hb).2 (fun e => (vg2 b hb).1 e)), (hcell.only o1 (fun e => (vg _ e).2 rfl)).only o2 (fun e => gq e.symm), gq, vg2, hroom⟩
    · rw [set_cell_other (by omega), set_cell_other (by omega)]; exact k0
    · rw [set_cell_other (by omega), set_cell_other (by omega)]; exact k1
    · rw [set_cell_other (by omega), set_cell_other (by omega)]; exact k2
    · rw [set_cell_other (by omega), set_cell_same (by rw [k3]; rfl)]
    · rw [set_cell_same (by rw [set_cell_other (by omega), k4]; rfl)]
    · rw [set_cell_other (by omega), set_cell_other (by omega)]; exact k5
  · rintro b (hb | hb | hb)
    · exact .inl (.inl hb)
    · exact .inl (.inr (.inl hb))
    · rcases hv with hv | hv
      · exact .inl (.inr (.inr (hv ▸ hb)))
      · have hb2 : v'.ownBlock = some b := hb
        rw [hb2] at hv
        injection hv with hv
        exact .inr (by omega)
  · rintro b (hb | hb | hb)
    · exact nD b (.inl hb)
    · exact nD b (.inr (.inl hb))
    · rcases hv with hv | hv
      · exact nD b (.inr (.inr (hv ▸ hb)))
      · have hb2 : v'.ownBlock = some b := hb
        rw [hb2] at hv
        injection hv with hv
        exact fun e => by have := hd.inside _ e; omega
/-- A list that is none of theirs, as later worlds have it. -/
theorem JC.row (h : JC D O w0 w S J) {A : Option Addr} {l : List ByteArray} (hr : Row w0 w0.heap.size A (strs l)) (hc : ∀ b o, A = some ⟨b, o, none⟩ → l ≠ [] → ¬ D.has b ∧ ¬ O.has b) : Row w w.heap.size A (strs l) := by
  intro k u hu
  obtain ⟨b, o, e, h1, h2⟩ := hr k u hu
  have hl : l ≠ [] := by rintro rfl; simp at hu
  obtain ⟨n1, n2⟩ := hc b o e hl
  have hs := h.only.size
  exact ⟨b, o, e, by omega, (World.cell?_of_block (a := ⟨b, o + k, none⟩) (h.only.block b h1 (by rintro (e | e); exact n1 e; exact n2 e))).trans h2⟩
end

/-! Len, Get, All. -/
section
variable {w : World} {p : Nat} {O : JO} {J : Jl}
theorem len_at {g : Nat} {A : Option Addr} {n c : Nat} (h : w.cell? ⟨g, 3, none⟩ = some (.slice A n c)) : Calls Tryd.prog 18 #[ptr g] w fun e w' => e = .returned (.int .i64 n) ∧ w = w' := by
  go_enter Tryd.func18, Tryd.ntmps18
  go_wp2_with fail
  go_ret
  exact ⟨rfl, rfl⟩
theorem jlen_any (h : JAt w p O J) : Calls Tryd.prog 18 #[ptr O.g] w fun e w' => e = .returned (.int .i64 J.L.length) ∧ w = w' := by
  obtain ⟨A, c, e⟩ := h.row.slice
  exact len_at (by rw [h.j3, e])
set_option maxHeartbeats 1000000 in
theorem jall_any (h : JAt w p O J) : Calls Tryd.prog 17 #[ptr O.g] w fun e w' => ∃ v', e = .returned v' ∧ Grow w' w.heap.size 1 v' J.L.length (strs J.L) ∧ Below w.heap.size w w' := by
  obtain ⟨A, c, e, hr⟩ := Sls.Grow.row h.row
  have hl := form_len J.L
  have hroom := h.room
  have HC := Lib.hid (Sls.clone_any A c J.L w (by omega) hr)
  have h3 := h.j3
  rw [e] at h3
  clear h hr
  go_enter Tryd.func17, Tryd.ntmps17
  go_wp2_with (go_at_call 42; refine HC.out.mono ?_; rintro e w1 ⟨v', rfl, h1, b1⟩; have H1 := Lib.hid h1; have B1 := Lib.hid b1; clear h1 b1; obtain ⟨A', c', rfl⟩ := H1.out.slice)
  go_ret
  exact ⟨_, rfl, H1.out, B1.out⟩
/-- What Get returns. -/
def getV (L : List ByteArray) (i : Int) : ByteArray := if i < 0 then ⟨#[]⟩ else L.getD i.toNat ⟨#[]⟩
set_option maxHeartbeats 1000000 in
theorem jget_any (h : JAt w p O J) (i : Int) (hi : i ≤ 9223372036854775807) : Calls Tryd.prog 29 #[ptr O.g, .int .i64 i] w fun e w' => e = .returned (.string (getV J.L i)) ∧ w = w' := by
  obtain ⟨A, c, e⟩ := h.row.slice
  have h3 := h.j3
  rw [e] at h3
  unfold getV
  by_cases h0 : i < 0
  · rw [if_pos h0]
    clear h
    go_enter Tryd.func29, Tryd.ntmps29
    go_wp2_with fail
    go_ret
    exact ⟨rfl, rfl⟩
  · rw [if_neg h0]
    obtain ⟨k, rfl⟩ : ∃ k : Nat, i = k := ⟨i.toNat, by omega⟩
    rw [show ((k : Nat) : Int).toNat = k from rfl]
    by_cases hk : k < J.L.length
    · rw [List.getD_eq_getElem?_getD, List.getElem?_eq_getElem hk, Option.getD_some]
      obtain ⟨b, c2, e2, hc⟩ := grow_str h.row hk
      rw [e] at e2
      injection e2 with e2 e3 e4
      subst e2 e4
      clear h e
      generalize J.L[k] = s at *
      go_enter Tryd.func29, Tryd.ntmps29
      go_wp2_with fail
      go_ret
      exact ⟨rfl, rfl⟩
    · rw [List.getD_eq_getElem?_getD, List.getElem?_eq_none (by omega), Option.getD_none]
      have hge : (J.L.length : Int) ≤ k := by omega
      clear h e
      go_enter Tryd.func29, Tryd.ntmps29
      go_wp2_with fail
      go_ret
      exact ⟨rfl, rfl⟩
end
end Dsk
end Go.Proofs.YtpogoalbnbekaaaDoor

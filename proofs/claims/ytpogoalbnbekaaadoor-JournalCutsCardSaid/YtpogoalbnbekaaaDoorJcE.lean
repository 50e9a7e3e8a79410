/- extend, Append. -/
import Derived.Test.YtpogoalbnbekaaaDoorJcD
namespace Go.Proofs.YtpogoalbnbekaaaDoor
open Go.RowKit Wire
set_option linter.unusedVariables false
set_option linter.unusedSimpArgs false
open Txt
open Sls (strs)
namespace Dsk

/-- What extend does. -/
def Jl.ext (J : Jl) (S : St) (m : List UInt8) (n : Nat) : Int × Cl × St :=
  if (S.Write J.base ((form J.L).length : Int) m).2 ≠ 0 then ((S.Write J.base ((form J.L).length : Int) m).2, J.c, (S.Write J.base ((form J.L).length : Int) m).1) else
  if ((S.Write J.base ((form J.L).length : Int) m).1.Sync J.base).2 ≠ 0 then (((S.Write J.base ((form J.L).length : Int) m).1.Sync J.base).2, J.c, ((S.Write J.base ((form J.L).length : Int) m).1.Sync J.base).1) else
  J.c.set ((S.Write J.base ((form J.L).length : Int) m).1.Sync J.base).1 (Wr.encInt (((form J.L).length + m.length : Nat) : Int) ++ Wr.encInt ((J.L.length + n : Nat) : Int))
theorem append_ext {J : Jl} {S : St} {l : List ByteArray} (hb : J.bad = false) (hl : l ≠ []) (hr : (form (J.L ++ l)).length ≤ 1048576) :
    J.append S l = if (J.ext S (form l) l.length).1 ≠ 0 then ((J.ext S (form l) l.length).1, { J with c := (J.ext S (form l) l.length).2.1, bad := true }, (J.ext S (form l) l.length).2.2) else (0, { J with c := (J.ext S (form l) l.length).2.1, L := J.L ++ l }, (J.ext S (form l) l.length).2.2) := by
  unfold Jl.append Jl.ext Jl.note noteB
  rw [if_neg (by rw [hb]; simp), if_neg hl, if_neg (by omega), form_append, List.length_append, List.length_append]
  by_cases e1 : (S.Write J.base ((form J.L).length : Int) (form l)).2 ≠ 0
  · rw [if_pos e1, if_pos e1, if_pos e1]
  · rw [if_neg e1, if_neg e1]
    by_cases e2 : ((S.Write J.base ((form J.L).length : Int) (form l)).1.Sync J.base).2 ≠ 0
    · rw [if_pos e2, if_pos e2, if_pos e2]
    · rw [if_neg e2, if_neg e2]

/-- What the regions read. -/
abbrev JX (g p q : Nat) (base : Int) (v : Value) (size : Nat) (w : World) : Prop :=
  w.cell? ⟨g, 0, none⟩ = some (ptr p) ∧ w.cell? ⟨g, 1, none⟩ = some (.int .i64 base) ∧ w.cell? ⟨g, 2, none⟩ = some (ptr q) ∧ w.cell? ⟨g, 3, none⟩ = some v ∧ w.cell? ⟨g, 4, none⟩ = some (.int .i64 size)

section
variable {w w' w0 w1 w2 : World} {p : Nat} {J J' : Jl} {O : JO} {D D1 D' : Own} {S S' : St} {c c' : Cl}
theorem JC.cells (h : JC D O w0 w S J') (e1 : J'.base = J.base) (e2 : J'.L = J.L) : JX O.g D.p O.q J.base O.v (form J.L).length w := by
  have k := h.at_
  rw [← e1, ← e2]
  exact ⟨k.j0, k.j1, k.j2, k.j3, k.j4⟩

set_option maxRecDepth 8000 in
set_option maxHeartbeats 2000000 in
theorem extend_any (h : JC D O w0 w S J) (s : ByteArray) (n : Nat) (hs : s.size ≤ 1099511627776) (hn : n ≤ 1099511627776) :
    Calls Tryd.prog 38 #[ptr O.g, .string s, .int .i64 n] w fun e w' => e = .returned (.int .i64 (J.ext S (bl s) n).1) ∧ JC D O w0 w' (J.ext S (bl s) n).2.2 { J with c := (J.ext S (bl s) n).2.1 } := by
  obtain ⟨R, hR⟩ : ∃ R, R = J.ext S (bl s) n := ⟨_, rfl⟩
  rw [← hR]
  unfold Jl.ext at hR
  rw [bl_len] at hR
  have hroom := h.at_.room
  have hfl := form_len J.L
  obtain ⟨A, cp, hv⟩ := h.at_.row.slice
  have HX : Hid (∀ w' S' J', JC D O w0 w' S' J' → J'.base = J.base → J'.L = J.L → JX O.g D.p O.q J.base (.slice A J.L.length cp) (form J.L).length w') := Lib.hid fun w' S' J' h e1 e2 => by rw [← hv]; exact h.cells e1 e2
  have HW := Lib.hid (fun w' (h : JC D O w0 w' S J) => h.write J.base ((form J.L).length : Int) s (small_max (by omega)))
  have HY := Lib.hid (fun w' (h : JC D O w0 w' (S.Write J.base ((form J.L).length : Int) (bl s)).1 J) => h.sync J.base)
  have HN : Hid (∀ w' S', JC D O w0 w' S' J → Calls Tryd.prog 40 #[ptr O.q, .int .i64 (((form J.L).length : Int) + (s.size : Int)), .int .i64 ((J.L.length : Int) + (n : Int))] w' fun e w' => e = .returned (.int .i64 (J.c.set S' (Wr.encInt (((form J.L).length + s.size : Nat) : Int) ++ Wr.encInt ((J.L.length + n : Nat) : Int))).1) ∧ JC D O w0 w' (J.c.set S' (Wr.encInt (((form J.L).length + s.size : Nat) : Int) ++ Wr.encInt ((J.L.length + n : Nat) : Int))).2.2 { J with c := (J.c.set S' (Wr.encInt (((form J.L).length + s.size : Nat) : Int) ++ Wr.encInt ((J.L.length + n : Nat) : Int))).2.1 }) := Lib.hid fun w' S' h => by
    have := h.note ((form J.L).length + s.size) (J.L.length + n) (by omega) (by omega)
    rwa [Int.natCast_add, Int.natCast_add] at this
  have hw1 : IntKind.i64.wrap (((form J.L).length : Int) + (s.size : Int)) = ((form J.L).length : Int) + (s.size : Int) := IntWalk.i64_in _ (by omega)
  have hw2 : IntKind.i64.wrap ((J.L.length : Int) + (n : Int)) = (J.L.length : Int) + (n : Int) := IntWalk.i64_in _ (by omega)
  have HWW := Lib.hid (And.intro hw1 hw2)
  clear hw1 hw2 hs hn hroom hfl
  have H := Lib.hid h
  clear h hv
  generalize S.Write J.base ((form J.L).length : Int) (bl s) = X at *
  obtain ⟨S1, er1⟩ := X
  dsimp only at HW HY hR
  generalize S1.Sync J.base = Y at *
  obtain ⟨S2, er2⟩ := Y
  dsimp only at HY hR
  have HN2 := Lib.hid (fun w' h => HN.out w' S2 h)
  clear HN
  generalize J.c.set S2 (Wr.encInt (((form J.L).length + s.size : Nat) : Int) ++ Wr.encInt ((J.L.length + n : Nat) : Int)) = Z at *
  have HR := Lib.hid hR
  clear hR
  go_enter Tryd.func38, Tryd.ntmps38
  go_upto_region 1 with (fail)
  have H1d := Lib.hid (H.out.below (Below.refl _ w).drew)
  clear H
  go_region_held3 (fun w' => JX O.g D.p O.q J.base (.slice A J.L.length cp) (form J.L).length w') (first | exact HX.out _ _ _ H1d.out rfl rfl | exact HX.out _ _ _ h5 rfl rfl | go_keep)
    (first
      | (go_at_call 23; refine (HW.out _ H1d.out).mono ?_; rintro e w5 ⟨rfl, h5⟩))
  clear H1d HW
  have H5 := Lib.hid h5
  clear h5
  by_cases e1 : er1 = 0
  case neg =>
    have q1 : (er1 == 0) = false := beq_eq_false_iff_ne.2 e1
    have hr : R = (er1, J.c, S1) := by rw [HR.out, if_pos e1]
    subst hr
    clear HR HY HN2
    go_wp2_with fail
    go_ret
    exact ⟨rfl, H5.out⟩
  subst e1
  rw [if_neg (by simp)] at HR
  go_upto_region 4 with (fail)
  have H5d := Lib.hid (H5.out.below (Below.refl _ _).drew)
  clear H5
  go_region_held3 (fun w' => JX O.g D.p O.q J.base (.slice A J.L.length cp) (form J.L).length w') (first | exact HX.out _ _ _ H5d.out rfl rfl | exact HX.out _ _ _ h6 rfl rfl | go_keep)
    (first
      | (go_at_call 54; refine (HY.out _ H5d.out).mono ?_; rintro e w6 ⟨rfl, h6⟩))
  clear H5d HY
  have H6 := Lib.hid h6
  clear h6
  by_cases e2 : er2 = 0
  case neg =>
    have q2 : (er2 == 0) = false := beq_eq_false_iff_ne.2 e2
    have hr : R = (er2, J.c, S2) := by rw [HR.out, if_pos e2]
    subst hr
    clear HR HN2
    go_wp2_with fail
    go_ret
    exact ⟨rfl, H6.out⟩
  subst e2
  rw [if_neg (by simp)] at HR
  have hr := HR.out
  subst hr
  clear HR
  go_upto_region 7 with (fail)
  have H6d := Lib.hid (H6.out.below (Below.refl _ _).drew)
  obtain ⟨hw1, hw2⟩ := HWW.out
  clear H6
  try go_frame
  refine wp_region_sorted (fun w' => JX O.g D.p O.q J.base (.slice A J.L.length cp) (form J.L).length w') [0, 1, 2, 3, 4, 5, 6, 7, 8, 9, 10, 11, 13] [12, 14, 15, 16] (by kernel_rfl) (by kernel_rfl) (HX.out _ _ _ H6d.out rfl rfl) ?_
  repeat refine RD.next rfl rfl (by intro w' hS; obtain ⟨s0, s1, s2, s3, s4⟩ := hS; go_simp; with_reducible rfl) ?_
  refine RD.done ?_
  refine CH.next rfl rfl fun K hK => ?_
  go_simp
  refine (len_at (HX.out _ _ _ H6d.out rfl rfl).2.2.2.1).mono ?_
  rintro e w4 ⟨rfl, rfl⟩
  refine hK _ _ (HX.out _ _ _ H6d.out rfl rfl) ?_
  clear hK
  refine CH.next rfl rfl fun K hK => ?_
  go_simp
  refine hK _ _ (HX.out _ _ _ H6d.out rfl rfl) ?_
  clear hK
  refine CH.next rfl rfl fun K hK => ?_
  go_simp
  refine (HN2.out _ H6d.out).mono ?_
  rintro e w7 ⟨rfl, h7⟩
  refine hK _ _ (HX.out _ _ _ h7 rfl rfl) ?_
  clear hK
  refine CH.next rfl rfl fun K hK => ?_
  go_simp
  refine hK _ _ (HX.out _ _ _ h7 rfl rfl) ?_
  clear hK
  refine CH.done (NoPanic.normal ?_)
  clear H6d HN2 hw1 hw2
  have H7 := Lib.hid h7
  clear h7
  go_wp2_with fail
  go_ret
  exact ⟨rfl, H7.out⟩
end
end Dsk
end Go.Proofs.YtpogoalbnbekaaaDoor

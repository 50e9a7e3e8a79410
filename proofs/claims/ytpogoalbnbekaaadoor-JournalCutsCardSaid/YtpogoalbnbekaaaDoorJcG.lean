/- Cut. -/
import Derived.Test.YtpogoalbnbekaaaDoorJcF
namespace Go.Proofs.YtpogoalbnbekaaaDoor
open Go.RowKit Wire
set_option linter.unusedVariables false
set_option linter.unusedSimpArgs false
open Txt
open Sls (strs)
namespace Dsk

section
variable {w w' w0 w1 w2 : World} {p : Nat} {J J' : Jl} {O : JO} {D D1 D' : Own} {S S' : St} {c c' : Cl}
/-- The end of a list. -/
theorem sizeOf_end {L : List ByteArray} {gb cap n : Nat} {w : World} (h : Grow w 0 1 (.slice (some ⟨gb, 0, none⟩) L.length cap) L.length (strs L)) (hn : n < L.length) (hm : (form L).length ≤ 16777216) :
    Calls Tryd.prog 39 #[.slice (some ⟨gb, n, none⟩) (L.length - n) (cap - n)] w fun e w' => e = .returned (.int .i64 (form (L.drop n)).length) ∧ Below w.heap.size w w' := by
  have hfa := congrArg List.length (form_append (L.take n) (L.drop n))
  rw [List.take_append_drop, List.length_append] at hfa
  rcases h.form with ⟨e, _⟩ | ⟨g', cap', e, h1, h2, h3, h4, h5, h6, h7⟩
  · cases e
  · injection e with e1 _ e3
    injection e1 with e1
    injection e1 with e1 _ _
    subst e1 e3
    have hr : Row w w.heap.size (some ⟨gb, n, none⟩) (strs (L.drop n)) := fun k u hu => by
      refine ⟨gb, n, rfl, h2, h7 (n + k) u ?_⟩
      rw [show strs (L.drop n) = (strs L).drop n from List.map_drop, List.getElem?_drop] at hu
      exact hu
    have := sizeOf_any (some ⟨gb, n, none⟩) (cap - n) (L.drop n) w hr (by omega)
    rwa [List.length_drop] at this
set_option maxRecDepth 8000 in
set_option maxHeartbeats 2000000 in
theorem jcut_any (h : JC D O w w S J) (n : Int) (hn1 : -9223372036854775808 ≤ n) (hn2 : n ≤ 9223372036854775807) :
    Calls Tryd.prog 14 #[ptr O.g, .int .i64 n] w fun e w' => e = .returned (.int .i64 (J.cut S n).1) ∧ JP D O w w' (J.cut S n).2.2 (J.cut S n).2.1 := by
  have j5 := h.at_.j5
  have j3 := h.at_.j3
  have H := Lib.hid h
  have HLN : Hid (Calls Tryd.prog 18 #[ptr O.g] w fun e w' => e = .returned (.int .i64 J.L.length) ∧ w = w') := Lib.hid (jlen_any h.at_)
  cases hb : J.bad with
  | true =>
    rw [cut_bad hb]
    rw [hb] at j5
    clear h
    go_enter Tryd.func14, Tryd.ntmps14
    go_wp2_with fail
    go_ret
    exact ⟨rfl, H.out.jp⟩
  | false =>
    rw [hb] at j5
    by_cases hneg : n < 0
    · have e : J.cut S n = (1, J, S) := by unfold Jl.cut; rw [if_neg (by rw [hb]; simp), if_pos (.inl hneg)]
      rw [e]
      clear h e
      go_enter Tryd.func14, Tryd.ntmps14
      go_wp2_with fail
      go_ret
      exact ⟨rfl, H.out.jp⟩
    by_cases hbig : (J.L.length : Int) < n
    · have e : J.cut S n = (1, J, S) := by unfold Jl.cut; rw [if_neg (by rw [hb]; simp), if_pos (.inr hbig)]
      rw [e]
      clear h e
      go_enter Tryd.func14, Tryd.ntmps14
      go_wp2_with (go_at_call 18; refine HLN.out.mono ?_; rintro e w1 ⟨rfl, rfl⟩)
      go_ret
      exact ⟨rfl, H.out.jp⟩
    by_cases hall : n = (J.L.length : Int)
    · have e : J.cut S n = (0, J, S) := by unfold Jl.cut; rw [if_neg (by rw [hb]; simp), if_neg (by omega), if_pos hall]
      rw [e]
      subst hall
      clear h e
      go_enter Tryd.func14, Tryd.ntmps14
      go_wp2_with (go_at_call 18; refine HLN.out.mono ?_; rintro e w1 ⟨rfl, rfl⟩)
      go_ret
      exact ⟨rfl, H.out.jp⟩
    obtain ⟨k, rfl⟩ : ∃ k : Nat, n = k := ⟨n.toNat, by omega⟩
    have hk : k < J.L.length := by omega
    have hcut : J.cut S (k : Int) = J.note S (J.L.take k) := by
      unfold Jl.cut
      rw [if_neg (by rw [hb]; simp), if_neg (by omega), if_neg (by omega)]
      rfl
    rw [hcut]
    have hroom := h.at_.room
    have hfl := form_len J.L
    have hfa := congrArg List.length (form_append (J.L.take k) (J.L.drop k))
    rw [List.take_append_drop, List.length_append] at hfa
    have htl : (J.L.take k).length = k := by rw [List.length_take]; omega
    obtain ⟨gb, cap, hv, hrow⟩ : ∃ gb cap, O.v = .slice (some ⟨gb, 0, none⟩) J.L.length cap ∧ J.L.length ≤ cap ∧ cap ≤ maxLen := by
      obtain ⟨g, cap, e, _, _, h3, h4, _⟩ := h.at_.row.form.resolve_left (fun e => by omega)
      exact ⟨g, cap, e, h3, h4⟩
    obtain ⟨hcap, hmax⟩ := hrow
    unfold maxLen at hmax
    have HX : Hid (∀ w' S' J', JC D O w w' S' J' → J'.base = J.base → J'.L = J.L → JX O.g D.p O.q J.base (.slice (some ⟨gb, 0, none⟩) J.L.length cap) (form J.L).length w') := Lib.hid fun w' S' J' h e1 e2 => by rw [← hv]; exact h.cells e1 e2
    have HSZ : Hid (∀ w' S' J', JC D O w w' S' J' → J'.L = J.L → Calls Tryd.prog 39 #[.slice (some ⟨gb, k, none⟩) (J.L.length - k) (cap - k)] w' fun e w2 => e = .returned (.int .i64 (form (J.L.drop k)).length) ∧ Below w'.heap.size w' w2) := Lib.hid fun w' S' J' h e2 => by
      have hrw := h.at_.row
      rw [e2, hv] at hrw
      exact sizeOf_end hrw hk hroom
    have HN : Hid (∀ w', JC D O w w' S J → Calls Tryd.prog 40 #[ptr O.q, .int .i64 (form (J.L.take k)).length, .int .i64 k] w' fun e w' => e = .returned (.int .i64 (J.c.set S (noteB (J.L.take k))).1) ∧ JC D O w w' (J.c.set S (noteB (J.L.take k))).2.2 { J with c := (J.c.set S (noteB (J.L.take k))).2.1 }) := Lib.hid fun w' h => by
      have := h.note (form (J.L.take k)).length k (by omega) (by omega)
      unfold noteB
      rw [htl]
      exact this
    have HD : Hid (∀ w' S' J', JC D O w w' S' J' → J'.L = J.L → Calls Tryd.prog 41 #[.slice (some ⟨gb, 0, none⟩) J.L.length cap, .int .i64 k, .int .i64 J.L.length] w' (Sls.DelPost w' 0 k (.slice (some ⟨gb, 0, none⟩) J.L.length cap) J.L)) := Lib.hid fun w' S' J' h e2 => by
      have hrw := h.at_.row
      rw [e2, hv] at hrw
      exact Sls.delete_any 0 k _ J.L w' (by omega) hk hrw
    have HJ : Hid (∀ w' w2 S' J' v', J'.L = J.L → JC D O w w' S' J' → Grow w2 0 1 v' k (strs (J.L.take k)) → w'.grownBy w2 (Value.slice (some ⟨gb, 0, none⟩) J.L.length cap).ownBlock → v'.ownBlock = (Value.slice (some ⟨gb, 0, none⟩) J.L.length cap).ownBlock →
        (w2.cell? ⟨O.g, 0, none⟩ = some (ptr D.p) ∧ w2.cell? ⟨O.g, 3, none⟩ = some (.slice (some ⟨gb, 0, none⟩) J.L.length cap) ∧ w2.cell? ⟨O.g, 4, none⟩ = some (.int .i64 (form J.L).length) ∧ w2.frozen? ⟨O.g, 3, none⟩ = false ∧ w2.frozen? ⟨O.g, 4, none⟩ = false) ∧
        JP D O w ((w2.setCell ⟨O.g, 3, none⟩ v').setCell ⟨O.g, 4, none⟩ (.int .i64 (form (J.L.take k)).length)) S' { J' with L := J.L.take k }) := Lib.hid fun w' w2 S' J' v' e1 h hg hgr hvv => by
      have hh := h.list (w2 := w2) (v' := v') (L' := J.L.take k) (by rw [htl]; exact hg) (by rw [hv]; exact hgr) (.inl (by rw [hv]; exact hvv)) (by omega)
      rw [hv, e1] at hh
      exact hh
    have hw1 : IntKind.i64.wrap (((form J.L).length : Int) - ((form (J.L.drop k)).length : Int)) = ((form (J.L.take k)).length : Int) := by rw [IntWalk.i64_in _ (by omega)]; omega
    have hck : ¬ cap = k := by omega
    have HV := Lib.hid hv
    clear h hv hfa hroom hfl htl hcut
    unfold Jl.note
    generalize J.c.set S (noteB (J.L.take k)) = X at *
    obtain ⟨er, c2, S2⟩ := X
    dsimp only at HN ⊢
    obtain ⟨R, hR⟩ : ∃ R : Int × Jl × St, R = if er ≠ 0 then (er, { J with c := c2, bad := true }, S2) else (0, { J with c := c2, L := J.L.take k }, S2) := ⟨_, rfl⟩
    rw [← hR]
    have HR := Lib.hid hR
    clear hR
    go_enter Tryd.func14, Tryd.ntmps14
    go_upto_region 7 with (go_at_call 18; refine HLN.out.mono ?_; rintro e w1 ⟨rfl, rfl⟩)
    have Hd := Lib.hid (H.out.below (Below.refl _ w).drew)
    clear H HLN
    try go_frame
    refine wp_region_sorted (fun w' => JX O.g D.p O.q J.base (.slice (some ⟨gb, 0, none⟩) J.L.length cap) (form J.L).length w') [0, 1, 2, 3, 4, 5, 6, 7, 8, 9] [10, 11, 12] (by kernel_rfl) (by kernel_rfl) (HX.out _ _ _ Hd.out rfl rfl) ?_
    repeat refine RD.next rfl rfl (by intro w' hS; obtain ⟨s0, s1, s2, s3, s4⟩ := hS; go_simp; with_reducible rfl) ?_
    refine RD.done ?_
    refine CH.next rfl rfl fun K hK => ?_
    go_simp
    refine (HSZ.out _ _ _ Hd.out rfl).mono ?_
    rintro e w4 ⟨rfl, b4⟩
    have H4 := Lib.hid (Hd.out.below b4)
    clear b4
    refine hK _ _ (HX.out _ _ _ H4.out rfl rfl) ?_
    clear hK Hd
    refine CH.next rfl rfl fun K hK => ?_
    go_simp
    refine hK _ _ (HX.out _ _ _ H4.out rfl rfl) ?_
    clear hK
    refine CH.next rfl rfl fun K hK => ?_
    go_simp
    refine hK _ _ (HX.out _ _ _ H4.out rfl rfl) ?_
    clear hK
    refine CH.done (NoPanic.normal ?_)
    clear hw1 HSZ
    have z2 := (HX.out _ _ _ H4.out rfl rfl).2.2.1
    by_cases e1 : er = 0
    case neg =>
      have q1 : (er == 0) = false := beq_eq_false_iff_ne.2 e1
      have hr : R = (er, { J with c := c2, bad := true }, S2) := by rw [HR.out, if_pos e1]
      subst hr
      clear HR
      go_wp2_with (go_at_call 40; refine (HN.out _ H4.out).mono ?_; rintro e w5 ⟨rfl, h5⟩; have H5 := Lib.hid h5; have z0 := h5.at_.j5; have z1 := h5.at_.free (j := 5) (by omega); clear h5)
      go_ret
      exact ⟨rfl, by have q := H5.out.bad.jp; exact q⟩
    subst e1
    have hr : R = (0, { J with c := c2, L := J.L.take k }, S2) := by rw [HR.out, if_neg (by simp)]
    subst hr
    clear HR
    go_upto_region 12 with (go_at_call 40; refine (HN.out _ H4.out).mono ?_; rintro e w5 ⟨rfl, h5⟩; have H5 := Lib.hid h5; clear h5)
    have H5d := Lib.hid (H5.out.below (Below.refl _ _).drew)
    clear H5 H4 z2
    try go_frame
    refine wp_region_late (fun w' => JX O.g D.p O.q J.base (.slice (some ⟨gb, 0, none⟩) J.L.length cap) (form J.L).length w') [0, 1, 2, 3, 4, 5, 6] [7, 8, 9, 10] [11] (by kernel_rfl) (by kernel_rfl) (by kernel_rfl) (HX.out _ _ _ H5d.out rfl rfl) ?_
    repeat refine RD.next rfl rfl (by intro w' hS; obtain ⟨s0, s1, s2, s3, s4⟩ := hS; go_simp; with_reducible rfl) ?_
    refine RD.done ?_
    refine CHW.next rfl rfl fun K hK => ?_
    go_simp
    refine (len_at (HX.out _ _ _ H5d.out rfl rfl).2.2.2.1).mono ?_
    rintro e w7 ⟨rfl, rfl⟩
    simp only [Oper.upon]
    refine hK _ _ (HX.out _ _ _ H5d.out rfl rfl) ?_
    clear hK
    refine CHW.next rfl rfl fun K hK => ?_
    go_simp
    refine (HD.out _ _ _ H5d.out rfl).mono ?_
    rintro e w8 ⟨v', rfl, hg8, hgr8, hv8⟩
    have HS8 : Hid (JX O.g D.p O.q J.base (.slice (some ⟨gb, 0, none⟩) J.L.length cap) (form J.L).length w8) := Lib.hid (by
      have h := H5d.out.at_
      have hx := HX.out _ _ _ H5d.out rfl rfl
      have e : w8.heap[O.g]? = _ := hgr8.block O.g h.lt (fun e => by
        have e2 : O.v.ownBlock = some O.g := by rw [HV.out]; exact e.symm
        exact (h.vg _ e2).1 rfl)
      exact ⟨(World.cell?_of_block (a := ⟨O.g, 0, none⟩) e).trans hx.1, (World.cell?_of_block (a := ⟨O.g, 1, none⟩) e).trans hx.2.1, (World.cell?_of_block (a := ⟨O.g, 2, none⟩) e).trans hx.2.2.1, (World.cell?_of_block (a := ⟨O.g, 3, none⟩) e).trans hx.2.2.2.1, (World.cell?_of_block (a := ⟨O.g, 4, none⟩) e).trans hx.2.2.2.2⟩)
    have HJ8 := Lib.hid (HJ.out _ _ _ { J with c := c2 } _ rfl H5d.out hg8 hgr8 hv8)
    obtain ⟨A8, c8, rfl⟩ := hg8.slice
    clear hg8 hgr8 hv8 H5d HD HJ HN
    simp only [Oper.upon]
    refine hK _ _ HS8.out ?_
    clear hK
    refine CHW.next rfl rfl fun K hK => ?_
    obtain ⟨s0, s1, s2, s3, s4⟩ := HS8.out
    go_simp
    refine hK _ _ HS8.out ?_
    clear hK
    refine CHW.next rfl rfl fun K hK => ?_
    go_simp
    refine hK _ _ HS8.out ?_
    clear hK
    refine CHW.done ?_
    refine CH.next rfl rfl fun K hK => ?_
    obtain ⟨⟨y0, y3, y4, f3, f4⟩, hj⟩ := HJ8.out
    have HJP := Lib.hid hj
    clear hj HJ8 HS8
    go_simp
    refine hK _ _ trivial ?_
    clear hK
    refine CH.done (NoPanic.normal ?_)
    try go_frame
    go_wp2_with fail
    go_ret
    exact ⟨rfl, by have q := HJP.out; rwa [hb] at q⟩
end
end Dsk
end Go.Proofs.YtpogoalbnbekaaaDoor

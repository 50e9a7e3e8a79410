/- Append. -/
import Derived.Test.YtpogoalbnbekaaaDoorJcE
namespace Go.Proofs.YtpogoalbnbekaaaDoor
open Go.RowKit Wire
set_option linter.unusedVariables false
set_option linter.unusedSimpArgs false
open Txt
open Sls (strs)
namespace Dsk

section
variable {w w' w0 w1 w2 : World} {p : Nat} {J J' : Jl} {O : JO} {D D1 D' : Own} {S S' : St} {c c' : Cl}
theorem append_full' {S : St} {J : Jl} {l : List ByteArray} (hb : J.bad = false) (hl : l ≠ []) (hr : 1048576 < (form (J.L ++ l)).length) : J.append S l = (6, J, S) := by
  unfold Jl.append
  rw [if_neg (by rw [hb]; simp), if_neg hl, if_pos hr]
set_option maxRecDepth 8000 in
set_option maxHeartbeats 2000000 in
theorem append_any (h : JC D O w w S J) (A : Option Addr) (cp : Nat) (l : List ByteArray) (hr : Row w w.heap.size A (strs l)) (hcl : ∀ b o, A = some ⟨b, o, none⟩ → l ≠ [] → ¬ D.has b ∧ ¬ O.has b) (hn : l.length ≤ 1099511627776) :
    Calls Tryd.prog 13 #[ptr O.g, .slice A l.length cp] w fun e w' => e = .returned (.int .i64 (J.append S l).1) ∧ JP D O w w' (J.append S l).2.2 (J.append S l).2.1 := by
  obtain ⟨i0, hi0, hi1, hi2, hi3⟩ := info_parts info_str
  have j5 := h.at_.j5
  have H := Lib.hid h
  cases hb : J.bad with
  | true =>
    rw [append_bad hb]
    rw [hb] at j5
    clear h hr hcl
    go_enter Tryd.func13, Tryd.ntmps13
    go_wp2_with fail
    go_ret
    exact ⟨rfl, H.out.jp⟩
  | false =>
    rw [hb] at j5
    by_cases hl : l = []
    · subst hl
      have e : J.append S [] = (0, J, S) := by unfold Jl.append; rw [if_neg (by rw [hb]; simp), if_pos rfl]
      rw [e]
      clear h hr hcl e
      go_enter Tryd.func13, Tryd.ntmps13
      go_wp2_with fail
      go_ret
      exact ⟨rfl, H.out.jp⟩
    · have hll : ((l.length : Int) == 0) = false := beq_eq_false_iff_ne.2 (by have : l.length ≠ 0 := fun e => hl (List.eq_nil_of_length_eq_zero e); omega)
      have hroom := h.at_.room
      have hfl := form_len J.L
      have hfa := congrArg List.length (form_append J.L l)
      rw [List.length_append] at hfa
      obtain ⟨k0, k1, k2, k3, k4⟩ := h.cells rfl rfl
      have hw1 : wrap64 (1048576 - ((form J.L).length : Int)) = 1048576 - ((form J.L).length : Int) := IntWalk.wrap64_in _ (by omega)
      have HF := Lib.hid (form_any A cp l (1048576 - ((form J.L).length : Int)) w hr (by omega) (by omega))
      by_cases hfit : (form (J.L ++ l)).length ≤ 1048576
      case neg =>
        have hv : formV l (1048576 - ((form J.L).length : Int)) = .tuple #[str [], .bool false] := by
          unfold formV
          rw [if_neg]
          rintro (e | e)
          · exact hl e
          · omega
        rw [hv] at HF
        rw [append_full' hb hl (by omega)]
        clear h hr hcl hv hfa hroom hfl
        go_enter Tryd.func13, Tryd.ntmps13
        go_wp2_with (go_at_call 37; refine HF.out.mono ?_; rintro e w1 ⟨rfl, b1⟩; have B1 := Lib.hid b1; clear b1)
        go_ret
        exact ⟨rfl, (H.out.below B1.out).jp⟩
      have hv : formV l (1048576 - ((form J.L).length : Int)) = .tuple #[str (form l), .bool true] := by
        unfold formV
        rw [if_pos (.inr (by omega))]
      rw [hv] at HF
      rw [append_ext hb hl hfit]
      have HX := Lib.hid (fun w' (h : JC D O w w' S J) => extend_any h ⟨(form l).toArray⟩ l.length (by rw [bytes_size]; omega) hn)
      have hsz : (⟨(form l).toArray⟩ : ByteArray).size = (form l).length := rfl
      rw [bl_mk] at HX
      unfold str at HF
      generalize hsb : (⟨(form l).toArray⟩ : ByteArray) = sb at *
      have hlf := form_len l
      have hrow := h.at_.row
      have hvg := h.at_.vg
      have hcap : J.L.length + l.length ≤ 1048576 := by omega
      have HRW : Hid (∀ w' S' J', JC D O w w' S' J' → Row w' w'.heap.size A (strs l)) := Lib.hid fun w' S' J' h => h.row hr hcl
      have HJ : Hid (∀ w' w2 S' J' v', J'.L = J.L → JC D O w w' S' J' → Grow w2 0 1 v' (J.L.length + l.length) (strs J.L ++ strs l) → w'.grownBy w2 O.v.ownBlock → (v'.ownBlock = O.v.ownBlock ∨ v'.ownBlock = some w'.heap.size) →
          (w2.cell? ⟨O.g, 0, none⟩ = some (ptr D.p) ∧ w2.cell? ⟨O.g, 3, none⟩ = some O.v ∧ w2.cell? ⟨O.g, 4, none⟩ = some (.int .i64 (form J.L).length) ∧ w2.frozen? ⟨O.g, 3, none⟩ = false ∧ w2.frozen? ⟨O.g, 4, none⟩ = false) ∧
          JP D O w ((w2.setCell ⟨O.g, 3, none⟩ v').setCell ⟨O.g, 4, none⟩ (.int .i64 (((form J.L).length : Int) + (sb.size : Int)))) S' { J' with L := J.L ++ l }) := Lib.hid fun w' w2 S' J' v' e1 h hg hgr hvv => by
        have hh := h.list (w2 := w2) (v' := v') (L' := J.L ++ l) (by rw [List.length_append, show strs (J.L ++ l) = strs J.L ++ strs l from List.map_append]; exact hg) hgr hvv (by omega)
        rw [hfa, Int.natCast_add, ← hsz, e1] at hh
        exact hh
      have hw2 : wrap64 (((form J.L).length : Int) + (sb.size : Int)) = ((form J.L).length : Int) + (sb.size : Int) := IntWalk.wrap64_in _ (by omega)
      have HB := Lib.hid (And.intro (small_max (n := J.L.length + l.length) (by omega)) (by omega : (J.L.length + l.length) * 16 ≤ 140737488355328))
      clear h hr hcl hv hfa hroom hfl hfit hsb hsz hlf hcap
      generalize J.ext S (form l) l.length = X at *
      obtain ⟨er, c2, S2⟩ := X
      dsimp only at HX ⊢
      by_cases e1 : er = 0
      case neg =>
        have q1 : (er == 0) = false := beq_eq_false_iff_ne.2 e1
        rw [if_pos e1]
        clear HJ HRW hrow hw2 HB hvg
        go_enter Tryd.func13, Tryd.ntmps13
        go_wp2_with (first
          | (go_at_call 37; refine HF.out.mono ?_; rintro e w1 ⟨rfl, b1⟩; have H1 := Lib.hid (H.out.below b1); clear b1 H)
          | (go_at_call 38; refine (HX.out _ H1.out).mono ?_; rintro e w2 ⟨rfl, h2⟩; have H2 := Lib.hid h2; have z0 := h2.at_.j5; have z1 := h2.at_.free (j := 5) (by omega); clear h2))
        go_ret
        exact ⟨rfl, H2.out.bad.jp⟩
      subst e1
      rw [if_neg (by simp)]
      go_enter Tryd.func13, Tryd.ntmps13
      go_wp2_with (first
        | (go_at_call 37; refine HF.out.mono ?_; rintro e w1 ⟨rfl, b1⟩; have H1 := Lib.hid (H.out.below b1); clear b1 H)
        | (go_at_call 38; refine (HX.out _ H1.out).mono ?_; rintro e w2 ⟨rfl, h2⟩; have H2 := Lib.hid h2; have z3 := h2.at_.j3; have R2 := Lib.hid (HRW.out _ _ _ h2); have G2 := Lib.hid h2.at_.row; clear h2)
        | (at_builtin; go_must (refine wpList_append_src _ rfl (.tmp 42) (.tmp 43) _ _ rfl 0 9 i0 _ 1 16 Tryd.underlying32 hi0 hi1 hi2 hi3 rfl (by omega) O.v J.L.length (strs J.L) rfl G2.out _ l.length (strs l) rfl (Sls.src_row' R2.out) HB.out.1 HB.out.2 (Nat.zero_le _) ?_); intro v6 w6 hown6 hg6 hor6
           obtain ⟨⟨y0, y3, y4, f3, f4⟩, hj⟩ := HJ.out _ _ _ { J with c := c2 } _ rfl H2.out hown6 hg6 hor6
           have HJ6 := Lib.hid hj
           obtain ⟨A6, c6, rfl⟩ := hown6.slice
           clear hj hown6 hg6 hor6))
      go_ret
      exact ⟨rfl, by have q := HJ6.out; rwa [hb] at q⟩
end
end Dsk
end Go.Proofs.YtpogoalbnbekaaaDoor

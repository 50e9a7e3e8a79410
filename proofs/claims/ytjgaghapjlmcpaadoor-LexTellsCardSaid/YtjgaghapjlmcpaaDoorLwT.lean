/- LexTells: the walk. -/
import Derived.Test.YtjgaghapjlmcpaaDoorLsB
import Derived.Test.YtjgaghapjlmcpaaDoorLyA
import Derived.Test.YtjgaghapjlmcpaaDoorLyB
namespace Go.Proofs.YtjgaghapjlmcpaaDoor
open Go.RowKit Wire Txt
set_option linter.unusedVariables false
set_option linter.unusedSimpArgs false
namespace Lx

set_option maxRecDepth 8000 in
set_option maxHeartbeats 4000000 in
theorem tells_law (s : ByteArray) (W : World) :
    Calls Tryd.prog 3 #[.string s] W fun e w' => e = .returned (.bool true) ∧ Below W.heap.size W w' := by
  by_cases hl : 21000 < s.size
  · go_enter Tryd.func3, Tryd.ntmps3
    go_wp2_with (go_at_call 8; refine (small_any _).mono ?_; rintro e w1 ⟨rfl, b1⟩)
    go_ret
    exact ⟨rfl, b1⟩
  · obtain ⟨er, k, l, hform, hshort, hlines⟩ := lpost_form (bl s)
    have HP : Hid (∀ w, Calls Tryd.prog 9 #[.string s] w fun e w' => Below w.heap.size w w' ∧ ∃ v, e = .returned (.tuple #[v, .int .i64 er, .int .i64 k]) ∧ Has w' v l) := Lib.hid fun w => (lex_any (bl s) w (by rw [bl_len]; omega)).mono (hform w)
    have HQ : Hid (∀ w, Calls Tryd.prog 10 #[.string s] w fun e w' => Below w.heap.size w w' ∧ ∃ v, e = .returned (.tuple #[v, .int .i64 er, .int .i64 k]) ∧ Has w' v l) := Lib.hid fun w => (rlex_any (bl s) w (by rw [bl_len]; omega)).mono (hform w)
    have HS : Hid (∀ va vb w, Has w va l → Has w vb l → Calls Tryd.prog 11 #[va, vb, .int .i64 0] w fun e w' => e = .returned (.bool true) ∧ Below w.heap.size w w') := Lib.hid fun va vb w ha hb => by
      have := same9_any va vb l l 0 w ha hb (by have := hshort.1; omega) (by have := hshort.1; omega) (by omega) hlines
      rw [up_zero, decide_eq_true rfl] at this
      exact this
    obtain ⟨u, hu⟩ := mk_bl (wrP l)
    have HW : Hid (∀ v w, Has w v l → Calls Tryd.prog 12 #[v] w fun e w' => e = .returned (.string u) ∧ Below w.heap.size w w') := Lib.hid fun v w hv => by
      have := write_any v l w hv hshort
      rwa [← hu] at this
    have HX : Hid (∀ v w, Has w v l → Calls Tryd.prog 13 #[v] w fun e w' => e = .returned (.string u) ∧ Below w.heap.size w w') := Lib.hid fun v w hv => by
      have := rwrite_any v l w hv hshort
      rwa [← hu] at this
    have HD := Lib.hid (fun w => word_any s w (by omega))
    have HE := Lib.hid (fun w => rword_any s w (by omega))
    generalize word (bl s) = bw at HD HE
    clear hform hshort hlines hu
    go_enter Tryd.func3, Tryd.ntmps3
    go_wp2_with (first
      | (go_at_call 15; have B6' := B6.out; refine (HE.out _).mono ?_; rintro e w7 ⟨rfl, rfl⟩)
      | (go_at_call 14; refine (HD.out _).mono ?_; rintro e w6 ⟨rfl, b6⟩; have B6 := Lib.hid (next_below B5.out b6); clear b6)
      | (go_at_call 13; refine (HX.out _ _ Y4.out).mono ?_; rintro e w5 ⟨rfl, b5⟩; have B5 := Lib.hid (next_below B4.out b5); clear b5)
      | (go_at_call 12; refine (HW.out _ _ X3.out).mono ?_; rintro e w4 ⟨rfl, b4⟩; have B4 := Lib.hid (next_below B3.out b4); have Y4 := Lib.hid (Y3.out.keep b4); clear b4)
      | (go_at_call 11; refine (HS.out _ _ _ X2.out Y2.out).mono ?_; rintro e w3 ⟨rfl, b3⟩; have B3 := Lib.hid (next_below B2.out b3); have X3 := Lib.hid (X2.out.keep b3); have Y3 := Lib.hid (Y2.out.keep b3); clear b3)
      | (go_at_call 10; refine (HQ.out _).mono ?_; rintro e w2 ⟨b2, v2, rfl, y2⟩; have B2 := Lib.hid (next_below B1.out b2); have X2 := Lib.hid (X1.out.keep b2); have Y2 := Lib.hid y2; clear b2 y2)
      | (go_at_call 9; refine (HP.out _).mono ?_; rintro e w1 ⟨b1, v1, rfl, x1⟩; have B1 := Lib.hid (next_below B0.out b1); have X1 := Lib.hid x1; clear b1 x1)
      | (go_at_call 8; refine (small_any _).mono ?_; rintro e w0 ⟨rfl, b0⟩; have B0 := Lib.hid b0; clear b0))
    go_ret
    exact ⟨rfl, B6.out⟩
end Lx
end Go.Proofs.YtjgaghapjlmcpaaDoor

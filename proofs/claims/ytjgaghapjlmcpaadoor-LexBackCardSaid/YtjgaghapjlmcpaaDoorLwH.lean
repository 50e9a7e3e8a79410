/- LexWhite: the walk. -/
import Derived.Test.YtjgaghapjlmcpaaDoorLsB
import Derived.Test.YtjgaghapjlmcpaaDoorLyB
namespace Go.Proofs.YtjgaghapjlmcpaaDoor
open Go.RowKit Wire Txt
set_option linter.unusedVariables false
set_option linter.unusedSimpArgs false
namespace Lx

theorem lexP_err : ∀ a line, ∀ e k, lexP a line = .bad e k → (e = 3 ∨ e = 11) ∧ line ≤ k := by
  refine lexP_ind (fun line e k h => ?_) (fun c r line hw ih e k h => ?_) (fun r line ih e k h => ?_) (fun c r line e hw h35 ht e' k h => ?_) (fun c r line kind text n rest hw h35 ht ih e k h => ?_)
  · rw [lexP_nil] at h
    cases h
  · rw [lexP_white hw] at h
    exact ih e k h
  · rw [lexP_note] at h
    exact ih e k h
  · rw [lexP_bad hw h35 ht] at h
    cases h
    exact ⟨tok_bad ht, Nat.le_refl _⟩
  · rw [lexP_got hw h35 ht] at h
    cases hr : lexP rest (nxt kind line) with
    | ok l => rw [hr] at h; cases h
    | bad e2 k2 =>
      rw [hr] at h
      cases h
      have := ih e k hr
      have hn : line ≤ nxt kind line := by unfold nxt; split <;> omega
      exact ⟨this.1, Nat.le_trans hn this.2⟩
theorem lexAll_small {a : List UInt8} (h : a.length ≤ 20000) : lexAll a = lexP a 1 := by
  unfold lexAll
  rw [if_neg (by omega)]

/-- The white bytes that the statement makes. -/
def WsAt (u : ByteArray) (i : Nat) : Prop := u.size = i ∧ ∀ c ∈ bl u, isW c = true
theorem ws_next {u x : ByteArray} {i : Nat} {c : UInt8} (h : WsAt u i) (hx : bl x = [c]) (hc : isW c = true) : WsAt (u ++ x) (i + 1) := by
  refine ⟨?_, ?_⟩
  · rw [← bl_len, bl_cat, List.length_append, bl_len, hx, h.1]
    rfl
  · intro d hd
    rw [bl_cat, hx] at hd
    rcases List.mem_append.1 hd with hd | hd
    · exact h.2 d hd
    · obtain rfl : d = c := by simpa using hd
      exact hc

set_option maxRecDepth 8000 in
set_option maxHeartbeats 4000000 in
theorem white_law (s com : ByteArray) (z : Int) (hz : Fits z) (W : World) :
    Calls Tryd.prog 6 #[.string s, .string com, .int .i64 z] W fun e w' => e = .returned (.bool true) ∧ Below W.heap.size W w' := by
  have t1 : ∀ {n m : Nat}, ¬ n ≤ m → (m : Int) < (n : Int) := fun h => by omega
  by_cases hs : s.size ≤ 5000
  case neg =>
    have g1 : (5000 : Int) < (s.size : Int) := by omega
    go_enter Tryd.func6, Tryd.ntmps6
    go_wp2_with (go_at_call 8; refine (small_any _).mono ?_; rintro e w0 ⟨rfl, b0⟩; have B0 := Lib.hid b0; clear b0)
    go_ret
    exact ⟨rfl, B0.out⟩
  by_cases hc : com.size ≤ 100
  case neg =>
    have g0 : ¬ (5000 : Int) < (s.size : Int) := by omega
    have g1 : (100 : Int) < (com.size : Int) := by omega
    go_enter Tryd.func6, Tryd.ntmps6
    go_wp2_with (go_at_call 8; refine (small_any _).mono ?_; rintro e w0 ⟨rfl, b0⟩; have B0 := Lib.hid b0; clear b0)
    go_ret
    exact ⟨rfl, B0.out⟩
  have g0 : ¬ (5000 : Int) < (s.size : Int) := by omega
  have g1 : ¬ (100 : Int) < (com.size : Int) := by omega
  by_cases h1 : z < 1
  · go_enter Tryd.func6, Tryd.ntmps6
    go_wp2_with (go_at_call 8; refine (small_any _).mono ?_; rintro e w0 ⟨rfl, b0⟩; have B0 := Lib.hid b0; clear b0)
    go_ret
    exact ⟨rfl, B0.out⟩
  by_cases h100 : 100 < z
  · go_enter Tryd.func6, Tryd.ntmps6
    go_wp2_with (go_at_call 8; refine (small_any _).mono ?_; rintro e w0 ⟨rfl, b0⟩; have B0 := Lib.hid b0; clear b0)
    go_ret
    exact ⟨rfl, B0.out⟩
  obtain ⟨n, rfl⟩ : ∃ n : Nat, z = n := ⟨z.toNat, by omega⟩
  clear t1
  go_enter Tryd.func6, Tryd.ntmps6
  go_wp2_with (go_at_call 8; refine (small_any _).mono ?_; rintro e w0 ⟨rfl, b0⟩; have B0 := Lib.hid b0; clear b0)
  go_loopw [6, 8] (fun _ iv wr => (∃ i : Nat, iv = .int .i64 i ∧ i ≤ com.size ∧ Hid (∀ j (hj : j < com.size), j < i → com[j] ≠ 10)) ∧ w0 = wr) (fun _ iv _ => com.size - (intOf iv).toNat)
  case atStart => exact ⟨⟨0, rfl, Nat.zero_le _, Lib.hid (fun j hj h => absurd h (by omega))⟩, rfl⟩
  case round =>
    obtain ⟨⟨i, rfl, hi, HN⟩, rfl⟩ := hrel
    by_cases hlt : i < com.size
    · by_cases h10 : com[i] = 10
      · have t10 : ((com[i].toNat : Int) == 10) = true := byte_eq (k := 10) (by omega) h10
        clear h10
        go_wp2_with fail
        go_ret
        exact ⟨rfl, B0.out⟩
      · have t10 : ((com[i].toNat : Int) == 10) = false := byte_ne (k := 10) (by omega) h10
        have HN2 : Hid (∀ j (hj : j < com.size), j < i + 1 → com[j] ≠ 10) := Lib.hid fun j hj h => by
          by_cases e : j = i
          · subst e
            exact h10
          · exact HN.out j hj (by omega)
        clear h10 HN
        go_wp2_with fail
        go_roundw
        case rel => exact ⟨⟨i + 1, by simp, hlt, HN2⟩, trivial⟩
        case measure => simp [intOf]; omega
    · obtain rfl : i = com.size := by omega
      have HCOM : Hid (∀ c ∈ bl com, c ≠ 10) := Lib.hid fun c hc => by
        obtain ⟨j, hj, rfl⟩ := List.mem_iff_getElem.1 hc
        have hj2 : j < com.size := by rw [← bl_len]; exact hj
        have := HN.out j hj2 hj2
        rwa [show (bl com)[j] = com[j] from Array.getElem_toList ..]
      clear HN hlt hi
      go_wp2_with fail
      go_loopw [9, 10] (fun sv iv wx => (∃ (i : Nat) (u : ByteArray), sv = .string u ∧ iv = .int .i64 i ∧ i ≤ n ∧ Hid (WsAt u i)) ∧ w0 = wx) (fun _ iv _ => n - (intOf iv).toNat)
      case atStart => exact ⟨⟨0, ⟨#[]⟩, rfl, rfl, Nat.zero_le _, Lib.hid ⟨rfl, fun c hc => by cases hc⟩⟩, rfl⟩
      case round =>
        obtain ⟨⟨i, u, rfl, rfl, hin, HU⟩, rfl⟩ := hrel
        by_cases hlt : i < n
        · have h3 : i % 3 = 0 ∨ i % 3 = 1 ∨ i % 3 = 2 := by omega
          have hus : u.size ≤ 100 := by rw [HU.out.1]; omega
          rcases h3 with h3 | h3 | h3
          · have hm : (i : Int) % 3 = 0 := by omega
            have HN : Hid (WsAt (u ++ (⟨#[32, 9, 13]⟩ : ByteArray).extract 0 1) (i + 1)) := Lib.hid (ws_next HU.out (c := 32) (by rfl) (by decide))
            clear h3
            go_wp2_with fail
            go_roundw
            case rel => exact ⟨⟨i + 1, _, rfl, by simp, hlt, HN⟩, trivial⟩
            case measure => simp [intOf]; omega
          · have hm : (i : Int) % 3 = 1 := by omega
            have HN : Hid (WsAt (u ++ (⟨#[32, 9, 13]⟩ : ByteArray).extract 1 2) (i + 1)) := Lib.hid (ws_next HU.out (c := 9) (by rfl) (by decide))
            clear h3
            go_wp2_with fail
            go_roundw
            case rel => exact ⟨⟨i + 1, _, rfl, by simp, hlt, HN⟩, trivial⟩
            case measure => simp [intOf]; omega
          · have hm : (i : Int) % 3 = 2 := by omega
            have HN : Hid (WsAt (u ++ (⟨#[32, 9, 13]⟩ : ByteArray).extract 2 3) (i + 1)) := Lib.hid (ws_next HU.out (c := 13) (by rfl) (by decide))
            clear h3
            go_wp2_with fail
            go_roundw
            case rel => exact ⟨⟨i + 1, _, rfl, by simp, hlt, HN⟩, trivial⟩
            case measure => simp [intOf]; omega
        · obtain rfl : i = n := by omega
          have hus : u.size ≤ 100 := by rw [HU.out.1]; omega
          have hsl : lexAll (bl s) = lexP (bl s) 1 := lexAll_small (by rw [bl_len]; omega)
          cases hx : lexP (bl s) 1 with
          | bad er k =>
            have HP : Hid (∀ w, Calls Tryd.prog 9 #[.string s] w (LPost w (.bad er k))) := Lib.hid fun w => by
              have := lex_any (bl s) w (by rw [bl_len]; omega)
              rwa [hsl, hx] at this
            have her := (lexP_err _ _ _ _ hx).1
            clear hsl hx
            rcases her with rfl | rfl
            · go_wp2_with (go_at_call 9; refine (HP.out _).mono ?_; rintro e w2 ⟨b2, rfl⟩; have B2 := Lib.hid (next_below B0.out b2); clear b2)
              go_ret
              exact ⟨rfl, B2.out⟩
            · go_wp2_with (go_at_call 9; refine (HP.out _).mono ?_; rintro e w2 ⟨b2, rfl⟩; have B2 := Lib.hid (next_below B0.out b2); clear b2)
              go_ret
              exact ⟨rfl, B2.out⟩
          | ok l =>
            have HP : Hid (∀ w, Calls Tryd.prog 9 #[.string s] w (LPost w (.ok l))) := Lib.hid fun w => by
              have := lex_any (bl s) w (by rw [bl_len]; omega)
              rwa [hsl, hx] at this
            have hcat : bl (u ++ s ++ u ++ ⟨#[35]⟩ ++ com) = bl u ++ bl s ++ bl u ++ 35 :: bl com := by
              rw [bl_cat, bl_cat, bl_cat, bl_cat, show bl ⟨#[35]⟩ = [35] from rfl]
              simp only [List.append_assoc, List.singleton_append]
            have hcl : (bl (u ++ s ++ u ++ ⟨#[35]⟩ ++ com)).length ≤ 6000 := by
              rw [hcat]
              simp only [List.length_append, List.length_cons, bl_len]
              omega
            have hb : lexAll (bl (u ++ s ++ u ++ ⟨#[35]⟩ ++ com)) = .ok l := by
              rw [lexAll_small (by omega), hcat]
              exact lexP_blank (by rw [bl_len, HU.out.1]; omega) HU.out.2 HCOM.out hx
            have HP2 : Hid (∀ w, Calls Tryd.prog 9 #[.string (u ++ s ++ u ++ ⟨#[35]⟩ ++ com)] w (LPost w (.ok l))) := Lib.hid fun w => by
              have := lex_any (bl (u ++ s ++ u ++ ⟨#[35]⟩ ++ com)) w (by omega)
              rwa [hb] at this
            obtain ⟨hshort, hlines⟩ := lexP_short (by rw [bl_len]; omega) (by omega) hx
            have HSM : Hid (∀ va vb w, Has w va l → Has w vb l → Calls Tryd.prog 11 #[va, vb, .int .i64 0] w fun e w' => e = .returned (.bool true) ∧ Below w.heap.size w w') := Lib.hid fun va vb w ha hb => by
              have := same9_any va vb l l 0 w ha hb (by have := hshort.1; omega) (by have := hshort.1; omega) (by omega) hlines
              rw [up_zero, decide_eq_true rfl] at this
              exact this
            clear hsl hx hcat hcl hb hshort hlines
            go_wp2_with (first
              | (go_at_call 11; refine (HSM.out _ _ _ X3.out Y3.out).mono ?_; rintro e w4 ⟨rfl, b4⟩; have B4 := Lib.hid (next_below B3.out b4); clear b4)
              | (go_at_call 9; have Y2' := Y2.out; refine (HP2.out _).mono ?_; rintro e w3 ⟨b3, v3, rfl, x3⟩; have B3 := Lib.hid (next_below B2.out b3); have X3 := Lib.hid x3; have Y3 := Lib.hid (Y2'.keep b3); clear b3 x3)
              | (go_at_call 9; refine (HP.out _).mono ?_; rintro e w2 ⟨b2, v2, rfl, y2⟩; have B2 := Lib.hid (next_below B0.out b2); have Y2 := Lib.hid y2; clear b2 y2))
            go_ret
            exact ⟨rfl, B4.out⟩
end Lx
end Go.Proofs.YtjgaghapjlmcpaaDoor

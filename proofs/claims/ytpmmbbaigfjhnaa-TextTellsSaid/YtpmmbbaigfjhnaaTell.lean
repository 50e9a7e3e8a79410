import Derived.Test.YtpmmbbaigfjhnaaLinl
import Derived.Test.YtpmmbbaigfjhnaaPlnl
import Derived.Test.YtpmmbbaigfjhnaaEsca
import Derived.Test.YtpmmbbaigfjhnaaRnum
import Derived.Test.YtpmmbbaigfjhnaaRint
import Derived.Test.YtpmmbbaigfjhnaaResc
import Derived.Test.YtpmmbbaigfjhnaaRlin
import Derived.Test.YtpmmbbaigfjhnaaRquo
import Derived.Test.YtpmmbbaigfjhnaaRpat
namespace Go.Proofs.Ytpmmbbaigfjhnaa
open Go.RowKit Wire
set_option linter.unusedVariables false
set_option linter.unusedSimpArgs false
namespace Txt

set_option maxRecDepth 100000 in
set_option maxHeartbeats 4000000 in
theorem tell_any (n : Int) (hn : Fits n) (s p : ByteArray) (A : Option Addr) (c : Nat) (t : List (List UInt8)) (hs : s.size ≤ 9223372036854775807) (hp : p.size ≤ 9223372036854775807) (ht : t.length ≤ 9223372036854775807) (w : World) (hr : Row w w.heap.size A (t.map str))
    (hz : ∀ x ∈ t, x.length ≤ 9223372036854775807) :
    Calls Try.prog 3 #[.int .i64 n, .string s, .string p, .slice A t.length c] w fun e w' => e = .returned (.bool true) ∧ Below w.heap.size w w' := by
  have HR := Lib.hid hr
  have HZ := Lib.hid hz
  clear hr hz
  by_cases hs1 : s.size ≤ 300
  · by_cases hp1 : p.size ≤ 100
    · by_cases ht1 : t.length ≤ 30
      · have HN := Lib.hid hn
        clear hn
        go_enter Try.func3, Try.ntmps3
        go_wp2_with (go_at_call 8; refine (small_any _).mono ?_; rintro e w1 ⟨rfl, hb1⟩)
        go_loopw [10] (fun iv wr => (∃ k : Nat, iv = .int .i64 k ∧ k ≤ t.length ∧ Hid (∀ j (h : j < t.length), j < k → t[j].length ≤ 100)) ∧ w1 = wr) (fun iv _ => t.length - (intOf iv).toNat)
        case atStart => exact ⟨⟨0, rfl, Nat.zero_le _, Lib.hid fun j _ hj => absurd hj (by omega)⟩, rfl⟩
        case round =>
          obtain ⟨⟨k, rfl, hk, HLow⟩, rfl⟩ := hrel
          by_cases hlt : k < t.length
          · obtain ⟨b, o, x, rfl, hcell, hx⟩ := HR.out.str_at hb1 hlt
            have HX := Lib.hid hx
            have hxs : x.size ≤ 9223372036854775807 := by have := HZ.out _ (List.getElem_mem hlt); rw [← hx, bl_len] at this; exact this
            clear hx
            by_cases hx100 : x.size ≤ 100
            · have HL2 : Hid (∀ j (h : j < t.length), j < k + 1 → t[j].length ≤ 100) := Lib.hid (fun j h hj => by
                by_cases e : j = k
                · subst e
                  rw [← HX.out, bl_len]
                  exact hx100
                · exact HLow.out j h (by omega))
              go_wp2_with fail
              go_roundw
              case rel => exact ⟨⟨k + 1, by simp, hlt, HL2⟩, trivial⟩
              case measure => simp [intOf]; omega
            · go_wp2_with fail
              go_ret
              exact ⟨rfl, hb1⟩
          · obtain rfl : t.length = k := by omega
            have hlen : ∀ x ∈ t, x.length ≤ 100 := by
              intro x hx
              obtain ⟨j, hj, e⟩ := List.mem_iff_getElem.1 hx
              rw [← e]
              exact HLow.out j hj hj
            have hul := unlines_small t hlen
            have hul2 : (unlines t).length ≤ 3030 := by omega
            clear hlen hul
            have hn := HN.out
            have d2 : Hid (∀ w, Calls Try.prog 9 #[.string s] w fun e w' => e = .returned (.tuple #[.int .i64 (intV (bl s)), .bool (intB (bl s))]) ∧ Below w.heap.size w w') := Lib.hid (int_any s (by omega))
            have d3 : Hid (∀ w, Calls Try.prog 10 #[.string s] w fun e w' => e = .returned (.tuple #[.int .i64 (intV (bl s)), .bool (intB (bl s))]) ∧ Below w.heap.size w w') := Lib.hid (rint_any s (by omega))
            have d4 : Hid (∀ w, Calls Try.prog 11 #[.string s] w fun e w' => e = .returned (.tuple #[str (unqV (bl s)), .bool (unqB (bl s))]) ∧ Below w.heap.size w w') := Lib.hid (unquote_any s (by omega))
            have d5 : Hid (∀ w, Calls Try.prog 12 #[.string s] w fun e w' => e = .returned (.tuple #[str (unqV (bl s)), .bool (unqB (bl s))]) ∧ Below w.heap.size w w') := Lib.hid (runquote_any s (by omega))
            have d6 : Hid (∀ w, Calls Try.prog 13 #[.int .i64 n] w fun e w' => e = .returned (str (decI n)) ∧ Below w.heap.size w w') := Lib.hid (decimal_any n hn)
            have d7 : Hid (∀ w, Calls Try.prog 14 #[.int .i64 n] w fun e w' => e = .returned (str (decI n)) ∧ Below w.heap.size w w') := Lib.hid (rdecimal_any n hn)
            have d8 : Hid (∀ w, Calls Try.prog 15 #[.string s] w fun e w' => e = .returned (str (quo (bl s))) ∧ Below w.heap.size w w') := Lib.hid (quote_any s (by omega))
            have d9 : Hid (∀ w, Calls Try.prog 16 #[.string s] w fun e w' => e = .returned (str (quo (bl s))) ∧ Below w.heap.size w w') := Lib.hid (rquote_any s (by omega))
            have d10 := Lib.hid (lines_any s (by omega))
            have d11 := Lib.hid (rlines_any s (by omega))
            have d13 : Hid (∀ w, Row w w.heap.size A (t.map str) → Calls Try.prog 20 #[.slice A t.length c] w fun e w' => e = .returned (str (unlines t)) ∧ Below w.heap.size w w') := Lib.hid (fun w hr => unlines_any A c t w hr (by omega) (by omega))
            have d14 : Hid (∀ w, Row w w.heap.size A (t.map str) → Calls Try.prog 21 #[.slice A t.length c] w fun e w' => e = .returned (str (unlines t)) ∧ Below w.heap.size w w') := Lib.hid (fun w hr => runlines_any A c t w hr (by omega) (by omega))
            have d15 := Lib.hid (fields_any s (by omega))
            have d16 := Lib.hid (rfields_any s (by omega))
            have d18 : Hid (∀ w, Calls Try.prog 24 #[.string p, .string s] w fun e w' => e = .returned (.bool (mt (parse (bl p)) (bl s))) ∧ Below w.heap.size w w') := Lib.hid (pattern_any p s (by omega) (by omega))
            have d19 : Hid (∀ w, Calls Try.prog 25 #[.string p, .string s] w fun e w' => e = .returned (.bool (mt (parse (bl p)) (bl s))) ∧ Below w.heap.size w w') := Lib.hid (rpattern_any p s (by omega) (by omega))
            have d20 : Hid (∀ w, Calls Try.prog 26 #[.string p] w fun e w' => e = .returned (.bool (magic (bl p))) ∧ Below w.heap.size w w') := Lib.hid (magic_any p (by omega))
            have d21 : Hid (∀ w, Calls Try.prog 27 #[.string p] w fun e w' => e = .returned (.bool (magic (bl p))) ∧ Below w.heap.size w w') := Lib.hid (rmagic_any p (by omega))
            have d22 : Hid (∀ w, Calls Try.prog 28 #[.string p] w fun e w' => e = .returned (str (plain (bl p))) ∧ Below w.heap.size w w') := Lib.hid (plain_any p (by omega))
            have d23 : Hid (∀ w, Calls Try.prog 29 #[.string p] w fun e w' => e = .returned (str (plain (bl p))) ∧ Below w.heap.size w w') := Lib.hid (rplain_any p (by omega))
            have d24 : Hid (∀ w, Calls Try.prog 30 #[.string s] w fun e w' => e = .returned (str (esc (bl s))) ∧ Below w.heap.size w w') := Lib.hid (escape_any s (by omega))
            have d25 : Hid (∀ w, Calls Try.prog 31 #[.string s] w fun e w' => e = .returned (str (esc (bl s))) ∧ Below w.heap.size w w') := Lib.hid (rescape_any s (by omega))
            have hX := lines_len (bl s)
            have hF := fields_len (bl s)
            rw [bl_len] at hX hF
            clear hn hul2 HLow HZ
            generalize intV (bl s) = x1 at *
            generalize intB (bl s) = x2 at *
            generalize unqV (bl s) = x3 at *
            generalize unqB (bl s) = x4 at *
            generalize decI n = x5 at *
            generalize quo (bl s) = x6 at *
            generalize lines (bl s) = X at *
            generalize fields (bl s) = F at *
            generalize unlines t = x7 at *
            generalize mt (parse (bl p)) (bl s) = x8 at *
            generalize magic (bl p) = x9 at *
            generalize plain (bl p) = x10 at *
            generalize esc (bl s) = x11 at *
            go_wp2_with (first
              | (go_at_call 9; refine (d2.out _).mono ?_; rintro e w2 ⟨rfl, b2⟩; have hb2 := next_below hb1 b2)
              | (go_at_call 10; refine (d3.out _).mono ?_; rintro e w3 ⟨rfl, b3⟩; have hb3 := next_below hb2 b3)
              | (go_at_call 11; refine (d4.out _).mono ?_; rintro e w4 ⟨rfl, b4⟩; have hb4 := next_below hb3 b4)
              | (go_at_call 12; refine (d5.out _).mono ?_; rintro e w5 ⟨rfl, b5⟩; have hb5 := next_below hb4 b5)
              | (go_at_call 13; refine (d6.out _).mono ?_; rintro e w6 ⟨rfl, b6⟩; have hb6 := next_below hb5 b6)
              | (go_at_call 14; refine (d7.out _).mono ?_; rintro e w7 ⟨rfl, b7⟩; have hb7 := next_below hb6 b7)
              | (go_at_call 15; refine (d8.out _).mono ?_; rintro e w8 ⟨rfl, b8⟩; have hb8 := next_below hb7 b8)
              | (go_at_call 16; refine (d9.out _).mono ?_; rintro e w9 ⟨rfl, b9⟩; have hb9 := next_below hb8 b9)
              | (go_at_call 18; refine (d10.out _).mono ?_; rintro e w10 ⟨v10, rfl, hs10, b10⟩; obtain ⟨A10, c10, rfl, hr10⟩ := hs10.row; have HR10 := Lib.hid hr10; have hb10 := next_below hb9 b10; clear hs10 hr10)
              | (go_at_call 19; refine (d11.out _).mono ?_; rintro e w11 ⟨v11, rfl, hs11, b11⟩; obtain ⟨A11, c11, rfl, hr11⟩ := hs11.row; have HR11 := Lib.hid hr11; have hb11 := next_below hb10 b11; have HR10b := Lib.hid (HR10.out.lift b11); clear hs11 hr11)
              | (go_at_call 17; refine (same_yes A15 A16 c15 c16 F (by omega) _ HR15b.out HR16.out).mono ?_; rintro e w17 ⟨rfl, b17⟩; have hb17 := next_below hb16 b17)
              | (go_at_call 17; refine (same_yes A10 A11 c10 c11 X (by omega) _ HR10b.out HR11.out).mono ?_; rintro e w12 ⟨rfl, b12⟩; have hb12 := next_below hb11 b12; have HRT := Lib.hid (HR.out.lift hb12))
              | (go_at_call 20; refine (d13.out _ HRT.out).mono ?_; rintro e w13 ⟨rfl, b13⟩; have hb13 := next_below hb12 b13; have HRT2 := Lib.hid (HR.out.lift hb13))
              | (go_at_call 21; refine (d14.out _ HRT2.out).mono ?_; rintro e w14 ⟨rfl, b14⟩; have hb14 := next_below hb13 b14)
              | (go_at_call 22; refine (d15.out _).mono ?_; rintro e w15 ⟨v15, rfl, hs15, b15⟩; obtain ⟨A15, c15, rfl, hr15⟩ := hs15.row; have HR15 := Lib.hid hr15; have hb15 := next_below hb14 b15; clear hs15 hr15)
              | (go_at_call 23; refine (d16.out _).mono ?_; rintro e w16 ⟨v16, rfl, hs16, b16⟩; obtain ⟨A16, c16, rfl, hr16⟩ := hs16.row; have HR16 := Lib.hid hr16; have hb16 := next_below hb15 b16; have HR15b := Lib.hid (HR15.out.lift b16); clear hs16 hr16)
              | (go_at_call 24; refine (d18.out _).mono ?_; rintro e w18 ⟨rfl, b18⟩; have hb18 := next_below hb17 b18)
              | (go_at_call 25; refine (d19.out _).mono ?_; rintro e w19 ⟨rfl, b19⟩; have hb19 := next_below hb18 b19)
              | (go_at_call 26; refine (d20.out _).mono ?_; rintro e w20 ⟨rfl, b20⟩; have hb20 := next_below hb19 b20)
              | (go_at_call 27; refine (d21.out _).mono ?_; rintro e w21 ⟨rfl, b21⟩; have hb21 := next_below hb20 b21)
              | (go_at_call 28; refine (d22.out _).mono ?_; rintro e w22 ⟨rfl, b22⟩; have hb22 := next_below hb21 b22)
              | (go_at_call 29; refine (d23.out _).mono ?_; rintro e w23 ⟨rfl, b23⟩; have hb23 := next_below hb22 b23)
              | (go_at_call 30; refine (d24.out _).mono ?_; rintro e w24 ⟨rfl, b24⟩; have hb24 := next_below hb23 b24)
              | (go_at_call 31; refine (d25.out _).mono ?_; rintro e w25 ⟨rfl, b25⟩; have hb25 := next_below hb24 b25))
            go_ret
            exact ⟨rfl, hb25⟩
      · go_enter Try.func3, Try.ntmps3
        go_wp2_with (go_at_call 8; refine (small_any _).mono ?_; rintro e w1 ⟨rfl, b1⟩)
        go_ret
        exact ⟨rfl, b1⟩
    · go_enter Try.func3, Try.ntmps3
      go_wp2_with (go_at_call 8; refine (small_any _).mono ?_; rintro e w1 ⟨rfl, b1⟩)
      go_ret
      exact ⟨rfl, b1⟩
  · go_enter Try.func3, Try.ntmps3
    go_wp2_with (go_at_call 8; refine (small_any _).mono ?_; rintro e w1 ⟨rfl, b1⟩)
    go_ret
    exact ⟨rfl, b1⟩
end Txt
end Go.Proofs.Ytpmmbbaigfjhnaa

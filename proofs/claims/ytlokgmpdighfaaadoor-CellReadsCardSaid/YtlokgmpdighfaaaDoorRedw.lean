/- CellReads: the walk. -/
import Derived.Test.YtlokgmpdighfaaaDoorDrk
namespace Go.Proofs.YtlokgmpdighfaaaDoor
open Go.RowKit Wire
set_option linter.unusedVariables false
set_option linter.unusedSimpArgs false
open Txt
namespace Dsk

set_option maxRecDepth 8000 in
set_option maxHeartbeats 2000000 in
theorem reads_law (s t : ByteArray) (f : Int) (W : World) (ho : Off W) (hs : s.size ≤ maxLen) (ht : t.size ≤ maxLen) :
    Calls Tryd.prog 4 #[.string s, .string t, .int .i64 f] W fun e w' => e = .returned (.bool true) ∧ Below W.heap.size W w' := by
  have HSM := Lib.hid (csmall_any ho)
  have HOF := Lib.hid ho
  clear ho
  by_cases b1 : 300 < s.size
  · go_enter Tryd.func4, Tryd.ntmps4
    go_wp2_with (go_at_call 8; refine HSM.out.mono ?_; rintro e w1 ⟨rfl, h1⟩; have H1 := Lib.hid h1; clear h1)
    go_ret
    exact ⟨rfl, H1.out⟩
  by_cases b2 : 300 < t.size
  · go_enter Tryd.func4, Tryd.ntmps4
    go_wp2_with (go_at_call 8; refine HSM.out.mono ?_; rintro e w1 ⟨rfl, h1⟩; have H1 := Lib.hid h1; clear h1)
    go_ret
    exact ⟨rfl, H1.out⟩
  have HW1 := Lib.hid (fun w p g (h : DRK [] W w p g St.new St.new [] []) => h.write1 f 0 s hs)
  have HV1 := Lib.hid (fun w p g S (h : DRK [] W w p g S St.new [] []) => h.write2 f 0 s (by omega))
  have HW2 := Lib.hid (fun w p g S T (h : DRK [] W w p g S T [] []) => h.write1 f 131072 t ht)
  have HV2 := Lib.hid (fun w p g S T (h : DRK [] W w p g S T [] []) => h.write2 f 131072 t (by omega))
  have HN := Lib.hid (fun w p (h : One W w p St.new) => h.drk HOF.out)
  generalize (St.new.Write f 0 (bl s)).2 = x1 at *
  generalize (St.new.Write f 0 (bl s)).1 = S1 at *
  have HW3 := Lib.hid (fun w p g (h : DRK [] W w p g S1 S1 [] []) => HW2.out w p g S1 S1 h)
  have HV3 := Lib.hid (fun w p g S (h : DRK [] W w p g S S1 [] []) => HV2.out w p g S S1 h)
  clear HW2 HV2
  generalize (S1.Write f 131072 (bl t)).2 = x2 at *
  generalize (S1.Write f 131072 (bl t)).1 = S2 at *
  obtain ⟨er, oc, hoc⟩ : ∃ er oc, opn S2 f = (er, oc) := ⟨_, _, rfl⟩
  clear hs ht
  cases oc with
  | none =>
    have HO1 := Lib.hid (fun w p g (h : DRK [] W w p g S2 S2 [] []) => h.open1_none hoc)
    have HO2 := Lib.hid (fun w p g (h : DRK [] W w p g S2 S2 [] []) => h.open2_none hoc)
    clear hoc
    go_enter Tryd.func4, Tryd.ntmps4
    go_wp2_with (first
      | (go_at_call 8; refine HSM.out.mono ?_; rintro e w1 ⟨rfl, h1⟩; have H1 := Lib.hid h1; clear h1)
      | (go_at_call 10; refine (new_one H1.out).mono ?_; rintro e w2 ⟨p, rfl, h2⟩; have H2 := Lib.hid h2; clear h2)
      | (go_at_call 11; refine (HN.out _ _ H2.out).mono ?_; rintro e w3 ⟨g, rfl, h3⟩; have H3 := Lib.hid h3; clear h3 H2)
      | (go_at_call 31; ((with_reducible refine (HW1.out _ _ _ H3.out).mono ?_); rintro e w4 ⟨rfl, h4⟩; have H4 := Lib.hid h4; clear h4 H3))
      | (go_at_call 32; ((with_reducible refine (HV1.out _ _ _ _ H4.out).mono ?_); rintro e w5 ⟨rfl, h5⟩; have H5 := Lib.hid h5; clear h5 H4))
      | (go_at_call 31; ((with_reducible refine (HW3.out _ _ _ H5.out).mono ?_); rintro e w6 ⟨rfl, h6⟩; have H6 := Lib.hid h6; clear h6 H5))
      | (go_at_call 32; ((with_reducible refine (HV3.out _ _ _ _ H6.out).mono ?_); rintro e w7 ⟨rfl, h7⟩; have H7 := Lib.hid h7; clear h7 H6))
      | (go_at_call 12; ((with_reducible refine (HO1.out _ _ _ H7.out).mono ?_); rintro e w8 ⟨rfl, h8⟩; have H8 := Lib.hid h8; clear h8 H7))
      | (go_at_call 13; ((with_reducible refine (HO2.out _ _ _ H8.out).mono ?_); rintro e w9 ⟨rfl, h9⟩; have H9 := Lib.hid h9; clear h9 H8)))
    go_ret
    exact ⟨rfl, H9.out.below⟩
  | some c =>
    have HO1 := Lib.hid (fun w p g (h : DRK [] W w p g S2 S2 [] []) => h.open1_some hoc)
    have HO2 := Lib.hid (fun w p g q (h : DRK [] W w p g S2 S2 [(q, c)] []) => h.open2_some hoc)
    have HG1 := Lib.hid (fun w p g q r (h : DRK [] W w p g S2 S2 [(q, c)] [(r, c)]) => h.get1)
    have HG2 := Lib.hid (fun w p g q r (h : DRK [] W w p g S2 S2 [(q, c)] [(r, c)]) => h.get2)
    clear hoc
    unfold str at HG1 HG2
    generalize (⟨c.value.toArray⟩ : ByteArray) = vv at *
    generalize decide (c.slot ≠ 0) = bb at *
    go_enter Tryd.func4, Tryd.ntmps4
    go_wp2_with (first
      | (go_at_call 8; refine HSM.out.mono ?_; rintro e w1 ⟨rfl, h1⟩; have H1 := Lib.hid h1; clear h1)
      | (go_at_call 10; refine (new_one H1.out).mono ?_; rintro e w2 ⟨p, rfl, h2⟩; have H2 := Lib.hid h2; clear h2)
      | (go_at_call 11; refine (HN.out _ _ H2.out).mono ?_; rintro e w3 ⟨g, rfl, h3⟩; have H3 := Lib.hid h3; clear h3 H2)
      | (go_at_call 31; ((with_reducible refine (HW1.out _ _ _ H3.out).mono ?_); rintro e w4 ⟨rfl, h4⟩; have H4 := Lib.hid h4; clear h4 H3))
      | (go_at_call 32; ((with_reducible refine (HV1.out _ _ _ _ H4.out).mono ?_); rintro e w5 ⟨rfl, h5⟩; have H5 := Lib.hid h5; clear h5 H4))
      | (go_at_call 31; ((with_reducible refine (HW3.out _ _ _ H5.out).mono ?_); rintro e w6 ⟨rfl, h6⟩; have H6 := Lib.hid h6; clear h6 H5))
      | (go_at_call 32; ((with_reducible refine (HV3.out _ _ _ _ H6.out).mono ?_); rintro e w7 ⟨rfl, h7⟩; have H7 := Lib.hid h7; clear h7 H6))
      | (go_at_call 12; ((with_reducible refine (HO1.out _ _ _ H7.out).mono ?_); rintro e w8 ⟨q, rfl, h8⟩; have H8 := Lib.hid h8; clear h8 H7))
      | (go_at_call 13; ((with_reducible refine (HO2.out _ _ _ _ H8.out).mono ?_); rintro e w9 ⟨r, rfl, h9⟩; have H9 := Lib.hid h9; clear h9 H8))
      | (go_at_call 23; ((with_reducible refine (HG1.out _ _ _ _ _ H9.out).mono ?_); rintro e w10 ⟨rfl, h10⟩; have H10 := Lib.hid h10; clear h10 H9))
      | (go_at_call 24; ((with_reducible refine (HG2.out _ _ _ _ _ H10.out).mono ?_); rintro e w11 ⟨rfl, h11⟩; have H11 := Lib.hid h11; clear h11 H10)))
    go_ret
    exact ⟨rfl, H11.out.below⟩
end Dsk
end Go.Proofs.YtlokgmpdighfaaaDoor

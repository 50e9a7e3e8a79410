/- The statements' example holds. -/
import Derived.Test.YtmhnifcohkamaaaNsc
namespace Go.Proofs.Ytmhnifcohkamaaa
open Go.RowKit Wire
open Txt (Row)
open Dsk (Only below_of_grown Grow.bare)
set_option linter.unusedVariables false
set_option linter.unusedSimpArgs false
namespace Ntw
abbrev xB : Array Value := #[.int .i64 0, .int .i64 2, .string ⟨#[98]⟩]
abbrev xA : Array Value := #[.int .i64 0, .int .i64 1, .string ⟨#[97]⟩]
abbrev xZ : Array Value := #[.int .i64 0, .int .i64 0, .string ⟨#[]⟩]
set_option maxRecDepth 8000 in
set_option maxHeartbeats 2000000 in
theorem nsmall_any (w : World) : Calls Try.prog 7 #[] w fun e w' => e = .returned (.bool true) ∧ Below w.heap.size w w' := by
  have H0 : Hid (Sp w w []) := Lib.hid (Sp.nil (Below.refl _ _))
  have HS1 : Hid (∀ w' p q, Sp w w' [NetN p Nt.empty, NetN q Nt.empty] → Calls Try.prog 20 #[ptr p, .int .i64 0, .int .i64 1, .string ⟨#[97]⟩] w' fun e w2 => e = .returned (.int .i64 0) ∧ Sp w w2 [NetN p ex1, NetN q Nt.empty]) := Lib.hid fun w' p q h => h.nsend 0 rfl 0 1 bA ex_a
  have HS2 : Hid (∀ w' p q, Sp w w' [NetN p ex1, NetN q Nt.empty] → Calls Try.prog 20 #[ptr p, .int .i64 0, .int .i64 2, .string ⟨#[98]⟩] w' fun e w2 => e = .returned (.int .i64 0) ∧ Sp w w2 [NetN p ex2, NetN q Nt.empty]) := Lib.hid fun w' p q h => h.nsend 0 rfl 0 2 bB ex_b
  have HD1 : Hid (∀ w' p q, Sp w w' [NetN p ex2, NetN q Nt.empty] → Calls Try.prog 21 #[ptr p, .int .i64 1] w' fun e w2 => e = .returned (.tuple #[.agg #[.int .i64 0, .int .i64 2, .string ⟨#[98]⟩], .int .i64 0]) ∧ Sp w w2 [NetN p ex1, NetN q Nt.empty]) := Lib.hid fun w' p q h => h.ndeliver 0 rfl 1 ex_c
  have HD2 : Hid (∀ w' p q b, Sp w w' [NetN p ex1, NetN q Nt.empty, BlkT b 33 xB] → Calls Try.prog 21 #[ptr p, .int .i64 0] w' fun e w2 => e = .returned (.tuple #[.agg #[.int .i64 0, .int .i64 1, .string ⟨#[97]⟩], .int .i64 0]) ∧ Sp w w2 [NetN p Nt.empty, NetN q Nt.empty, BlkT b 33 xB]) := Lib.hid fun w' p q b h => h.ndeliver 0 rfl 0 ex_d
  have HS3 : Hid (∀ w' p q b c, Sp w w' [NetN p Nt.empty, NetN q Nt.empty, BlkT b 33 xB, BlkT c 33 xA] → Calls Try.prog 20 #[ptr q, .int .i64 0, .int .i64 1, .string ⟨#[97]⟩] w' fun e w2 => e = .returned (.int .i64 0) ∧ Sp w w2 [NetN p Nt.empty, NetN q ex1, BlkT b 33 xB, BlkT c 33 xA]) := Lib.hid fun w' p q b c h => h.nsend 1 rfl 0 1 bA ex_a
  have HP1 : Hid (∀ w' p q b c, Sp w w' [NetN p Nt.empty, NetN q ex1, BlkT b 33 xB, BlkT c 33 xA] → Calls Try.prog 22 #[ptr q, .int .i64 1] w' fun e w2 => e = .returned (.tuple #[]) ∧ Sp w w2 [NetN p Nt.empty, NetN q (ex1.splitBy 1), BlkT b 33 xB, BlkT c 33 xA]) := Lib.hid fun w' p q b c h => h.nsplit 1 rfl 1
  have HD3 : Hid (∀ w' p q b c, Sp w w' [NetN p Nt.empty, NetN q (ex1.splitBy 1), BlkT b 33 xB, BlkT c 33 xA] → Calls Try.prog 21 #[ptr q, .int .i64 0] w' fun e w2 => e = .returned (.tuple #[.agg #[.int .i64 0, .int .i64 0, .string ⟨#[]⟩], .int .i64 10]) ∧ Sp w w2 [NetN p Nt.empty, NetN q ex3, BlkT b 33 xB, BlkT c 33 xA]) := Lib.hid fun w' p q b c h => h.ndeliver 1 rfl 0 ex_e
  have HC : Hid (∀ w' p q b c, Sp w w' [NetN p Nt.empty, NetN q ex3, BlkT b 33 xB, BlkT c 33 xA] → Calls Try.prog 14 #[ptr q] w' fun e w2 => e = .returned (.int .i64 0) ∧ w' = w2) := Lib.hid fun w' p q b c h => h.ncount 1 rfl
  have HP2 : Hid (∀ w' p q b c, Sp w w' [NetN p Nt.empty, NetN q ex3, BlkT b 33 xB, BlkT c 33 xA] → Calls Try.prog 22 #[ptr q, .int .i64 3] w' fun e w2 => e = .returned (.tuple #[]) ∧ Sp w w2 [NetN p Nt.empty, NetN q (ex3.splitBy 3), BlkT b 33 xB, BlkT c 33 xA]) := Lib.hid fun w' p q b c h => h.nsplit 1 rfl 3
  have HS4 : Hid (∀ w' p q b c, Sp w w' [NetN p Nt.empty, NetN q (ex3.splitBy 3), BlkT b 33 xB, BlkT c 33 xA] → Calls Try.prog 20 #[ptr q, .int .i64 0, .int .i64 1, .string ⟨#[97]⟩] w' fun e w2 => e = .returned (.int .i64 0) ∧ Sp w w2 [NetN p Nt.empty, NetN q ex4, BlkT b 33 xB, BlkT c 33 xA]) := Lib.hid fun w' p q b c h => h.nsend 1 rfl 0 1 bA ex_f
  have HS5 : Hid (∀ w' p q b c, Sp w w' [NetN p Nt.empty, NetN q ex4, BlkT b 33 xB, BlkT c 33 xA] → Calls Try.prog 20 #[ptr q, .int .i64 1, .int .i64 2, .string ⟨#[98]⟩] w' fun e w2 => e = .returned (.int .i64 10) ∧ Sp w w2 [NetN p Nt.empty, NetN q ex4, BlkT b 33 xB, BlkT c 33 xA]) := Lib.hid fun w' p q b c h => h.nsend 1 rfl 1 2 bB ex_g
  have HH1 : Hid (∀ w' p q b c, Sp w w' [NetN p Nt.empty, NetN q ex4, BlkT b 33 xB, BlkT c 33 xA] → Calls Try.prog 15 #[ptr q, .int .i64 0, .int .i64 1] w' fun e w2 => e = .returned (.bool true) ∧ w' = w2) := Lib.hid fun w' p q b c h => by have := h.nhear 1 rfl 0 1; rw [ex_h] at this; exact this
  have HH2 : Hid (∀ w' p q b c, Sp w w' [NetN p Nt.empty, NetN q ex4, BlkT b 33 xB, BlkT c 33 xA] → Calls Try.prog 15 #[ptr q, .int .i64 1, .int .i64 2] w' fun e w2 => e = .returned (.bool false) ∧ w' = w2) := Lib.hid fun w' p q b c h => by have := h.nhear 1 rfl 1 2; rw [ex_i] at this; exact this
  have hq : ∀ w, (binOp .eql 33 (.agg #[.int .i64 0, .int .i64 2, .string ⟨#[98]⟩]) (.agg #[.int .i64 0, .int .i64 2, .string ⟨#[98]⟩])).run Try.prog w = .ok (.bool true) w := fun w => by have := eql_pk ⟨0, 2, bB⟩ ⟨0, 2, bB⟩ w; rw [decide_eq_true rfl] at this; exact this
  go_enter Try.func7, Try.ntmps7
  go_wp2_with (first
    | (go_at_call 8; refine (Sp.nnew H0.out).mono ?_; rintro e w1 ⟨p, rfl, h1⟩; have H1 : Hid (Sp w w1 [NetN p Nt.empty]) := Lib.hid h1; clear h1 H0)
    | (go_at_call 8; refine (Sp.nnew H1.out).mono ?_; rintro e w2 ⟨q, rfl, h2⟩; have H2 : Hid (Sp w w2 [NetN p Nt.empty, NetN q Nt.empty]) := Lib.hid h2; clear h2 H1)
    | (go_at_call 20; with_reducible refine (HS1.out _ _ _ H2.out).mono ?_; rintro e w3 ⟨rfl, h3⟩; have H3 := Lib.hid h3; clear h3 H2 HS1)
    | (go_at_call 20; with_reducible refine (HS2.out _ _ _ H3.out).mono ?_; rintro e w4 ⟨rfl, h4⟩; have H4 := Lib.hid h4; clear h4 H3 HS2)
    | (go_at_call 21; with_reducible refine (HD1.out _ _ _ H4.out).mono ?_; rintro e w5 ⟨rfl, h5⟩; have H5 : Hid (Sp w (w5.alloc (.cells xB 33)) [NetN p ex1, NetN q Nt.empty, BlkT w5.heap.size 33 xB]) := Lib.hid (h5.local _ _); clear h5 H4 HD1)
    | (go_at_call 21; with_reducible refine (HD2.out _ _ _ _ H5.out).mono ?_; rintro e w6 ⟨rfl, h6⟩; have H6 : Hid (Sp w (w6.alloc (.cells xA 33)) [NetN p Nt.empty, NetN q Nt.empty, BlkT w5.heap.size 33 xB, BlkT w6.heap.size 33 xA]) := Lib.hid (h6.local _ _); clear h6 H5 HD2)
    | (go_at_call 20; with_reducible refine (HS3.out _ _ _ _ _ H6.out).mono ?_; rintro e w7 ⟨rfl, h7⟩; have H7 := Lib.hid h7; clear h7 H6 HS3)
    | (go_at_call 22; with_reducible refine (HP1.out _ _ _ _ _ H7.out).mono ?_; rintro e w8 ⟨rfl, h8⟩; have H8 := Lib.hid h8; clear h8 H7 HP1)
    | (go_at_call 21; with_reducible refine (HD3.out _ _ _ _ _ H8.out).mono ?_; rintro e w9 ⟨rfl, h9⟩; have H9 : Hid (Sp w (w9.alloc (.cells xZ 33)) _) := Lib.hid (h9.keep ((Below.refl _ _).alloc (Nat.le_refl _) _)); clear h9 H8 HD3)
    | (go_at_call 14; with_reducible refine (HC.out _ _ _ _ _ H9.out).mono ?_; rintro e w10 ⟨rfl, rfl⟩)
    | (go_at_call 22; with_reducible refine (HP2.out _ _ _ _ _ H9.out).mono ?_; rintro e w11 ⟨rfl, h11⟩; have H11 := Lib.hid h11; clear h11 H9 HP2)
    | (go_at_call 20; with_reducible refine (HS4.out _ _ _ _ _ H11.out).mono ?_; rintro e w12 ⟨rfl, h12⟩; have H12 := Lib.hid h12; clear h12 H11 HS4)
    | (go_at_call 20; with_reducible refine (HS5.out _ _ _ _ _ H12.out).mono ?_; rintro e w13 ⟨rfl, h13⟩; have H13 := Lib.hid h13; clear h13 H12 HS5; have z0 := (H13.out.blk 2 rfl).at 0; have z1 := (H13.out.blk 2 rfl).at 1; have z2 := (H13.out.blk 2 rfl).at 2; have y1 := (H13.out.blk 3 rfl).at 1; have y2 := (H13.out.blk 3 rfl).at 2)
    | (go_at_call 15; with_reducible refine (HH1.out _ _ _ _ _ H13.out).mono ?_; rintro e w14 ⟨rfl, rfl⟩)
    | (go_at_call 15; with_reducible refine (HH2.out _ _ _ _ _ H13.out).mono ?_; rintro e w15 ⟨rfl, rfl⟩))
  go_ret
  exact ⟨rfl, H13.out.below⟩
end Ntw
end Go.Proofs.Ytmhnifcohkamaaa

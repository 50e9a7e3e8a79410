/- One operation of the program, and of the reference. -/
import Derived.Test.YtmhnifcohkamaaaNsa
namespace Go.Proofs.Ytmhnifcohkamaaa
open Go.RowKit Wire
open Txt (Row)
open Dsk (Only below_of_grown Grow.bare)
set_option linter.unusedVariables false
set_option linter.unusedSimpArgs false
namespace Ntw
theorem step_3 {S : Nt} {x : Opn} (h : x.kind % 8 = 3) : S.step x = ((S.deliver x.n).1.getD Pk.zero, (S.deliver x.n).2.1, (S.deliver x.n).2.2) := by unfold Nt.step; rw [if_pos h]
theorem step_4 {S : Nt} {x : Opn} (h : x.kind % 8 = 4) : S.step x = (Pk.zero, (S.drop x.n).1, (S.drop x.n).2) := by unfold Nt.step; rw [if_neg (by omega), if_pos h]
theorem step_5 {S : Nt} {x : Opn} (h : x.kind % 8 = 5) : S.step x = (Pk.zero, (S.double x.n).1, (S.double x.n).2) := by unfold Nt.step; rw [if_neg (by omega), if_neg (by omega), if_pos h]
theorem step_6 {S : Nt} {x : Opn} (h : x.kind % 8 = 6) : S.step x = (Pk.zero, 0, S.splitBy x.n) := by unfold Nt.step; rw [if_neg (by omega), if_neg (by omega), if_neg (by omega), if_pos h]
theorem step_7 {S : Nt} {x : Opn} (h : x.kind % 8 = 7) : S.step x = (Pk.zero, 0, S.splitBy 0) := by unfold Nt.step; rw [if_neg (by omega), if_neg (by omega), if_neg (by omega), if_neg (by omega), if_pos h]
theorem step_0 {S : Nt} {x : Opn} (h : x.kind % 8 < 3) : S.step x = (Pk.zero, (S.send x.n x.t x.s).1, (S.send x.n x.t x.s).2) := by unfold Nt.step; rw [if_neg (by omega), if_neg (by omega), if_neg (by omega), if_neg (by omega), if_neg (by omega)]
theorem kinds (z : Int) : z % 8 = 3 ∨ z % 8 = 4 ∨ z % 8 = 5 ∨ z % 8 = 6 ∨ z % 8 = 7 ∨ z % 8 < 3 := by omega
/-- What a call leaves beside the network. -/
theorem NPost.blk {ty : TypeId} {p : Nat} {S' : Nt} {F : Nat → Prop} {w w1 w3 : World} (h : NPost ty p S' F w1 w3) (hF : ∀ x, F x → x < w.heap.size) {g : Nat} {t : TypeId} {cs : Array Value} (hb : Blk w1 g t cs) (hg : w.heap.size ≤ g) : Blk w3 g t cs := by
  obtain ⟨F', _, _, h4⟩ := h
  have hin := hb.inside
  unfold Blk at hb ⊢
  rw [h4.block g hin (fun e => by have := hF _ e; omega)]
  exact hb
theorem NPost.poke' {ty : TypeId} {w w1 w2 w3 : World} {p : Nat} {S' : Nt} {F : Nat → Prop} (b : Below w.heap.size w w1) (hF : ∀ x, F x → x < w.heap.size) (h : NPost ty p S' F w1 w2) (h1 : w.heap.size + 1 < w1.heap.size) (o : Only (fun x => x = w.heap.size + 1) w2 w3) : NPost ty p S' F w w3 :=
  NPost.poke b hF h (Nat.le_succ _) h1 o
set_option maxRecDepth 8000 in
set_option maxHeartbeats 2000000 in
theorem ndo_any {w : World} {p : Nat} {S : Nt} {F : Nat → Prop} (h : NetAt 56 w p S F) (x : Opn) :
    Calls Try.prog 12 #[ptr p, x.val] w fun e w' => e = .returned (.tuple #[(S.step x).1.val, .int .i64 (S.step x).2.1]) ∧ NPost 56 p (S.step x).2.2 F w w' := by
  have hF := h.lt
  have HB2 : Hid (∀ o o', Below w.heap.size w ((w.alloc o).alloc o')) := Lib.hid fun o o' => ((Below.refl _ w).alloc (Nat.le_refl _) o).alloc (by simp) o'
  have HR : Hid (∀ S' w3 o t cs, NPost 56 p S' F ((w.alloc o).alloc (.cells cs t)) w3 → Blk w3 (w.heap.size + 1) t cs) := Lib.hid fun S' w3 o t cs h => h.blk hF (by have := Blk.fresh (w.alloc o) t cs; rwa [size_alloc1] at this) (Nat.le_succ _)
  have HP : Hid (∀ S' w2 w3 o o', NPost 56 p S' F ((w.alloc o).alloc o') w2 → Only (fun x => x = w.heap.size + 1) w2 w3 → NPost 56 p S' F w w3) := Lib.hid fun S' w2 w3 o o' h o2 => h.poke' (HB2.out o o') hF (by rw [size_alloc1, size_alloc1]; omega) o2
  have HZ : Hid (∀ w2 a b c, Only (fun x => x = w.heap.size + 1) w2 (((w2.setCell ⟨w.heap.size + 1, 0, none⟩ a).setCell ⟨w.heap.size + 1, 1, none⟩ b).setCell ⟨w.heap.size + 1, 2, none⟩ c)) := Lib.hid fun w2 a b c => set3 w2 _ a b c
  rcases kinds x.kind with hk | hk | hk | hk | hk | hk
  · have hb : bits BinOp.and IntKind.i64 x.kind 7 = 3 := by rw [and7]; exact hk
    rw [step_3 hk]
    have HD := Lib.hid (fun o o' => nDeliver_any (h.below (HB2.out o o')) x.n)
    clear h hF HB2 hk
    dsimp only
    generalize S.deliver x.n = D at *
    obtain ⟨q, er, S2⟩ := D
    dsimp only at *
    generalize q.getD Pk.zero = q at *
    go_enter Try.func12, Try.ntmps12
    go_wp2_with (go_at_call 21; refine (HD.out _ _).mono ?_; rintro e w2 ⟨rfl, h2⟩; have H2 := Lib.hid h2; have R2 := Lib.hid (HR.out _ _ _ _ _ h2); clear h2; have t0 := R2.out.at 0; have t1 := R2.out.at 1; have t2 := R2.out.at 2; have f0 := R2.out.thaw 0; have f1 := R2.out.thaw 1; have f2 := R2.out.thaw 2)
    exact bodyPost_ret (v := .tuple #[.agg #[.int .i64 q.src, .int .i64 q.dst, .string q.body], .int .i64 er]) (by simp [results, Try.results12, go_sem, t0, t1, t2]) rfl ⟨rfl, HP.out _ _ _ _ _ H2.out (HZ.out _ _ _ _)⟩
  · have hb : bits BinOp.and IntKind.i64 x.kind 7 = 4 := by rw [and7]; exact hk
    rw [step_4 hk]
    have HD := Lib.hid (fun o o' => nDrop_any (h.below (HB2.out o o')) x.n)
    clear h hF HB2 hk
    dsimp only
    generalize S.drop x.n = D at *
    obtain ⟨er, S2⟩ := D
    dsimp only at *
    go_enter Try.func12, Try.ntmps12
    go_wp2_with (go_at_call 25; refine (HD.out _ _).mono ?_; rintro e w2 ⟨rfl, h2⟩; have H2 := Lib.hid h2; have R2 := Lib.hid (HR.out _ _ _ _ _ h2); clear h2; have t0 := R2.out.at 0; have t1 := R2.out.at 1; have t2 := R2.out.at 2; have f0 := R2.out.thaw 0; have f1 := R2.out.thaw 1; have f2 := R2.out.thaw 2)
    exact bodyPost_ret (v := .tuple #[.agg #[.int .i64 0, .int .i64 0, .string ⟨#[]⟩], .int .i64 er]) (by simp [results, Try.results12, go_sem, t0, t1, t2]) rfl ⟨rfl, HP.out _ _ _ _ _ H2.out (HZ.out _ _ _ _)⟩
  · have hb : bits BinOp.and IntKind.i64 x.kind 7 = 5 := by rw [and7]; exact hk
    rw [step_5 hk]
    have HD := Lib.hid (fun o o' => nDouble_any (h.below (HB2.out o o')) x.n)
    clear h hF HB2 hk
    dsimp only
    generalize S.double x.n = D at *
    obtain ⟨er, S2⟩ := D
    dsimp only at *
    go_enter Try.func12, Try.ntmps12
    go_wp2_with (go_at_call 24; refine (HD.out _ _).mono ?_; rintro e w2 ⟨rfl, h2⟩; have H2 := Lib.hid h2; have R2 := Lib.hid (HR.out _ _ _ _ _ h2); clear h2; have t0 := R2.out.at 0; have t1 := R2.out.at 1; have t2 := R2.out.at 2; have f0 := R2.out.thaw 0; have f1 := R2.out.thaw 1; have f2 := R2.out.thaw 2)
    exact bodyPost_ret (v := .tuple #[.agg #[.int .i64 0, .int .i64 0, .string ⟨#[]⟩], .int .i64 er]) (by simp [results, Try.results12, go_sem, t0, t1, t2]) rfl ⟨rfl, HP.out _ _ _ _ _ H2.out (HZ.out _ _ _ _)⟩
  · have hb : bits BinOp.and IntKind.i64 x.kind 7 = 6 := by rw [and7]; exact hk
    rw [step_6 hk]
    have HD := Lib.hid (fun o o' => nSplit_any (h.below (HB2.out o o')) x.n)
    clear h hF HB2 hk
    dsimp only
    generalize S.splitBy x.n = S2 at *
    go_enter Try.func12, Try.ntmps12
    go_wp2_with (go_at_call 22; refine (HD.out _ _).mono ?_; rintro e w2 ⟨rfl, h2⟩; have H2 := Lib.hid h2; have R2 := Lib.hid (HR.out _ _ _ _ _ h2); clear h2; have t0 := R2.out.at 0; have t1 := R2.out.at 1; have t2 := R2.out.at 2; have f0 := R2.out.thaw 0; have f1 := R2.out.thaw 1; have f2 := R2.out.thaw 2)
    exact bodyPost_ret (v := .tuple #[.agg #[.int .i64 0, .int .i64 0, .string ⟨#[]⟩], .int .i64 0]) (by simp [results, Try.results12, go_sem, t0, t1, t2]) rfl ⟨rfl, HP.out _ _ _ _ _ H2.out (HZ.out _ _ _ _)⟩
  · have hb : bits BinOp.and IntKind.i64 x.kind 7 = 7 := by rw [and7]; exact hk
    rw [step_7 hk]
    have HD := Lib.hid (fun o o' => nHeal_any (h.below (HB2.out o o')))
    clear h hF HB2 hk
    dsimp only
    generalize S.splitBy 0 = S2 at *
    go_enter Try.func12, Try.ntmps12
    go_wp2_with (go_at_call 23; refine (HD.out _ _).mono ?_; rintro e w2 ⟨rfl, h2⟩; have H2 := Lib.hid h2; have R2 := Lib.hid (HR.out _ _ _ _ _ h2); clear h2; have t0 := R2.out.at 0; have t1 := R2.out.at 1; have t2 := R2.out.at 2; have f0 := R2.out.thaw 0; have f1 := R2.out.thaw 1; have f2 := R2.out.thaw 2)
    exact bodyPost_ret (v := .tuple #[.agg #[.int .i64 0, .int .i64 0, .string ⟨#[]⟩], .int .i64 0]) (by simp [results, Try.results12, go_sem, t0, t1, t2]) rfl ⟨rfl, HP.out _ _ _ _ _ H2.out (HZ.out _ _ _ _)⟩
  · rw [step_0 hk]
    have hb3 : (bits BinOp.and IntKind.i64 x.kind 7 == 3) = false := beq_eq_false_iff_ne.2 (by rw [and7]; omega)
    have hb4 : (bits BinOp.and IntKind.i64 x.kind 7 == 4) = false := beq_eq_false_iff_ne.2 (by rw [and7]; omega)
    have hb5 : (bits BinOp.and IntKind.i64 x.kind 7 == 5) = false := beq_eq_false_iff_ne.2 (by rw [and7]; omega)
    have hb6 : (bits BinOp.and IntKind.i64 x.kind 7 == 6) = false := beq_eq_false_iff_ne.2 (by rw [and7]; omega)
    have hb7 : (bits BinOp.and IntKind.i64 x.kind 7 == 7) = false := beq_eq_false_iff_ne.2 (by rw [and7]; omega)
    have HD := Lib.hid (fun o o' => nSend_any (h.below (HB2.out o o')) x.n x.t x.s)
    clear h hF HB2 hk
    dsimp only
    generalize S.send x.n x.t x.s = D at *
    obtain ⟨er, S2⟩ := D
    dsimp only at *
    go_enter Try.func12, Try.ntmps12
    go_wp2_with (go_at_call 20; refine (HD.out _ _).mono ?_; rintro e w2 ⟨rfl, h2⟩; have H2 := Lib.hid h2; have R2 := Lib.hid (HR.out _ _ _ _ _ h2); clear h2; have t0 := R2.out.at 0; have t1 := R2.out.at 1; have t2 := R2.out.at 2; have f0 := R2.out.thaw 0; have f1 := R2.out.thaw 1; have f2 := R2.out.thaw 2)
    exact bodyPost_ret (v := .tuple #[.agg #[.int .i64 0, .int .i64 0, .string ⟨#[]⟩], .int .i64 er]) (by simp [results, Try.results12, go_sem, t0, t1, t2]) rfl ⟨rfl, HP.out _ _ _ _ _ H2.out (HZ.out _ _ _ _)⟩
set_option maxRecDepth 8000 in
set_option maxHeartbeats 2000000 in
theorem qmodel_any {w : World} {p : Nat} {S : Nt} {F : Nat → Prop} (h : NetAt 29 w p S F) (x : Opn) :
    Calls Try.prog 13 #[ptr p, x.val] w fun e w' => e = .returned (.tuple #[(S.step x).1.val, .int .i64 (S.step x).2.1]) ∧ NPost 29 p (S.step x).2.2 F w w' := by
  have hF := h.lt
  have HB2 : Hid (∀ o o', Below w.heap.size w ((w.alloc o).alloc o')) := Lib.hid fun o o' => ((Below.refl _ w).alloc (Nat.le_refl _) o).alloc (by simp) o'
  have HR : Hid (∀ S' w3 o t cs, NPost 29 p S' F ((w.alloc o).alloc (.cells cs t)) w3 → Blk w3 (w.heap.size + 1) t cs) := Lib.hid fun S' w3 o t cs h => h.blk hF (by have := Blk.fresh (w.alloc o) t cs; rwa [size_alloc1] at this) (Nat.le_succ _)
  have HP : Hid (∀ S' w2 w3 o o', NPost 29 p S' F ((w.alloc o).alloc o') w2 → Only (fun x => x = w.heap.size + 1) w2 w3 → NPost 29 p S' F w w3) := Lib.hid fun S' w2 w3 o o' h o2 => h.poke' (HB2.out o o') hF (by rw [size_alloc1, size_alloc1]; omega) o2
  have HZ : Hid (∀ w2 a b c, Only (fun x => x = w.heap.size + 1) w2 (((w2.setCell ⟨w.heap.size + 1, 0, none⟩ a).setCell ⟨w.heap.size + 1, 1, none⟩ b).setCell ⟨w.heap.size + 1, 2, none⟩ c)) := Lib.hid fun w2 a b c => set3 w2 _ a b c
  rcases kinds x.kind with hk | hk | hk | hk | hk | hk
  · have hb : bits BinOp.and IntKind.i64 x.kind 7 = 3 := by rw [and7]; exact hk
    rw [step_3 hk]
    have HD := Lib.hid (fun o o' => qDeliver_any (h.below (HB2.out o o')) x.n)
    clear h hF HB2 hk
    dsimp only
    generalize S.deliver x.n = D at *
    obtain ⟨q, er, S2⟩ := D
    dsimp only at *
    generalize q.getD Pk.zero = q at *
    go_enter Try.func13, Try.ntmps13
    go_wp2_with (go_at_call 26; refine (HD.out _ _).mono ?_; rintro e w2 ⟨rfl, h2⟩; have H2 := Lib.hid h2; have R2 := Lib.hid (HR.out _ _ _ _ _ h2); clear h2; have t0 := R2.out.at 0; have t1 := R2.out.at 1; have t2 := R2.out.at 2; have f0 := R2.out.thaw 0; have f1 := R2.out.thaw 1; have f2 := R2.out.thaw 2)
    exact bodyPost_ret (v := .tuple #[.agg #[.int .i64 q.src, .int .i64 q.dst, .string q.body], .int .i64 er]) (by simp [results, Try.results13, go_sem, t0, t1, t2]) rfl ⟨rfl, HP.out _ _ _ _ _ H2.out (HZ.out _ _ _ _)⟩
  · have hb : bits BinOp.and IntKind.i64 x.kind 7 = 4 := by rw [and7]; exact hk
    rw [step_4 hk]
    have HD := Lib.hid (fun o o' => qDrop_any (h.below (HB2.out o o')) x.n)
    clear h hF HB2 hk
    dsimp only
    generalize S.drop x.n = D at *
    obtain ⟨er, S2⟩ := D
    dsimp only at *
    go_enter Try.func13, Try.ntmps13
    go_wp2_with (go_at_call 27; refine (HD.out _ _).mono ?_; rintro e w2 ⟨rfl, h2⟩; have H2 := Lib.hid h2; have R2 := Lib.hid (HR.out _ _ _ _ _ h2); clear h2; have t0 := R2.out.at 0; have t1 := R2.out.at 1; have t2 := R2.out.at 2; have f0 := R2.out.thaw 0; have f1 := R2.out.thaw 1; have f2 := R2.out.thaw 2)
    exact bodyPost_ret (v := .tuple #[.agg #[.int .i64 0, .int .i64 0, .string ⟨#[]⟩], .int .i64 er]) (by simp [results, Try.results13, go_sem, t0, t1, t2]) rfl ⟨rfl, HP.out _ _ _ _ _ H2.out (HZ.out _ _ _ _)⟩
  · have hb : bits BinOp.and IntKind.i64 x.kind 7 = 5 := by rw [and7]; exact hk
    rw [step_5 hk]
    have HD := Lib.hid (fun o o' => qDouble_any (h.below (HB2.out o o')) x.n)
    clear h hF HB2 hk
    dsimp only
    generalize S.double x.n = D at *
    obtain ⟨er, S2⟩ := D
    dsimp only at *
    go_enter Try.func13, Try.ntmps13
    go_wp2_with (go_at_call 28; refine (HD.out _ _).mono ?_; rintro e w2 ⟨rfl, h2⟩; have H2 := Lib.hid h2; have R2 := Lib.hid (HR.out _ _ _ _ _ h2); clear h2; have t0 := R2.out.at 0; have t1 := R2.out.at 1; have t2 := R2.out.at 2; have f0 := R2.out.thaw 0; have f1 := R2.out.thaw 1; have f2 := R2.out.thaw 2)
    exact bodyPost_ret (v := .tuple #[.agg #[.int .i64 0, .int .i64 0, .string ⟨#[]⟩], .int .i64 er]) (by simp [results, Try.results13, go_sem, t0, t1, t2]) rfl ⟨rfl, HP.out _ _ _ _ _ H2.out (HZ.out _ _ _ _)⟩
  · have hb : bits BinOp.and IntKind.i64 x.kind 7 = 6 := by rw [and7]; exact hk
    rw [step_6 hk]
    have HD := Lib.hid (fun o o' => qSplit_any (h.below (HB2.out o o')) x.n)
    clear h hF HB2 hk
    dsimp only
    generalize S.splitBy x.n = S2 at *
    go_enter Try.func13, Try.ntmps13
    go_wp2_with (go_at_call 29; refine (HD.out _ _).mono ?_; rintro e w2 ⟨rfl, h2⟩; have H2 := Lib.hid h2; have R2 := Lib.hid (HR.out _ _ _ _ _ h2); clear h2; have t0 := R2.out.at 0; have t1 := R2.out.at 1; have t2 := R2.out.at 2; have f0 := R2.out.thaw 0; have f1 := R2.out.thaw 1; have f2 := R2.out.thaw 2)
    exact bodyPost_ret (v := .tuple #[.agg #[.int .i64 0, .int .i64 0, .string ⟨#[]⟩], .int .i64 0]) (by simp [results, Try.results13, go_sem, t0, t1, t2]) rfl ⟨rfl, HP.out _ _ _ _ _ H2.out (HZ.out _ _ _ _)⟩
  · have hb : bits BinOp.and IntKind.i64 x.kind 7 = 7 := by rw [and7]; exact hk
    rw [step_7 hk]
    have HD := Lib.hid (fun o o' => qSplit_any (h.below (HB2.out o o')) 0)
    clear h hF HB2 hk
    dsimp only
    generalize S.splitBy 0 = S2 at *
    go_enter Try.func13, Try.ntmps13
    go_wp2_with (go_at_call 29; refine (HD.out _ _).mono ?_; rintro e w2 ⟨rfl, h2⟩; have H2 := Lib.hid h2; have R2 := Lib.hid (HR.out _ _ _ _ _ h2); clear h2; have t0 := R2.out.at 0; have t1 := R2.out.at 1; have t2 := R2.out.at 2; have f0 := R2.out.thaw 0; have f1 := R2.out.thaw 1; have f2 := R2.out.thaw 2)
    exact bodyPost_ret (v := .tuple #[.agg #[.int .i64 0, .int .i64 0, .string ⟨#[]⟩], .int .i64 0]) (by simp [results, Try.results13, go_sem, t0, t1, t2]) rfl ⟨rfl, HP.out _ _ _ _ _ H2.out (HZ.out _ _ _ _)⟩
  · rw [step_0 hk]
    have hb3 : (bits BinOp.and IntKind.i64 x.kind 7 == 3) = false := beq_eq_false_iff_ne.2 (by rw [and7]; omega)
    have hb4 : (bits BinOp.and IntKind.i64 x.kind 7 == 4) = false := beq_eq_false_iff_ne.2 (by rw [and7]; omega)
    have hb5 : (bits BinOp.and IntKind.i64 x.kind 7 == 5) = false := beq_eq_false_iff_ne.2 (by rw [and7]; omega)
    have hb6 : (bits BinOp.and IntKind.i64 x.kind 7 == 6) = false := beq_eq_false_iff_ne.2 (by rw [and7]; omega)
    have hb7 : (bits BinOp.and IntKind.i64 x.kind 7 == 7) = false := beq_eq_false_iff_ne.2 (by rw [and7]; omega)
    have HD := Lib.hid (fun o o' => qSend_any (h.below (HB2.out o o')) x.n x.t x.s)
    clear h hF HB2 hk
    dsimp only
    generalize S.send x.n x.t x.s = D at *
    obtain ⟨er, S2⟩ := D
    dsimp only at *
    go_enter Try.func13, Try.ntmps13
    go_wp2_with (go_at_call 30; refine (HD.out _ _).mono ?_; rintro e w2 ⟨rfl, h2⟩; have H2 := Lib.hid h2; have R2 := Lib.hid (HR.out _ _ _ _ _ h2); clear h2; have t0 := R2.out.at 0; have t1 := R2.out.at 1; have t2 := R2.out.at 2; have f0 := R2.out.thaw 0; have f1 := R2.out.thaw 1; have f2 := R2.out.thaw 2)
    exact bodyPost_ret (v := .tuple #[.agg #[.int .i64 0, .int .i64 0, .string ⟨#[]⟩], .int .i64 er]) (by simp [results, Try.results13, go_sem, t0, t1, t2]) rfl ⟨rfl, HP.out _ _ _ _ _ H2.out (HZ.out _ _ _ _)⟩
end Ntw
end Go.Proofs.Ytmhnifcohkamaaa

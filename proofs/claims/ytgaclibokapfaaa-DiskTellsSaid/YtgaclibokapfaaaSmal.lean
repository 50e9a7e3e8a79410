/- The examples of layer 3. -/
import Derived.Test.YtgaclibokapfaaaOne
namespace Go.Proofs.Ytgaclibokapfaaa
open Go.RowKit Wire
set_option linter.unusedVariables false
set_option linter.unusedSimpArgs false
open Txt
namespace Dsk

def s1 : St := (St.new.Write 0 0 [97, 98, 99]).1
def s2 : St := (s1.Sync 0).1
def s3 : St := (s2.Write 0 1 [88, 89]).1
def s4 : St := s3.crash [1]
def s5 : St := s4.start
def t1 : St := s3.crash [0]
def t2 : St := t1.start
def t3 : St := (t2.Write 1 62 [97, 98, 99, 100]).1
def t4 : St := t3.crash [0, 1]
def t5 : St := t4.start
def t6 : St := (t5.Write 16 0 []).1
def t7 : St := (t6.Write 1 16777216 [97]).1
theorem s1_ok : s1.ok := St.new_ok.Write _ _ _
theorem s2_ok : s2.ok := s1_ok.Sync _
theorem s3_ok : s3.ok := s2_ok.Write _ _ _
theorem s4_ok : s4.ok := s3_ok.crash _
theorem s5_ok : s5.ok := s4_ok.start
theorem t1_ok : t1.ok := s3_ok.crash _
theorem t2_ok : t2.ok := t1_ok.start
theorem t3_ok : t3.ok := t2_ok.Write _ _ _
theorem t4_ok : t4.ok := t3_ok.crash _
theorem t5_ok : t5.ok := t4_ok.start
theorem t6_ok : t6.ok := t5_ok.Write _ _ _
theorem t7_ok : t7.ok := t6_ok.Write _ _ _

section
variable {W w : World} {p q : Nat}
theorem small_a (h : One W w p St.new) : Calls Try.prog 29 #[ptr p, .int .i64 0, .int .i64 0, .string ⟨#[97, 98, 99]⟩] w fun e w' => e = .returned (.int .i64 0) ∧ One W w' p s1 :=
  h.step s1_ok (fun D hp hd hf => (write_c h.ok 0 0 ⟨#[97, 98, 99]⟩ (by decide +kernel) D hp hd hf).mono fun e w' ⟨he, hq⟩ => ⟨he.trans (by rw [show (St.new.Write 0 0 (bl ⟨#[97, 98, 99]⟩)).2 = 0 from by decide +kernel]), hq⟩)
theorem small_b (h : One W w p s1) : Calls Try.prog 19 #[ptr p, .int .i64 0] w fun e w' => e = .returned (.int .i64 0) ∧ One W w' p s2 :=
  h.step s2_ok (fun D hp hd hf => (sync_c h.ok 0 D hp hd hf).mono fun e w' ⟨he, hq⟩ => ⟨he.trans (by rw [show (s1.Sync 0).2 = 0 from by decide +kernel]), hq⟩)
theorem small_c (h : One W w p s2) : Calls Try.prog 29 #[ptr p, .int .i64 0, .int .i64 1, .string ⟨#[88, 89]⟩] w fun e w' => e = .returned (.int .i64 0) ∧ One W w' p s3 :=
  h.step s3_ok (fun D hp hd hf => (write_c h.ok 0 1 ⟨#[88, 89]⟩ (by decide +kernel) D hp hd hf).mono fun e w' ⟨he, hq⟩ => ⟨he.trans (by rw [show (s2.Write 0 1 (bl ⟨#[88, 89]⟩)).2 = 0 from by decide +kernel]), hq⟩)
theorem small_d (h : Two W w p q s3 s3) : Calls Try.prog 25 #[ptr p, .slice (some ⟨w.heap.size, 0, none⟩) 1 1] (w.alloc (.cells #[.int .i64 1] 3)) fun e w' => e = .returned (.tuple #[]) ∧ Two W w' p q s4 s3 :=
  h.crash_lit [1] (by decide) _
theorem small_e (h : Two W w p q s4 s3) : Calls Try.prog 14 #[ptr p] w fun e w' => e = .returned (.bool true) ∧ w = w' := by
  have := h.left.down
  rwa [show s4.down = true from by decide +kernel] at this
theorem small_f (h : Two W w p q s4 s3) : Calls Try.prog 20 #[ptr p, .int .i64 0, .int .i64 0, .int .i64 9] w fun e w' => e = .returned (.tuple #[.string ⟨#[]⟩, .int .i64 9]) ∧ Two W w' p q s4 s3 :=
  (h.left.read 0 0 9 (by omega) (by omega)).mono fun e w' ⟨he, hb⟩ => ⟨he.trans (by rw [show s4.Read 0 0 9 = ([], 9) from by decide +kernel]), h.keep hb⟩
theorem small_g (h : Two W w p q s4 s3) : Calls Try.prog 26 #[ptr p] w fun e w' => e = .returned (.tuple #[]) ∧ Two W w' p q s5 s3 := h.step1 s5_ok start_c
theorem small_h (h : Two W w p q s5 s3) : Calls Try.prog 20 #[ptr p, .int .i64 0, .int .i64 0, .int .i64 9] w fun e w' => e = .returned (.tuple #[.string ⟨#[97, 88, 89]⟩, .int .i64 0]) ∧ One W w' q s3 :=
  (h.left.read 0 0 9 (by omega) (by omega)).mono fun e w' ⟨he, hb⟩ => ⟨he.trans (by rw [show s5.Read 0 0 9 = ([97, 88, 89], 0) from by decide +kernel]), (h.keep hb).right⟩
theorem small_i (h : One W w p s3) : Calls Try.prog 25 #[ptr p, .slice (some ⟨w.heap.size, 0, none⟩) 1 1] (w.alloc (.cells #[.int .i64 0] 3)) fun e w' => e = .returned (.tuple #[]) ∧ One W w' p t1 :=
  h.crash_lit [0] (by decide) _
theorem small_j (h : One W w p t1) : Calls Try.prog 26 #[ptr p] w fun e w' => e = .returned (.tuple #[]) ∧ One W w' p t2 := h.step t2_ok start_c
theorem small_k (h : One W w p t2) : Calls Try.prog 20 #[ptr p, .int .i64 0, .int .i64 1, .int .i64 9] w fun e w' => e = .returned (.tuple #[.string ⟨#[98, 99]⟩, .int .i64 0]) ∧ One W w' p t2 :=
  (h.read 0 1 9 (by omega) (by omega)).mono fun e w' ⟨he, hb⟩ => ⟨he.trans (by rw [show t2.Read 0 1 9 = ([98, 99], 0) from by decide +kernel]), h.keep hb⟩
theorem small_l (h : One W w p t2) : Calls Try.prog 29 #[ptr p, .int .i64 1, .int .i64 62, .string ⟨#[97, 98, 99, 100]⟩] w fun e w' => e = .returned (.int .i64 0) ∧ One W w' p t3 :=
  h.step t3_ok (fun D hp hd hf => (write_c h.ok 1 62 ⟨#[97, 98, 99, 100]⟩ (by decide +kernel) D hp hd hf).mono fun e w' ⟨he, hq⟩ => ⟨he.trans (by rw [show (t2.Write 1 62 (bl ⟨#[97, 98, 99, 100]⟩)).2 = 0 from by decide +kernel]), hq⟩)
theorem small_m (h : One W w p t3) : Calls Try.prog 25 #[ptr p, .slice (some ⟨w.heap.size, 0, none⟩) 2 2] (w.alloc (.cells #[.int .i64 0, .int .i64 1] 3)) fun e w' => e = .returned (.tuple #[]) ∧ One W w' p t4 :=
  h.crash_lit [0, 1] (by decide) _
theorem small_n (h : One W w p t4) : Calls Try.prog 26 #[ptr p] w fun e w' => e = .returned (.tuple #[]) ∧ One W w' p t5 := h.step t5_ok start_c
theorem small_o (h : One W w p t5) : Calls Try.prog 20 #[ptr p, .int .i64 1, .int .i64 60, .int .i64 100] w fun e w' => e = .returned (.tuple #[.string ⟨#[0, 0, 0, 0, 99, 100]⟩, .int .i64 0]) ∧ One W w' p t5 :=
  (h.read 1 60 100 (by omega) (by omega)).mono fun e w' ⟨he, hb⟩ => ⟨he.trans (by rw [show t5.Read 1 60 100 = ([0, 0, 0, 0, 99, 100], 0) from by decide +kernel]), h.keep hb⟩
theorem small_p (h : One W w p t5) : Calls Try.prog 16 #[ptr p, .int .i64 1] w fun e w' => e = .returned (.int .i64 66) ∧ w = w' := by
  have := h.size 1
  rwa [show t5.Size 1 = 66 from by decide +kernel] at this
theorem small_q (h : One W w p t5) : Calls Try.prog 29 #[ptr p, .int .i64 16, .int .i64 0, .string ⟨#[]⟩] w fun e w' => e = .returned (.int .i64 1) ∧ One W w' p t6 :=
  h.step t6_ok (fun D hp hd hf => (write_c h.ok 16 0 ⟨#[]⟩ (by decide +kernel) D hp hd hf).mono fun e w' ⟨he, hq⟩ => ⟨he.trans (by rw [show (t5.Write 16 0 (bl ⟨#[]⟩)).2 = 1 from by decide +kernel]), hq⟩)
theorem small_r (h : One W w p t6) : Calls Try.prog 29 #[ptr p, .int .i64 1, .int .i64 16777216, .string ⟨#[97]⟩] w fun e w' => e = .returned (.int .i64 6) ∧ One W w' p t7 :=
  h.step t7_ok (fun D hp hd hf => (write_c h.ok 1 16777216 ⟨#[97]⟩ (by decide +kernel) D hp hd hf).mono fun e w' ⟨he, hq⟩ => ⟨he.trans (by rw [show (t6.Write 1 16777216 (bl ⟨#[97]⟩)).2 = 6 from by decide +kernel]), hq⟩)
end

set_option maxHeartbeats 1000000 in
theorem small_any (w : World) : Calls Try.prog 8 #[] w fun e w' => e = .returned (.bool true) ∧ Below w.heap.size w w' := by
  go_enter Try.func8, Try.ntmps8
  go_wp2_with (first
    | (go_at_call 10; refine (new_one (Below.refl _ w)).mono ?_; rintro e w1 ⟨p, rfl, h1⟩)
    | (go_at_call 29; ((with_reducible refine (small_a h1).mono ?_); rintro e w2 ⟨rfl, h2⟩; clear h1))
    | (go_at_call 19; ((with_reducible refine (small_b h2).mono ?_); rintro e w3 ⟨rfl, h3⟩; clear h2))
    | (go_at_call 29; ((with_reducible refine (small_c h3).mono ?_); rintro e w4 ⟨rfl, h4⟩; clear h3))
    | (go_at_call 18; ((with_reducible refine (h4.copy).mono ?_); rintro e w5 ⟨q, rfl, h5⟩; clear h4))
    | (go_at_call 25; ((with_reducible refine (small_d h5).mono ?_); rintro e w6 ⟨rfl, h6⟩; clear h5))
    | (go_at_call 14; ((with_reducible refine (small_e h6).mono ?_); rintro e w7 ⟨rfl, rfl⟩))
    | (go_at_call 20; ((with_reducible refine (small_f h6).mono ?_); rintro e w8 ⟨rfl, h8⟩; clear h6))
    | (go_at_call 26; ((with_reducible refine (small_g h8).mono ?_); rintro e w9 ⟨rfl, h9⟩; clear h8))
    | (go_at_call 20; ((with_reducible refine (small_h h9).mono ?_); rintro e w10 ⟨rfl, h10⟩; clear h9))
    | (go_at_call 25; ((with_reducible refine (small_i h10).mono ?_); rintro e w11 ⟨rfl, h11⟩; clear h10))
    | (go_at_call 26; ((with_reducible refine (small_j h11).mono ?_); rintro e w12 ⟨rfl, h12⟩; clear h11))
    | (go_at_call 20; ((with_reducible refine (small_k h12).mono ?_); rintro e w13 ⟨rfl, h13⟩; clear h12))
    | (go_at_call 29; ((with_reducible refine (small_l h13).mono ?_); rintro e w14 ⟨rfl, h14⟩; clear h13))
    | (go_at_call 25; ((with_reducible refine (small_m h14).mono ?_); rintro e w15 ⟨rfl, h15⟩; clear h14))
    | (go_at_call 26; ((with_reducible refine (small_n h15).mono ?_); rintro e w16 ⟨rfl, h16⟩; clear h15))
    | (go_at_call 20; ((with_reducible refine (small_o h16).mono ?_); rintro e w17 ⟨rfl, h17⟩; clear h16))
    | (go_at_call 16; ((with_reducible refine (small_p h17).mono ?_); rintro e w18 ⟨rfl, rfl⟩))
    | (go_at_call 29; ((with_reducible refine (small_q h17).mono ?_); rintro e w19 ⟨rfl, h19⟩; clear h17))
    | (go_at_call 29; ((with_reducible refine (small_r h19).mono ?_); rintro e w20 ⟨rfl, h20⟩; clear h19)))
  go_ret
  exact ⟨rfl, h20.below⟩
end Dsk
end Go.Proofs.Ytgaclibokapfaaa

/- A disk, its copy, and the reference's disk, side by side; an act told to the reference. -/
import Derived.Test.YtgaclibokapfaaaRefD
namespace Go.Proofs.Ytgaclibokapfaaa
open Go.RowKit Wire
set_option linter.unusedVariables false
set_option linter.unusedSimpArgs false
open Txt
namespace Dsk

section
variable {w w1 w' : World} {R : ROwn} {nums : List Nat} {S T : St}
theorem RDone.under (b : Below w.heap.size w w1) (h : RDone R S w1 w') : RDone R S w w' := by
  obtain ⟨⟨R1, n1, h1, hg, hh⟩, o⟩ := h
  exact ⟨⟨R1, n1, h1, hg, fun x hx => (hh x hx).imp_right fun e => Nat.le_trans b.size e⟩, (Only.of_below b).same o⟩
theorem rlift {f : FuncId} {args : Array Value} {r : Ending} (h : RefAt w R nums S) (c : ∀ w1, RefAt w1 R nums S → Calls Try.prog f args w1 fun e w' => e = r ∧ RPost R T w1 w') : ∀ w1, Below w.heap.size w w1 → Calls Try.prog f args w1 fun e w' => e = r ∧ RDone R T w w' := fun w1 hb =>
  (c w1 (h.below hb)).mono fun e w' ⟨he, hp⟩ => ⟨he, hp.done.under hb⟩

set_option maxRecDepth 8000 in
set_option maxHeartbeats 1000000 in
/-- What an act does to the reference's disk. -/
theorem tell_any {W : World} (h : RefAt w R nums S) (hk : S.ok) (hb : Below W.heap.size W w) (hff : ∀ b, R.has b → W.heap.size ≤ b) (a : Act) (A : Option Addr) (c : Nat) (hf : a.fit) (hr : Row W W.heap.size A (a.keep.map (Value.int .i64))) (hl : a.keep.length ≤ 1000000000) (hs : a.s.size ≤ 16777216) :
    Calls Try.prog 13 #[ptr R.g, .agg (a.cells A c).toArray] w fun e w' => e = .returned (.int .i64 (a.run S).2) ∧ RDone R (a.run S).1 w w' := by
  unfold Act.cells
  have e : a.kind = bits .and .i64 a.what 7 := rfl
  have HW := Lib.hid (rlift h fun w1 h1 => rWrite_any h1 hk a.f a.n a.s hs)
  have HS := Lib.hid (rlift h fun w1 h1 => rSync_any h1 hk a.f)
  have HT := Lib.hid (rlift h fun w1 h1 => rTrunc_any h1 hk a.f a.n)
  have HL := Lib.hid (rlift h fun w1 h1 => rlose_any h1 (bits .and .i64 a.n 3))
  have HST := Lib.hid (rlift h fun w1 h1 => rstart_any h1)
  have HA : Hid (∀ w1, Below w.heap.size w w1 → Calls Try.prog 37 #[ptr R.g, .int .i64 a.n, .slice A a.keep.length c] w1 fun e w' => e = .returned (.tuple #[]) ∧ RDone R (S.arm a.n a.keep) w w') :=
    Lib.hid fun w1 hb1 => (rarm_any (h.below hb1) a.n _ a.keep (ints_row hr (next_below hb hb1)) (clear_row hr hff) hl).mono fun e w' ⟨he, hp⟩ => ⟨he, hp.under hb1⟩
  have HC : Hid (∀ w1, Below w.heap.size w w1 → Calls Try.prog 38 #[ptr R.g, .slice A a.keep.length c] w1 fun e w' => e = .returned (.tuple #[]) ∧ RDone R (S.crash a.keep) w w') :=
    Lib.hid fun w1 hb1 => (rcrash_any (h.below hb1) hk _ a.keep (ints_row hr (next_below hb hb1)) (clear_row hr fun b hh => hff b (ROwn.wr_has hh)) hl).mono fun e w' ⟨he, hp⟩ => ⟨he, hp.done.under hb1⟩
  have B1 : ∀ o, Hid (Below w.heap.size w (w.alloc o)) := fun o => Lib.hid ((Below.refl _ w).alloc (Nat.le_refl _) o)
  rcases kind_run a S with ⟨k, e2⟩ | ⟨k, e2⟩ | ⟨k, e2⟩ | ⟨k, e2⟩ | ⟨k, e2⟩ | ⟨k, e2⟩ | ⟨k2, k3, k4, k5, k6, k7, e2⟩
  · rw [e2]
    rw [e] at k
    clear e e2 h hf hr hk hff hb hl
    go_enter Try.func13, Try.ntmps13
    go_wp2_with (go_at_call 34; refine (HS.out _ (B1 _).out).mono ?_; rintro e w1 ⟨rfl, hp⟩; have HP := Lib.hid hp; clear hp)
    go_ret
    exact ⟨rfl, HP.out⟩
  · rw [e2]
    rw [e] at k
    clear e e2 h hf hr hk hff hb hl
    go_enter Try.func13, Try.ntmps13
    go_wp2_with (go_at_call 35; refine (HT.out _ (B1 _).out).mono ?_; rintro e w1 ⟨rfl, hp⟩; have HP := Lib.hid hp; clear hp)
    go_ret
    exact ⟨rfl, HP.out⟩
  · rw [e2]
    rw [e] at k
    clear e e2 h hf hr hk hff hb hl
    go_enter Try.func13, Try.ntmps13
    go_wp2_with (go_at_call 36; refine (HL.out _ (B1 _).out).mono ?_; rintro e w1 ⟨rfl, hp⟩; have HP := Lib.hid hp; clear hp)
    go_ret
    exact ⟨rfl, HP.out⟩
  · rw [e2]
    rw [e] at k
    clear e e2 h hf hr hk hff hb hl
    go_enter Try.func13, Try.ntmps13
    go_wp2_with (go_at_call 37; refine (HA.out _ (B1 _).out).mono ?_; rintro e w1 ⟨rfl, hp⟩; have HP := Lib.hid hp; clear hp)
    go_ret
    exact ⟨rfl, HP.out⟩
  · rw [e2]
    rw [e] at k
    clear e e2 h hf hr hk hff hb hl
    go_enter Try.func13, Try.ntmps13
    go_wp2_with (go_at_call 38; refine (HC.out _ (B1 _).out).mono ?_; rintro e w1 ⟨rfl, hp⟩; have HP := Lib.hid hp; clear hp)
    go_ret
    exact ⟨rfl, HP.out⟩
  · rw [e2]
    rw [e] at k
    clear e e2 h hf hr hk hff hb hl
    go_enter Try.func13, Try.ntmps13
    go_wp2_with (go_at_call 39; refine (HST.out _ (B1 _).out).mono ?_; rintro e w1 ⟨rfl, hp⟩; have HP := Lib.hid hp; clear hp)
    go_ret
    exact ⟨rfl, HP.out⟩
  · rw [e2]
    rw [e] at k2 k3 k4 k5 k6 k7
    have q2 := beq_eq_false_iff_ne.2 k2
    have q3 := beq_eq_false_iff_ne.2 k3
    have q4 := beq_eq_false_iff_ne.2 k4
    have q5 := beq_eq_false_iff_ne.2 k5
    have q6 := beq_eq_false_iff_ne.2 k6
    have q7 := beq_eq_false_iff_ne.2 k7
    clear e e2 h hf hr hk hff hb hl k2 k3 k4 k5 k6 k7
    go_enter Try.func13, Try.ntmps13
    go_wp2_with (go_at_call 40; refine (HW.out _ (B1 _).out).mono ?_; rintro e w1 ⟨rfl, hp⟩; have HP := Lib.hid hp; clear hp)
    go_ret
    exact ⟨rfl, HP.out⟩
end

/-- A disk at p, and the reference's at g. -/
structure DR (W w : World) (p g : Nat) (S T : St) : Prop where
  below : Below W.heap.size W w
  ok1 : S.ok
  ok2 : T.ok
  both : ∃ D R nums, D.p = p ∧ R.g = g ∧ DiskAt w D S ∧ RefAt w R nums T ∧ (∀ b, D.has b → W.heap.size ≤ b) ∧ (∀ b, R.has b → W.heap.size ≤ b) ∧ ∀ b, D.has b → ¬ R.has b
/-- .. and a copy at q. -/
structure DC (W w : World) (p q g : Nat) (S0 S T : St) : Prop where
  below : Below W.heap.size W w
  ok0 : S0.ok
  ok1 : S.ok
  ok2 : T.ok
  all : ∃ D C R nums, D.p = p ∧ C.p = q ∧ R.g = g ∧ DiskAt w D S0 ∧ DiskAt w C S ∧ RefAt w R nums T ∧ (∀ b, D.has b → W.heap.size ≤ b) ∧ (∀ b, C.has b → W.heap.size ≤ b) ∧ (∀ b, R.has b → W.heap.size ≤ b) ∧
    (∀ b, D.has b → ¬ C.has b) ∧ (∀ b, D.has b → ¬ R.has b) ∧ ∀ b, C.has b → ¬ R.has b

section
variable {W w w' : World} {p q g : Nat} {S T S' T' S0 : St} {f : FuncId} {args : Array Value} {r : Ending}
theorem DR.keep (h : DR W w p g S T) (b : Below w.heap.size w w') : DR W w' p g S T := by
  obtain ⟨hb, hk, hk2, D, R, n, hp, hg, hd, hr, hf, hf2, hs⟩ := h
  exact ⟨next_below hb b, hk, hk2, D, R, n, hp, hg, hd.below b, hr.below b, hf, hf2, hs⟩
theorem DR.one (h : DR W w p g S T) : One W w p S := by
  obtain ⟨hb, hk, hk2, D, R, n, hp, hg, hd, hr, hf, hf2, hs⟩ := h
  exact ⟨hb, hk, D, hp, hd, hf⟩
theorem DR.step1 (h : DR W w p g S T) (hk : S'.ok) (hc : ∀ D, D.p = p → DiskAt w D S → (∀ b, D.has b → W.heap.size ≤ b) → Calls Try.prog f args w fun e w' => e = r ∧ Post D S' w w') : Calls Try.prog f args w fun e w' => e = r ∧ DR W w' p g S' T := by
  obtain ⟨hb, _, hk2, D, R, n, hp, hg, hd, hrr, hf, hf2, hsep⟩ := h
  refine (hc D hp hd hf).mono ?_
  rintro e w' ⟨he, ⟨D', hd', hp', hh⟩, ho⟩
  have hs := hb.size
  refine ⟨he, hb.trans (ho.below hs hf), hk, hk2, D', R, n, hp'.trans hp, hg, hd', hrr.only ho (fun b hb2 hb3 => hsep b hb3 hb2), fun b hb2 => ?_, hf2, fun b hb2 hb3 => ?_⟩
  · rcases hh b hb2 with h1 | h1
    · exact hf b h1
    · omega
  · rcases hh b hb2 with h1 | h1
    · exact hsep b h1 hb3
    · have := hrr.inside b hb3; omega
theorem DR.step2 (h : DR W w p g S T) (hk : T'.ok) (hc : ∀ R n, R.g = g → RefAt w R n T → (∀ b, R.has b → W.heap.size ≤ b) → Calls Try.prog f args w fun e w' => e = r ∧ RDone R T' w w') : Calls Try.prog f args w fun e w' => e = r ∧ DR W w' p g S T' := by
  obtain ⟨hb, hk1, _, D, R, n, hp, hg, hd, hrr, hf, hf2, hsep⟩ := h
  refine (hc R n hg hrr hf2).mono ?_
  rintro e w' ⟨he, ⟨R', n', hr', hg', hh⟩, ho⟩
  have hs := hb.size
  refine ⟨he, hb.trans (ho.below hs hf2), hk1, hk, D, R', n', hp, hg'.trans hg, hd.only ho (fun b hb2 hb3 => hsep b hb2 hb3), hr', hf, fun b hb2 => ?_, fun b hb2 hb3 => ?_⟩
  · rcases hh b hb2 with h1 | h1
    · exact hf2 b h1
    · omega
  · rcases hh b hb3 with h1 | h1
    · exact hsep b hb2 h1
    · have := hd.inside b hb2; omega
theorem DC.rest (h : DC W w p q g S0 S T) : DR W w q g S T := by
  obtain ⟨hb, hk0, hk1, hk2, D, C, R, n, hp, hq, hg, hd, hc, hr, f1, f2, f3, s1, s2, s3⟩ := h
  exact ⟨hb, hk1, hk2, C, R, n, hq, hg, hc, hr, f2, f3, s3⟩
theorem DC.step (h : DC W w p q g S0 S T) (hk : S'.ok) (hcc : ∀ D, D.p = p → DiskAt w D S0 → (∀ b, D.has b → W.heap.size ≤ b) → Calls Try.prog f args w fun e w' => e = r ∧ Post D S' w w') : Calls Try.prog f args w fun e w' => e = r ∧ DC W w' p q g S' S T := by
  obtain ⟨hb, hk0, hk1, hk2, D, C, R, n, hp, hq, hg, hd, hc, hrr, f1, f2, f3, s1, s2, s3⟩ := h
  refine (hcc D hp hd f1).mono ?_
  rintro e w' ⟨he, ⟨D', hd', hp', hh⟩, ho⟩
  have hs := hb.size
  refine ⟨he, hb.trans (ho.below hs f1), hk, hk1, hk2, D', C, R, n, hp'.trans hp, hq, hg, hd', hc.only ho (fun b hb2 hb3 => s1 b hb3 hb2), hrr.only ho (fun b hb2 hb3 => s2 b hb3 hb2), fun b hb2 => ?_, f2, f3, fun b hb2 hb3 => ?_, fun b hb2 hb3 => ?_, s3⟩
  · rcases hh b hb2 with h1 | h1
    · exact f1 b h1
    · omega
  · rcases hh b hb2 with h1 | h1
    · exact s1 b h1 hb3
    · have := hc.inside b hb3; omega
  · rcases hh b hb2 with h1 | h1
    · exact s2 b h1 hb3
    · have := hrr.inside b hb3; omega
theorem DR.copy (h : DR W w p g S T) : Calls Try.prog 18 #[ptr p] w fun e w' => ∃ q, e = .returned (ptr q) ∧ DC W w' p q g S S T := by
  obtain ⟨hb, hk, hk2, D, R, n, rfl, hg, hd, hr, hf, hf2, hs⟩ := h
  have := hb.size
  refine (Copy_any w D S hd hk).mono ?_
  rintro e w' ⟨C, he, hc, hn, hb2⟩
  exact ⟨C.p, he, next_below hb hb2, hk, hk, hk2, D, C, R, n, rfl, rfl, hg, hd.below hb2, hc, hr.below hb2, hf, fun b h1 => by have := hn b h1; omega, hf2, fun b h1 h2 => by have := hd.inside b h1; have := hn b h2; omega, hs, fun b h1 h2 => by have := hr.inside b h2; have := hn b h1; omega⟩
theorem One.ref (h : One W w p S) : Calls Try.prog 11 #[] w fun e w' => ∃ g, e = .returned (ptr g) ∧ DR W w' p g S St.new := by
  obtain ⟨hb, hk, D, hp, hd, hf⟩ := h
  have := hb.size
  refine (rnew_any w).mono ?_
  rintro e w' ⟨R, he, hn⟩
  exact ⟨R.g, he, next_below hb hn.below, hk, St.new_ok, D, R, [], hp, rfl, hd.below hn.below, hn.disk, hf, fun b h1 => by have := hn.new b h1; omega, fun b h1 h2 => by have := hd.inside b h1; have := hn.new b h2; omega⟩
theorem DR.do_ (h : DR W w p g S T) (a : Act) (A : Option Addr) (c : Nat) (hf : a.fit) (hr : Row W W.heap.size A (a.keep.map (Value.int .i64))) (hl : a.keep.length ≤ 1000000000) :
    Calls Try.prog 12 #[ptr p, .agg (a.cells A c).toArray] w fun e w' => e = .returned (.int .i64 (a.run S).2) ∧ DR W w' p g (a.run S).1 T :=
  h.step1 (run_ok h.ok1 hf hl) (do_c h.below h.ok1 a A c hf hr hl)
theorem DC.do_ (h : DC W w p q g S0 S T) (a : Act) (A : Option Addr) (c : Nat) (hf : a.fit) (hr : Row W W.heap.size A (a.keep.map (Value.int .i64))) (hl : a.keep.length ≤ 1000000000) :
    Calls Try.prog 12 #[ptr p, .agg (a.cells A c).toArray] w fun e w' => e = .returned (.int .i64 (a.run S0).2) ∧ DC W w' p q g (a.run S0).1 S T :=
  h.step (run_ok h.ok0 hf hl) (do_c h.below h.ok0 a A c hf hr hl)
theorem DC.sync (h : DC W w p q g S0 S T) (f : Int) : Calls Try.prog 19 #[ptr p, .int .i64 f] w fun e w' => e = .returned (.int .i64 (S0.Sync f).2) ∧ DC W w' p q g (S0.Sync f).1 S T :=
  h.step (h.ok0.Sync f) (sync_c h.ok0 f)
theorem DR.tell (h : DR W w p g S T) (a : Act) (A : Option Addr) (c : Nat) (hf : a.fit) (hr : Row W W.heap.size A (a.keep.map (Value.int .i64))) (hl : a.keep.length ≤ 1000000000) (hs : a.s.size ≤ 16777216) :
    Calls Try.prog 13 #[ptr g, .agg (a.cells A c).toArray] w fun e w' => e = .returned (.int .i64 (a.run T).2) ∧ DR W w' p g S (a.run T).1 :=
  h.step2 (run_ok h.ok2 hf hl) fun R n hg hrr hff => by subst hg; exact tell_any hrr h.ok2 h.below hff a A c hf hr hl hs
theorem DR.ask {Q : Ending → World → Prop} (h : DR W w p g S T) (hc : ∀ R n, R.g = g → RefAt w R n T → Calls Try.prog f args w Q) : Calls Try.prog f args w Q := by
  obtain ⟨hb, hk1, _, D, R, n, hp, hg, hd, hrr, hf, hf2, hsep⟩ := h
  exact hc R n hg hrr
theorem DR.rdown (h : DR W w p g S T) : Calls Try.prog 15 #[ptr g] w fun e w' => e = .returned (.bool T.down) ∧ w = w' :=
  h.ask fun R n hg hr => by subst hg; exact rdown_any hr
theorem DR.rsize (h : DR W w p g S T) (f : Int) : Calls Try.prog 17 #[ptr g, .int .i64 f] w fun e w' => e = .returned (.int .i64 (T.Size f)) ∧ DR W w' p g S T :=
  h.ask fun R n hg hr => by subst hg; exact (rsize_any hr h.ok2.now f).mono fun e w' ⟨h1, h2⟩ => ⟨h1, h.keep h2⟩
theorem DR.rread (h : DR W w p g S T) (f a n : Int) (hr : a ≤ 9223372036854775807 ∧ n ≤ 9223372036854775807) : Calls Try.prog 21 #[ptr g, .int .i64 f, .int .i64 a, .int .i64 n] w fun e w' => e = .returned (.tuple #[str (T.Read f a n).1, .int .i64 (T.Read f a n).2]) ∧ DR W w' p g S T :=
  h.ask fun R n' hg hrr => by subst hg; exact (rRead_any hrr h.ok2 f a n hr).mono fun e w' ⟨h1, h2⟩ => ⟨h1, h.keep h2⟩
theorem DR.read (h : DR W w p g S T) (f a n : Int) (ha : a ≤ 9223372036854775807) (hn : n ≤ 9223372036854775807) : Calls Try.prog 20 #[ptr p, .int .i64 f, .int .i64 a, .int .i64 n] w fun e w' => e = .returned (.tuple #[str (S.Read f a n).1, .int .i64 (S.Read f a n).2]) ∧ DR W w' p g S T :=
  (h.one.read f a n ha hn).mono fun e w' ⟨h1, h2⟩ => ⟨h1, h.keep h2⟩
end
end Dsk
end Go.Proofs.Ytgaclibokapfaaa

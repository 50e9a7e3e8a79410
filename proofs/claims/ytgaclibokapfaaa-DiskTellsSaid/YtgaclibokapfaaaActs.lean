/- Acts of the statements. -/
import Derived.Test.YtgaclibokapfaaaSmal
namespace Go.Proofs.Ytgaclibokapfaaa
open Go.RowKit Wire
set_option linter.unusedVariables false
set_option linter.unusedSimpArgs false
open Txt
namespace Dsk

/-- It is an int. -/
def Fits (z : Int) : Prop := -9223372036854775808 ≤ z ∧ z ≤ 9223372036854775807
theorem fits_of {n : Int} (h : (Lit.int .i64 n).wf = true) : Fits n := by
  unfold Fits
  simpa [Lit.wf, IntKind.min, IntKind.max, IntKind.signed, IntKind.bits] using h

/-- An act. -/
structure Act where
  what : Int
  f : Int
  n : Int
  s : ByteArray
  keep : List Int

def Act.kind (a : Act) : Int := bits .and .i64 a.what 7
/-- What an act does, and returns. -/
def Act.run (a : Act) (S : St) : St × Int :=
  if a.kind = 2 then S.Sync a.f else if a.kind = 3 then S.Trunc a.f a.n else if a.kind = 4 then (S.lose (bits .and .i64 a.n 3), 0) else if a.kind = 5 then (S.arm a.n a.keep, 0)
  else if a.kind = 6 then (S.crash a.keep, 0) else if a.kind = 7 then (S.start, 0) else S.Write a.f a.n (bl a.s)
def Act.cells (a : Act) (A : Option Addr) (c : Nat) : List Value := [.int .i64 a.what, .int .i64 a.f, .int .i64 a.n, .string a.s, .slice A a.keep.length c]
/-- It is no longer than machines allow. -/
structure Act.fit (a : Act) : Prop where
  what : Fits a.what
  f : Fits a.f
  n : Fits a.n
  s : a.s.size ≤ maxLen
/-- It is within the bounds of few. -/
structure Act.few (a : Act) : Prop where
  s : a.s.size ≤ 300
  keep : a.keep.length ≤ 60
  n : a.n ≤ 3000 ∨ 16776916 ≤ a.n

/-- Acts that came in. -/
structure Acts (W : World) (A : Option Addr) (l : List Act) : Prop where
  lie : ∀ i a, l[i]? = some a → ∃ b o A' c', A = some ⟨b, o, none⟩ ∧ b < W.heap.size ∧ (∀ j u, (a.cells A' c')[j]? = some u → W.cell? ⟨b, o + i * 5 + j, none⟩ = some u) ∧ Row W W.heap.size A' (a.keep.map (Value.int .i64))
  fit : ∀ a ∈ l, a.fit
  len : l.length ≤ 9223372036854775807

/-- One of them, as a later world has it. -/
structure At (W w : World) (A : Option Addr) (i : Nat) (a : Act) (b o : Nat) (A' : Option Addr) (c' : Nat) : Prop where
  at_ : A = some ⟨b, o, none⟩
  k0 : w.cell? ⟨b, o + i * 5, none⟩ = some (.int .i64 a.what)
  k1 : w.cell? ⟨b, o + i * 5 + 1, none⟩ = some (.int .i64 a.f)
  k2 : w.cell? ⟨b, o + i * 5 + 2, none⟩ = some (.int .i64 a.n)
  k3 : w.cell? ⟨b, o + i * 5 + 3, none⟩ = some (.string a.s)
  k4 : w.cell? ⟨b, o + i * 5 + 4, none⟩ = some (.slice A' a.keep.length c')
  row : Row W W.heap.size A' (a.keep.map (Value.int .i64))
  fit : a.fit
theorem Acts.at {W w : World} {A : Option Addr} {l : List Act} (h : Acts W A l) (hb : Below W.heap.size W w) {i : Nat} (hi : i < l.length) : ∃ b o A' c', At W w A i l[i] b o A' c' := by
  obtain ⟨b, o, A', c', e, hlt, hc, hr⟩ := h.lie i l[i] (List.getElem?_eq_getElem hi)
  have g : ∀ j, w.cell? ⟨b, o + i * 5 + j, none⟩ = W.cell? ⟨b, o + i * 5 + j, none⟩ := fun j => hb.cell (p := ⟨b, o + i * 5 + j, none⟩) hlt
  exact ⟨b, o, A', c', e, (g 0).trans (hc 0 _ rfl), (g 1).trans (hc 1 _ rfl), (g 2).trans (hc 2 _ rfl), (g 3).trans (hc 3 _ rfl), (g 4).trans (hc 4 _ rfl), hr, h.fit _ (List.getElem_mem hi)⟩

theorem kind_run (a : Act) (S : St) : (a.kind = 2 ∧ a.run S = S.Sync a.f) ∨ (a.kind = 3 ∧ a.run S = S.Trunc a.f a.n) ∨ (a.kind = 4 ∧ a.run S = (S.lose (bits .and .i64 a.n 3), 0)) ∨ (a.kind = 5 ∧ a.run S = (S.arm a.n a.keep, 0)) ∨
    (a.kind = 6 ∧ a.run S = (S.crash a.keep, 0)) ∨ (a.kind = 7 ∧ a.run S = (S.start, 0)) ∨ (a.kind ≠ 2 ∧ a.kind ≠ 3 ∧ a.kind ≠ 4 ∧ a.kind ≠ 5 ∧ a.kind ≠ 6 ∧ a.kind ≠ 7 ∧ a.run S = S.Write a.f a.n (bl a.s)) := by
  unfold Act.run
  by_cases h2 : a.kind = 2
  · exact .inl ⟨h2, by rw [if_pos h2]⟩
  by_cases h3 : a.kind = 3
  · exact .inr (.inl ⟨h3, by rw [if_neg h2, if_pos h3]⟩)
  by_cases h4 : a.kind = 4
  · exact .inr (.inr (.inl ⟨h4, by rw [if_neg h2, if_neg h3, if_pos h4]⟩))
  by_cases h5 : a.kind = 5
  · exact .inr (.inr (.inr (.inl ⟨h5, by rw [if_neg h2, if_neg h3, if_neg h4, if_pos h5]⟩)))
  by_cases h6 : a.kind = 6
  · exact .inr (.inr (.inr (.inr (.inl ⟨h6, by rw [if_neg h2, if_neg h3, if_neg h4, if_neg h5, if_pos h6]⟩))))
  by_cases h7 : a.kind = 7
  · exact .inr (.inr (.inr (.inr (.inr (.inl ⟨h7, by rw [if_neg h2, if_neg h3, if_neg h4, if_neg h5, if_neg h6, if_pos h7]⟩)))))
  · exact .inr (.inr (.inr (.inr (.inr (.inr ⟨h2, h3, h4, h5, h6, h7, by rw [if_neg h2, if_neg h3, if_neg h4, if_neg h5, if_neg h6, if_neg h7]⟩)))))

theorem and3 (n : Int) : bits .and .i64 n 3 ≤ 9223372036854775807 := by
  unfold bits
  show IntKind.i64.wrap (((BitVec.ofInt 64 n &&& BitVec.ofInt 64 3).toNat : Nat) : Int) ≤ _
  have h : (BitVec.ofInt 64 n &&& BitVec.ofInt 64 3).toNat ≤ 3 := by
    rw [BitVec.toNat_and]
    exact Nat.and_le_right
  rw [IntWalk.i64_in _ (by omega)]
  omega

theorem run_ok {a : Act} {S : St} (hk : S.ok) (hf : a.fit) (hl : a.keep.length ≤ 1000000000) : (a.run S).1.ok := by
  rcases kind_run a S with ⟨_, e⟩ | ⟨_, e⟩ | ⟨_, e⟩ | ⟨_, e⟩ | ⟨_, e⟩ | ⟨_, e⟩ | ⟨_, _, _, _, _, _, e⟩
  all_goals rw [e]
  · exact hk.Sync _
  · exact hk.Trunc _ _
  · exact hk.lose (and3 _)
  · exact hk.arm hf.n.2 hl
  · exact hk.crash _
  · exact hk.start
  · exact hk.Write _ _ _

theorem lift_c {w : World} {D : Own} {S S' : St} {f : FuncId} {args : Array Value} {R : Ending} (hd : DiskAt w D S) (h : ∀ w1, DiskAt w1 D S → Calls Try.prog f args w1 fun e w' => e = R ∧ Post D S' w1 w') :
    ∀ w1, Below w.heap.size w w1 → Calls Try.prog f args w1 fun e w' => e = R ∧ Post D S' w w' := fun w1 hb =>
  (h w1 (hd.below hb)).mono fun e w' ⟨he, hp⟩ => ⟨he, Post.next (Only.of_below hb) rfl (fun b h => .inl h) hp⟩

set_option maxHeartbeats 1000000 in
/-- What an act does to a disk, as a step. -/
theorem do_c {W w : World} {p : Nat} {S : St} (hb : Below W.heap.size W w) (hk : S.ok) (a : Act) (A : Option Addr) (c : Nat) (hf : a.fit) (hr : Row W W.heap.size A (a.keep.map (Value.int .i64))) (hl : a.keep.length ≤ 1000000000) :
    ∀ D, D.p = p → DiskAt w D S → (∀ b, D.has b → W.heap.size ≤ b) → Calls Try.prog 12 #[ptr p, .agg (a.cells A c).toArray] w fun e w' => e = .returned (.int .i64 (a.run S).2) ∧ Post D (a.run S).1 w w' := by
  rintro D rfl hd hff
  unfold Act.cells
  have e : a.kind = bits .and .i64 a.what 7 := rfl
  have HW := Lib.hid (lift_c hd fun w1 hd1 => Write_any w1 D S hd1 hk a.f a.n a.s hf.s)
  have HS := Lib.hid (lift_c hd fun w1 hd1 => Sync_any w1 D S hd1 hk a.f)
  have HT := Lib.hid (lift_c hd fun w1 hd1 => Trunc_any w1 D S hd1 hk a.f a.n)
  have HL := Lib.hid (lift_c hd fun w1 hd1 => lose_any hd1 (bits .and .i64 a.n 3))
  have HST := Lib.hid (lift_c hd fun w1 hd1 => start_any hd1)
  have HA : Hid (∀ w1, Below w.heap.size w w1 → Calls Try.prog 27 #[ptr D.p, .int .i64 a.n, .slice A a.keep.length c] w1 fun e w' => e = .returned (.tuple #[]) ∧ Post D (S.arm a.n a.keep) w w') :=
    Lib.hid fun w1 hb1 => (arm_c (next_below hb hb1) a.n A c a.keep hr hl D rfl (hd.below hb1) hff).mono fun e w' ⟨he, hp⟩ => ⟨he, Post.next (Only.of_below hb1) rfl (fun b h => .inl h) hp⟩
  have HC : Hid (∀ w1, Below w.heap.size w w1 → Calls Try.prog 25 #[ptr D.p, .slice A a.keep.length c] w1 fun e w' => e = .returned (.tuple #[]) ∧ Post D (S.crash a.keep) w w') :=
    Lib.hid fun w1 hb1 => (crash_c (next_below hb hb1) hk A c a.keep hr hl D rfl (hd.below hb1) hff).mono fun e w' ⟨he, hp⟩ => ⟨he, Post.next (Only.of_below hb1) rfl (fun b h => .inl h) hp⟩
  have B1 : ∀ o, Hid (Below w.heap.size w (w.alloc o)) := fun o => Lib.hid ((Below.refl _ w).alloc (Nat.le_refl _) o)
  rcases kind_run a S with ⟨k, e2⟩ | ⟨k, e2⟩ | ⟨k, e2⟩ | ⟨k, e2⟩ | ⟨k, e2⟩ | ⟨k, e2⟩ | ⟨k2, k3, k4, k5, k6, k7, e2⟩
  · rw [e2]
    rw [e] at k
    clear e e2 hd hf hr hk hff hb hl
    go_enter Try.func12, Try.ntmps12
    go_wp2_with (go_at_call 19; refine (HS.out _ (B1 _).out).mono ?_; rintro e w1 ⟨rfl, hp⟩; have HP := Lib.hid hp; clear hp)
    go_ret
    exact ⟨rfl, HP.out⟩
  · rw [e2]
    rw [e] at k
    clear e e2 hd hf hr hk hff hb hl
    go_enter Try.func12, Try.ntmps12
    go_wp2_with (go_at_call 30; refine (HT.out _ (B1 _).out).mono ?_; rintro e w1 ⟨rfl, hp⟩; have HP := Lib.hid hp; clear hp)
    go_ret
    exact ⟨rfl, HP.out⟩
  · rw [e2]
    rw [e] at k
    clear e e2 hd hf hr hk hff hb hl
    go_enter Try.func12, Try.ntmps12
    go_wp2_with (go_at_call 33; refine (HL.out _ (B1 _).out).mono ?_; rintro e w1 ⟨rfl, hp⟩; have HP := Lib.hid hp; clear hp)
    go_ret
    exact ⟨rfl, HP.out⟩
  · rw [e2]
    rw [e] at k
    clear e e2 hd hf hr hk hff hb hl
    go_enter Try.func12, Try.ntmps12
    go_wp2_with (go_at_call 27; refine (HA.out _ (B1 _).out).mono ?_; rintro e w1 ⟨rfl, hp⟩; have HP := Lib.hid hp; clear hp)
    go_ret
    exact ⟨rfl, HP.out⟩
  · rw [e2]
    rw [e] at k
    clear e e2 hd hf hr hk hff hb hl
    go_enter Try.func12, Try.ntmps12
    go_wp2_with (go_at_call 25; refine (HC.out _ (B1 _).out).mono ?_; rintro e w1 ⟨rfl, hp⟩; have HP := Lib.hid hp; clear hp)
    go_ret
    exact ⟨rfl, HP.out⟩
  · rw [e2]
    rw [e] at k
    clear e e2 hd hf hr hk hff hb hl
    go_enter Try.func12, Try.ntmps12
    go_wp2_with (go_at_call 26; refine (HST.out _ (B1 _).out).mono ?_; rintro e w1 ⟨rfl, hp⟩; have HP := Lib.hid hp; clear hp)
    go_ret
    exact ⟨rfl, HP.out⟩
  · rw [e2]
    rw [e] at k2 k3 k4 k5 k6 k7
    have q2 := beq_eq_false_iff_ne.2 k2
    have q3 := beq_eq_false_iff_ne.2 k3
    have q4 := beq_eq_false_iff_ne.2 k4
    have q5 := beq_eq_false_iff_ne.2 k5
    have q6 := beq_eq_false_iff_ne.2 k6
    have q7 := beq_eq_false_iff_ne.2 k7
    clear e e2 hd hf hr hk hff hb hl k2 k3 k4 k5 k6 k7
    go_enter Try.func12, Try.ntmps12
    go_wp2_with (go_at_call 29; refine (HW.out _ (B1 _).out).mono ?_; rintro e w1 ⟨rfl, hp⟩; have HP := Lib.hid hp; clear hp)
    go_ret
    exact ⟨rfl, HP.out⟩
end Dsk
end Go.Proofs.Ytgaclibokapfaaa

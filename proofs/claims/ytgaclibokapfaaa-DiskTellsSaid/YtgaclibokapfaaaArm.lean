/- A scheduled crash, and the same crash by a call: plain facts. -/
import Derived.Test.YtgaclibokapfaaaRds
namespace Go.Proofs.Ytgaclibokapfaaa
set_option linter.unusedVariables false
open Go.RowKit Wire Txt
namespace Dsk

/-- Ahead of the scheduled crash: d is c, but for the schedule, of which k calls are left. -/
structure Ahead (D C : St) (k : Nat) (ks : List Int) : Prop where
  d : D = { C with calls := k, keep := ks }
  calls : C.calls = 0
  up : C.down = false
/-- Behind it: both are down, with the same files. -/
structure Behind (D C : St) : Prop where
  d : D.down = true
  c : C.down = true
  now : D.now = C.now

section
variable {D C : St} {k : Nat} {ks : List Int}
theorem Behind.read (h : Behind D C) (f a n : Int) : D.Read f a n = C.Read f a n := by
  unfold St.Read
  rw [h.d, h.c, h.now]
theorem Behind.size (h : Behind D C) (f : Int) : D.Size f = C.Size f := by
  unfold St.Size
  rw [h.now]
theorem Ahead.read (h : Ahead D C k ks) (f a n : Int) : D.Read f a n = C.Read f a n := by
  rw [h.d]
  rfl
theorem Ahead.size (h : Ahead D C k ks) (f : Int) : D.Size f = C.Size f := by
  rw [h.d]
  rfl

theorem writeF_calls (c : Int) (q : List Int) : ∀ (n : Nat) (S : St) (f a : Nat) (l : List UInt8), ({ S with calls := c, keep := q } : St).writeF n f a l = { S.writeF n f a l with calls := c, keep := q }
  | 0, S, f, a, l => rfl
  | n + 1, S, f, a, l => by
    unfold St.writeF
    split
    · rfl
    · exact writeF_calls c q n { S with now := S.now.put f a (l.take (64 - a % 64)), queue := addL S.queue (f, a / 64) } f _ _
theorem count_more (S : St) (hd : S.down = false) (ks : List Int) (hk : 0 < k) : ({ S with calls := ((k + 1 : Nat) : Int), keep := ks } : St).count = { S with calls := (k : Int), keep := ks } := by
  have h1 : ((k + 1 : Nat) : Int) - 1 = k := by omega
  unfold St.count
  rw [if_neg (by show ¬ (S.down || ((k + 1 : Nat) : Int) == 0) = true; rw [hd]; simp; omega), if_neg (by show ¬ (((k + 1 : Nat) : Int) - 1 == 0) = true; simp; omega)]
  show ({ S with calls := ((k + 1 : Nat) : Int) - 1, keep := ks } : St) = _
  rw [h1]
theorem count_last (S : St) (hd : S.down = false) (ks : List Int) : ({ S with calls := ((0 + 1 : Nat) : Int), keep := ks } : St).count = ⟨S.dead ks, S.dead ks, [], true, S.lost, 0, []⟩ := by
  unfold St.count
  rw [if_neg (by show ¬ (S.down || ((0 + 1 : Nat) : Int) == 0) = true; rw [hd]; simp), if_pos (by show (((0 + 1 : Nat) : Int) - 1 == 0) = true; simp)]
  unfold St.crash
  rw [if_neg (by show ¬ S.down = true; rw [hd]; simp)]
  rfl
theorem Sync_at {S X : St} (hc : S.count = X) (hd : X.down = false) (f : Int) : S.Sync f = if !isF f then (X, 1) else if 0 < X.lost then ({ X with lost := X.lost - 1 }, 10) else (X.settle f.toNat, 0) := by
  unfold St.Sync
  rw [hc, if_neg (by rw [hd]; simp)]
theorem Trunc_at {S X : St} (hc : S.count = X) (hd : X.down = false) (f n : Int) : S.Trunc f n = if !isF f || decide (n < 0) || decide ((X.now.size f.toNat : Int) < n) then (X, 1) else (X.trunc f.toNat n.toNat, 0) := by
  unfold St.Trunc
  rw [hc, if_neg (by rw [hd]; simp)]
theorem Write_at {S X Y : St} {f a : Int} {l : List UInt8} (h : (if S.errW f a l.length = 0 then S.write f.toNat a.toNat l else S) = X) (hc : X.count = Y) : S.Write f a l = (Y, if Y.down then 9 else S.errW f a l.length) := by
  unfold St.Write
  rw [h, hc]
theorem Sync_dead {S X : St} (hc : S.count = X) (hd : X.down = true) (f : Int) : S.Sync f = (X, 9) := by
  unfold St.Sync
  rw [hc, if_pos hd]
theorem Trunc_dead {S X : St} (hc : S.count = X) (hd : X.down = true) (f n : Int) : S.Trunc f n = (X, 9) := by
  unfold St.Trunc
  rw [hc, if_pos hd]
theorem errW_calls (S : St) (c : Int) (q : List Int) (f a : Int) (n : Nat) : ({ S with calls := c, keep := q } : St).errW f a n = S.errW f a n := rfl
theorem Write_up (hc : C.calls = 0) (hd : C.down = false) (f a : Int) (l : List UInt8) : C.Write f a l = (if C.errW f a l.length = 0 then C.write f.toNat a.toNat l else C, C.errW f a l.length) := by
  have hx : (if C.errW f a l.length = 0 then C.write f.toNat a.toNat l else C).calls = 0 ∧ (if C.errW f a l.length = 0 then C.write f.toNat a.toNat l else C).down = false := by
    obtain ⟨h1, h2, h3⟩ := write_now C f.toNat a.toNat l
    split
    · exact ⟨h3.trans hc, h2.trans hd⟩
    · exact ⟨hc, hd⟩
  rw [Write_at rfl (count_none hx.1), hx.2]
  rfl
theorem wrote_up (hc : C.calls = 0) (hd : C.down = false) (f a : Int) (l : List UInt8) : (C.Write f a l).1.calls = 0 ∧ (C.Write f a l).1.down = false := by
  rw [Write_up hc hd]
  obtain ⟨h1, h2, h3⟩ := write_now C f.toNat a.toNat l
  split
  · exact ⟨h3.trans hc, h2.trans hd⟩
  · exact ⟨hc, hd⟩
theorem wrote_calls (c : Int) (q : List Int) (f a : Int) (l : List UInt8) : (if ({ C with calls := c, keep := q } : St).errW f a l.length = 0 then ({ C with calls := c, keep := q } : St).write f.toNat a.toNat l else ({ C with calls := c, keep := q } : St)) =
    { (if C.errW f a l.length = 0 then C.write f.toNat a.toNat l else C) with calls := c, keep := q } := by
  rw [errW_calls]
  split
  · exact writeF_calls c q _ C _ _ _
  · rfl

/-! Ahead of the crash, with a further call left. -/
theorem Ahead.Write (h : Ahead D C (k + 1) ks) (hk : 0 < k) (f a : Int) (l : List UInt8) : Ahead (D.Write f a l).1 (C.Write f a l).1 k ks ∧ (D.Write f a l).2 = (C.Write f a l).2 := by
  obtain ⟨rfl, hc, hd⟩ := h
  have hw := wrote_up hc hd f a l
  have e := Write_up hc hd f a l
  rw [e] at hw ⊢
  rw [Write_at (wrote_calls _ ks f a l) (count_more _ hw.2 ks hk)]
  refine ⟨⟨rfl, hw.1, hw.2⟩, ?_⟩
  show (if St.down _ = true then (9 : Int) else C.errW f a l.length) = _
  rw [if_neg (by rw [hw.2]; simp)]
theorem Ahead.Sync (h : Ahead D C (k + 1) ks) (hk : 0 < k) (f : Int) : Ahead (D.Sync f).1 (C.Sync f).1 k ks ∧ (D.Sync f).2 = (C.Sync f).2 := by
  obtain ⟨rfl, hc, hd⟩ := h
  rw [Sync_at (count_more C hd ks hk) hd f, Sync_at (count_none hc) hd f]
  by_cases hf : (!isF f) = true
  · rw [if_pos hf, if_pos hf]
    exact ⟨⟨rfl, hc, hd⟩, rfl⟩
  · rw [if_neg hf, if_neg hf]
    by_cases hl : 0 < C.lost
    · rw [if_pos hl, if_pos hl]
      exact ⟨⟨rfl, hc, hd⟩, rfl⟩
    · rw [if_neg hl, if_neg hl]
      exact ⟨⟨rfl, hc, hd⟩, rfl⟩
theorem Ahead.Trunc (h : Ahead D C (k + 1) ks) (hk : 0 < k) (f n : Int) : Ahead (D.Trunc f n).1 (C.Trunc f n).1 k ks ∧ (D.Trunc f n).2 = (C.Trunc f n).2 := by
  obtain ⟨rfl, hc, hd⟩ := h
  rw [Trunc_at (count_more C hd ks hk) hd f n, Trunc_at (count_none hc) hd f n]
  by_cases hf : (!isF f || decide (n < 0) || decide ((C.now.size f.toNat : Int) < n)) = true
  · rw [if_pos hf, if_pos hf]
    exact ⟨⟨rfl, hc, hd⟩, rfl⟩
  · rw [if_neg hf, if_neg hf]
    exact ⟨⟨rfl, hc, hd⟩, rfl⟩
theorem Ahead.lose (h : Ahead D C k ks) (n : Int) : Ahead (D.lose n) (C.lose n) k ks := by
  obtain ⟨rfl, hc, hd⟩ := h
  exact ⟨rfl, hc, hd⟩

/-! The call in which it comes. -/
theorem Ahead.lastWrite (h : Ahead D C (0 + 1) ks) (f a : Int) (l : List UInt8) : Behind (D.Write f a l).1 ((C.Write f a l).1.crash ks) ∧ (D.Write f a l).2 = 9 := by
  obtain ⟨rfl, hc, hd⟩ := h
  have hw := wrote_up hc hd f a l
  have e := Write_up hc hd f a l
  rw [e] at hw ⊢
  rw [Write_at (wrote_calls _ ks f a l) (count_last _ hw.2 ks)]
  generalize (if C.errW f a l.length = 0 then C.write f.toNat a.toNat l else C) = X at *
  have hx : X.crash ks = ⟨X.dead ks, X.dead ks, [], true, X.lost, 0, []⟩ := by
    unfold St.crash
    rw [if_neg (by rw [hw.2]; simp)]
  show Behind _ (X.crash ks) ∧ _
  rw [hx]
  exact ⟨⟨rfl, rfl, rfl⟩, rfl⟩
theorem crash_up' (hd : C.down = false) (ks : List Int) : C.crash ks = ⟨C.dead ks, C.dead ks, [], true, C.lost, 0, []⟩ := by
  unfold St.crash
  rw [if_neg (by rw [hd]; simp)]
theorem Ahead.lastSync (h : Ahead D C (0 + 1) ks) (f : Int) : Behind (D.Sync f).1 (C.crash ks) ∧ (D.Sync f).2 = 9 := by
  obtain ⟨rfl, hc, hd⟩ := h
  rw [Sync_dead (count_last C hd ks) rfl, crash_up' hd]
  exact ⟨⟨rfl, rfl, rfl⟩, rfl⟩
theorem Ahead.lastTrunc (h : Ahead D C (0 + 1) ks) (f n : Int) : Behind (D.Trunc f n).1 (C.crash ks) ∧ (D.Trunc f n).2 = 9 := by
  obtain ⟨rfl, hc, hd⟩ := h
  rw [Trunc_dead (count_last C hd ks) rfl, crash_up' hd]
  exact ⟨⟨rfl, rfl, rfl⟩, rfl⟩

/-! Behind it. -/
theorem Behind.Write (h : Behind D C) (f a : Int) (l : List UInt8) : D.Write f a l = (D, 9) := Write_down h.d f a l
theorem count_down (h : D.down = true) : D.count = D := by unfold St.count; rw [if_pos (by rw [h]; rfl)]
theorem Behind.Sync (h : Behind D C) (f : Int) : D.Sync f = (D, 9) := by
  unfold St.Sync
  rw [count_down h.d, if_pos h.d]
theorem Behind.Trunc (h : Behind D C) (f n : Int) : D.Trunc f n = (D, 9) := by
  unfold St.Trunc
  rw [count_down h.d, if_pos h.d]
theorem Behind.lose (h : Behind D C) (n : Int) : Behind (D.lose n) C := ⟨h.d, h.c, h.now⟩

/-! The same, of an act. -/
theorem Ahead.run (h : Ahead D C (k + 1) ks) (hk : 0 < k) {a : Act} (ha : a.kind < 4) : Ahead (a.run D).1 (a.run C).1 k ks ∧ (a.run D).2 = (a.run C).2 := by
  rcases kind_run a D with ⟨q, e⟩ | ⟨q, e⟩ | ⟨q, e⟩ | ⟨q, e⟩ | ⟨q, e⟩ | ⟨q, e⟩ | ⟨k2, k3, k4, k5, k6, k7, e⟩ <;>
    rcases kind_run a C with ⟨r, e'⟩ | ⟨r, e'⟩ | ⟨r, e'⟩ | ⟨r, e'⟩ | ⟨r, e'⟩ | ⟨r, e'⟩ | ⟨r2, r3, r4, r5, r6, r7, e'⟩ <;> first
    | omega
    | (rw [e, e']; exact h.Sync hk _)
    | (rw [e, e']; exact h.Trunc hk _ _)
    | (rw [e, e']; exact h.Write hk _ _ _)
theorem Ahead.run4 (h : Ahead D C k ks) {a : Act} (ha : a.kind = 4) : Ahead (a.run D).1 (a.run C).1 k ks ∧ (a.run D).2 = (a.run C).2 := by
  rcases kind_run a D with ⟨q, e⟩ | ⟨q, e⟩ | ⟨q, e⟩ | ⟨q, e⟩ | ⟨q, e⟩ | ⟨q, e⟩ | ⟨k2, k3, k4, k5, k6, k7, e⟩ <;>
    rcases kind_run a C with ⟨r, e'⟩ | ⟨r, e'⟩ | ⟨r, e'⟩ | ⟨r, e'⟩ | ⟨r, e'⟩ | ⟨r, e'⟩ | ⟨r2, r3, r4, r5, r6, r7, e'⟩ <;> first
    | omega
    | (rw [e, e']; exact ⟨h.lose _, rfl⟩)
/-- The call in which it comes, if it is a Write. -/
theorem Ahead.last2 (h : Ahead D C (0 + 1) ks) {a : Act} (ha : a.kind < 2) : Behind (a.run D).1 ((a.run C).1.crash ks) ∧ (a.run D).2 = 9 := by
  rcases kind_run a D with ⟨q, e⟩ | ⟨q, e⟩ | ⟨q, e⟩ | ⟨q, e⟩ | ⟨q, e⟩ | ⟨q, e⟩ | ⟨k2, k3, k4, k5, k6, k7, e⟩ <;>
    rcases kind_run a C with ⟨r, e'⟩ | ⟨r, e'⟩ | ⟨r, e'⟩ | ⟨r, e'⟩ | ⟨r, e'⟩ | ⟨r, e'⟩ | ⟨r2, r3, r4, r5, r6, r7, e'⟩ <;> first
    | omega
    | (rw [e, e']; exact h.lastWrite _ _ _)
/-- .. and if it is none. -/
theorem Ahead.last4 (h : Ahead D C (0 + 1) ks) {a : Act} (h2 : ¬ a.kind < 2) (ha : a.kind < 4) : Behind (a.run D).1 (C.crash ks) ∧ (a.run D).2 = 9 := by
  rcases kind_run a D with ⟨q, e⟩ | ⟨q, e⟩ | ⟨q, e⟩ | ⟨q, e⟩ | ⟨q, e⟩ | ⟨q, e⟩ | ⟨k2, k3, k4, k5, k6, k7, e⟩ <;> first
    | omega
    | (rw [e]; exact h.lastSync _)
    | (rw [e]; exact h.lastTrunc _ _)
theorem Behind.run (h : Behind D C) {a : Act} (ha : a.kind < 4) : a.run D = (D, 9) := by
  rcases kind_run a D with ⟨q, e⟩ | ⟨q, e⟩ | ⟨q, e⟩ | ⟨q, e⟩ | ⟨q, e⟩ | ⟨q, e⟩ | ⟨k2, k3, k4, k5, k6, k7, e⟩ <;> first
    | omega
    | (rw [e]; exact h.Sync _)
    | (rw [e]; exact h.Trunc _ _)
    | (rw [e]; exact h.Write _ _ _)
theorem Behind.run4 (h : Behind D C) {a : Act} (ha : a.kind = 4) : Behind (a.run D).1 C := by
  rcases kind_run a D with ⟨q, e⟩ | ⟨q, e⟩ | ⟨q, e⟩ | ⟨q, e⟩ | ⟨q, e⟩ | ⟨q, e⟩ | ⟨k2, k3, k4, k5, k6, k7, e⟩ <;> first
    | omega
    | (rw [e]; exact h.lose _)
end
end Dsk
end Go.Proofs.Ytgaclibokapfaaa

/- A network in memory; the calls of package net. -/
import Derived.Test.YtmhnifcohkamaaaNtC
namespace Go.Proofs.Ytmhnifcohkamaaa
open Go.RowKit Wire
open Txt (Row)
open Dsk (Only below_of_grown Grow.bare)
set_option linter.unusedVariables false
set_option linter.unusedSimpArgs false
namespace Ntw

abbrev ptr (p : Nat) : Value := .pointer (some ⟨p, 0, none⟩)
/-- A network at p (of the type ty), in the blocks F. -/
structure NetAt (ty : TypeId) (w : World) (p : Nat) (S : Nt) (F : Nat → Prop) : Prop where
  ok : S.ok
  body : ∃ v, Blk w p ty #[v, .int .i64 S.m] ∧ Grow w 0 3 v S.L.length (pks S.L) ∧ v.ownBlock ≠ some p ∧ ∀ b, F b ↔ b = p ∨ v.ownBlock = some b
section
variable {ty : TypeId} {w w' w1 w2 : World} {p : Nat} {S S' S'' : Nt} {F F' : Nat → Prop}
theorem NetAt.keep (h : NetAt ty w p S F) (hk : ∀ b, F b → w'.heap[b]? = w.heap[b]?) (hs : w.heap.size ≤ w'.heap.size) : NetAt ty w' p S F := by
  obtain ⟨ho, v, h1, h2, h3, h4⟩ := h
  exact ⟨ho, v, (hk p ((h4 p).2 (.inl rfl))).trans h1, h2.keep hs fun g hg => hk g ((h4 g).2 (.inr hg)), h3, h4⟩
theorem NetAt.lt (h : NetAt ty w p S F) : ∀ b, F b → b < w.heap.size := by
  obtain ⟨ho, v, h1, h2, h3, h4⟩ := h
  intro b hb
  rcases (h4 b).1 hb with rfl | h5
  · exact h1.inside
  · exact (h2.block b h5).2
theorem NetAt.below (h : NetAt ty w p S F) (b : Below w.heap.size w w') : NetAt ty w' p S F := h.keep (fun x hx => b.block x (h.lt x hx)) b.size
/-- What a call leaves. -/
def NPost (ty : TypeId) (p : Nat) (S' : Nt) (F : Nat → Prop) (w w' : World) : Prop :=
  ∃ F', NetAt ty w' p S' F' ∧ (∀ b, F' b → F b ∨ w.heap.size ≤ b ∧ b < w'.heap.size) ∧ Only F w w'
theorem NPost.below (h : NetAt ty w p S F) (b : Below w.heap.size w w') : NPost ty p S F w w' := ⟨F, h.below b, fun _ h => .inl h, Only.of_below b⟩
theorem NPost.after (b : Below w.heap.size w w1) (hF : ∀ x, F x → x < w.heap.size) (h : NPost ty p S' F w1 w2) : NPost ty p S' F w w2 := by
  obtain ⟨F', h1, h2, h3⟩ := h
  have hs := b.size
  refine ⟨F', h1, fun x hx => ?_, (Only.of_below b).trans h3 fun x hx => .inl hx⟩
  rcases h2 x hx with h4 | h4
  · exact .inl h4
  · exact .inr (by omega)
theorem NPost.then (h : NPost ty p S' F w w1) (b : Below w1.heap.size w1 w2) : NPost ty p S' F w w2 := by
  obtain ⟨F', h1, h2, h3⟩ := h
  have hs := b.size
  refine ⟨F', h1.below b, fun x hx => ?_, h3.trans (Only.of_below (F := F) b) fun x hx => .inl hx⟩
  rcases h2 x hx with h4 | h4
  · exact .inl h4
  · exact .inr (by omega)
end
/-- A network. -/
def NetT (ty : TypeId) (p : Nat) (S : Nt) : Thing where
  at_ w F := NetAt ty w p S F
  keep h hk hs := h.keep hk hs

/-! The small calls. -/
theorem isEnd_any (a : Int) (w : World) : Calls Try.prog 31 #[.int .i64 a] w fun e w' => e = .returned (.bool (isEnd a)) ∧ w = w' := by
  by_cases h0 : 0 ≤ a
  · by_cases h1 : a < 16
    · have e : isEnd a = true := decide_eq_true (by omega)
      rw [e]
      go_enter Try.func31, Try.ntmps31
      go_wp2_with fail
      go_ret
      exact ⟨rfl, rfl⟩
    · have e : isEnd a = false := decide_eq_false (by omega)
      rw [e]
      go_enter Try.func31, Try.ntmps31
      go_wp2_with fail
      go_ret
      exact ⟨rfl, rfl⟩
  · have e : isEnd a = false := decide_eq_false (by omega)
    rw [e]
    go_enter Try.func31, Try.ntmps31
    go_wp2_with fail
    go_ret
    exact ⟨rfl, rfl⟩
theorem isEnd_lt {a : Int} (h : isEnd a = true) : 0 ≤ a ∧ a ≤ 15 := of_decide_eq_true h
theorem shr_side {m : Nat} {a : Int} (ha : isEnd a = true) : bits .and .i64 ((m : Int) / (2 ^ (min a.toNat 64))) 1 = (sideOf m a : Nat) := by
  have h := isEnd_lt ha
  rw [and1, Nat.min_eq_left (by omega)]
  unfold sideOf
  push_cast
  rfl
set_option maxHeartbeats 1000000 in
theorem nside_any {w : World} {p : Nat} {S : Nt} {F : Nat → Prop} (h : NetAt 56 w p S F) {a : Int} (ha : isEnd a = true) :
    Calls Try.prog 32 #[ptr p, .int .i64 a] w fun e w' => e = .returned (.int .i64 (sideOf S.m a : Nat)) ∧ w = w' := by
  obtain ⟨ho, v, h1, h2, h3, h4⟩ := h
  have c1 : w.cell? ⟨p, 1, none⟩ = some (.int .i64 S.m) := h1.at 1
  have hb := Lib.hid (shr_side (m := S.m) ha)
  have hr := isEnd_lt ha
  have h0 := hr.1
  clear h1 h2 h3 h4 ho hr
  generalize S.m = m at *
  go_enter Try.func32, Try.ntmps32
  go_wp2_with fail
  go_ret
  exact ⟨by rw [← hb.out]; rfl, rfl⟩
theorem side_eq (x y : Nat) : ((x : Int) == (y : Int)) = (x == y) := by
  rw [Bool.eq_iff_iff]
  simp only [beq_iff_eq]
  omega
set_option maxHeartbeats 1000000 in
theorem nHear_any {w : World} {p : Nat} {S : Nt} {F : Nat → Prop} (h : NetAt 56 w p S F) (a b : Int) :
    Calls Try.prog 15 #[ptr p, .int .i64 a, .int .i64 b] w fun e w' => e = .returned (.bool (S.hear a b)) ∧ w = w' := by
  have e1 := isEnd_any a
  have e2 := isEnd_any b
  unfold Nt.hear
  cases hA : isEnd a
  · rw [hA] at e1
    clear h e2
    go_enter Try.func15, Try.ntmps15
    go_wp2_with (go_at_call 31; refine (e1 _).mono ?_; rintro e w1 ⟨rfl, rfl⟩)
    go_ret
    exact ⟨rfl, rfl⟩
  · rw [hA] at e1
    cases hB : isEnd b
    · rw [hB] at e2
      clear h
      go_enter Try.func15, Try.ntmps15
      go_wp2_with (first | (go_at_call 31; with_reducible refine (e1 _).mono ?_; rintro e w1 ⟨rfl, rfl⟩) | (go_at_call 31; with_reducible refine (e2 _).mono ?_; rintro e w1 ⟨rfl, rfl⟩))
      go_ret
      exact ⟨rfl, rfl⟩
    · rw [hB] at e2
      have e3 := nside_any h hA
      have e4 := nside_any h hB
      have he := Lib.hid (side_eq (sideOf S.m a) (sideOf S.m b))
      clear h
      generalize sideOf S.m a = x at *
      generalize sideOf S.m b = y at *
      go_enter Try.func15, Try.ntmps15
      go_wp2_with (first
        | (go_at_call 31; with_reducible refine (e1 _).mono ?_; rintro e w1 ⟨rfl, rfl⟩)
        | (go_at_call 31; with_reducible refine (e2 _).mono ?_; rintro e w1 ⟨rfl, rfl⟩)
        | (go_at_call 32; with_reducible refine e3.mono ?_; rintro e w1 ⟨rfl, rfl⟩)
        | (go_at_call 32; with_reducible refine e4.mono ?_; rintro e w1 ⟨rfl, rfl⟩))
      go_ret
      exact ⟨by rw [← he.out]; rfl, rfl⟩
set_option maxHeartbeats 1000000 in
theorem nCount_any {w : World} {p : Nat} {S : Nt} {F : Nat → Prop} (h : NetAt 56 w p S F) :
    Calls Try.prog 14 #[ptr p] w fun e w' => e = .returned (.int .i64 S.L.length) ∧ w = w' := by
  obtain ⟨ho, v, h1, h2, h3, h4⟩ := h
  have c0 : w.cell? ⟨p, 0, none⟩ = some v := h1.at 0
  obtain ⟨A, c, rfl⟩ := h2.slice
  clear h1 h2 h3 h4 ho
  generalize S.L.length = n at *
  go_enter Try.func14, Try.ntmps14
  go_wp2_with fail
  go_ret
  exact ⟨rfl, rfl⟩
set_option maxHeartbeats 1000000 in
theorem nList_any {w : World} {p : Nat} {S : Nt} {F : Nat → Prop} (h : NetAt 56 w p S F) :
    Calls Try.prog 18 #[ptr p] w fun e w' => ∃ v', e = .returned v' ∧ Grow w' w.heap.size 3 v' S.L.length (pks S.L) ∧ Below w.heap.size w w' := by
  obtain ⟨ho, v, h1, h2, h3, h4⟩ := h
  have c0 : w.cell? ⟨p, 0, none⟩ = some v := h1.at 0
  have hl := ho.len
  obtain ⟨A, c, rfl, hr⟩ := Grow.row h2
  have HC := Lib.hid (clone_any A c S.L w (by omega) hr)
  clear h1 h2 h3 h4 ho hr hl
  generalize S.L.length = n at *
  go_enter Try.func18, Try.ntmps18
  go_wp2_with (go_at_call 34; refine HC.out.mono ?_; rintro e w1 ⟨v1, rfl, g1, b1⟩)
  go_ret
  exact ⟨_, rfl, g1, b1⟩
set_option maxHeartbeats 1000000 in
theorem nSplit_any {w : World} {p : Nat} {S : Nt} {F : Nat → Prop} (h : NetAt 56 w p S F) (mask : Int) :
    Calls Try.prog 22 #[ptr p, .int .i64 mask] w fun e w' => e = .returned (.tuple #[]) ∧ NPost 56 p (S.splitBy mask) F w w' := by
  obtain ⟨ho, v, h1, h2, h3, h4⟩ := h
  have ho2 := ho.splitBy mask
  have c1 : w.cell? ⟨p, 1, none⟩ = some (.int .i64 S.m) := h1.at 1
  have f1 : w.frozen? ⟨p, 1, none⟩ = false := h1.thaw 1
  have HP : Hid (NPost 56 p (S.splitBy mask) F w (w.setCell ⟨p, 1, none⟩ (.int .i64 (bits .and .i64 mask 65535)))) := Lib.hid ⟨F, ⟨ho2, v, by
      have e : (bits .and .i64 mask 65535) = ((S.splitBy mask).m : Nat) := by
        rw [and65535]
        show _ = (((mask % 65536).toNat : Nat) : Int)
        omega
      rw [e]
      exact h1.put 1 (.int .i64 ((S.splitBy mask).m : Nat)), h2.keep (by simp [World.setCell]) (fun g hg => Below.heap_setCell _ _ _ _ (fun e => h3 (by rw [hg]; exact congrArg some e))), h3, h4⟩, fun b hb => .inl hb, Only.set F w _ _ ((h4 p).2 (.inl rfl))⟩
  clear h1 h2 h3 h4 ho ho2
  generalize S.m = m at *
  go_enter Try.func22, Try.ntmps22
  go_wp2_with fail
  go_returns
  exact ⟨rfl, HP.out⟩
set_option maxHeartbeats 1000000 in
theorem nHeal_any {w : World} {p : Nat} {S : Nt} {F : Nat → Prop} (h : NetAt 56 w p S F) :
    Calls Try.prog 23 #[ptr p] w fun e w' => e = .returned (.tuple #[]) ∧ NPost 56 p (S.splitBy 0) F w w' := by
  have HS := Lib.hid (nSplit_any h 0)
  clear h
  go_enter Try.func23, Try.ntmps23
  go_wp2_with (go_at_call 22; refine HS.out.mono ?_; rintro e w1 ⟨rfl, h1⟩)
  go_returns
  exact ⟨rfl, h1⟩
end Ntw
end Go.Proofs.Ytmhnifcohkamaaa

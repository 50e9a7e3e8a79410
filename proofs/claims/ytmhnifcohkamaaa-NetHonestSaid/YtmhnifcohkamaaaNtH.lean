/- The reference's calls that leave the packets. -/
import Derived.Test.YtmhnifcohkamaaaNtF
namespace Go.Proofs.Ytmhnifcohkamaaa
open Go.RowKit Wire
open Txt (Row)
open Dsk (Only below_of_grown Grow.bare)
set_option linter.unusedVariables false
set_option linter.unusedSimpArgs false
namespace Ntw
theorem wpList_append_run {P : Program} {ops : Array Oper} {rest : List Oper} {o : Oper} {a : Act} {w w' : World} {Q : Exit → Act → World → Prop} (hgd : o.guard = none) (s x : Operand) (t tx : TypeId) {v y v' : Value}
    (ho : o.op = .call { callee := .builtin .append, args := #[s, x], argTypes := #[t, tx] }) (hs : a.eval s = v) (hx : a.eval x = y) (hr : (Builtin.append_ #[t, tx] o.type #[v, y]).run P w = .ok v' w') (h : wpList P ops Q rest (a.put o.dst v') w') : wpList P ops Q (o :: rest) a w :=
  wpList_plain hgd fun K hK => wp_append_run s x t tx ho hs hx hr (hK _ _ h)
/-- Packets behind packets. -/
theorem app_run {w : World} {B k m : Nat} {v x : Value} {X Y : List Pk} (hg : Grow w B 3 v k (pks X)) (hB : B ≤ w.heap.size) (hs : Src Try.prog 3 27 x m (pks Y) w) (hm : k + m ≤ 100000) :
    ∃ v' w', (Builtin.append_ #[27, 27] 27 #[v, x]).run Try.prog w = .ok v' w' ∧ Grow w' B 3 v' (k + m) (pks (X ++ Y)) ∧ w.grownBy w' v.ownBlock ∧ Below B w w' := by
  obtain ⟨i0, hi, hz0, hz1, hz2⟩ := info_parts info_pk
  obtain ⟨v', w', hr, hg', hgr, hv⟩ := run_append_src (P := Try.prog) w B 27 27 27 33 i0 _ 3 32 Try.underlying27 hi hz0 hz1 hz2 rfl (by omega) v k (pks X) hg x m (pks Y) hs (by unfold maxLen; omega) (by omega) hB
  rw [← pks_append] at hg'
  refine ⟨v', w', hr, hg', hgr, hgr.os, hgr.tape, hgr.output, hgr.size, fun y hy => hgr.block y (by omega) (fun e => ?_)⟩
  have := (hg.block y e.symm).1
  omega
theorem run_plus (i : Nat) (h : i < 1000) : IntKind.i64.wrap ((i : Int) + 1) = ((i + 1 : Nat) : Int) := by
  rw [wrap_low (by omega) (by omega)]
  omega
set_option maxHeartbeats 1000000 in
theorem qside_any {w : World} {p : Nat} {S : Nt} {F : Nat → Prop} (h : NetAt 29 w p S F) {a : Int} (ha : isEnd a = true) :
    Calls Try.prog 33 #[ptr p, .int .i64 a] w fun e w' => e = .returned (.int .i64 (sideOf S.m a : Nat)) ∧ w = w' := by
  obtain ⟨ho, v, h1, h2, h3, h4⟩ := h
  have c1 : w.cell? ⟨p, 1, none⟩ = some (.int .i64 S.m) := h1.at 1
  have hb := Lib.hid (shr_side (m := S.m) ha)
  have hr := isEnd_lt ha
  obtain ⟨k, rfl⟩ : ∃ k : Nat, a = k := ⟨a.toNat, by omega⟩
  have hk : IntKind.u64.wrap (k : Int) = k := by
    unfold IntKind.wrap
    have e : (k : Int) % (2 ^ IntKind.u64.bits : Int) = k := Int.emod_eq_of_lt (by omega) (by
      have : (2 ^ IntKind.u64.bits : Int) = 18446744073709551616 := by decide
      omega)
    simp only [e]
    rfl
  clear h1 h2 h3 h4 ho hr ha
  generalize S.m = m at *
  go_enter Try.func33, Try.ntmps33
  go_wp2_with fail
  go_ret
  exact ⟨by rw [← hb.out]; rfl, rfl⟩
set_option maxHeartbeats 1000000 in
theorem qHear_any {w : World} {p : Nat} {S : Nt} {F : Nat → Prop} (h : NetAt 29 w p S F) (a b : Int) :
    Calls Try.prog 16 #[ptr p, .int .i64 a, .int .i64 b] w fun e w' => e = .returned (.bool (S.hear a b)) ∧ w = w' := by
  have sA : isEnd a = true → 0 ≤ a ∧ a ≤ 15 := isEnd_lt
  have sA' : isEnd a = false → a < 0 ∨ (0 ≤ a ∧ 15 < a) := fun e => by have := of_decide_eq_false e; omega
  have sB : isEnd b = true → 0 ≤ b ∧ b ≤ 15 := isEnd_lt
  have sB' : isEnd b = false → b < 0 ∨ (0 ≤ b ∧ 15 < b) := fun e => by have := of_decide_eq_false e; omega
  unfold Nt.hear
  cases hA : isEnd a
  · have := sA' hA
    clear sA sA' sB sB' hA h
    rcases this with h0 | ⟨h0, h1⟩
    · go_enter Try.func16, Try.ntmps16
      go_wp2_with fail
      go_ret
      exact ⟨rfl, rfl⟩
    · go_enter Try.func16, Try.ntmps16
      go_wp2_with fail
      go_ret
      exact ⟨rfl, rfl⟩
  · obtain ⟨g0, g1⟩ := sA hA
    have g1' : ¬ (15 < a) := by omega
    cases hB : isEnd b
    · have := sB' hB
      clear sA sA' sB sB' hA hB h
      rcases this with h0 | ⟨h0, h1⟩
      · go_enter Try.func16, Try.ntmps16
        go_wp2_with fail
        go_ret
        exact ⟨rfl, rfl⟩
      · go_enter Try.func16, Try.ntmps16
        go_wp2_with fail
        go_ret
        exact ⟨rfl, rfl⟩
    · obtain ⟨k0, k1⟩ := sB hB
      have k1' : ¬ (15 < b) := by omega
      have e3 := qside_any h hA
      have e4 := qside_any h hB
      have he := Lib.hid (side_eq (sideOf S.m a) (sideOf S.m b))
      clear h sA sA' sB sB' hA hB
      generalize sideOf S.m a = x at *
      generalize sideOf S.m b = y at *
      go_enter Try.func16, Try.ntmps16
      go_wp2_with (first
        | (go_at_call 33; with_reducible refine e3.mono ?_; rintro e w1 ⟨rfl, rfl⟩)
        | (go_at_call 33; with_reducible refine e4.mono ?_; rintro e w1 ⟨rfl, rfl⟩))
      go_ret
      exact ⟨by rw [← he.out]; rfl, rfl⟩
set_option maxHeartbeats 1000000 in
theorem qSplit_any {w : World} {p : Nat} {S : Nt} {F : Nat → Prop} (h : NetAt 29 w p S F) (mask : Int) :
    Calls Try.prog 29 #[ptr p, .int .i64 mask] w fun e w' => e = .returned (.tuple #[]) ∧ NPost 29 p (S.splitBy mask) F w w' := by
  obtain ⟨ho, v, h1, h2, h3, h4⟩ := h
  have ho2 := ho.splitBy mask
  have c1 : w.cell? ⟨p, 1, none⟩ = some (.int .i64 S.m) := h1.at 1
  have f1 : w.frozen? ⟨p, 1, none⟩ = false := h1.thaw 1
  have HP : Hid (NPost 29 p (S.splitBy mask) F w (w.setCell ⟨p, 1, none⟩ (.int .i64 (bits .and .i64 mask 65535)))) := Lib.hid ⟨F, ⟨ho2, v, by
      have e : (bits .and .i64 mask 65535) = ((S.splitBy mask).m : Nat) := by
        rw [and65535]
        show _ = (((mask % 65536).toNat : Nat) : Int)
        omega
      rw [e]
      exact h1.put 1 (.int .i64 ((S.splitBy mask).m : Nat)), h2.keep (by simp [World.setCell]) (fun g hg => Below.heap_setCell _ _ _ _ (fun e => h3 (by rw [hg]; exact congrArg some e))), h3, h4⟩, fun b hb => .inl hb, Only.set F w _ _ ((h4 p).2 (.inl rfl))⟩
  clear h1 h2 h3 h4 ho ho2
  generalize S.m = m at *
  go_enter Try.func29, Try.ntmps29
  go_wp2_with fail
  go_returns
  exact ⟨rfl, HP.out⟩
end Ntw
end Go.Proofs.Ytmhnifcohkamaaa

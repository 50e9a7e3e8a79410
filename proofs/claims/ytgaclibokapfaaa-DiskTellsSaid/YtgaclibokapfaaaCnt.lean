/- Counted calls. -/
import Derived.Test.YtgaclibokapfaaaCrs
namespace Go.Proofs.Ytgaclibokapfaaa
open Go.RowKit Wire
set_option linter.unusedVariables false
set_option linter.unusedSimpArgs false
open Txt
namespace Dsk

theorem St.ok.calls0 {S : St} (h : S.ok) {c : Int} (hc : 0 ≤ c ∧ c ≤ 9223372036854775807) : ({ S with calls := c } : St).ok := ⟨h.now, h.last, h.inq, h.nodup, h.same, h.tail, h.lost, hc, h.keep⟩

theorem kv_ints {w : World} {D : Own} {S : St} (h : DiskAt w D S) : Ints w D.kv S.keep ∧ Clear D.kv (fun b => b = D.p ∨ b = D.m2) :=
  ⟨Ints.of_grow h.kept, fun b o n c hb _ hF => by
    have : D.kv.ownBlock = some b := by
      have hk := h.kept.form
      rcases hk with ⟨e, _⟩ | ⟨g, cap, e, _⟩
      · rw [e] at hb; cases hb
      · rw [e] at hb
        injection hb with hb _ _
        injection hb with hb
        injection hb with hb _ _
        rw [e, ← hb]
        rfl
    have := h.sep.k b this
    rcases hF with e | e
    · exact this.1 e
    · exact this.2.2.1 e⟩

set_option maxHeartbeats 1000000 in
theorem count_any (w : World) (D : Own) (S : St) (h : DiskAt w D S) (hk : S.ok) :
    Calls Try.prog 46 #[.pointer (some ⟨D.p, 0, none⟩)] w fun e w' => e = .returned (.tuple #[]) ∧ Post D S.count w w' := by
  have hdn := h.down
  have hcl := h.calls
  have hcb := hk.calls
  cases hd : S.down with
  | true =>
    have e : S.count = S := by unfold St.count; rw [hd]; rfl
    rw [e]
    rw [hd] at hdn
    have HP := Lib.hid (Post.refl h)
    clear h hd e
    go_enter Try.func46, Try.ntmps46
    go_wp2_with fail
    go_returns
    exact ⟨rfl, HP.out⟩
  | false =>
    rw [hd] at hdn
    by_cases h0 : S.calls = 0
    · have e : S.count = S := by unfold St.count; rw [hd, h0]; rfl
      rw [e]
      have HP := Lib.hid (Post.refl h)
      rw [h0] at hcl
      clear h hd e h0 hcb
      go_enter Try.func46, Try.ntmps46
      go_wp2_with fail
      go_returns
      exact ⟨rfl, HP.out⟩
    · have hf := h.free (j := 38) (by omega)
      have hi := h.isSome (j := 38) (by omega)
      have hw1 : IntKind.i64.wrap (S.calls - 1) = S.calls - 1 := IntWalk.i64_in _ (by omega)
      by_cases h1 : S.calls = 1
      · have e : S.count = St.crash { S with calls := 0 } S.keep := by unfold St.count; rw [hd, h1]; rfl
        rw [e]
        have h2 := h.set_calls 0
        obtain ⟨k1, k2⟩ := kv_ints h2
        have HC := Lib.hid (crash_any _ D { S with calls := 0 } D.kv S.keep h2 (hk.calls0 ⟨by omega, by omega⟩) k1 k2 hk.keep)
        rw [h1] at hcl
        have hkp : (w.setCell ⟨D.p, 38, none⟩ (.int .i64 0)).cell? ⟨D.p, 39, none⟩ = some D.kv := h2.keep
        have hkp0 := h.keep
        have HO : Hid (Only D.has w (w.setCell ⟨D.p, 38, none⟩ (.int .i64 0))) := Lib.hid (Only.set _ _ _ _ (.inl rfl))
        clear h hd e h1 h0 h2 k1 k2 hcb hw1
        go_enter Try.func46, Try.ntmps46
        go_wp2_with ((go_at_call 25; refine HC.out.mono ?_; rintro e w2 ⟨rfl, hp⟩))
        go_returns
        exact ⟨rfl, Post.next HO.out rfl (fun b hb => .inl hb) hp⟩
      · have e : S.count = { S with calls := S.calls - 1 } := by
          unfold St.count
          rw [hd, if_neg (by simp [h0]), if_neg (by simp; omega)]
        rw [e]
        have HP : Hid (Post D { S with calls := S.calls - 1 } w (w.setCell ⟨D.p, 38, none⟩ (.int .i64 (S.calls - 1)))) := Lib.hid ⟨⟨D, h.set_calls _, rfl, fun _ h => .inl h⟩, Only.set _ _ _ _ (.inl rfl)⟩
        have hq1 : (S.calls == 0) = false := by simp [h0]
        have hq2 : (S.calls - 1 == 0) = false := beq_eq_false_iff_ne.2 (by omega)
        clear h hd e
        go_enter Try.func46, Try.ntmps46
        go_wp2_with fail
        go_returns
        exact ⟨rfl, HP.out⟩
end Dsk
end Go.Proofs.Ytgaclibokapfaaa

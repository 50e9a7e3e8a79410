/- The small calls of a disk. -/
import Derived.Test.YtgaclibokapfaaaDsk
namespace Go.Proofs.Ytgaclibokapfaaa
open Go.RowKit Wire
set_option linter.unusedVariables false
set_option linter.unusedSimpArgs false
open Txt
namespace Dsk

/-! The small calls. -/
section
variable {w : World} {D : Own} {S : St}

theorem down_any (h : DiskAt w D S) : Calls Try.prog 14 #[.pointer (some ⟨D.p, 0, none⟩)] w fun e w' => e = .returned (.bool S.down) ∧ w = w' := by
  have h1 := h.down
  clear h
  go_enter Try.func14, Try.ntmps14
  go_wp2_with fail
  go_ret
  exact ⟨rfl, rfl⟩

theorem start_any (h : DiskAt w D S) : Calls Try.prog 26 #[.pointer (some ⟨D.p, 0, none⟩)] w fun e w' => e = .returned (.tuple #[]) ∧ Post D S.start w w' := by
  have h1 := h.down
  have h2 := h.free (j := 36) (by omega)
  have HP : Hid (Post D S.start w (w.setCell ⟨D.p, 36, none⟩ (.bool false))) := Lib.hid ⟨⟨D, h.set_down false, rfl, fun _ h => .inl h⟩, Only.set _ _ _ _ (.inl rfl)⟩
  clear h
  go_enter Try.func26, Try.ntmps26
  go_wp2_with fail
  go_returns
  exact ⟨rfl, HP.out⟩

theorem lose_any (h : DiskAt w D S) (n : Int) : Calls Try.prog 33 #[.pointer (some ⟨D.p, 0, none⟩), .int .i64 n] w fun e w' => e = .returned (.tuple #[]) ∧ Post D (S.lose n) w w' := by
  have h1 := h.lost
  have h2 := h.free (j := 37) (by omega)
  have HP : Hid (∀ z, z = max n 0 → Post D (S.lose n) w (w.setCell ⟨D.p, 37, none⟩ (.int .i64 z))) := Lib.hid fun z hz => by subst hz; exact ⟨⟨D, h.set_lost _, rfl, fun _ h => .inl h⟩, Only.set _ _ _ _ (.inl rfl)⟩
  clear h
  by_cases hn : n < 0
  · go_enter Try.func33, Try.ntmps33
    go_wp2_with fail
    go_returns
    exact ⟨rfl, HP.out _ (by omega)⟩
  · go_enter Try.func33, Try.ntmps33
    go_wp2_with fail
    all_goals
      go_returns
      exact ⟨rfl, HP.out _ (by omega)⟩

theorem size_set (w : World) (a : Addr) (v : Value) : (w.setCell a v).heap.size = w.heap.size := by simp [World.setCell]
theorem Ints.keep {w w' : World} {v : Value} {ks : List Int} (h : Ints w v ks) (e : ∀ b, (∃ x, w.cell? ⟨b, x, none⟩ ≠ none ∧ 0 < ks.length ∧ ∃ o A c, v = .slice A ks.length c ∧ A = some ⟨b, o, none⟩) → w'.heap[b]? = w.heap[b]?) : Ints w' v ks := by
  obtain ⟨A, c, rfl, hr⟩ := h
  refine ⟨A, c, rfl, fun k x hx => ?_⟩
  obtain ⟨b, o, ha, hc⟩ := hr k x hx
  exact ⟨b, o, ha, (World.cell?_of_block (a := ⟨b, o + k, none⟩) (e b ⟨o + k, by rw [hc]; simp, (by have := (List.getElem?_eq_some_iff.1 hx).1; omega), o, A, c, rfl, ha⟩)).trans hc⟩
/-- The numbers lie in none of these blocks. -/
def Clear (v : Value) (F : Nat → Prop) : Prop := ∀ b o n c, v = .slice (some ⟨b, o, none⟩) n c → 0 < n → ¬ F b
theorem Ints.only {w w' : World} {F : Nat → Prop} {v : Value} {ks : List Int} (h : Ints w v ks) (hc : Clear v F) (o : Only F w w') : Ints w' v ks :=
  h.keep fun b ⟨x, h1, hp, o', A, c, hv, ha⟩ => o.block b (by
    cases hx : w.cell? ⟨b, x, none⟩ with
    | none => exact absurd hx h1
    | some u => exact World.block_lt_of_cell? w _ hx) (hc b o' ks.length c (by rw [hv, ha]) hp)
theorem Clear.nil (F : Nat → Prop) : Clear (.slice none 0 0) F := fun b o n c h _ => by cases h

set_option maxHeartbeats 1000000 in
theorem arm_any (h : DiskAt w D S) (n : Int) (v : Value) (ks : List Int) (hv : Ints w v ks) (hc : Clear v D.has) (hk : ks.length ≤ 1000000000) :
    Calls Try.prog 27 #[.pointer (some ⟨D.p, 0, none⟩), .int .i64 n, v] w fun e w' => e = .returned (.tuple #[]) ∧ Post D (S.arm n ks) w w' := by
  have h1 := h.calls
  have h2 := h.free (j := 38) (by omega)
  have h3 := h.keep
  have hlt := h.lt
  have h4 := h.free (j := 39) (by omega)
  have HD := Lib.hid (fun z => h.set_calls z)
  have HV := Lib.hid (fun z => hv.only hc (Only.set D.has w ⟨D.p, 38, none⟩ (.int .i64 z) (.inl rfl)))
  have hdk := h.kept.slice
  obtain ⟨A0, c0, ek⟩ := hdk
  rw [ek] at h3
  have HIN := Lib.hid h.inside
  have key : ∀ z : Int, z = max n 0 → ∀ v' w2, Grow w2 w.heap.size 1 v' ks.length (ks.map (Value.int .i64)) → Below w.heap.size (w.setCell ⟨D.p, 38, none⟩ (.int .i64 z)) w2 → Post D (S.arm n ks) w (w2.setCell ⟨D.p, 39, none⟩ v') := by
    intro z hz v' w2 hg hb
    subst hz
    have hd2 := (h.set_calls (max n 0)).still hb.size (fun b hb2 => hb.block b (h.inside b hb2))
    have hne : ∀ b, v'.ownBlock = some b → ¬ D.has b := fun b e hh => by have := h.inside b hh; have := (hg.block b e).1; omega
    refine ⟨⟨{ D with kv := v' }, hd2.set_keep (hg.lower (Nat.zero_le _)) hne, rfl, fun b hb2 => ?_⟩, ((Only.set D.has w ⟨D.p, 38, none⟩ _ (.inl rfl)).trans (Only.of_below (F := D.has) (by simpa [World.setCell] using hb)) fun x hx => .inl hx).same (Only.set _ _ _ _ (.inl rfl))⟩
    rcases hb2 with e | e | e | e | e | e
    · exact .inl (.inl e)
    · exact .inl (.inr (.inl e))
    · exact .inl (.inr (.inr (.inl e)))
    · exact .inl (.inr (.inr (.inr (.inl e))))
    · exact .inl (.inr (.inr (.inr (.inr (.inl e)))))
    · exact .inr (hg.block b e).1
  have KEY := Lib.hid key
  clear h hv hc key ek
  by_cases hn : n < 0
  · go_enter Try.func27, Try.ntmps27
    go_wp2_with fail
    refine (cloneInts_any v ks hk _ (HV.out _)).mono ?_
    rintro e w2 ⟨v', rfl, hg, hb⟩
    obtain ⟨A9, c9, rfl⟩ := hg.slice
    rw [size_set] at hb hg
    have hc9 : w2.cell? ⟨D.p, 39, none⟩ = some (.slice A0 S.keep.length c0) := (hb.cell (p := ⟨D.p, 39, none⟩) hlt).trans ((set_cell_other (w := w) (by omega)).trans h3)
    have hf9 : w2.frozen? ⟨D.p, 39, none⟩ = false := (hb.frozen (p := ⟨D.p, 39, none⟩) hlt).trans ((World.frozen?_setCell _ _ _ _).trans h4)
    have HP := Lib.hid (KEY.out _ (by omega) _ w2 hg hb)
    clear hg hb
    go_wp2_with fail
    go_returns
    exact ⟨rfl, HP.out⟩
  · go_enter Try.func27, Try.ntmps27
    go_wp2_with fail
    all_goals
      refine (cloneInts_any v ks hk _ (HV.out _)).mono ?_
      rintro e w2 ⟨v', rfl, hg, hb⟩
      obtain ⟨A9, c9, rfl⟩ := hg.slice
      rw [size_set] at hb hg
      have hc9 : w2.cell? ⟨D.p, 39, none⟩ = some (.slice A0 S.keep.length c0) := (hb.cell (p := ⟨D.p, 39, none⟩) hlt).trans ((set_cell_other (w := w) (by omega)).trans h3)
      have hf9 : w2.frozen? ⟨D.p, 39, none⟩ = false := (hb.frozen (p := ⟨D.p, 39, none⟩) hlt).trans ((World.frozen?_setCell _ _ _ _).trans h4)
      have HP := Lib.hid (KEY.out _ (by omega) _ w2 hg hb)
      clear hg hb
      go_wp2_with fail
      go_returns
      exact ⟨rfl, HP.out⟩
end
end Dsk
end Go.Proofs.Ytgaclibokapfaaa

/- The reference's Write; Sync, Truncate; Arm; New and Read. -/
import Derived.Test.YtlokgmpdighfaaaDoorRefC
namespace Go.Proofs.YtlokgmpdighfaaaDoor
open Go.RowKit Wire
set_option linter.unusedVariables false
set_option linter.unusedSimpArgs false
open Txt
namespace Dsk

section
variable {w w1 w' : World} {R : ROwn} {nums : List Nat} {S T T2 : St} {fn : FuncId}
/-- A further call. -/
theorem RPost.bind {r : Ending} (args : Nat → Array Value) (hp : RPost R T w w1) (c : ∀ R1 n1, RefAt w1 R1 n1 T → Calls Tryd.prog fn (args R1.g) w1 fun e w' => e = r ∧ RPost R1 T2 w1 w') : Calls Tryd.prog fn (args R.g) w1 fun e w' => e = r ∧ RPost R T2 w w' := by
  obtain ⟨⟨R1, n1, h1, hg1, hk1, hh1⟩, ho1⟩ := hp
  have := c R1 n1 h1
  rw [hg1] at this
  exact this.mono fun e w' ⟨h2, h3⟩ => ⟨h2, h3.next ho1 hg1 hk1 hh1⟩
theorem RPost.ask {Q : Ending → World → Prop} (args : Nat → Array Value) (hp : RPost R T w w1) (c : ∀ R1 n1, RefAt w1 R1 n1 T → Calls Tryd.prog fn (args R1.g) w1 Q) : Calls Tryd.prog fn (args R.g) w1 Q := by
  obtain ⟨⟨R1, n1, h1, hg1, hk1, hh1⟩, ho1⟩ := hp
  have := c R1 n1 h1
  rwa [hg1] at this
theorem RPost.below {w2 : World} (hp : RPost R T w w1) (b : Below w1.heap.size w1 w2) : RPost R T w w2 := by
  obtain ⟨⟨R1, n1, h1, hg1, hk1, hh1⟩, ho1⟩ := hp
  exact ⟨⟨R1, n1, h1.below b, hg1, hk1, hh1⟩, ho1.same (Only.of_below b)⟩

set_option maxRecDepth 8000 in
set_option maxHeartbeats 1000000 in
theorem rWrite_any (h : RefAt w R nums S) (hk : S.ok) (f a : Int) (s : ByteArray) (hs : s.size ≤ 16777216) : Calls Tryd.prog 32 #[ptr R.g, .int .i64 f, .int .i64 a, .string s] w fun e w' => e = .returned (.int .i64 (S.Write f a (bl s)).2) ∧ RPost R (S.Write f a (bl s)).1 w w' := by
  have HC := Lib.hid (comes_any h hk f a s hs)
  rw [write_ref hk]
  have hT := hk.comes f a (bl s)
  clear h hk
  generalize S.comes f a (bl s) = T at *
  have HM := Lib.hid (fun w1 (hp : RPost R T w w1) => hp.ask (fun g => #[ptr g, .int .i64 f]) fun R1 n1 h1 => may_any h1 f)
  have HF := Lib.hid (fits_any a s hs)
  unfold wroteV
  rw [bl_len]
  by_cases hm : mayV T f ≠ 0
  · rw [if_pos hm]
    have hm2 : (mayV T f == 0) = false := beq_eq_false_iff_ne.2 hm
    generalize mayV T f = m at *
    go_enter Tryd.func32, Tryd.ntmps32
    go_wp2_with (first
      | (go_at_call 54; refine HC.out.mono ?_; rintro e w2 ⟨rfl, hp2⟩; have HP2 := Lib.hid hp2; clear hp2)
      | (go_at_call 49; refine (HM.out _ HP2.out).mono ?_; rintro e w3 ⟨rfl, rfl⟩))
    go_returns
    exact ⟨rfl, HP2.out⟩
  · rw [if_neg hm]
    have hm0 : mayV T f = 0 := by simpa using hm
    have hf : isF f = true ∧ T.down = false := by
      unfold mayV at hm0
      cases hd : T.down
      · cases hq : isF f
        · rw [hd, hq] at hm0
          simp at hm0
        · exact ⟨rfl, rfl⟩
      · rw [hd] at hm0
        simp at hm0
    rw [hm0] at HM
    clear hm hm0
    by_cases ha : a < 0
    · rw [if_pos ha]
      go_enter Tryd.func32, Tryd.ntmps32
      go_wp2_with (first
        | (go_at_call 54; refine HC.out.mono ?_; rintro e w2 ⟨rfl, hp2⟩; have HP2 := Lib.hid hp2; clear hp2)
        | (go_at_call 49; refine (HM.out _ HP2.out).mono ?_; rintro e w3 ⟨rfl, rfl⟩))
      go_returns
      exact ⟨rfl, HP2.out⟩
    · rw [if_neg ha]
      cases hv : fitsV a s.size with
      | false =>
        rw [hv] at HF
        rw [if_pos rfl]
        clear hv
        go_enter Tryd.func32, Tryd.ntmps32
        go_wp2_with (first
          | (go_at_call 54; refine HC.out.mono ?_; rintro e w2 ⟨rfl, hp2⟩; have HP2 := Lib.hid hp2; clear hp2)
          | (go_at_call 49; refine (HM.out _ HP2.out).mono ?_; rintro e w3 ⟨rfl, rfl⟩)
          | (go_at_call 55; refine (HF.out _).mono ?_; rintro e w4 ⟨rfl, rfl⟩))
        go_returns
        exact ⟨rfl, HP2.out⟩
      | true =>
        rw [hv] at HF
        rw [if_neg (by simp)]
        have h3 : 0 ≤ a ∧ a + s.size ≤ 16777216 := of_decide_eq_true hv
        have h2 := isF_nat hf.1
        have HA := Lib.hid (fun w1 (hp : RPost R T w w1) => hp.bind (fun g => #[ptr g, .int .i64 f.toNat, .int .i64 a.toNat, .string s]) fun R1 n1 h1 => radd_any h1 hT.now (by have := hT.qlen; omega) h2.2.2.1 a.toNat s (by omega))
        rw [h2.2.2.2, show ((a.toNat : Nat) : Int) = a by omega] at HA
        clear hv h3 h2
        go_enter Tryd.func32, Tryd.ntmps32
        go_wp2_with (first
          | (go_at_call 54; refine HC.out.mono ?_; rintro e w2 ⟨rfl, hp2⟩; have HP2 := Lib.hid hp2; clear hp2)
          | (go_at_call 49; refine (HM.out _ HP2.out).mono ?_; rintro e w3 ⟨rfl, rfl⟩)
          | (go_at_call 55; refine (HF.out _).mono ?_; rintro e w4 ⟨rfl, rfl⟩)
          | (go_at_call 56; refine (HA.out _ HP2.out).mono ?_; rintro e w5 ⟨rfl, hp5⟩; have HP5 := Lib.hid hp5; clear hp5))
        go_returns
        exact ⟨rfl, HP5.out⟩
end
end Dsk
end Go.Proofs.YtlokgmpdighfaaaDoor

/-! The reference's Sync, Truncate and Read. -/
namespace Go.Proofs.YtlokgmpdighfaaaDoor
open Go.RowKit Wire
set_option linter.unusedVariables false
set_option linter.unusedSimpArgs false
open Txt
namespace Dsk

section
variable {w w1 w' : World} {R : ROwn} {nums : List Nat} {S T T2 : St} {fn : FuncId}
theorem mayV_zero {T : St} {f : Int} (h : ¬ mayV T f ≠ 0) : mayV T f = 0 ∧ isF f = true ∧ T.down = false := by
  have hm0 : mayV T f = 0 := by simpa using h
  refine ⟨hm0, ?_⟩
  unfold mayV at hm0
  cases hd : T.down
  · cases hq : isF f
    · rw [hd, hq] at hm0
      simp at hm0
    · exact ⟨rfl, rfl⟩
  · rw [hd] at hm0
    simp at hm0
theorem gN_at {f : Int} (hf : isF f = true) (C : Con) : gN C f = C.all f.toNat := by
  unfold gN
  rw [if_pos hf]
theorem post_lost (hp : RPost R T w w1) : w1.cell? ⟨R.g, 2, none⟩ = some (.int .i64 T.lost) ∧ w1.frozen? ⟨R.g, 2, none⟩ = false ∧ RPost R { T with lost := T.lost - 1 } w (w1.setCell ⟨R.g, 2, none⟩ (.int .i64 (T.lost - 1))) := by
  obtain ⟨⟨R1, n1, h1, hg1, hk1, hh1⟩, ho1⟩ := hp
  have a := h1.lost
  have b := h1.free (j := 2) (by omega)
  have c := h1.put_lost (T.lost - 1)
  rw [hg1] at a b c
  exact ⟨a, b, ⟨R1, n1, c, hg1, hk1, hh1⟩, ho1.same (Only.set _ _ _ _ (.inl rfl))⟩

set_option maxRecDepth 8000 in
set_option maxHeartbeats 1000000 in
theorem rSync_any (h : RefAt w R nums S) (hk : S.ok) (f : Int) : Calls Tryd.prog 41 #[ptr R.g, .int .i64 f] w fun e w' => e = .returned (.int .i64 (S.Sync f).2) ∧ RPost R (S.Sync f).1 w w' := by
  have HC := Lib.hid (comes_any h hk 0 0 ⟨#[]⟩ (by decide))
  rw [sync_ref hk]
  have hT := hk.comes 0 0 []
  clear h hk
  have hb : bl ⟨#[]⟩ = [] := rfl
  rw [hb] at HC
  clear hb
  generalize S.comes 0 0 [] = T at *
  have HM := Lib.hid (fun w1 (hp : RPost R T w w1) => hp.ask (fun g => #[ptr g, .int .i64 f]) fun R1 n1 h1 => may_any h1 f)
  unfold syncedV
  by_cases hm : mayV T f ≠ 0
  · rw [if_pos hm]
    have hm2 : (mayV T f == 0) = false := beq_eq_false_iff_ne.2 hm
    generalize mayV T f = m at *
    go_enter Tryd.func41, Tryd.ntmps41
    go_wp2_with (first
      | (go_at_call 54; refine HC.out.mono ?_; rintro e w2 ⟨rfl, hp2⟩; have HP2 := Lib.hid hp2; clear hp2)
      | (go_at_call 49; refine (HM.out _ HP2.out).mono ?_; rintro e w3 ⟨rfl, rfl⟩))
    go_returns
    exact ⟨rfl, HP2.out⟩
  · rw [if_neg hm]
    obtain ⟨hm0, hf, hd⟩ := mayV_zero hm
    rw [hm0] at HM
    have HL := Lib.hid (fun w1 (hp : RPost R T w w1) => post_lost hp)
    have hlr := hT.lost
    by_cases hl : 0 < T.lost
    · rw [if_pos hl]
      clear hm hm0
      go_enter Tryd.func41, Tryd.ntmps41
      go_wp2_with (first
        | (go_at_call 54; refine HC.out.mono ?_; rintro e w2 ⟨rfl, hp2⟩; have HP2 := Lib.hid hp2; obtain ⟨hc2, hz2, hq2⟩ := HL.out _ hp2; have HQ2 := Lib.hid hq2; clear hp2 hq2)
        | (go_at_call 49; refine (HM.out _ HP2.out).mono ?_; rintro e w3 ⟨rfl, rfl⟩))
      go_returns
      exact ⟨rfl, HQ2.out⟩
    · rw [if_neg hl]
      have h2 := isF_nat hf
      have HG := Lib.hid (fun w1 (hp : RPost R T w w1) => hp.ask (fun g => #[ptr g, .int .i64 f]) fun R1 n1 h1 => get_any h1 f)
      have HS := Lib.hid (fun w1 (hp : RPost R T w w1) => hp.bind (fun g => #[ptr g, .int .i64 f.toNat, .string ⟨(T.now.all f.toNat).toArray⟩]) fun R1 n1 h1 => rsettle_any h1 (by have := hT.qlen; omega) h2.2.2.1 (N := T.now) (L := (T.settle f.toNat).last) (ButF.refl _ _) (settle_but hT _) (T.now.all f.toNat) rfl (settle_all hT _))
      rw [h2.2.2.2] at HS
      rw [gN_at hf, gN_at hf] at HG
      unfold fileI str at HG
      generalize T.now.all f.toNat = x at *
      generalize T.last.all f.toNat = y at *
      have hfd := file_field1 (.int .i64 f) (.string ⟨x.toArray⟩) (.string ⟨y.toArray⟩)
      clear hm hm0 h2
      go_enter Tryd.func41, Tryd.ntmps41
      go_wp2_with (first
        | (go_at_call 54; refine HC.out.mono ?_; rintro e w2 ⟨rfl, hp2⟩; have HP2 := Lib.hid hp2; obtain ⟨hc2, hz2, hq2⟩ := HL.out _ hp2; clear hp2 hq2)
        | (go_at_call 49; refine (HM.out _ HP2.out).mono ?_; rintro e w3 ⟨rfl, rfl⟩)
        | (go_at_call 50; refine (HG.out _ HP2.out).mono ?_; rintro e w4 ⟨rfl, b4⟩; have HP4 := Lib.hid (HP2.out.below b4); clear b4)
        | (go_at_call 60; refine (HS.out _ HP4.out).mono ?_; rintro e w5 ⟨rfl, hp5⟩; have HP5 := Lib.hid hp5; clear hp5))
      go_returns
      exact ⟨rfl, HP5.out⟩

end
end Dsk
end Go.Proofs.YtlokgmpdighfaaaDoor

/-! The reference's Arm, New and Read. -/
namespace Go.Proofs.YtlokgmpdighfaaaDoor
open Go.RowKit Wire
set_option linter.unusedVariables false
set_option linter.unusedSimpArgs false
open Txt
namespace Dsk

theorem Ints.src_any {w : World} {v : Value} {ks : List Int} (h : Ints w v ks) : Src Tryd.prog 1 36 v ks.length (ks.map (Value.int .i64)) w := by
  obtain ⟨A, c, rfl, hr⟩ := h
  cases A with
  | none =>
    have hn : ks = [] := by
      cases ks with
      | nil => rfl
      | cons x r =>
        obtain ⟨b, o, e, _⟩ := hr 0 x rfl
        cases e
    subst hn
    exact Src.ofNil w Tryd.underlying36 c
  | some a => exact Ints.src hr rfl
theorem Ints.below {w w' : World} {v : Value} {ks : List Int} {B : Nat} (h : Ints w v ks) (b : Below w.heap.size w w') : Ints w' v ks := by
  obtain ⟨A, c, rfl, hr⟩ := h
  refine ⟨A, c, rfl, fun k x hx => ?_⟩
  obtain ⟨bb, o, e, hc⟩ := hr k x hx
  exact ⟨bb, o, e, (b.cell (p := ⟨bb, o + k, none⟩) (World.block_lt_of_cell? w _ hc)).trans hc⟩

theorem bare_set (w : World) (p : Addr) (v : Value) (t : TypeId) : Grow ((w.setCell p v).alloc (.cells #[] t)) w.heap.size 1 (.slice (some ⟨w.heap.size, 0, none⟩) 0 0) 0 [] := by
  have h := Grow.bare (w.setCell p v) t 1
  rw [show (w.setCell p v).heap.size = w.heap.size from by simp [World.setCell]] at h
  exact h
section
variable {w w' : World} {R : ROwn} {nums : List Nat} {S : St}
theorem RefAt.armed (h : RefAt w R nums S) (z : Int) {w2 : World} {v : Value} {ks : List Int} (hl : ks.length ≤ 1000000000) (hb : Below w.heap.size (w.setCell ⟨R.g, 4, none⟩ (.int .i64 z)) w2) (hg : Grow w2 w.heap.size 1 v ks.length (ks.map (Value.int .i64))) :
    RDone R { S with calls := z, keep := ks } w (w2.setCell ⟨R.g, 5, none⟩ v) := by
  obtain ⟨k0, k1, k2, _⟩ := h.krow
  have h0 : RefAt w R nums { S with keep := k0 } := ⟨h.files, h.queue, h.lost, h.down, h.calls, h.keep, h.there, h.frow, h.qrow, ⟨k0, k1, k2, fun _ => rfl⟩, h.sep, h.nums_lt, h.nodup, h.rest⟩
  have h1 := h0.put_calls_armed z ⟨k0, k1, k2, rfl⟩
  have h2 := h1.still (w' := w2) hb.size fun b hbb => hb.block b (h.inside b hbb)
  have hne : ∀ b, v.ownBlock = some b → w.heap.size ≤ b := fun b e => (hg.block b e).1
  have h3 := h2.put_keep hl (hg.lower (Nat.zero_le _)) (fun b hb2 e => by have := hne b hb2; have := h.lt; omega) (fun b e1 e2 => by have := hne b e2; have := h.inside b (.inr (.inl e1)); omega) (fun b e1 e2 => by have := hne b e2; have := h.inside b (.inr (.inr (.inl e1))); omega)
  refine ⟨⟨_, nums, h3, rfl, fun b hb2 => ?_⟩, ((Only.set R.has w ⟨R.g, 4, none⟩ _ (.inl rfl)).trans (Only.of_below (F := R.has) (by simpa [World.setCell] using hb)) fun x hx => .inl hx).same (Only.set _ _ _ _ (.inl rfl))⟩
  rcases hb2 with e | e | e | e
  · exact .inl (.inl e)
  · exact .inl (.inr (.inl e))
  · exact .inl (.inr (.inr (.inl e)))
  · exact .inr (hne b e)

set_option maxRecDepth 8000 in
set_option maxHeartbeats 1000000 in
theorem rarm_any (h : RefAt w R nums S) (n : Int) (v : Value) (ks : List Int) (hv : Ints w v ks) (hc : Clear v R.has) (hk : ks.length ≤ 1000000000) :
    Calls Tryd.prog 19 #[ptr R.g, .int .i64 n, v] w fun e w' => e = .returned (.tuple #[]) ∧ RDone R (S.arm n ks) w w' := by
  have h1 := h.calls
  have h2 := h.free (j := 4) (by omega)
  have hlt := h.lt
  have h3 := h.keep
  have h4 := h.free (j := 5) (by omega)
  have HS := Lib.hid (fun z => ((hv.only hc (Only.set R.has w ⟨R.g, 4, none⟩ (.int .i64 z) (.inl rfl))).below (B := 0) ((Below.refl _ _).alloc (Nat.le_refl _) (.cells #[] 3))).src_any)
  have HA := Lib.hid (fun z (w2 : World) (v2 : Value) hb hg => h.armed z (w2 := w2) (v := v2) (ks := ks) hk hb hg)
  obtain ⟨i0, hi, hz0, hz1, hz2⟩ := info_parts info_int
  have HL := Lib.hid (small_max (n := ks.length) (by omega))
  have HB := Lib.hid (show ks.length * 8 ≤ 140737488355328 from by omega)
  have HM := Lib.hid (fun z (hz : z = max n 0) => (show ({ S with calls := z, keep := ks } : St) = S.arm n ks by rw [hz]; rfl))
  clear h hv hc
  have hsz : ∀ z : Int, (w.setCell ⟨R.g, 4, none⟩ (.int .i64 z)).heap.size = w.heap.size := fun z => by simp [World.setCell]
  have HZ := Lib.hid hsz
  have key : ∀ (z : Int) (v2 : Value) (w2 : World), z = max n 0 → Grow w2 w.heap.size 1 v2 (0 + ks.length) ([] ++ ks.map (Value.int .i64)) →
      ((w.setCell ⟨R.g, 4, none⟩ (.int .i64 z)).alloc (.cells #[] 3)).grownBy w2 (Value.slice (some ⟨w.heap.size, 0, none⟩) 0 0).ownBlock →
      RDone R (S.arm n ks) w (w2.setCell ⟨R.g, 5, none⟩ v2) ∧ w2.cell? ⟨R.g, 5, none⟩ = some R.kv ∧ w2.frozen? ⟨R.g, 5, none⟩ = false := by
    intro z v2 w2 hz g1 g2
    rw [Nat.zero_add, List.nil_append] at g1
    rw [← hsz z] at g2
    have hb : Below w.heap.size (w.setCell ⟨R.g, 4, none⟩ (.int .i64 z)) w2 := below_of_grown ((Below.refl _ _).alloc (by rw [hsz]; exact Nat.le_refl _) _) g2 (by rw [hsz]; exact Nat.le_refl _)
    refine ⟨by rw [← HM.out z hz]; exact HA.out z w2 v2 hb g1, (hb.cell (p := ⟨R.g, 5, none⟩) hlt).trans ((set_cell_other (w := w) (by omega)).trans h3), (hb.frozen (p := ⟨R.g, 5, none⟩) hlt).trans ((World.frozen?_setCell _ _ _ _).trans h4)⟩
  have KEY := Lib.hid key
  clear key hsz
  by_cases hn : n < 0
  · go_enter Tryd.func19, Tryd.ntmps19
    go_wp2_with (at_builtin; refine wpList_append_src _ rfl (.tmp 12) (.tmp 13) _ _ rfl w.heap.size 3 i0 _ 1 8 Tryd.underlying36 hi hz0 hz1 hz2 rfl (by omega) _ 0 [] rfl (bare_set _ _ _ _) _ ks.length _ rfl (HS.out _) (by rw [Nat.zero_add]; exact HL.out) (by rw [Nat.zero_add]; exact HB.out) (by simp) ?_; intro v1 w1 hown hg _; obtain ⟨hd1, hc1, hz1'⟩ := KEY.out _ v1 w1 (by omega) hown hg; obtain ⟨A1, c1, rfl⟩ := hown.slice; rw [Nat.zero_add] at hd1; have HD1 := Lib.hid hd1; clear hd1 hown hg)
    go_returns
    exact ⟨rfl, HD1.out⟩
  · go_enter Tryd.func19, Tryd.ntmps19
    go_wp2_with (at_builtin; refine wpList_append_src _ rfl (.tmp 12) (.tmp 13) _ _ rfl w.heap.size 3 i0 _ 1 8 Tryd.underlying36 hi hz0 hz1 hz2 rfl (by omega) _ 0 [] rfl (bare_set _ _ _ _) _ ks.length _ rfl (HS.out _) (by rw [Nat.zero_add]; exact HL.out) (by rw [Nat.zero_add]; exact HB.out) (by simp) ?_; intro v1 w1 hown hg _; obtain ⟨hd1, hc1, hz1'⟩ := KEY.out _ v1 w1 (by omega) hown hg; obtain ⟨A1, c1, rfl⟩ := hown.slice; rw [Nat.zero_add] at hd1; have HD1 := Lib.hid hd1; clear hd1 hown hg)
    all_goals
      go_returns
      exact ⟨rfl, HD1.out⟩
end
end Dsk
end Go.Proofs.YtlokgmpdighfaaaDoor

/-! The reference's New and Read. -/
namespace Go.Proofs.YtlokgmpdighfaaaDoor
open Go.RowKit Wire
set_option linter.unusedVariables false
set_option linter.unusedSimpArgs false
open Txt
namespace Dsk

/-- What New leaves. -/
structure RNew (w : World) (R : ROwn) (w' : World) : Prop where
  disk : RefAt w' R [] St.new
  new : ∀ b, R.has b → w.heap.size ≤ b
  below : Below w.heap.size w w'
theorem rnew_at (w : World) : RNew w ⟨w.heap.size, .slice none 0 0, .slice none 0 0, .slice none 0 0⟩ (w.alloc (.cells #[.slice none 0 0, .slice none 0 0, .int .i64 0, .bool false, .int .i64 0, .slice none 0 0] 72)) := by
  have hb := Blk.fresh w 72 #[.slice none 0 0, .slice none 0 0, .int .i64 0, .bool false, .int .i64 0, .slice none 0 0]
  refine ⟨⟨by rw [hb.at]; rfl, by rw [hb.at]; rfl, by rw [hb.at]; rfl, by rw [hb.at]; rfl, by rw [hb.at]; rfl, by rw [hb.at]; rfl, fun j hj => ?_, Grow.nil _ _ _, Grow.nil _ _ _, ⟨[], by simp, Grow.nil _ _ _, fun _ => rfl⟩,
    ⟨fun b h => (by cases h), fun b h => (by cases h), fun b h => (by cases h), fun b h => (by cases h), fun b h => (by cases h), fun b h => (by cases h)⟩, fun n h => (by cases h), List.nodup_nil, fun f _ => ⟨rfl, rfl⟩⟩, fun b hb2 => ?_, (Below.refl _ w).alloc (Nat.le_refl _) _⟩
  · rw [Nat.zero_add]
    refine ⟨?_, hb.thaw j⟩
    rw [hb.at, Array.getElem?_eq_getElem (by simpa using hj)]
    rfl
  · rcases hb2 with h | h | h | h
    · exact Nat.le_of_eq h.symm
    · cases h
    · cases h
    · cases h
theorem rnew_any (w : World) : Calls Tryd.prog 11 #[] w fun e w' => ∃ R, e = .returned (ptr R.g) ∧ RNew w R w' := by
  have HN := Lib.hid (rnew_at w)
  go_enter Tryd.func11, Tryd.ntmps11
  go_wp2_with fail
  go_returns
  exact ⟨_, rfl, HN.out⟩

section
variable {w w1 w' : World} {R : ROwn} {nums : List Nat} {S : St}
set_option maxRecDepth 8000 in
set_option maxHeartbeats 1000000 in
theorem rRead_any (h : RefAt w R nums S) (hk : S.ok) (f a n : Int) (hr : a ≤ 9223372036854775807 ∧ n ≤ 9223372036854775807) : Calls Tryd.prog 29 #[ptr R.g, .int .i64 f, .int .i64 a, .int .i64 n] w fun e w' => e = .returned (.tuple #[str (S.Read f a n).1, .int .i64 (S.Read f a n).2]) ∧ Below w.heap.size w w' := by
  rw [read_ref hk]
  have HM := Lib.hid (may_any h f)
  by_cases hm : mayV S f ≠ 0
  · rw [if_pos hm]
    have hm2 : (mayV S f == 0) = false := beq_eq_false_iff_ne.2 hm
    generalize mayV S f = m at *
    clear h
    go_enter Tryd.func29, Tryd.ntmps29
    go_wp2_with ((go_at_call 49; refine HM.out.mono ?_; rintro e w3 ⟨rfl, rfl⟩))
    go_returns
    exact ⟨rfl, Below.refl _ _⟩
  · rw [if_neg hm]
    obtain ⟨hm0, hf, hd⟩ := mayV_zero hm
    rw [hm0] at HM
    by_cases hb : a < 0 ∨ n < 0
    · rw [if_pos hb]
      have hb2 : a < 0 ∨ (0 ≤ a ∧ n < 0) := by omega
      clear h hb hm hm0
      rcases hb2 with hb | ⟨hb0, hb1⟩
      all_goals
        go_enter Tryd.func29, Tryd.ntmps29
        go_wp2_with ((go_at_call 49; refine HM.out.mono ?_; rintro e w3 ⟨rfl, rfl⟩))
        go_returns
        exact ⟨rfl, Below.refl _ _⟩
    · rw [if_neg hb]
      obtain ⟨k, rfl⟩ : ∃ k : Nat, a = k := ⟨a.toNat, by omega⟩
      obtain ⟨m, rfl⟩ : ∃ m : Nat, n = m := ⟨n.toNat, by omega⟩
      have hk0 : (0 : Int) ≤ (k : Int) := by omega
      have hm1 : (0 : Int) ≤ (m : Int) := by omega
      have HG := Lib.hid (get_any h f)
      have hlen := hk.now.all_len f.toNat
      have hroom := hk.now.room f.toNat
      rw [gN_at hf, gN_at hf] at HG
      unfold fileI str at HG
      rw [← hlen] at hroom
      simp only [← hlen, Int.toNat_natCast]
      clear hm hm0 hb hlen h hk
      generalize S.now.all f.toNat = x at *
      generalize S.last.all f.toNat = y at *
      have hfd := file_field1 (.int .i64 f) (.string ⟨x.toArray⟩) (.string ⟨y.toArray⟩)
      by_cases hge : (x.length : Int) ≤ (k : Int)
      · rw [if_pos hge]
        go_enter Tryd.func29, Tryd.ntmps29
        go_wp2_with (first
          | (go_at_call 49; refine HM.out.mono ?_; rintro e w3 ⟨rfl, rfl⟩)
          | (go_at_call 50; refine HG.out.mono ?_; rintro e w4 ⟨rfl, b4⟩; have B4 := Lib.hid b4; clear b4))
        go_returns
        exact ⟨rfl, B4.out⟩
      · rw [if_neg hge]
        by_cases hmin : (x.length : Int) - (k : Int) < (m : Int)
        · have HX := Lib.hid (show str ((x.take (k + min m (x.length - k))).drop k) = .string (ByteArray.extract ⟨x.toArray⟩ k ((k : Int) + ((x.length : Int) - (k : Int))).toNat) by rw [bytes_extract, show k + min m (x.length - k) = x.length by omega, show ((k : Int) + ((x.length : Int) - (k : Int))).toNat = x.length by omega])
          have HX2 := Lib.hid (show str ((x.take (k + min m (x.length - k))).drop k) = .string (ByteArray.extract ⟨x.toArray⟩ k (k + (x.length - k))) by rw [bytes_extract, show k + min m (x.length - k) = k + (x.length - k) by omega])
          go_enter Tryd.func29, Tryd.ntmps29
          go_wp2_with (first
            | (go_at_call 49; refine HM.out.mono ?_; rintro e w3 ⟨rfl, rfl⟩)
            | (go_at_call 50; refine HG.out.mono ?_; rintro e w4 ⟨rfl, b4⟩; have B4 := Lib.hid b4; clear b4))
          all_goals
            go_returns
            exact ⟨by first | (rw [HX.out]; rfl) | (rw [HX2.out]; rfl), B4.out⟩
        · have HX := Lib.hid (show str ((x.take (k + min m (x.length - k))).drop k) = .string (ByteArray.extract ⟨x.toArray⟩ k (k + m)) by rw [bytes_extract, show k + min m (x.length - k) = k + m by omega])
          have HX2 := Lib.hid (show str ((x.take (k + min m (x.length - k))).drop k) = .string (ByteArray.extract ⟨x.toArray⟩ k ((k : Int) + (m : Int)).toNat) by rw [bytes_extract, show k + min m (x.length - k) = k + m by omega, show ((k : Int) + (m : Int)).toNat = k + m by omega])
          go_enter Tryd.func29, Tryd.ntmps29
          go_wp2_with (first
            | (go_at_call 49; refine HM.out.mono ?_; rintro e w3 ⟨rfl, rfl⟩)
            | (go_at_call 50; refine HG.out.mono ?_; rintro e w4 ⟨rfl, b4⟩; have B4 := Lib.hid b4; clear b4))
          all_goals
            go_returns
            exact ⟨by first | (rw [HX.out]; rfl) | (rw [HX2.out]; rfl), B4.out⟩
end
end Dsk
end Go.Proofs.YtlokgmpdighfaaaDoor

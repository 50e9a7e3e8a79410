/- Copies of slices and maps. -/
import Derived.Test.YtgaclibokapfaaaSml
import Derived.Shelf.SlMaps.Clone
namespace Go.Proofs.Ytgaclibokapfaaa
open Go.RowKit Wire
set_option linter.unusedVariables false
set_option linter.unusedSimpArgs false
namespace Dsk

theorem info_int : (Try.prog.info? 3).map (fun i => (i.zero, i.size, i.bytes)) = some (some (.int .i64 0), 1, 8) := by kernel_rfl
theorem info_sector : (Try.prog.info? 76).map (fun i => (i.zero, i.size, i.bytes)) = some (some (.agg #[.int .i64 0, .int .i64 0]), 2, 16) := by kernel_rfl

/-- A sector's two cells. -/
def secL (p : Nat × Nat) : List Value := [.int .i64 p.1, .int .i64 p.2]
theorem secs_len (l : List (Nat × Nat)) : (l.flatMap secL).length = l.length * 2 := by
  induction l with
  | nil => rfl
  | cons p r ih => simp [secL] at ih ⊢; omega

theorem Grow.bare (w : World) (t : TypeId) (sz : Nat) : Grow (w.alloc (.cells #[] t)) w.heap.size sz (.slice (some ⟨w.heap.size, 0, none⟩) 0 0) 0 [] := by
  refine ⟨by simp, .inr ⟨w.heap.size, 0, rfl, Nat.le_refl _, by simp, Nat.le_refl _, Nat.zero_le _, fun j hj => ?_, fun j hj => ?_, fun j u hu => by simp at hu⟩⟩
  · omega
  · omega
theorem below_of_grown {w w1 w2 : World} {n cap : Nat} {B : Nat} (h : Below B w w1) (hg : w1.grownBy w2 (Value.slice (some ⟨w.heap.size, 0, none⟩) n cap).ownBlock) (hB : B ≤ w.heap.size) : Below B w w2 :=
  ⟨hg.os.trans h.os, hg.tape.trans h.tape, hg.output.trans h.output, Nat.le_trans h.size hg.size, fun k hk =>
    (hg.block k (Nat.lt_of_lt_of_le (Nat.lt_of_lt_of_le hk hB) h.size) (fun e => by
      have : k = w.heap.size := by simpa [Value.ownBlock] using e
      omega)).trans (h.block k hk)⟩

theorem Ints.of_grow {w : World} {B : Nat} {v : Value} {ks : List Int} (h : Grow w B 1 v ks.length (ks.map (Value.int .i64))) : Ints w v ks := by
  rcases h.form with ⟨rfl, h0⟩ | ⟨g, cap, rfl, _, _, _, _, _, _, h7⟩
  · have : ks = [] := List.eq_nil_of_length_eq_zero h0
    subst this
    exact ⟨none, 0, rfl, fun k x hx => by simp at hx⟩
  · exact ⟨_, _, rfl, fun k x hx => ⟨g, 0, rfl, by rw [Nat.zero_add]; exact h7 k _ (by rw [List.getElem?_map, hx]; rfl)⟩⟩

theorem one_ints (ks : List Int) : ∀ u ∈ ks.map (Value.int .i64), u.oneCell' = true := by
  intro u hu
  obtain ⟨_, _, rfl⟩ := List.mem_map.1 hu
  rfl

theorem Ints.src {w : World} {ks : List Int} {A : Option Addr} {c : Nat} (h : ∀ k x, ks[k]? = some x → ∃ b o, A = some ⟨b, o, none⟩ ∧ w.cell? ⟨b, o + k, none⟩ = some (.int .i64 x)) {a : Addr} (ha : A = some a) :
    Src Try.prog 1 31 (.slice A ks.length c) ks.length (ks.map (Value.int .i64)) w := by
  subst ha
  refine Src.ofSlice w Try.underlying31 a ks.length c _ (by simp) (fun j u hu => ?_) (one_ints ks)
  rw [List.getElem?_map] at hu
  obtain ⟨x, hx, rfl⟩ := Option.map_eq_some_iff.1 hu
  obtain ⟨b, o, e, hc⟩ := h j x hx
  injection e with e
  subst e
  rw [row_add']
  exact hc

set_option maxHeartbeats 1000000 in
theorem cloneInts_any (v : Value) (ks : List Int) (hk : ks.length ≤ 1000000000) (w : World) (h : Ints w v ks) :
    Calls Try.prog 45 #[v] w fun e w' => ∃ v', e = .returned v' ∧ Grow w' w.heap.size 1 v' ks.length (ks.map (Value.int .i64)) ∧ Below w.heap.size w w' := by
  obtain ⟨i0, hi, hz0, hz1, hz2⟩ := info_parts info_int
  obtain ⟨A, c, rfl, hr⟩ := h
  have HL := Lib.hid (small_max (n := ks.length) (by omega))
  have HB := Lib.hid (show ks.length * 8 ≤ 140737488355328 from by omega)
  have HR := Lib.hid hr
  clear hr hk
  cases A with
  | none =>
    have hn : ks = [] := by
      cases ks with
      | nil => rfl
      | cons x r =>
        obtain ⟨b, o, e, _⟩ := HR.out 0 x rfl
        cases e
    subst hn
    have hq : ∀ w, (binOp .eql 31 (.slice none 0 c) (.slice none 0 0)).run Try.prog w = .ok (.bool true) w := fun w => Lib.run_eql_slice_nil w 31 3 none 0 c 0 0 Try.underlying31
    clear HR HL HB
    simp only [List.length_nil]
    go_enter Try.func45, Try.ntmps45
    go_wp2_with fail
    go_ret
    exact ⟨_, rfl, Grow.nil _ _ _, Below.refl _ _⟩
  | some a =>
    have hq : ∀ w n, (binOp .eql 31 (.slice (some a) n c) (.slice none 0 0)).run Try.prog w = .ok (.bool false) w := fun w n => Lib.run_eql_slice_nil w 31 3 (some a) n c 0 0 Try.underlying31
    go_enter Try.func45, Try.ntmps45
    have hsrc : Src Try.prog 1 31 (.slice (some a) ks.length c) ks.length (ks.map (Value.int .i64)) (w.alloc (.cells #[] 3)) := (Ints.src (w := w.alloc (.cells #[] 3)) (fun k x hx => by
      obtain ⟨b, o, e, hc⟩ := HR.out k x hx
      exact ⟨b, o, e, ((Below.refl _ w).alloc (Nat.le_refl _) _).cell (p := ⟨b, o + k, none⟩) (World.block_lt_of_cell? w _ hc) |>.trans hc⟩) rfl)
    have HS := Lib.hid hsrc
    clear hsrc
    go_wp2_with (at_builtin; refine wpList_append_src _ rfl (.tmp 5) (.tmp 6) _ _ rfl w.heap.size 3 i0 _ 1 8 Try.underlying31 hi hz0 hz1 hz2 rfl (by omega) _ 0 [] rfl (Grow.bare w 3 1) _ ks.length _ rfl HS.out (by rw [Nat.zero_add]; exact HL.out) (by rw [Nat.zero_add]; exact HB.out) (by simp) ?_; intro v1 w1 hown hg _)
    go_ret
    simp only [Nat.zero_add, List.nil_append] at hown
    exact ⟨_, rfl, hown, below_of_grown ((Below.refl _ w).alloc (Nat.le_refl _) _) hg (Nat.le_refl _)⟩

theorem one_secs (l : List (Nat × Nat)) : ∀ u ∈ l.flatMap secL, u.oneCell' = true := by
  intro u hu
  obtain ⟨p, _, hu⟩ := List.mem_flatMap.1 hu
  simp [secL] at hu
  rcases hu with rfl | rfl <;> rfl

set_option maxHeartbeats 1000000 in
theorem cloneSecs_any (B : Nat) (v : Value) (l : List (Nat × Nat)) (hk : l.length ≤ 1000000000) (w : World) (h : Grow w B 2 v l.length (l.flatMap secL)) :
    Calls Try.prog 61 #[v] w fun e w' => ∃ v', e = .returned v' ∧ Grow w' w.heap.size 2 v' l.length (l.flatMap secL) ∧ Below w.heap.size w w' := by
  obtain ⟨i0, hi, hz0, hz1, hz2⟩ := info_parts info_sector
  have HL := Lib.hid (small_max (n := l.length) (by omega))
  have HB := Lib.hid (show l.length * 16 ≤ 140737488355328 from by omega)
  have hl := h.len
  rcases h.form with ⟨rfl, h0⟩ | ⟨g, cap, rfl, h1, h2, h3, h4, h5, h6, h7⟩
  · have : l = [] := List.eq_nil_of_length_eq_zero h0
    subst this
    have hq : ∀ w, (binOp .eql 57 (.slice none 0 0) (.slice none 0 0)).run Try.prog w = .ok (.bool true) w := fun w => Lib.run_eql_slice_nil w 57 76 none 0 0 0 0 Try.underlying57
    clear hk h HL HB hl h0
    go_enter Try.func61, Try.ntmps61
    go_wp2_with fail
    go_ret
    exact ⟨_, rfl, Grow.nil _ _ _, Below.refl _ _⟩
  · have hq : ∀ w n, (binOp .eql 57 (.slice (some ⟨g, 0, none⟩) n cap) (.slice none 0 0)).run Try.prog w = .ok (.bool false) w := fun w n => Lib.run_eql_slice_nil w 57 76 (some ⟨g, 0, none⟩) n cap 0 0 Try.underlying57
    have HS := Lib.hid (Src.ofSlice (P := Try.prog) (w.alloc (.cells #[] 76)) Try.underlying57 ⟨g, 0, none⟩ l.length cap _ hl (fun j u hu => by
      rw [row_add', Nat.zero_add]
      exact (((Below.refl _ w).alloc (Nat.le_refl _) _).cell (p := ⟨g, j, none⟩) h2).trans (h7 j u hu)) (one_secs l))
    clear hk h hl h1 h2 h3 h4 h5 h6 h7
    generalize HX : l.flatMap secL = xs at *
    clear HX
    go_enter Try.func61, Try.ntmps61
    go_wp2_with (at_builtin; refine wpList_append_src _ rfl (.tmp 5) (.tmp 6) _ _ rfl w.heap.size 76 i0 _ 2 16 Try.underlying57 hi hz0 hz1 hz2 rfl (by omega) _ 0 [] rfl (Grow.bare w 76 2) _ l.length _ rfl HS.out (by rw [Nat.zero_add]; exact HL.out) (by rw [Nat.zero_add]; exact HB.out) (by simp) ?_; intro v1 w1 hown hg _)
    go_ret
    simp only [Nat.zero_add, List.nil_append] at hown
    exact ⟨_, rfl, hown, below_of_grown ((Below.refl _ w).alloc (Nat.le_refl _) _) hg (Nat.le_refl _)⟩

theorem run_clone {t : TypeId} {m : Nat} {es : Array MapEntry} {clock : Nat} (w : World) (hb : w.heap[m]? = some (.map es clock)) :
    (callFunc 71 #[.iface t (.map (some m))]).run Try.prog w = .ok (.value (.iface t (.map (some w.heap.size)))) (w.alloc (.map es clock)) := by
  rw [run_callFunc_extern (fn := Try.f71) (by kernel_rfl) (by kernel_rfl) (by kernel_rfl) (by kernel_rfl) (e := Extern.MapsClone.clone) (by kernel_rfl), run_maps_clone_sl w t hb]
  rfl

theorem IsMap.copy {w : World} {look : Nat → Nat → Option Value} {es : Array MapEntry} {clock : Nat} (hs : MapKept.Stamped es clock) (hr : Rep es look) : IsMap (w.alloc (.map es clock)) w.heap.size look :=
  ⟨es, clock, (MapKept.heap_alloc w _).1, hs, hr⟩

set_option maxHeartbeats 2000000 in
theorem cloneC_any (m : Nat) (C : Con) (w : World) (h : MapC w m C) :
    Calls Try.prog 60 #[.map (some m)] w fun e w' => ∃ m', e = .returned (.map (some m')) ∧ MapC w' m' C ∧ Below w.heap.size w w' ∧ w.heap.size ≤ m' := by
  obtain ⟨look, ⟨es, clock, hb, hs, hr⟩, h2⟩ := h
  have hq := fun w => run_eql_map_nil_sl (P := Try.prog) w 52 _ _ (some m) Try.underlying52
  have hc := run_clone (t := 52) w hb
  have ht := fun w v => run_typeAssert_map_sl (P := Try.prog) w 52 20 _ _ v Try.underlying52
  have HM : Hid (MapC (w.alloc (.map es clock)) w.heap.size C) := Lib.hid ⟨look, IsMap.copy hs hr, h2⟩
  clear hb hs hr h2
  go_enter Try.func60, Try.ntmps60
  go_wp2_with fail
  go_ret
  exact ⟨_, rfl, HM.out, (Below.refl _ w).alloc (Nat.le_refl _) _, Nat.le_refl _⟩

set_option maxHeartbeats 2000000 in
theorem cloneH_any (m : Nat) (look : Nat → Nat → Option Value) (w : World) (h : IsMap w m look) :
    Calls Try.prog 62 #[.map (some m)] w fun e w' => ∃ m', e = .returned (.map (some m')) ∧ IsMap w' m' look ∧ Below w.heap.size w w' ∧ w.heap.size ≤ m' := by
  obtain ⟨es, clock, hb, hs, hr⟩ := h
  have hq := fun w => run_eql_map_nil_sl (P := Try.prog) w 58 _ _ (some m) Try.underlying58
  have hc := run_clone (t := 58) w hb
  have ht := fun w v => run_typeAssert_map_sl (P := Try.prog) w 58 20 _ _ v Try.underlying58
  have HM : Hid (IsMap (w.alloc (.map es clock)) w.heap.size look) := Lib.hid (IsMap.copy hs hr)
  clear hb hs hr
  go_enter Try.func62, Try.ntmps62
  go_wp2_with fail
  go_ret
  exact ⟨_, rfl, HM.out, (Below.refl _ w).alloc (Nat.le_refl _) _, Nat.le_refl _⟩
end Dsk
end Go.Proofs.Ytgaclibokapfaaa

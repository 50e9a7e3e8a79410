/- Sectors struck from a map of sectors. -/
import Derived.Test.YtgaclibokapfaaaTak
import Derived.Maps.RangeRun
import Derived.Maps.RangeWalk
namespace Go.Proofs.Ytgaclibokapfaaa
open Go.RowKit Wire
set_option linter.unusedVariables false
set_option linter.unusedSimpArgs false
open Txt
namespace Dsk

/-- Is this sector behind that one, in the same file? -/
def past (f n g k : Nat) : Bool := decide (g = f ∧ n < k)

abbrev CutArgs (F L f n : Nat) (w : World) : Prop := w.cell? ⟨F, 0, none⟩ = some (.int .i64 f) ∧ w.cell? ⟨L, 0, none⟩ = some (.int .i64 f) ∧ w.cell? ⟨L, 1, none⟩ = some (.int .i64 n)

set_option maxHeartbeats 1000000 in
theorem cut1_any (F L f n g k : Nat) (arr : Array Value) (w : World) (h : CutArgs F L f n w) :
    Calls Try.prog 67 #[.agg #[.int .i64 g, .int .i64 k], .agg arr, .pointer (some ⟨F, 0, none⟩), .pointer (some ⟨L, 0, none⟩)] w fun e w' => e = .returned (.bool (past f n g k)) ∧ Below w.heap.size w w' := by
  obtain ⟨h1, h2, h3⟩ := h
  have hF := World.block_lt_of_cell? w _ h1
  have hL := World.block_lt_of_cell? w _ h2
  simp only at hF hL
  by_cases e : g = f
  · subst e
    by_cases e2 : n < k
    · have hp : past g n g k = true := by unfold past; simp [e2]
      rw [hp]
      have e3 : (n : Int) < (k : Int) := by omega
      go_enter Try.func67, Try.ntmps67
      go_wp2_with fail
      go_ret
      exact ⟨rfl, ((Below.refl _ w).alloc (Nat.le_refl _) _).alloc (by simp) _⟩
    · have hp : past g n g k = false := by unfold past; simp [e2]
      rw [hp]
      have e3 : ¬ (n : Int) < (k : Int) := by omega
      go_enter Try.func67, Try.ntmps67
      go_wp2_with fail
      go_ret
      exact ⟨rfl, ((Below.refl _ w).alloc (Nat.le_refl _) _).alloc (by simp) _⟩
  · have hp : past f n g k = false := by unfold past; simp [e]
    rw [hp]
    have e3 : ((g : Int) == (f : Int)) = false := beq_eq_false_iff_ne.2 fun h => e (by omega)
    clear e
    go_enter Try.func67, Try.ntmps67
    go_wp2_with fail
    go_ret
    exact ⟨rfl, ((Below.refl _ w).alloc (Nat.le_refl _) _).alloc (by simp) _⟩

/-- A range over block m, by the iterator in block r; cnt entries are to come; those that are done and still there are not past. -/
def Rng (w : World) (m r f n : Nat) (old : Nat → Nat → Option Value) (cnt : Nat) : Prop :=
  ∃ es clock since seen c0 look, w.heap[m]? = some (.map es clock) ∧ MapKept.Stamped es clock ∧ Rep es look ∧ w.heap[r]? = some (.mapIter (some m) since seen c0) ∧ (∀ x ∈ es.toList, x.born < since) ∧ since ≤ c0 ∧ since ≤ clock ∧
    (leftOf es seen).size ≤ cnt ∧ (∀ g k, look g k = old g k ∨ (look g k = none ∧ past f n g k = true)) ∧ ∀ x ∈ es.toList, seen.contains x.born = true → ∀ g k, x.key = keyV g k → past f n g k = false

section
variable {w w' : World} {m r f n cnt : Nat} {old look : Nat → Nat → Option Value}
theorem Rng.lt (h : Rng w m r f n old cnt) : m < w.heap.size ∧ r < w.heap.size := by
  obtain ⟨es, clock, since, seen, c0, look, hm, _, _, hr, _⟩ := h
  exact ⟨(Array.getElem?_eq_some_iff.1 hm).1, (Array.getElem?_eq_some_iff.1 hr).1⟩
theorem Rng.keep (h : Rng w m r f n old cnt) (e : w'.heap[m]? = w.heap[m]?) (e2 : w'.heap[r]? = w.heap[r]?) : Rng w' m r f n old cnt := by
  obtain ⟨es, clock, since, seen, c0, look, hm, h1, h2, hr, h3⟩ := h
  exact ⟨es, clock, since, seen, c0, look, e.trans hm, h1, h2, e2.trans hr, h3⟩

/-- 'range m'. -/
theorem IsMap.range (h : IsMap w m old) {t e : TypeId} (ht : Try.prog.underlying t = some (.map 76 e)) (f n : Nat) :
    ∃ cnt w', (Instr.range t (.map (some m))).run Try.prog w = .ok (.pointer (some ⟨w.heap.size, 0, none⟩)) w' ∧ Rng w' m w.heap.size f n old cnt ∧ Below w.heap.size w w' := by
  have hlt := h.lt
  obtain ⟨es, clock, hb, hs, hr⟩ := h
  have hb' : (w.alloc (.mapIter (some m) clock #[] clock)).heap[m]? = some (.map es clock) := (Go.heap_alloc_old w _ hlt).trans hb
  refine ⟨(leftOf es #[]).size, _, run_range_map w t _ e m es clock ht hb, ⟨es, clock, clock, #[], clock, old, hb', hs, hr, Go.heap_alloc_new w _, ((MapKept.stamped_iff es clock).1 hs).1, Nat.le_refl _, Nat.le_refl _, Nat.le_refl _, fun _ _ => .inl rfl, fun x _ h => by simp at h⟩, (Below.refl _ w).alloc (Nat.le_refl _) _⟩

/-- 'delete(m, k)', and what is there then. -/
theorem drop_who {es : Array MapEntry} {clock g k : Nat} (hb : w.heap[m]? = some (.map es clock)) (hs : MapKept.Stamped es clock) (hr : Rep es look) (hf : g < 16) (hn : k ≤ 262144) :
    ∃ es', (∀ t e ty, Try.prog.underlying t = some (.map 76 e) → (Builtin.delete_ #[t, 76] ty #[.map (some m), keyV g k]).run Try.prog w = .ok (.tuple #[]) (ChangeMaps.setBlock w m (.map es' clock))) ∧ MapKept.Stamped es' clock ∧ Rep es' (del look g k) ∧
      es'.toList.Sublist es.toList ∧ ∀ x ∈ es'.toList, x.key ≠ keyV g k := by
  obtain ⟨l, hl⟩ := key_of hf hn
  rcases hr.find hs w hf hn with ⟨h1, h2, h3⟩ | ⟨j, e0, h1, hj, hk, h2⟩
  · refine ⟨es, fun t e ty ht => ?_, hs, ⟨fun e he => ?_, fun g' k' u hu => ?_⟩, List.Sublist.refl _, h3⟩
    · simp [Builtin.delete_, run_underlying ht, MapKept.run_getObj_map hb, law.check w _ hl, h1, MapKept.run_setObj_map _ hb, Result.andThen, ChangeMaps.setBlock]
    · obtain ⟨g', k', hg, hk, e1, e2⟩ := hr.told e he
      refine ⟨g', k', hg, hk, e1, ?_⟩
      unfold del
      rw [if_neg, e2]
      rintro ⟨rfl, rfl⟩
      exact h3 e he e1
    · unfold del at hu
      split at hu
      · cases hu
      · exact hr.there g' k' u hu
  · have hjl : j < es.toList.length := (List.getElem?_eq_some_iff.1 hj).1
    have hlist : (es.eraseIdxIfInBounds j).toList = es.toList.eraseIdx j := by
      unfold Array.eraseIdxIfInBounds
      rw [dif_pos (by simpa using hjl)]
      simp
    refine ⟨es.eraseIdxIfInBounds j, fun t e ty ht => ?_, MapKept.stamped_erase hs j, ⟨fun e he => ?_, fun g' k' u hu => ?_⟩, by rw [hlist]; exact List.eraseIdx_sublist _ _, fun x hx => ?_⟩
    · simp [Builtin.delete_, run_underlying ht, MapKept.run_getObj_map hb, law.check w _ hl, h1, MapKept.run_setObj_map _ hb, Result.andThen, ChangeMaps.setBlock]
    · rw [hlist] at he
      obtain ⟨i, hne, hi⟩ := List.mem_eraseIdx_iff_getElem?.1 he
      obtain ⟨g', k', hg, hk2, e1, e2⟩ := hr.told e (List.mem_of_getElem? hi)
      refine ⟨g', k', hg, hk2, e1, ?_⟩
      unfold del
      rw [if_neg, e2]
      rintro ⟨rfl, rfl⟩
      exact apart hs hi hj hne (e1.trans hk.symm)
    · rw [hlist]
      unfold del at hu
      split at hu
      · cases hu
      · rename_i hgk
        obtain ⟨e, he, hk2⟩ := hr.there g' k' u hu
        obtain ⟨i, hi⟩ := List.mem_iff_getElem?.1 he
        refine ⟨e, List.mem_eraseIdx_iff_getElem?.2 ⟨i, ?_, hi⟩, hk2⟩
        rintro rfl
        rw [hj] at hi
        cases hi
        exact hgk (keyV_inj (hk2.symm.trans hk))
    · rw [hlist] at hx
      obtain ⟨i, hne, hi⟩ := List.mem_eraseIdx_iff_getElem?.1 hx
      rw [← hk]
      exact apart hs hi hj hne

/-- The step. -/
theorem Rng.next (h : Rng w m r f n old cnt) (hmr : m ≠ r) (ty : TypeId) :
    ((Instr.next (.pointer (some ⟨r, 0, none⟩)) false ty).run Try.prog w = .ok (.tuple #[.bool false]) w ∧ IsMap w m (fun g k => if past f n g k = true then none else old g k)) ∨
    ∃ g k v w', g < 16 ∧ k ≤ 262144 ∧ old g k = some v ∧ (Instr.next (.pointer (some ⟨r, 0, none⟩)) false ty).run Try.prog w = .ok (.tuple #[.bool true, keyV g k, v]) w' ∧
      (Instr.entry (.pointer (some ⟨r, 0, none⟩))).run Try.prog w' = .ok (.tuple #[keyV g k, v]) w' ∧ w.grownBy w' (some r) ∧ w'.heap.size = w.heap.size ∧
      (past f n g k = false → ∃ c, c < cnt ∧ Rng w' m r f n old c) ∧
      (past f n g k = true → ∀ w2, w2.heap[m]? = w'.heap[m]? → w2.heap[r]? = w'.heap[r]? → ∃ c w3, c < cnt ∧ ∀ t e ty, Try.prog.underlying t = some (.map 76 e) → (Builtin.delete_ #[t, 76] ty #[.map (some m), keyV g k]).run Try.prog w2 = .ok (.tuple #[]) w3 ∧ w2.grownBy w3 (some m) ∧ Rng w3 m r f n old c) := by
  obtain ⟨es, clock, since, seen, c0, look, hb, hs, hrep, hr, hold, hsc, hsk, hc, hlook, hdone⟩ := h
  rcases run_next_at (P := Try.prog) w ty r m since c0 seen es clock hr hb hold hsc with ⟨h0, hrun⟩ | ⟨e, he, w1, hal, hrun⟩
  · refine .inl ⟨hrun, es, clock, hb, hs, ⟨fun x hx => ?_, fun g k v hv => ?_⟩⟩
    · obtain ⟨g, k, hg, hk, e1, e2⟩ := hrep.told x hx
      have hp := hdone x hx (all_seen es seen h0 x hx) g k e1
      refine ⟨g, k, hg, hk, e1, ?_⟩
      rw [hp, if_neg (by simp)]
      rcases hlook g k with h1 | ⟨h1, _⟩
      · exact h1.symm.trans e2
      · rw [h1] at e2
        cases e2
    · split at hv
      · cases hv
      · rename_i hp
        rcases hlook g k with h1 | ⟨_, h2⟩
        · exact hrep.there g k v (h1.trans hv)
        · exact absurd h2 hp
  · obtain ⟨hem, hes⟩ := mem_left he
    obtain ⟨g, k, hg, hk, e1, e2⟩ := hrep.told e hem
    have hold2 : old g k = some e.val := by
      rcases hlook g k with h1 | ⟨h1, _⟩
      · exact h1.symm.trans e2
      · rw [h1] at e2
        cases e2
    have hr1 : w1.heap[r]? = some (.mapIter (some m) since seen c0) := by rcases hal with rfl | rfl <;> exact hr
    have hb1 : w1.heap[m]? = some (.map es clock) := by rcases hal with rfl | rfl <;> exact hb
    have hset := MapKept.heap_set (o' := .mapIter (some m) since (seen.push e.born) clock) hr1
    have hb' : (ChangeMaps.setBlock w1 r (.mapIter (some m) since (seen.push e.born) clock)).heap[m]? = some (.map es clock) := (hset.2 m (fun e1 => hmr e1)).trans hb1
    have hst := (MapKept.stamped_iff es clock).1 hs
    have hsh := left_shrinks es seen e he
    refine .inr ⟨g, k, e.val, _, hg, hk, hold2, by rw [← e1]; exact hrun, by rw [← e1]; exact run_entry_at _ r m since seen es clock e hset.1 hb' hem hst.2.1, ?_, ?_, fun hp => ?_, fun hp w2 q1 q2 => ?_⟩
    · rcases hal with rfl | rfl <;> exact ⟨rfl, rfl, rfl, by simp [ChangeMaps.setBlock], fun i _ hi => hset.2 i (fun e1 => hi (by rw [e1]))⟩
    · rcases hal with rfl | rfl <;> simp [ChangeMaps.setBlock]
    · refine ⟨(leftOf es (seen.push e.born)).size, by omega, es, clock, since, seen.push e.born, clock, look, hb', hs, hrep, hset.1, hold, hsk, hsk, Nat.le_refl _, hlook, fun x hx hxs g' k' hxk => ?_⟩
      rw [contains_push] at hxs
      cases h1 : seen.contains x.born with
      | true => exact hdone x hx h1 g' k' hxk
      | false =>
        rw [h1] at hxs
        have hxe : x.born = e.born := by simpa using hxs
        obtain rfl := born_inj hst.2.1 hx hem hxe
        obtain ⟨rfl, rfl⟩ := keyV_inj (hxk.symm.trans e1)
        exact hp
    · have hb2 : w2.heap[m]? = some (.map es clock) := q1.trans hb'
      have hr2 := q2.trans hset.1
      obtain ⟨es', hdel, hs', hrep', hsub, hkey⟩ := drop_who (w := w2) (m := m) hb2 hs hrep hg hk
      refine ⟨(leftOf es' (seen.push e.born)).size, ChangeMaps.setBlock w2 m (.map es' clock), ?_, fun t el ty ht => ⟨hdel t el ty ht, grown_block _ _ _, es', clock, since, seen.push e.born, clock, del look g k, ChangeMaps.heap_setBlock_same hb2 _, hs', hrep', (ChangeMaps.heap_setBlock_other hb2 _ (fun e => hmr e.symm)).trans hr2, fun x hx => hold x (hsub.subset hx), hsk, hsk, Nat.le_refl _, fun g' k' => ?_, fun x hx hxs g' k' hxk => ?_⟩⟩
      · have e1 : ∀ (a : Array MapEntry) (s : Array Nat), (leftOf a s).size = (a.toList.filter fun e => !s.contains e.born).length := fun a s => by
          unfold leftOf
          rw [← Array.toList_filter, Array.length_toList]
        have h1 := (hsub.filter fun e' => !(seen.push e.born).contains e'.born).length_le
        rw [← e1, ← e1] at h1
        omega
      · unfold del
        by_cases h1 : g' = g ∧ k' = k
        · rw [if_pos h1]
          obtain ⟨rfl, rfl⟩ := h1
          exact .inr ⟨rfl, hp⟩
        · rw [if_neg h1]
          exact hlook g' k'
      · have hxm := hsub.subset hx
        rw [contains_push] at hxs
        cases h1 : seen.contains x.born with
        | true => exact hdone x hxm h1 g' k' hxk
        | false =>
          rw [h1] at hxs
          have hxe : x.born = e.born := by simpa using hxs
          obtain rfl := born_inj hst.2.1 hxm hem hxe
          exact absurd e1 (hkey x hx)
end
end Dsk
end Go.Proofs.Ytgaclibokapfaaa

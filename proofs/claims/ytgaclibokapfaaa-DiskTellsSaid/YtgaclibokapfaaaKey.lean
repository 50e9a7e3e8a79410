/- Maps whose keys are sectors: what the block of such a map holds, and what the operations do with it. -/
import Derived.Test.YtgaclibokapfaaaRows
import Derived.Test.YtgaclibokapfaaaMem
import Derived.WalkKit
import Derived.WalkSpells
import Derived.MapKept
import Derived.DeepKeys4
import Derived.Maps.Own
namespace Go.Proofs.Ytgaclibokapfaaa
open Go.RowKit Wire Go.Maps
set_option linter.unusedVariables false
set_option linter.unusedSimpArgs false
namespace Dsk

/-- A sector as a value. -/
def keyV (f n : Nat) : Value := .agg #[.int .i64 f, .int .i64 n]

theorem keyV_inj {f n g m : Nat} (h : keyV f n = keyV g m) : f = g ∧ n = m := by
  unfold keyV at h
  simp only [Value.agg.injEq, Array.mk.injEq, List.cons.injEq, Value.int.injEq, true_and, and_true] at h
  omega

theorem laidOut : laidOutB Try.prog = true := by kernel_rfl
theorem row_sector : (76 : TypeId) < Try.prog.types.size := of_decide_eq_true (by kernel_rfl)
theorem deep_sector : Try.prog.keyTypeAt 3 76 = true := by kernel_rfl
theorem deep_sector' : Try.prog.keyType 76 = true := by kernel_rfl
theorem cells_sector : Try.prog.cellsOf 76 = 2 := by kernel_rfl
theorem cells_int : Try.prog.cellsOf 3 = 1 := by kernel_rfl
theorem wide_sector : (match Try.prog.underlying 76 with | some (.array _ _) | some (.struct _) => true | _ => false) = true := by rw [Try.underlying76]
theorem law : Keyed Try.prog 76 := Keyed.of_law (deep_law_laid laidOut (m := 3) (by omega) row_sector deep_sector wide_sector)

theorem key_of {f n : Nat} (hf : f < 16) (hn : n ≤ 262144) : ∃ l, keyOf Try.prog 76 (keyV f n) = some l := by
  have h1 : (Lit.int .i64 (f : Int)).wf = true := by
    simp [Lit.wf, IntKind.min, IntKind.max, IntKind.signed, IntKind.bits]; omega
  have h2 : (Lit.int .i64 (n : Int)).wf = true := by
    simp [Lit.wf, IntKind.min, IntKind.max, IntKind.signed, IntKind.bits]; omega
  have hl : ∀ d, Try.prog.keyLits (d + 2) 76 [.int .i64 f, .int .i64 n] = some [.int .i64 f, .int .i64 n] := by
    intro d
    simp [Program.keyLits, Try.underlying76, Try.underlying3, cells_sector, cells_int, h1, h2, List.mapM_cons]
  have hs : Try.prog.types.size + 1 = (Try.prog.types.size - 1) + 2 := by
    have h0 : 0 < Try.prog.types.size := Nat.lt_of_le_of_lt (Nat.zero_le _) row_sector
    generalize Try.prog.types.size = z at h0
    omega
  refine ⟨.string (keyBytes [.int .i64 f, .int .i64 n]), ?_⟩
  unfold keyOf keyV
  rw [Try.underlying76]
  simp only [deep_sector', Value.formed, Try.underlying76, cells_sector, Value.cells, hs, hl]
  rfl

/-- What the entries of a map say of each sector. -/
structure Rep (es : Array MapEntry) (look : Nat → Nat → Option Value) : Prop where
  told : ∀ e ∈ es.toList, ∃ f n, f < 16 ∧ n ≤ 262144 ∧ e.key = keyV f n ∧ look f n = some e.val
  there : ∀ f n v, look f n = some v → ∃ e ∈ es.toList, e.key = keyV f n

/-- Block m is a map that says 'look' of each sector. -/
def IsMap (w : World) (m : Nat) (look : Nat → Nat → Option Value) : Prop :=
  ∃ es clock, w.heap[m]? = some (.map es clock) ∧ MapKept.Stamped es clock ∧ Rep es look

def upd (look : Nat → Nat → Option Value) (f n : Nat) (v : Value) : Nat → Nat → Option Value := fun g k => if g = f ∧ k = n then some v else look g k
def del (look : Nat → Nat → Option Value) (f n : Nat) : Nat → Nat → Option Value := fun g k => if g = f ∧ k = n then none else look g k

section
variable {w w' : World} {m : Nat} {look : Nat → Nat → Option Value} {es : Array MapEntry} {clock f n : Nat}

theorem IsMap.lt (h : IsMap w m look) : m < w.heap.size := by
  obtain ⟨es, clock, hb, _⟩ := h
  exact (Array.getElem?_eq_some_iff.1 hb).1
theorem IsMap.keep (h : IsMap w m look) (e : w'.heap[m]? = w.heap[m]?) : IsMap w' m look := by
  obtain ⟨es, clock, hb, h2⟩ := h
  exact ⟨es, clock, e.trans hb, h2⟩
theorem IsMap.empty (w : World) : IsMap (w.alloc (.map #[] 0)) w.heap.size (fun _ _ => none) :=
  ⟨#[], 0, (MapKept.heap_alloc w _).1, MapKept.stamped_empty 0, ⟨fun e he => by simp at he, fun f n v h => by cases h⟩⟩

theorem Rep.key (h : Rep es look) : ∀ e ∈ es.toList, ∃ l, keyOf Try.prog 76 e.key = some l := by
  intro e he
  obtain ⟨f, n, hf, hn, hk, _⟩ := h.told e he
  rw [hk]
  exact key_of hf hn

theorem apart (h : MapKept.Stamped es clock) {i j : Nat} {a b : MapEntry} (hi : es.toList[i]? = some a) (hj : es.toList[j]? = some b) (hne : i ≠ j) : a.key ≠ b.key := by
  have hn : es.toList.Pairwise (fun x y => x.key ≠ y.key) := ((MapKept.stamped_iff es clock).1 h).2.2
  obtain ⟨hi1, rfl⟩ := List.getElem?_eq_some_iff.1 hi
  obtain ⟨hj1, rfl⟩ := List.getElem?_eq_some_iff.1 hj
  rw [List.pairwise_iff_getElem] at hn
  rcases Nat.lt_or_gt_of_ne hne with h' | h'
  · exact hn i j hi1 hj1 h'
  · exact (hn j i hj1 hi1 h').symm

/-- What the search for a sector gives. -/
theorem Rep.find (h : Rep es look) (hs : MapKept.Stamped es clock) (w : World) (hf : f < 16) (hn : n ≤ 262144) :
    ((Instr.findKey 76 (keyV f n) es.toList).run Try.prog w = .ok none w ∧ look f n = none ∧ ∀ e ∈ es.toList, e.key ≠ keyV f n) ∨
    ∃ j e, (Instr.findKey 76 (keyV f n) es.toList).run Try.prog w = .ok (some (j, e.val)) w ∧ es.toList[j]? = some e ∧ e.key = keyV f n ∧ look f n = some e.val := by
  obtain ⟨l, hl⟩ := key_of hf hn
  rcases law.find w hl es.toList h.key with ⟨h1, h2⟩ | ⟨j, e, h1, h2, h3⟩
  · refine .inl ⟨h1, ?_, h2⟩
    cases hv : look f n with
    | none => rfl
    | some v =>
      obtain ⟨e, he, hk⟩ := h.there f n v hv
      exact absurd hk (h2 e he)
  · obtain ⟨g, k, _, _, hk, hv⟩ := h.told e (List.mem_of_getElem? h2)
    obtain ⟨rfl, rfl⟩ := keyV_inj (hk.symm.trans h3)
    exact .inr ⟨j, e, h1, h2, h3, hv⟩

/-- 'm[k]'. -/
theorem IsMap.lookup (h : IsMap w m look) (hf : f < 16) (hn : n ≤ 262144) {t e : TypeId} (ht : Try.prog.underlying t = some (.map 76 e)) {z : Value} (hz : ∀ w, (zeroValue e).run Try.prog w = .ok z w) :
    (Instr.lookup t (.map (some m)) (keyV f n) false).run Try.prog w = .ok ((look f n).getD z) w := by
  obtain ⟨es, clock, hb, hs, hr⟩ := h
  obtain ⟨l, hl⟩ := key_of hf hn
  rcases hr.find hs w hf hn with ⟨h1, h2, _⟩ | ⟨j, e0, h1, _, _, h2⟩
  · simp [Instr.lookup, run_underlying ht, MapKept.run_getObj_map hb, law.check w _ hl, h1, h2, hz, Result.andThen]
  · simp [Instr.lookup, run_underlying ht, MapKept.run_getObj_map hb, law.check w _ hl, h1, h2, Result.andThen]

theorem grown_block (w : World) (m : Nat) (o : Obj) : w.grownBy (ChangeMaps.setBlock w m o) (some m) :=
  ⟨rfl, rfl, rfl, by simp [ChangeMaps.setBlock], fun i _ hi => by
    simp only [ChangeMaps.setBlock]
    rw [Array.getElem?_setIfInBounds_ne]
    exact fun e => hi (by rw [e])⟩

/-- 'm[k] = v'. -/
theorem IsMap.store (h : IsMap w m look) (hf : f < 16) (hn : n ≤ 262144) {t e : TypeId} (ht : Try.prog.underlying t = some (.map 76 e)) (v : Value) :
    ∃ w', (Instr.mapUpdate t (.map (some m)) (keyV f n) v).run Try.prog w = .ok () w' ∧ IsMap w' m (upd look f n v) ∧ w.grownBy w' (some m) := by
  obtain ⟨es, clock, hb, hs, hr⟩ := h
  obtain ⟨l, hl⟩ := key_of hf hn
  rcases hr.find hs w hf hn with ⟨h1, h2, h3⟩ | ⟨j, e0, h1, hj, hk, h2⟩
  · refine ⟨ChangeMaps.setBlock w m (.map (es.push ⟨keyV f n, v, clock⟩) (clock + 1)), ?_, ⟨_, _, ChangeMaps.heap_setBlock_same hb _, MapKept.stamped_push hs h3, ⟨fun e he => ?_, fun g k u hu => ?_⟩⟩, grown_block _ _ _⟩
    · simp [Instr.mapUpdate, run_underlying ht, MapKept.run_getObj_map hb, law.check w false hl, h1, MapKept.run_setObj_map _ hb, Result.andThen, ChangeMaps.setBlock]
    · simp only [Array.toList_push, List.mem_append, List.mem_singleton] at he
      rcases he with he | rfl
      · obtain ⟨g, k, hg, hk, e1, e2⟩ := hr.told e he
        refine ⟨g, k, hg, hk, e1, ?_⟩
        unfold upd
        rw [if_neg, e2]
        rintro ⟨rfl, rfl⟩
        exact h3 e he e1
      · exact ⟨f, n, hf, hn, rfl, by unfold upd; rw [if_pos ⟨rfl, rfl⟩]⟩
    · simp only [Array.toList_push, List.mem_append, List.mem_singleton]
      unfold upd at hu
      split at hu
      · rename_i hgk
        obtain ⟨rfl, rfl⟩ := hgk
        exact ⟨_, .inr rfl, rfl⟩
      · obtain ⟨e, he, hk⟩ := hr.there g k u hu
        exact ⟨e, .inl he, hk⟩
  · have hj' : es[j]? = some e0 := by simpa using hj
    have hjl : j < es.toList.length := (List.getElem?_eq_some_iff.1 hj).1
    have hkeyf : ∀ e', es[j]? = some e' → ({ e' with key := keyV f n, val := v } : MapEntry).key = e'.key := fun e' he' => by rw [hj'] at he'; cases he'; exact hk.symm
    have hlist : (es.modify j (fun e' => { e' with key := keyV f n, val := v })).toList = es.toList.set j { e0 with key := keyV f n, val := v } := by rw [Array.toList_modify, ChangeMaps.modify_eq_set _ _ _ _ hj]
    have hst := law.stays w hl
    rw [← hk] at hst
    refine ⟨ChangeMaps.setBlock w m (.map (es.modify j (fun e' => { e' with key := keyV f n, val := v })) clock), ?_, ⟨_, _, ChangeMaps.heap_setBlock_same hb _, MapKept.stamped_modify hs _ _ (fun _ _ => rfl) (fun e' _ he' => hkeyf e' he'), ⟨fun e he => ?_, fun g k u hu => ?_⟩⟩, grown_block _ _ _⟩
    · simp [Instr.mapUpdate, run_underlying ht, MapKept.run_getObj_map hb, law.check w false hl, h1, hj', hk, law.stays w hl, MapKept.run_setObj_map _ hb, Result.andThen, ChangeMaps.setBlock]
    · rw [hlist] at he
      obtain ⟨i, hi, ex⟩ := List.getElem_of_mem he
      rw [List.getElem_set] at ex
      split at ex
      · subst ex
        exact ⟨f, n, hf, hn, rfl, by unfold upd; rw [if_pos ⟨rfl, rfl⟩]⟩
      · rename_i hne
        have hi' : i < es.toList.length := by simpa using hi
        have hie : es.toList[i]? = some e := by rw [List.getElem?_eq_getElem hi', ex]
        obtain ⟨g, k, hg, hk2, e1, e2⟩ := hr.told e (List.mem_of_getElem? hie)
        refine ⟨g, k, hg, hk2, e1, ?_⟩
        unfold upd
        rw [if_neg, e2]
        rintro ⟨rfl, rfl⟩
        exact apart hs hie hj (fun e => hne e.symm) (e1.trans hk.symm)
    · rw [hlist]
      unfold upd at hu
      split at hu
      · rename_i hgk
        obtain ⟨rfl, rfl⟩ := hgk
        exact ⟨_, List.mem_iff_getElem.2 ⟨j, by simpa using hjl, by simp; rfl⟩, rfl⟩
      · rename_i hgk
        obtain ⟨e, he, hk2⟩ := hr.there g k u hu
        obtain ⟨i, hi, ex⟩ := List.getElem_of_mem he
        refine ⟨e, List.mem_iff_getElem.2 ⟨i, by simpa using hi, ?_⟩, hk2⟩
        rw [List.getElem_set, if_neg, ex]
        rintro rfl
        have h9 : es.toList[j]? = some e := by rw [List.getElem?_eq_getElem hi, ex]
        rw [hj] at h9
        cases h9
        exact hgk (keyV_inj (hk2.symm.trans hk))

/-- 'delete(m, k)'. -/
theorem IsMap.drop (h : IsMap w m look) (hf : f < 16) (hn : n ≤ 262144) {t e ty : TypeId} (ht : Try.prog.underlying t = some (.map 76 e)) :
    ∃ w', (Builtin.delete_ #[t, 76] ty #[.map (some m), keyV f n]).run Try.prog w = .ok (.tuple #[]) w' ∧ IsMap w' m (del look f n) ∧ w.grownBy w' (some m) := by
  obtain ⟨es, clock, hb, hs, hr⟩ := h
  obtain ⟨l, hl⟩ := key_of hf hn
  rcases hr.find hs w hf hn with ⟨h1, h2, h3⟩ | ⟨j, e0, h1, hj, hk, h2⟩
  · refine ⟨ChangeMaps.setBlock w m (.map es clock), ?_, ⟨_, _, ChangeMaps.heap_setBlock_same hb _, hs, ⟨fun e he => ?_, fun g k u hu => ?_⟩⟩, grown_block _ _ _⟩
    · simp [Builtin.delete_, run_underlying ht, MapKept.run_getObj_map hb, law.check w _ hl, h1, MapKept.run_setObj_map _ hb, Result.andThen, ChangeMaps.setBlock]
    · obtain ⟨g, k, hg, hk, e1, e2⟩ := hr.told e he
      refine ⟨g, k, hg, hk, e1, ?_⟩
      unfold del
      rw [if_neg, e2]
      rintro ⟨rfl, rfl⟩
      exact h3 e he e1
    · unfold del at hu
      split at hu
      · cases hu
      · exact hr.there g k u hu
  · have hj' : es[j]? = some e0 := by simpa using hj
    have hjl : j < es.toList.length := (List.getElem?_eq_some_iff.1 hj).1
    have hlist : (es.eraseIdxIfInBounds j).toList = es.toList.eraseIdx j := by
      unfold Array.eraseIdxIfInBounds
      rw [dif_pos (by simpa using hjl)]
      simp
    refine ⟨ChangeMaps.setBlock w m (.map (es.eraseIdxIfInBounds j) clock), ?_, ⟨_, _, ChangeMaps.heap_setBlock_same hb _, MapKept.stamped_erase hs j, ⟨fun e he => ?_, fun g k u hu => ?_⟩⟩, grown_block _ _ _⟩
    · simp [Builtin.delete_, run_underlying ht, MapKept.run_getObj_map hb, law.check w _ hl, h1, MapKept.run_setObj_map _ hb, Result.andThen, ChangeMaps.setBlock]
    · rw [hlist] at he
      obtain ⟨i, hne, hi⟩ := List.mem_eraseIdx_iff_getElem?.1 he
      obtain ⟨g, k, hg, hk2, e1, e2⟩ := hr.told e (List.mem_of_getElem? hi)
      refine ⟨g, k, hg, hk2, e1, ?_⟩
      unfold del
      rw [if_neg, e2]
      rintro ⟨rfl, rfl⟩
      exact apart hs hi hj hne (e1.trans hk.symm)
    · rw [hlist]
      unfold del at hu
      split at hu
      · cases hu
      · rename_i hgk
        obtain ⟨e, he, hk2⟩ := hr.there g k u hu
        obtain ⟨i, hi⟩ := List.mem_iff_getElem?.1 he
        refine ⟨e, List.mem_eraseIdx_iff_getElem?.2 ⟨i, ?_, hi⟩, hk2⟩
        rintro rfl
        rw [hj] at hi
        cases hi
        exact hgk (keyV_inj (hk2.symm.trans hk))
end

end Dsk
end Go.Proofs.Ytgaclibokapfaaa

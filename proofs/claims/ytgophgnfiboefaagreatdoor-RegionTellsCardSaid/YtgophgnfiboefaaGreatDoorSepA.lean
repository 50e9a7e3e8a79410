/- Things that a statement or a function owns, each with blocks of its own. -/
import Derived.Test.YtgophgnfiboefaaGreatDoorDskA
namespace Go.Proofs.YtgophgnfiboefaaGreatDoor
open Go.RowKit Wire
open Txt (Row)
open Dsk (Only)
set_option linter.unusedVariables false
set_option linter.unusedSimpArgs false
namespace Own

/-! Things that a statement owns, each with blocks of its own. -/
/-- A thing: what lies in memory, in these blocks alone. -/
structure Thing where
  at_ : World → (Nat → Prop) → Prop
  keep : ∀ {w w' : World} {F : Nat → Prop}, at_ w F → (∀ b, F b → w'.heap[b]? = w.heap[b]?) → w.heap.size ≤ w'.heap.size → at_ w' F
/-- Things apart from each other, in blocks that W had not. -/
structure Sp (W w : World) (T : List Thing) : Prop where
  below : Below W.heap.size W w
  fp : ∃ F : Nat → Nat → Prop, (∀ i (t : Thing), T[i]? = some t → t.at_ w (F i)) ∧ (∀ i b, F i b → W.heap.size ≤ b ∧ b < w.heap.size) ∧ ∀ i j b, F i b → F j b → i = j
section
variable {W w w' : World} {T T' : List Thing} {t t' : Thing}
theorem Sp.nil (h : Below W.heap.size W w) : Sp W w [] := ⟨h, fun _ _ => False, fun i t h => by simp at h, fun _ _ h => h.elim, fun _ _ _ h => h.elim⟩
theorem Sp.keep (h : Sp W w T) (b : Below w.heap.size w w') : Sp W w' T := by
  obtain ⟨hb, F, h1, h2, h3⟩ := h
  have hs := b.size
  exact ⟨next_below hb b, F, fun i t ht => t.keep (h1 i t ht) (fun x hx => b.block x (h2 i x hx).2) hs, fun i x hx => ⟨(h2 i x hx).1, by have := (h2 i x hx).2; omega⟩, h3⟩
theorem Sp.new (h : Sp W w T) (b : Below w.heap.size w w') {F : Nat → Prop} (ht : t.at_ w' F) (hf : ∀ x, F x → w.heap.size ≤ x ∧ x < w'.heap.size) : Sp W w' (T ++ [t]) := by
  obtain ⟨hb, G, h1, h2, h3⟩ := h
  have hs := b.size
  have hs0 := hb.size
  refine ⟨next_below hb b, fun i x => (i = T.length ∧ F x) ∨ (i < T.length ∧ G i x), fun i t1 h4 => ?_, fun i x h4 => ?_, fun i j x h4 h5 => ?_⟩
  · rcases Nat.lt_or_ge i T.length with hi | hi
    · rw [List.getElem?_append_left hi] at h4
      have e : (fun x => (i = T.length ∧ F x) ∨ (i < T.length ∧ G i x)) = G i := by
        funext x
        apply propext
        constructor
        · rintro (⟨h6, _⟩ | ⟨_, h6⟩)
          · omega
          · exact h6
        · exact fun h6 => .inr ⟨hi, h6⟩
      show t1.at_ w' (fun x => (i = T.length ∧ F x) ∨ (i < T.length ∧ G i x))
      rw [e]
      exact t1.keep (h1 i t1 h4) (fun x hx => b.block x (h2 i x hx).2) hs
    · have hlt := (List.getElem?_eq_some_iff.1 h4).1
      simp at hlt
      obtain rfl : i = T.length := by omega
      rw [List.getElem?_append_right (by omega)] at h4
      simp at h4
      subst h4
      have e : (fun x => (T.length = T.length ∧ F x) ∨ (T.length < T.length ∧ G T.length x)) = F := by
        funext x
        apply propext
        constructor
        · rintro (⟨_, h6⟩ | ⟨h6, _⟩)
          · exact h6
          · omega
        · exact fun h6 => .inl ⟨rfl, h6⟩
      show t.at_ w' (fun x => (T.length = T.length ∧ F x) ∨ (T.length < T.length ∧ G T.length x))
      rw [e]
      exact ht
  · rcases h4 with ⟨_, h4⟩ | ⟨_, h4⟩
    · have := hf x h4; omega
    · have := h2 i x h4; omega
  · rcases h4 with ⟨h6, h4⟩ | ⟨h6, h4⟩ <;> rcases h5 with ⟨h7, h5⟩ | ⟨h7, h5⟩
    · omega
    · have := hf x h4; have := h2 j x h5; omega
    · have := hf x h5; have := h2 i x h4; omega
    · exact h3 i j x h4 h5
/-- One of them. -/
theorem Sp.get (h : Sp W w T) (i : Nat) (hi : T[i]? = some t) : ∃ F, t.at_ w F ∧ ∀ b, F b → W.heap.size ≤ b ∧ b < w.heap.size := by
  obtain ⟨hb, F, h1, h2, h3⟩ := h
  exact ⟨F i, h1 i t hi, h2 i⟩
/-- One of them has changed, and nothing else. -/
theorem Sp.turn (h : Sp W w T) (i : Nat) (hi : T[i]? = some t) (hc : ∀ F, t.at_ w F → (∀ b, F b → b < w.heap.size) → ∃ F', t'.at_ w' F' ∧ (∀ b, F' b → F b ∨ w.heap.size ≤ b ∧ b < w'.heap.size) ∧ Only F w w') : Sp W w' (T.set i t') := by
  obtain ⟨hb, F, h1, h2, h3⟩ := h
  obtain ⟨F', h4, h5, ho⟩ := hc (F i) (h1 i t hi) (fun b hb => (h2 i b hb).2)
  have hs := ho.size
  have hs0 := hb.size
  have hlt := (List.getElem?_eq_some_iff.1 hi).1
  refine ⟨hb.trans (ho.below hs0 fun x hx => (h2 i x hx).1), fun j => if j = i then F' else F j, fun j u hu => ?_, fun j x hx => ?_, fun j k x hj hk => ?_⟩
  · by_cases e : j = i
    · subst e
      rw [List.getElem?_set_self hlt] at hu
      obtain rfl := Option.some.inj hu
      simp only [if_pos]
      exact h4
    · rw [List.getElem?_set_ne (Ne.symm e)] at hu
      simp only [if_neg e]
      exact u.keep (h1 j u hu) (fun x hx => ho.block x (h2 j x hx).2 (fun hx2 => e (h3 j i x hx hx2))) hs
  · by_cases e : j = i
    · subst e
      simp only [if_pos] at hx
      rcases h5 x hx with h6 | h6
      · have := h2 j x h6; omega
      · omega
    · simp only [if_neg e] at hx
      have := h2 j x hx
      omega
  · dsimp only at hj hk
    by_cases e : j = i
    · by_cases e2 : k = i
      · rw [e, e2]
      · rw [if_pos e] at hj
        rw [if_neg e2] at hk
        rcases h5 x hj with h6 | h6
        · exact absurd (h3 i k x h6 hk) (fun e3 => e2 e3.symm)
        · have := h2 k x hk; omega
    · rw [if_neg e] at hj
      by_cases e2 : k = i
      · rw [if_pos e2] at hk
        rcases h5 x hk with h6 | h6
        · exact absurd (h3 i j x h6 hj) (fun e3 => e e3.symm)
        · have := h2 j x hj; omega
      · rw [if_neg e2] at hk
        exact h3 j k x hj hk
/-- A call that changes one of them. -/
theorem Sp.step {f : FuncId} {args : Array Value} {R : Ending → Prop} (h : Sp W w T) (i : Nat) (hi : T[i]? = some t)
    (hc : ∀ F, t.at_ w F → (∀ b, F b → b < w.heap.size) → Calls Tryz.prog f args w fun e w' => R e ∧ ∃ F', t'.at_ w' F' ∧ (∀ b, F' b → F b ∨ w.heap.size ≤ b ∧ b < w'.heap.size) ∧ Only F w w') :
    Calls Tryz.prog f args w fun e w' => R e ∧ Sp W w' (T.set i t') := by
  obtain ⟨hb, F, h1, h2, h3⟩ := h
  have h : Sp W w T := ⟨hb, F, h1, h2, h3⟩
  have hlt := (List.getElem?_eq_some_iff.1 hi).1
  refine (hc (F i) (h1 i t hi) (fun b hb => (h2 i b hb).2)).mono ?_
  rintro e w' ⟨hr, F', h4, h5, ho⟩
  refine ⟨hr, ?_⟩
  have hs := ho.size
  have hs0 := hb.size
  refine ⟨hb.trans (ho.below hs0 fun x hx => (h2 i x hx).1), fun j => if j = i then F' else F j, fun j u hu => ?_, fun j x hx => ?_, fun j k x hj hk => ?_⟩
  · by_cases e : j = i
    · subst e
      rw [List.getElem?_set_self hlt] at hu
      obtain rfl := Option.some.inj hu
      simp only [if_pos]
      exact h4
    · rw [List.getElem?_set_ne (Ne.symm e)] at hu
      simp only [if_neg e]
      exact u.keep (h1 j u hu) (fun x hx => ho.block x (h2 j x hx).2 (fun hx2 => e (h3 j i x hx hx2))) hs
  · by_cases e : j = i
    · subst e
      simp only [if_pos] at hx
      rcases h5 x hx with h6 | h6
      · have := h2 j x h6; omega
      · omega
    · simp only [if_neg e] at hx
      have := h2 j x hx
      omega
  · dsimp only at hj hk
    by_cases e : j = i
    · by_cases e2 : k = i
      · rw [e, e2]
      · rw [if_pos e] at hj
        rw [if_neg e2] at hk
        rcases h5 x hj with h6 | h6
        · exact absurd (h3 i k x h6 hk) (fun e3 => e2 e3.symm)
        · have := h2 k x hk; omega
    · rw [if_neg e] at hj
      by_cases e2 : k = i
      · rw [if_pos e2] at hk
        rcases h5 x hk with h6 | h6
        · exact absurd (h3 i j x h6 hj) (fun e3 => e e3.symm)
        · have := h2 j x hj; omega
      · rw [if_neg e2] at hk
        exact h3 j k x hj hk
/-- Some of them, in another order. -/
theorem Sp.pick (h : Sp W w T) (s : Nat → Nat) (hs : ∀ i j, i < T'.length → j < T'.length → s i = s j → i = j) (hp : ∀ i (t : Thing), T'[i]? = some t → T[s i]? = some t) : Sp W w T' := by
  obtain ⟨hb, F, h1, h2, h3⟩ := h
  refine ⟨hb, fun i x => i < T'.length ∧ F (s i) x, fun i t ht => ?_, fun i x hx => h2 _ x hx.2, fun i j x hi hj => hs i j hi.1 hj.1 (h3 _ _ x hi.2 hj.2)⟩
  have hlt := (List.getElem?_eq_some_iff.1 ht).1
  have e : (fun x => i < T'.length ∧ F (s i) x) = F (s i) := by
    funext x
    exact propext ⟨fun h => h.2, fun h => ⟨hlt, h⟩⟩
  show t.at_ w (fun x => i < T'.length ∧ F (s i) x)
  rw [e]
  exact h1 _ t (hp i t ht)
end
/-- A block that is known whole. -/
def BlkT (b : Nat) (ty : TypeId) (cs : Array Value) : Thing where
  at_ w F := Blk w b ty cs ∧ ∀ x, F x ↔ x = b
  keep h hk _ := ⟨(hk b ((h.2 b).2 rfl)).trans h.1, h.2⟩
/-- A row that grows. -/
def RowT (size : Nat) (v : Value) (n : Nat) (xs : List Value) : Thing where
  at_ w F := Grow w 0 size v n xs ∧ ∀ x, F x ↔ v.ownBlock = some x
  keep h hk hs := ⟨h.1.keep hs fun g hg => hk g ((h.2 g).2 hg), h.2⟩

/-! Rows. -/
section
variable {W w w' : World} {T : List Thing}
theorem Sp.grow {size : Nat} {v : Value} {n : Nat} {xs : List Value} (h : Sp W w T) (i : Nat) (hi : T[i]? = some (RowT size v n xs)) : Grow w 0 size v n xs := by
  obtain ⟨F, hF, _⟩ := h.get i hi
  exact hF.1
theorem Sp.blk {b : Nat} {ty : TypeId} {cs : Array Value} (h : Sp W w T) (i : Nat) (hi : T[i]? = some (BlkT b ty cs)) : Blk w b ty cs := by
  obtain ⟨F, hF, _⟩ := h.get i hi
  exact hF.1
/-- A row that begins as nil. -/
theorem Sp.nil_row (h : Sp W w T) (size : Nat) : Sp W w (T ++ [RowT size (.slice none 0 0) 0 []]) :=
  h.new (Below.refl _ w) (F := fun _ => False) ⟨Grow.nil w 0 size, fun x => ⟨fun e => e.elim, fun e => by cases e⟩⟩ fun x hx => hx.elim
/-- A new row beside what was there. -/
theorem Sp.new_row {size : Nat} {v : Value} {n : Nat} {xs : List Value} (h : Sp W w T) (b : Below w.heap.size w w') (hg : Grow w' w.heap.size size v n xs) : Sp W w' (T ++ [RowT size v n xs]) :=
  h.new b (F := fun x => v.ownBlock = some x) ⟨hg.lower (Nat.zero_le _), fun x => Iff.rfl⟩ fun x hx => hg.block x hx
/-- A local variable. -/
theorem Sp.local (h : Sp W w T) (ty : TypeId) (cs : Array Value) : Sp W (w.alloc (.cells cs ty)) (T ++ [BlkT w.heap.size ty cs]) :=
  h.new ((Below.refl _ w).alloc (Nat.le_refl _) _) (F := fun x => x = w.heap.size) ⟨Blk.fresh w ty cs, fun x => Iff.rfl⟩ fun x hx => by subst hx; exact ⟨Nat.le_refl _, by simp⟩
/-- A cell of a row of one-cell elements, where it lies. -/
theorem Grow.cell {B : Nat} {g cap n : Nat} {xs : List Value} (h : Grow w B 1 (.slice (some ⟨g, 0, none⟩) n cap) n xs) {k : Nat} {u : Value} (hk : xs[k]? = some u) : w.cell? ⟨g, k, none⟩ = some u ∧ w.frozen? ⟨g, k, none⟩ = false := by
  rcases h.form with ⟨e, _⟩ | ⟨g', cap', e, h1, h2, h3, h4, h5, h6, h7⟩
  · cases e
  · injection e with e1 _ e3
    injection e1 with e1
    injection e1 with e1 _ _
    subst e1 e3
    have hlt := (List.getElem?_eq_some_iff.1 hk).1
    have := h.len
    exact ⟨h7 k u hk, h6 k (by omega)⟩
/-- A store into a row. -/
theorem Sp.store {g cap n : Nat} {xs : List Value} (h : Sp W w T) (i : Nat) (hi : T[i]? = some (RowT 1 (.slice (some ⟨g, 0, none⟩) n cap) n xs)) (k : Nat) (hk : k < n) (u : Value) :
    Sp W (w.setCell ⟨g, k, none⟩ u) (T.set i (RowT 1 (.slice (some ⟨g, 0, none⟩) n cap) n (xs.set k u))) := by
  refine h.turn i hi fun F hF hlt => ?_
  obtain ⟨hg, hF2⟩ := hF
  have hlen := hg.len
  refine ⟨F, ⟨⟨by rw [List.length_set]; exact hlen, ?_⟩, hF2⟩, fun b hb => .inl hb, Only.set F w _ _ ((hF2 g).2 rfl)⟩
  rcases hg.form with ⟨e, _⟩ | ⟨g', cap', e, h1, h2, h3, h4, h5, h6, h7⟩
  · cases e
  · injection e with e1 _ e3
    injection e1 with e1
    injection e1 with e1 _ _
    subst e1 e3
    have hin : (w.cell? ⟨g, k, none⟩).isSome = true := h5 k (by omega)
    have hself : (w.setCell ⟨g, k, none⟩ u).cell? ⟨g, k, none⟩ = some u := World.cell?_setCell_same' _ _ _ hin
    have hoth : ∀ j, j ≠ k → (w.setCell ⟨g, k, none⟩ u).cell? ⟨g, j, none⟩ = w.cell? ⟨g, j, none⟩ := fun j hj => World.cell?_setCell_other w _ _ _ (fun e => by injection e with _ e; omega)
    refine .inr ⟨g, cap, rfl, h1, by simp [World.setCell]; exact h2, h3, h4, fun j hj => ?_, fun j hj => ?_, fun j v hv => ?_⟩
    · by_cases e : j = k
      · rw [e, hself]; rfl
      · rw [hoth j e]; exact h5 j hj
    · rw [World.frozen?_setCell]; exact h6 j hj
    · rw [List.getElem?_set] at hv
      by_cases e : k = j
      · rw [if_pos e] at hv
        split at hv
        · rw [← e, hself]; exact hv
        · cases hv
      · rw [if_neg e] at hv
        rw [hoth j (Ne.symm e)]
        exact h7 j v hv
end
/-! Rows that make lays. -/
theorem made_at (z : Value) (hz : z.cells = #[z]) (n j : Nat) (h : j < n) : (madeCells z.cells n)[j]? = some z := by
  unfold madeCells
  rw [hz]
  simp [h, Nat.mod_one]
theorem made_grow (w : World) (t : TypeId) (z : Value) (hz : z.cells = #[z]) (n : Nat) (hn : n ≤ 1000000000) : Grow (w.alloc (.cells (madeCells z.cells n) t)) w.heap.size 1 (.slice (some ⟨w.heap.size, 0, none⟩) n n) n (List.replicate n z) := by
  have hb := Blk.fresh w t (madeCells z.cells n)
  refine ⟨by simp, .inr ⟨w.heap.size, n, rfl, Nat.le_refl _, by simp, Nat.le_refl _, by unfold maxLen; omega, fun j hj => ?_, fun j _ => hb.thaw j, fun j u hu => ?_⟩⟩
  · rw [hb.at, made_at z hz n j (by omega)]
    rfl
  · have hj := (List.getElem?_eq_some_iff.1 hu).1
    rw [List.length_replicate] at hj
    rw [List.getElem?_replicate, if_pos hj] at hu
    rw [hb.at, made_at z hz n j hj]
    exact hu
theorem wpList_make_row {P : Program} {w : World} {ops : Array Oper} {rest : List Oper} {o : Oper} {a : Act} {Q : Exit → Act → World → Prop} (hgd : o.guard = none) (l c : Operand) (t e : TypeId) (i : TypeInfo) (z : Value) (bytes : Nat) (hop : o.op = Op.makeSlice t l c)
    (ht : P.underlying t = some (.slice e)) (hi : P.info? e = some i) (hiz : i.zero = some z) (hs : i.size = 1) (hby : i.bytes = bytes) (hb8 : bytes ≤ 64) (hz : z.cells = #[z]) (n : Nat) (hn : n ≤ 1000000000) (hl : a.eval l = .int .i64 n) (hc : a.eval c = .int .i64 n)
    (h : ∀ w', Grow w' w.heap.size 1 (.slice (some ⟨w.heap.size, 0, none⟩) n n) n (List.replicate n z) → Below w.heap.size w w' → wpList P ops Q rest (a.put o.dst (.slice (some ⟨w.heap.size, 0, none⟩) n n)) w') :
    wpList P ops Q (o :: rest) a w := by
  refine wpList_plain hgd fun K hK' => ?_
  subst hby
  have hrun := run_make (P := P) w t e i z ht hi hiz .i64 .i64 (n : Int) (n : Int) (by omega) (by omega) (by
    have : (i.bytes : Int) * (n : Int) ≤ 64 * 1000000000 := Int.mul_le_mul (by omega) (by omega) (by omega) (by omega)
    omega) (by omega)
  have e2 : ((n : Int)).toNat = n := by omega
  rw [e2, hs, Nat.mul_one] at hrun
  unfold Oper.wp
  simp [execOp, hop, hl, hc, hrun, Result.andThen]
  exact hK' _ _ (h _ (made_grow w e z hz n hn) ((Below.refl _ w).alloc (Nat.le_refl _) _))
end Own
end Go.Proofs.YtgophgnfiboefaaGreatDoor

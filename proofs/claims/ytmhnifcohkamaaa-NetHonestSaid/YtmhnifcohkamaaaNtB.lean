/- Packets in memory; things that a statement owns; comparing packets; bits. -/
import Derived.Test.YtmhnifcohkamaaaNtA
import Derived.Test.YtmhnifcohkamaaaDskA
import Derived.Laws.StructEq
import Derived.Deep.DeepCutAuto
namespace Go.Proofs.Ytmhnifcohkamaaa
open Go.RowKit Wire
open Txt (Row)
open Dsk (Only)
set_option linter.unusedVariables false
set_option linter.unusedSimpArgs false
namespace Ntw

/-! Things that a statement owns, each with blocks of its own. -/
/-- A thing: what lies in memory, in these blocks alone. -/
structure Thing where
  at_ : World → (Nat → Prop) → Prop
  keep : ∀ {w w' : World} {F : Nat → Prop}, at_ w F → (∀ b, F b → w'.heap[b]? = w.heap[b]?) → w.heap.size ≤ w'.heap.size → at_ w' F
/-- Things apart from each other, in blocks that W had not. -/
structure Sp (W w : World) (T : List Thing) : Prop where
  below : Below W.heap.size W w
  fp : ∃ F : Nat → Nat → Prop, (∀ i (t : Thing), T[i]? = some t → t.at_ w (F i)) ∧ (∀ i b, F i b → W.heap.size ≤ b ∧ b < w.heap.size) ∧ ∀ i j b, F i b → F j b → i = j
section
variable {W w w' : World} {T T' : List Thing} {t t' : Thing}
theorem Sp.nil (h : Below W.heap.size W w) : Sp W w [] := ⟨h, fun _ _ => False, fun i t h => by simp at h, fun _ _ h => h.elim, fun _ _ _ h => h.elim⟩
theorem Sp.keep (h : Sp W w T) (b : Below w.heap.size w w') : Sp W w' T := by
  obtain ⟨hb, F, h1, h2, h3⟩ := h
  have hs := b.size
  exact ⟨next_below hb b, F, fun i t ht => t.keep (h1 i t ht) (fun x hx => b.block x (h2 i x hx).2) hs, fun i x hx => ⟨(h2 i x hx).1, by have := (h2 i x hx).2; omega⟩, h3⟩
theorem Sp.new (h : Sp W w T) (b : Below w.heap.size w w') {F : Nat → Prop} (ht : t.at_ w' F) (hf : ∀ x, F x → w.heap.size ≤ x ∧ x < w'.heap.size) : Sp W w' (T ++ [t]) := by
  obtain ⟨hb, G, h1, h2, h3⟩ := h
  have hs := b.size
  have hs0 := hb.size
  refine ⟨next_below hb b, fun i x => (i = T.length ∧ F x) ∨ (i < T.length ∧ G i x), fun i t1 h4 => ?_, fun i x h4 => ?_, fun i j x h4 h5 => ?_⟩
  · rcases Nat.lt_or_ge i T.length with hi | hi
    · rw [List.getElem?_append_left hi] at h4
      have e : (fun x => (i = T.length ∧ F x) ∨ (i < T.length ∧ G i x)) = G i := by
        funext x
        apply propext
        constructor
        · rintro (⟨h6, _⟩ | ⟨_, h6⟩)
          · omega
          · exact h6
        · exact fun h6 => .inr ⟨hi, h6⟩
      show t1.at_ w' (fun x => (i = T.length ∧ F x) ∨ (i < T.length ∧ G i x))
      rw [e]
      exact t1.keep (h1 i t1 h4) (fun x hx => b.block x (h2 i x hx).2) hs
    · have hlt := (List.getElem?_eq_some_iff.1 h4).1
      simp at hlt
      obtain rfl : i = T.length := by omega
      rw [List.getElem?_append_right (by omega)] at h4
      simp at h4
      subst h4
      have e : (fun x => (T.length = T.length ∧ F x) ∨ (T.length < T.length ∧ G T.length x)) = F := by
        funext x
        apply propext
        constructor
        · rintro (⟨_, h6⟩ | ⟨h6, _⟩)
          · exact h6
          · omega
        · exact fun h6 => .inl ⟨rfl, h6⟩
      show t.at_ w' (fun x => (T.length = T.length ∧ F x) ∨ (T.length < T.length ∧ G T.length x))
      rw [e]
      exact ht
  · rcases h4 with ⟨_, h4⟩ | ⟨_, h4⟩
    · have := hf x h4; omega
    · have := h2 i x h4; omega
  · rcases h4 with ⟨h6, h4⟩ | ⟨h6, h4⟩ <;> rcases h5 with ⟨h7, h5⟩ | ⟨h7, h5⟩
    · omega
    · have := hf x h4; have := h2 j x h5; omega
    · have := hf x h5; have := h2 i x h4; omega
    · exact h3 i j x h4 h5
/-- One of them. -/
theorem Sp.get (h : Sp W w T) (i : Nat) (hi : T[i]? = some t) : ∃ F, t.at_ w F ∧ ∀ b, F b → W.heap.size ≤ b ∧ b < w.heap.size := by
  obtain ⟨hb, F, h1, h2, h3⟩ := h
  exact ⟨F i, h1 i t hi, h2 i⟩
/-- One of them has changed, and nothing else. -/
theorem Sp.turn (h : Sp W w T) (i : Nat) (hi : T[i]? = some t) (hc : ∀ F, t.at_ w F → (∀ b, F b → b < w.heap.size) → ∃ F', t'.at_ w' F' ∧ (∀ b, F' b → F b ∨ w.heap.size ≤ b ∧ b < w'.heap.size) ∧ Only F w w') : Sp W w' (T.set i t') := by
  obtain ⟨hb, F, h1, h2, h3⟩ := h
  obtain ⟨F', h4, h5, ho⟩ := hc (F i) (h1 i t hi) (fun b hb => (h2 i b hb).2)
  have hs := ho.size
  have hs0 := hb.size
  have hlt := (List.getElem?_eq_some_iff.1 hi).1
  refine ⟨hb.trans (ho.below hs0 fun x hx => (h2 i x hx).1), fun j => if j = i then F' else F j, fun j u hu => ?_, fun j x hx => ?_, fun j k x hj hk => ?_⟩
  · by_cases e : j = i
    · subst e
      rw [List.getElem?_set_self hlt] at hu
      obtain rfl := Option.some.inj hu
      simp only [if_pos]
      exact h4
    · rw [List.getElem?_set_ne (Ne.symm e)] at hu
      simp only [if_neg e]
      exact u.keep (h1 j u hu) (fun x hx => ho.block x (h2 j x hx).2 (fun hx2 => e (h3 j i x hx hx2))) hs
  · by_cases e : j = i
    · subst e
      simp only [if_pos] at hx
      rcases h5 x hx with h6 | h6
      · have := h2 j x h6; omega
      · omega
    · simp only [if_neg e] at hx
      have := h2 j x hx
      omega
  · dsimp only at hj hk
    by_cases e : j = i
    · by_cases e2 : k = i
      · rw [e, e2]
      · rw [if_pos e] at hj
        rw [if_neg e2] at hk
        rcases h5 x hj with h6 | h6
        · exact absurd (h3 i k x h6 hk) (fun e3 => e2 e3.symm)
        · have := h2 k x hk; omega
    · rw [if_neg e] at hj
      by_cases e2 : k = i
      · rw [if_pos e2] at hk
        rcases h5 x hk with h6 | h6
        · exact absurd (h3 i j x h6 hj) (fun e3 => e e3.symm)
        · have := h2 j x hj; omega
      · rw [if_neg e2] at hk
        exact h3 j k x hj hk
/-- A call that changes one of them. -/
theorem Sp.step {f : FuncId} {args : Array Value} {R : Ending → Prop} (h : Sp W w T) (i : Nat) (hi : T[i]? = some t)
    (hc : ∀ F, t.at_ w F → (∀ b, F b → b < w.heap.size) → Calls Try.prog f args w fun e w' => R e ∧ ∃ F', t'.at_ w' F' ∧ (∀ b, F' b → F b ∨ w.heap.size ≤ b ∧ b < w'.heap.size) ∧ Only F w w') :
    Calls Try.prog f args w fun e w' => R e ∧ Sp W w' (T.set i t') := by
  obtain ⟨hb, F, h1, h2, h3⟩ := h
  have h : Sp W w T := ⟨hb, F, h1, h2, h3⟩
  have hlt := (List.getElem?_eq_some_iff.1 hi).1
  refine (hc (F i) (h1 i t hi) (fun b hb => (h2 i b hb).2)).mono ?_
  rintro e w' ⟨hr, F', h4, h5, ho⟩
  refine ⟨hr, ?_⟩
  have hs := ho.size
  have hs0 := hb.size
  refine ⟨hb.trans (ho.below hs0 fun x hx => (h2 i x hx).1), fun j => if j = i then F' else F j, fun j u hu => ?_, fun j x hx => ?_, fun j k x hj hk => ?_⟩
  · by_cases e : j = i
    · subst e
      rw [List.getElem?_set_self hlt] at hu
      obtain rfl := Option.some.inj hu
      simp only [if_pos]
      exact h4
    · rw [List.getElem?_set_ne (Ne.symm e)] at hu
      simp only [if_neg e]
      exact u.keep (h1 j u hu) (fun x hx => ho.block x (h2 j x hx).2 (fun hx2 => e (h3 j i x hx hx2))) hs
  · by_cases e : j = i
    · subst e
      simp only [if_pos] at hx
      rcases h5 x hx with h6 | h6
      · have := h2 j x h6; omega
      · omega
    · simp only [if_neg e] at hx
      have := h2 j x hx
      omega
  · dsimp only at hj hk
    by_cases e : j = i
    · by_cases e2 : k = i
      · rw [e, e2]
      · rw [if_pos e] at hj
        rw [if_neg e2] at hk
        rcases h5 x hj with h6 | h6
        · exact absurd (h3 i k x h6 hk) (fun e3 => e2 e3.symm)
        · have := h2 k x hk; omega
    · rw [if_neg e] at hj
      by_cases e2 : k = i
      · rw [if_pos e2] at hk
        rcases h5 x hk with h6 | h6
        · exact absurd (h3 i j x h6 hj) (fun e3 => e e3.symm)
        · have := h2 j x hj; omega
      · rw [if_neg e2] at hk
        exact h3 j k x hj hk
/-- Some of them, in another order. -/
theorem Sp.pick (h : Sp W w T) (s : Nat → Nat) (hs : ∀ i j, i < T'.length → j < T'.length → s i = s j → i = j) (hp : ∀ i (t : Thing), T'[i]? = some t → T[s i]? = some t) : Sp W w T' := by
  obtain ⟨hb, F, h1, h2, h3⟩ := h
  refine ⟨hb, fun i x => i < T'.length ∧ F (s i) x, fun i t ht => ?_, fun i x hx => h2 _ x hx.2, fun i j x hi hj => hs i j hi.1 hj.1 (h3 _ _ x hi.2 hj.2)⟩
  have hlt := (List.getElem?_eq_some_iff.1 ht).1
  have e : (fun x => i < T'.length ∧ F (s i) x) = F (s i) := by
    funext x
    exact propext ⟨fun h => h.2, fun h => ⟨hlt, h⟩⟩
  show t.at_ w (fun x => i < T'.length ∧ F (s i) x)
  rw [e]
  exact h1 _ t (hp i t ht)
end
/-- A block that is known whole. -/
def BlkT (b : Nat) (ty : TypeId) (cs : Array Value) : Thing where
  at_ w F := Blk w b ty cs ∧ ∀ x, F x ↔ x = b
  keep h hk _ := ⟨(hk b ((h.2 b).2 rfl)).trans h.1, h.2⟩
/-- A row that grows. -/
def RowT (size : Nat) (v : Value) (n : Nat) (xs : List Value) : Thing where
  at_ w F := Grow w 0 size v n xs ∧ ∀ x, F x ↔ v.ownBlock = some x
  keep h hk hs := ⟨h.1.keep hs fun g hg => hk g ((h.2 g).2 hg), h.2⟩

/-! Packets in memory. -/
def Pk.cells (p : Pk) : List Value := [.int .i64 p.src, .int .i64 p.dst, .string p.body]
abbrev Pk.val (p : Pk) : Value := .agg #[.int .i64 p.src, .int .i64 p.dst, .string p.body]
def pks (l : List Pk) : List Value := l.flatMap Pk.cells
theorem pks_nil : pks [] = [] := rfl
theorem pks_cons (p : Pk) (l : List Pk) : pks (p :: l) = [.int .i64 p.src, .int .i64 p.dst, .string p.body] ++ pks l := rfl
theorem pks_append (a b : List Pk) : pks (a ++ b) = pks a ++ pks b := List.flatMap_append
theorem pks_one (p : Pk) : pks [p] = [.int .i64 p.src, .int .i64 p.dst, .string p.body] := rfl
theorem pks_len (l : List Pk) : (pks l).length = l.length * 3 := by
  induction l with
  | nil => rfl
  | cons p r ih =>
    rw [pks_cons, List.length_append, ih]
    simp
    omega
theorem pks_drop (l : List Pk) (k : Nat) : (pks l).drop (k * 3) = pks (l.drop k) := by
  induction l generalizing k with
  | nil => simp [pks]
  | cons p r ih =>
    cases k with
    | zero => simp
    | succ k =>
      rw [List.drop_succ_cons, ← ih k, pks_cons, show (k + 1) * 3 = 3 + k * 3 from by omega, ← List.drop_drop]
      rfl
theorem pks_take (l : List Pk) (k : Nat) : (pks l).take (k * 3) = pks (l.take k) := by
  induction l generalizing k with
  | nil => simp [pks]
  | cons p r ih =>
    cases k with
    | zero => simp [pks]
    | succ k =>
      rw [List.take_succ_cons, pks_cons, pks_cons, ← ih k, show (k + 1) * 3 = k * 3 + 1 + 1 + 1 from by omega]
      rfl
theorem pks_at {l : List Pk} {i : Nat} {p : Pk} (h : l[i]? = some p) : (pks l)[i * 3]? = some (.int .i64 p.src) ∧ (pks l)[i * 3 + 1]? = some (.int .i64 p.dst) ∧ (pks l)[i * 3 + 2]? = some (.string p.body) := by
  have hlt := (List.getElem?_eq_some_iff.1 h).1
  have e : l.drop i = p :: l.drop (i + 1) := by
    rw [List.drop_eq_getElem_cons hlt]
    congr 1
    exact (List.getElem?_eq_some_iff.1 h).2
  have g : ∀ j, (pks l)[i * 3 + j]? = (pks (p :: l.drop (i + 1)))[j]? := fun j => by rw [← e, ← pks_drop, List.getElem?_drop]
  refine ⟨?_, ?_, ?_⟩
  · have := g 0; rw [Nat.add_zero] at this; rw [this]; rfl
  · rw [g 1]; rfl
  · rw [g 2]; rfl
theorem one_pks (l : List Pk) : ∀ u ∈ pks l, u.oneCell' = true := by
  intro u hu
  obtain ⟨p, _, hu⟩ := List.mem_flatMap.1 hu
  simp [Pk.cells] at hu
  rcases hu with rfl | rfl | rfl <;> rfl
theorem info_pk : (Try.prog.info? 33).map (fun i => (i.zero, i.size, i.bytes)) = some (some (.agg #[.int .i64 0, .int .i64 0, .string ⟨#[]⟩]), 3, 32) := by kernel_rfl
theorem eql_bool (p q : Pk) : (decide (p = q)) = ((p.src == q.src) && ((p.dst == q.dst) && (p.body.toList == q.body.toList))) := by
  obtain ⟨a, b, c⟩ := p
  obtain ⟨d, e, f⟩ := q
  rw [Bool.eq_iff_iff]
  simp only [decide_eq_true_eq, Pk.mk.injEq, Bool.and_eq_true, beq_iff_eq, ByteArray.toList_eq]
  constructor
  · rintro ⟨rfl, rfl, rfl⟩
    exact ⟨rfl, rfl, rfl⟩
  · rintro ⟨rfl, rfl, h⟩
    exact ⟨rfl, rfl, Txt.bl_inj h⟩
theorem und_pk : Try.prog.underlying 33 = some (.struct (Try.prog.fieldsOf 33)) := by kernel_rfl
theorem eql_pk (p q : Pk) (w : World) : (binOp .eql 33 p.val q.val).run Try.prog w = .ok (.bool (decide (p = q))) w := by
  rw [eql_bool]
  by_cases h1 : p.src = q.src <;> by_cases h2 : p.dst = q.dst <;> by_cases h3 : p.body.toList = q.body.toList <;> simp [go_sem, h1, h2, h3]
theorem neq_pk (p q : Pk) (w : World) : (binOp .neq 33 p.val q.val).run Try.prog w = .ok (.bool (!decide (p = q))) w := by
  rw [eql_bool]
  by_cases h1 : p.src = q.src <;> by_cases h2 : p.dst = q.dst <;> by_cases h3 : p.body.toList = q.body.toList <;> simp [go_sem, h1, h2, h3]

/-! Low bits. -/
theorem wrap_low {z : Int} (h0 : 0 ≤ z) (h1 : z < 4294967296) : IntKind.i64.wrap z = z := by
  unfold IntKind.wrap
  have e : z % (2 ^ IntKind.i64.bits : Int) = z := Int.emod_eq_of_lt h0 (by
    have : (2 ^ IntKind.i64.bits : Int) = 18446744073709551616 := by decide
    omega)
  simp only [e]
  have : (2 ^ (IntKind.i64.bits - 1) : Int) = 9223372036854775808 := by decide
  rw [if_neg]
  simp only [this, Bool.and_eq_true, decide_eq_true_eq]
  omega
theorem bits_low (x : Int) (k : Nat) (hk : k ≤ 31) : bits .and .i64 x ((2 ^ k - 1 : Nat) : Int) = x % 2 ^ k := by
  have h2 : 2 ^ k ≤ 2 ^ 31 := Nat.pow_le_pow_right (by omega) hk
  have h31 : 2 ^ 31 = 2147483648 := by decide
  have hp : 0 < 2 ^ k := Nat.two_pow_pos k
  have hx : (0 : Int) ≤ x % 18446744073709551616 ∧ x % 18446744073709551616 < 18446744073709551616 := by omega
  unfold bits
  have e : (BitVec.ofInt IntKind.i64.bits x &&& BitVec.ofInt IntKind.i64.bits ((2 ^ k - 1 : Nat) : Int)).toNat = (x % 18446744073709551616).toNat % 2 ^ k := by
    rw [BitVec.toNat_and]
    have a1 : (BitVec.ofInt IntKind.i64.bits x).toNat = (x % 18446744073709551616).toNat := BitVec.toNat_ofInt ..
    have a2 : (BitVec.ofInt IntKind.i64.bits ((2 ^ k - 1 : Nat) : Int)).toNat = 2 ^ k - 1 := by
      have : (BitVec.ofInt IntKind.i64.bits ((2 ^ k - 1 : Nat) : Int)).toNat = (((2 ^ k - 1 : Nat) : Int) % 18446744073709551616).toNat := BitVec.toNat_ofInt ..
      rw [this]
      omega
    rw [a1, a2, Nat.and_two_pow_sub_one_eq_mod]
  show IntKind.i64.wrap (((BitVec.ofInt IntKind.i64.bits x &&& BitVec.ofInt IntKind.i64.bits ((2 ^ k - 1 : Nat) : Int)).toNat : Nat) : Int) = _
  rw [e]
  have hm := Nat.mod_lt (x % 18446744073709551616).toNat hp
  rw [wrap_low (by omega) (by omega), Int.natCast_emod, Int.toNat_of_nonneg hx.1]
  have hd : (2 ^ k : Int) ∣ 18446744073709551616 := ⟨2 ^ (64 - k), by
    rw [← Int.pow_add, show k + (64 - k) = 64 from by omega]
    decide⟩
  rw [show (((2 ^ k : Nat)) : Int) = (2 ^ k : Int) from by push_cast; rfl]
  exact Int.emod_emod_of_dvd x hd
theorem and1 (x : Int) : bits .and .i64 x 1 = x % 2 := bits_low x 1 (by omega)
theorem and7 (x : Int) : bits .and .i64 x 7 = x % 8 := bits_low x 3 (by omega)
theorem and15 (x : Int) : bits .and .i64 x 15 = x % 16 := bits_low x 4 (by omega)
theorem and65535 (x : Int) : bits .and .i64 x 65535 = x % 65536 := bits_low x 16 (by omega)
end Ntw
end Go.Proofs.Ytmhnifcohkamaaa

/- What holds of every disk stays. Nothing of the program is imported. -/
import Derived.Test.YtgaclibokapfaaaSt
namespace Go.Proofs.Ytgaclibokapfaaa
set_option linter.unusedVariables false
namespace Dsk

theorem mem_addL {l : List (Nat × Nat)} {p q : Nat × Nat} : q ∈ addL l p ↔ q ∈ l ∨ q = p := by
  unfold addL
  split
  · rename_i h
    constructor
    · exact .inl
    · rintro (h1 | rfl)
      · exact h1
      · exact h
  · simp
theorem addL_nd {l : List (Nat × Nat)} {p : Nat × Nat} (h : l.Nodup) : (addL l p).Nodup := by
  unfold addL
  split
  · exact h
  · rename_i hn
    rw [List.nodup_append]
    refine ⟨h, by simp, fun a ha b hb e => ?_⟩
    have : b = p := by simpa using hb
    exact hn (this ▸ e ▸ ha)

theorem St.ok.le {S : St} (h : S.ok) (f : Nat) : S.last.size f ≤ S.now.size f := by
  rcases h.tail f with h1 | h1
  · omega
  · omega

/-! Sectors put into durable parts, many. -/
/-- Is this sector among the first k that are chosen? -/
def among (sel : Nat → Bool) (q : List (Nat × Nat)) (k : Nat) (p : Nat × Nat) : Prop := ∃ j, j < k ∧ sel j = true ∧ q.getD j (0, 0) = p
theorem among_succ {sel : Nat → Bool} {q : List (Nat × Nat)} {k : Nat} {p : Nat × Nat} : among sel q (k + 1) p ↔ among sel q k p ∨ (sel k = true ∧ q.getD k (0, 0) = p) := by
  constructor
  · rintro ⟨j, hj, h1, h2⟩
    by_cases e : j = k
    · subst e
      exact .inr ⟨h1, h2⟩
    · exact .inl ⟨j, by omega, h1, h2⟩
  · rintro (⟨j, hj, h1, h2⟩ | ⟨h1, h2⟩)
    · exact ⟨j, by omega, h1, h2⟩
    · exact ⟨k, by omega, h1, h2⟩
theorem among_all {q : List (Nat × Nat)} {p : Nat × Nat} : among (fun _ => true) q q.length p ↔ p ∈ q := by
  constructor
  · rintro ⟨j, hj, _, h2⟩
    rw [List.getD_eq_getElem?_getD, List.getElem?_eq_getElem hj] at h2
    exact h2 ▸ List.getElem_mem hj
  · intro h
    obtain ⟨j, hj, rfl⟩ := List.getElem_of_mem h
    exact ⟨j, hj, rfl, by rw [List.getD_eq_getElem?_getD, List.getElem?_eq_getElem hj]; rfl⟩
theorem among_mem {sel : Nat → Bool} {q : List (Nat × Nat)} {k : Nat} {p : Nat × Nat} (h : among sel q k p) (hk : k ≤ q.length) : p ∈ q := by
  obtain ⟨j, hj, _, h2⟩ := h
  have hj' : j < q.length := by omega
  rw [List.getD_eq_getElem?_getD, List.getElem?_eq_getElem hj'] at h2
  exact h2 ▸ List.getElem_mem hj'

section
variable {now L : Con} {sel : Nat → Bool} {q : List (Nat × Nat)}
theorem hard_le {p : Nat × Nat} (hle : ∀ f, L.size f ≤ now.size f) (f : Nat) : (hard now p L).size f ≤ now.size f := by
  rw [hard_size]
  have := hle f
  split <;> omega
theorem hard_ge {p : Nat × Nat} (f : Nat) : L.size f ≤ (hard now p L).size f := by
  rw [hard_size]
  split <;> omega
theorem hardK_le (hle : ∀ f, L.size f ≤ now.size f) : ∀ (k f : Nat), (hardK now sel q L k).size f ≤ now.size f
  | 0, f => hle f
  | k + 1, f => by
    unfold hardK
    split
    · exact hard_le (hardK_le hle k) f
    · exact hardK_le hle k f
theorem hardK_ge : ∀ (k f : Nat), L.size f ≤ (hardK now sel q L k).size f
  | 0, f => Nat.le_refl _
  | k + 1, f => by
    unfold hardK
    split
    · exact Nat.le_trans (hardK_ge k f) (hard_ge f)
    · exact hardK_ge k f
theorem hardK_among (hle : ∀ f, L.size f ≤ now.size f) {f s : Nat} (hs : 64 * s < now.size f) : ∀ k, among sel q k (f, s) → min (64 * s + 64) (now.size f) ≤ (hardK now sel q L k).size f
  | 0, h => by obtain ⟨j, hj, _⟩ := h; omega
  | k + 1, h => by
    unfold hardK
    rcases among_succ.1 h with h1 | ⟨h1, h2⟩
    · have := hardK_among hle hs k h1
      split
      · exact Nat.le_trans this (hard_ge f)
      · exact this
    · rw [if_pos h1, hard_size, h2, if_pos ⟨rfl, hs⟩]
      omega
open Classical in
theorem hardK_byte (hn : now.ok) (hL : L.ok) (hle : ∀ f, L.size f ≤ now.size f) (f i : Nat) : ∀ k, (hardK now sel q L k).byte f i = if among sel q k (f, i / 64) then now.byte f i else L.byte f i
  | 0 => by rw [if_neg]; rfl; rintro ⟨j, hj, _⟩; omega
  | k + 1 => by
    have ih := hardK_byte hn hL hle f i k
    unfold hardK
    by_cases hs : sel k = true
    · rw [if_pos hs, hard_byte hn (hardK_ok hn hL k) (hardK_le hle k _), ih]
      by_cases h1 : (f, i / 64) = q.getD k (0, 0)
      · rw [if_pos h1, if_pos (among_succ.2 (.inr ⟨hs, h1.symm⟩))]
      · rw [if_neg h1]
        by_cases h2 : among sel q k (f, i / 64)
        · rw [if_pos h2, if_pos (among_succ.2 (.inl h2))]
        · rw [if_neg h2, if_neg]
          intro h3
          rcases among_succ.1 h3 with h4 | ⟨_, h4⟩
          · exact h2 h4
          · exact h1 h4.symm
    · rw [if_neg hs, ih]
      by_cases h2 : among sel q k (f, i / 64)
      · rw [if_pos h2, if_pos (among_succ.2 (.inl h2))]
      · rw [if_neg h2, if_neg]
        intro h3
        rcases among_succ.1 h3 with h4 | ⟨h4, _⟩
        · exact h2 h4
        · exact hs h4
theorem hardK_size_other {f : Nat} (h : ∀ p ∈ q, p.1 ≠ f) : ∀ k, k ≤ q.length → (hardK now sel q L k).size f = L.size f
  | 0, _ => rfl
  | k + 1, hk => by
    have ih := hardK_size_other h k (by omega)
    unfold hardK
    split
    · rw [hard_size, if_neg, ih]
      rintro ⟨e, _⟩
      have hk' : k < q.length := by omega
      rw [List.getD_eq_getElem?_getD, List.getElem?_eq_getElem hk'] at e
      exact h _ (List.getElem_mem hk') e.symm
    · exact ih
end

section
variable {S : St}
theorem St.new_ok : St.new.ok := ⟨Con.none_ok, Con.none_ok, (fun p hp => by cases hp), List.nodup_nil, fun f i _ => rfl, fun f => .inl rfl, ⟨by decide, by decide⟩, ⟨by decide, by decide⟩, by decide⟩

theorem mem_isF {f : Nat} {p : Nat × Nat} : p ∈ S.queue.filter (isF' f) ↔ p ∈ S.queue ∧ p.1 = f := by rw [List.mem_filter]; simp
theorem mem_noF {f : Nat} {p : Nat × Nat} : p ∈ S.queue.filter (noF f) ↔ p ∈ S.queue ∧ p.1 ≠ f := by rw [List.mem_filter]; simp

open Classical in
/-- What is durable in a file that was settled is the file. -/
theorem St.ok.settle_last (h : S.ok) (f g i : Nat) : (S.settle f).last.byte g i = if g = f then S.now.byte g i else S.last.byte g i := by
  show (hardK S.now _ (S.queue.filter (isF' f)) S.last (S.queue.filter (isF' f)).length).byte g i = _
  rw [hardK_byte h.now h.last h.le]
  by_cases hg : g = f
  · subst hg
    rw [if_pos rfl]
    by_cases hm : (g, i / 64) ∈ S.queue
    · rw [if_pos (among_all.2 (mem_isF.2 ⟨hm, rfl⟩))]
    · rw [if_neg, h.same g i hm]
      intro h1
      exact hm (mem_isF.1 (among_all.1 h1)).1
  · rw [if_neg hg, if_neg]
    intro h1
    exact hg (mem_isF.1 (among_all.1 h1)).2
theorem St.ok.settle_size (h : S.ok) (f g : Nat) : (S.settle f).last.size g = if g = f then S.now.size g else S.last.size g := by
  show (hardK S.now _ (S.queue.filter (isF' f)) S.last (S.queue.filter (isF' f)).length).size g = _
  by_cases hg : g = f
  · subst hg
    rw [if_pos rfl]
    have h1 := hardK_le (sel := fun _ => true) (q := S.queue.filter (isF' g)) h.le (S.queue.filter (isF' g)).length g
    have h2 := hardK_ge (now := S.now) (sel := fun _ => true) (q := S.queue.filter (isF' g)) (L := S.last) (S.queue.filter (isF' g)).length g
    rcases h.tail g with h3 | ⟨h3, h4⟩
    · omega
    · have h5 := hardK_among (sel := fun _ => true) (q := S.queue.filter (isF' g)) h.le (by omega : 64 * ((S.now.size g - 1) / 64) < S.now.size g) _ (among_all.2 (mem_isF.2 ⟨h4, rfl⟩))
      omega
  · rw [if_neg hg]
    exact hardK_size_other (fun p hp e => hg (e.symm.trans (mem_isF.1 hp).2)) _ (Nat.le_refl _)

theorem St.ok.settle (h : S.ok) (f : Nat) : (S.settle f).ok := by
  refine ⟨h.now, hardK_ok h.now h.last _, fun p hp => h.inq p (mem_noF.1 hp).1, h.nodup.filter _, fun g i hm => ?_, fun g => ?_, h.lost, h.calls, h.keep⟩
  · rw [h.settle_last]
    by_cases hg : g = f
    · rw [if_pos hg]
      rfl
    · rw [if_neg hg]
      exact h.same g i fun h1 => hm (mem_noF.2 ⟨h1, hg⟩)
  · rw [h.settle_size]
    by_cases hg : g = f
    · rw [if_pos hg]
      exact .inl rfl
    · rw [if_neg hg]
      rcases h.tail g with h1 | ⟨h1, h2⟩
      · exact .inl h1
      · exact .inr ⟨h1, mem_noF.2 ⟨h2, hg⟩⟩

theorem St.ok.dead_ok (h : S.ok) (ks : List Int) : (S.dead ks).ok := hardK_ok h.now h.last _
theorem St.ok.crash (h : S.ok) (ks : List Int) : (S.crash ks).ok := by
  unfold St.crash
  split
  · exact h
  · exact ⟨h.dead_ok ks, h.dead_ok ks, fun p hp => (by cases hp), List.nodup_nil, fun f i _ => rfl, fun f => .inl rfl, h.lost, ⟨Int.le_refl _, by show (0 : Int) ≤ _; omega⟩, Nat.zero_le _⟩
theorem St.ok.lose (h : S.ok) {n : Int} (hn : n ≤ 9223372036854775807) : (S.lose n).ok := ⟨h.now, h.last, h.inq, h.nodup, h.same, h.tail, by show 0 ≤ max n 0 ∧ max n 0 ≤ _; omega, h.calls, h.keep⟩
theorem St.ok.arm (h : S.ok) {n : Int} {ks : List Int} (hn : n ≤ 9223372036854775807) (hk : ks.length ≤ 1000000000) : (S.arm n ks).ok := ⟨h.now, h.last, h.inq, h.nodup, h.same, h.tail, h.lost, by show 0 ≤ max n 0 ∧ max n 0 ≤ _; omega, hk⟩
theorem St.ok.start (h : S.ok) : S.start.ok := ⟨h.now, h.last, h.inq, h.nodup, h.same, h.tail, h.lost, h.calls, h.keep⟩
theorem St.ok.calls' (h : S.ok) {c : Int} (hc : 0 ≤ c ∧ c ≤ 9223372036854775807) : ({ S with calls := c } : St).ok := ⟨h.now, h.last, h.inq, h.nodup, h.same, h.tail, h.lost, hc, h.keep⟩
theorem St.ok.lost' (h : S.ok) {c : Int} (hc : 0 ≤ c ∧ c ≤ 9223372036854775807) : ({ S with lost := c } : St).ok := ⟨h.now, h.last, h.inq, h.nodup, h.same, h.tail, hc, h.calls, h.keep⟩
theorem St.ok.count (h : S.ok) : S.count.ok := by
  unfold St.count
  split
  · exact h
  · rename_i h1
    simp at h1
    have := h.calls
    split
    · exact (h.calls' ⟨by decide, by decide⟩).crash _
    · exact h.calls' (by omega)
theorem St.ok.trunc (h : S.ok) {f n : Nat} (hn : n ≤ S.now.size f) : (S.trunc f n).ok := by
  have k := h.settle f
  have hs := h.settle_size f f
  rw [if_pos rfl] at hs
  refine ⟨Con.cut_ok k.now hn, Con.cut_ok k.last (by rw [hs]; exact hn), fun p hp => ?_, k.nodup, fun g i hm => ?_, fun g => ?_, h.lost, h.calls, h.keep⟩
  · have h1 := k.inq p hp
    have h2 := (mem_noF.1 hp).2
    refine ⟨h1.1, ?_⟩
    show 64 * p.2 < if p.1 = f then n else _
    rw [if_neg h2]
    exact h1.2
  · show (if g = f ∧ n ≤ i then 0 else (S.settle f).now.byte g i) = if g = f ∧ n ≤ i then 0 else (S.settle f).last.byte g i
    split
    · rfl
    · exact k.same g i hm
  · show (if g = f then n else (S.settle f).last.size g) = (if g = f then n else (S.settle f).now.size g) ∨ _
    by_cases hg : g = f
    · rw [if_pos hg, if_pos hg]
      exact .inl rfl
    · rw [if_neg hg, if_neg hg]
      rcases k.tail g with h1 | ⟨h1, h2⟩
      · exact .inl h1
      · refine .inr ⟨?_, ?_⟩
        · show (if g = f then n else (S.settle f).last.size g) < if g = f then n else (S.settle f).now.size g
          rw [if_neg hg, if_neg hg]
          exact h1
        · show (g, ((if g = f then n else (S.settle f).now.size g) - 1) / 64) ∈ _
          rw [if_neg hg]
          exact h2

/-- One sector's bytes written. -/
theorem St.ok.chunk (h : S.ok) {f a : Nat} {l : List UInt8} (hf : f < 16) (hl : 0 < l.length) (hs : a % 64 + l.length ≤ 64) (hr : a + l.length ≤ 16777216) : ({ S with now := S.now.put f a l, queue := addL S.queue (f, a / 64) } : St).ok := by
  have hne : l ≠ [] := fun e => by rw [e] at hl; simp at hl
  have hsz : ∀ g, (S.now.put f a l).size g = if g = f then max (S.now.size g) (a + l.length) else S.now.size g := Con.put_size _ _ _ _ hne
  refine ⟨Con.put_ok h.now hr, h.last, fun p hp => ?_, addL_nd h.nodup, fun g i hm => ?_, fun g => ?_, h.lost, h.calls, h.keep⟩
  · show p.1 < 16 ∧ 64 * p.2 < (S.now.put f a l).size p.1
    rw [hsz]
    rcases mem_addL.1 hp with h1 | rfl
    · have := h.inq p h1
      refine ⟨this.1, ?_⟩
      split <;> omega
    · refine ⟨hf, ?_⟩
      rw [if_pos rfl]
      show 64 * (a / 64) < _
      omega
  · have h1 : (g, i / 64) ∉ S.queue := fun h2 => hm (mem_addL.2 (.inl h2))
    have h2 : (g, i / 64) ≠ (f, a / 64) := fun h3 => hm (mem_addL.2 (.inr h3))
    show (S.now.put f a l).byte g i = _
    rw [Con.put_byte, if_neg, h.same g i h1]
    rintro ⟨rfl, h3, h4⟩
    exact h2 (Prod.ext rfl (by show i / 64 = a / 64; omega))
  · show S.last.size g = (S.now.put f a l).size g ∨ (S.last.size g < (S.now.put f a l).size g ∧ (g, ((S.now.put f a l).size g - 1) / 64) ∈ addL S.queue (f, a / 64))
    rw [hsz]
    by_cases hg : g = f
    · subst hg
      rw [if_pos rfl]
      by_cases hm : a + l.length ≤ S.now.size g
      · rw [Nat.max_eq_left hm]
        rcases h.tail g with h1 | ⟨h1, h2⟩
        · exact .inl h1
        · exact .inr ⟨h1, mem_addL.2 (.inl h2)⟩
      · rw [Nat.max_eq_right (by omega)]
        have := h.le g
        refine .inr ⟨by omega, mem_addL.2 (.inr (Prod.ext rfl ?_))⟩
        show (a + l.length - 1) / 64 = a / 64
        omega
    · rw [if_neg hg]
      rcases h.tail g with h1 | ⟨h1, h2⟩
      · exact .inl h1
      · exact .inr ⟨h1, mem_addL.2 (.inl h2)⟩
theorem St.ok.writeF : ∀ (k : Nat) {S : St}, S.ok → ∀ {f a : Nat} {l : List UInt8}, f < 16 → a + l.length ≤ 16777216 → (S.writeF k f a l).ok
  | 0, S, h, f, a, l, hf, hr => h
  | k + 1, S, h, f, a, l, hf, hr => by
    unfold St.writeF
    split
    · exact h
    · rename_i hl
      have hp : 0 < l.length := List.length_pos_iff.2 hl
      have h1 : (l.take (64 - a % 64)).length = min (64 - a % 64) l.length := List.length_take
      have h2 : (l.drop (64 - a % 64)).length = l.length - (64 - a % 64) := List.length_drop
      exact (h.chunk hf (by omega) (by omega) (by omega)).writeF k hf (by omega)
theorem St.ok.write (h : S.ok) {f a : Nat} {l : List UInt8} (hf : f < 16) (hr : a + l.length ≤ 16777216) : (S.write f a l).ok := h.writeF _ hf hr

theorem errW_ok {f a : Int} {n : Nat} (h : S.errW f a n = 0) : S.down = false ∧ isF f = true ∧ 0 ≤ a ∧ a + n ≤ 16777216 := by
  unfold St.errW at h
  cases hd : S.down with
  | true => rw [hd] at h; simp at h
  | false =>
    rw [hd] at h
    cases hf : isF f with
    | false => rw [hf] at h; simp at h
    | true =>
      rw [hf] at h
      by_cases ha : a < 0
      · simp [ha] at h
      · simp [ha] at h
        exact ⟨rfl, rfl, by omega, by omega⟩
theorem St.ok.Write (h : S.ok) (f a : Int) (l : List UInt8) : (S.Write f a l).1.ok := by
  unfold St.Write
  refine St.ok.count ?_
  split
  · rename_i he
    obtain ⟨h1, h2, h3, h4⟩ := errW_ok he
    have := isF_nat h2
    exact h.write this.2.2.1 (by omega)
  · exact h
theorem St.ok.Sync (h : S.ok) (f : Int) : (S.Sync f).1.ok := by
  have k := h.count
  unfold St.Sync
  split
  · exact k
  · split
    · exact k
    · split
      · exact k.lost' (by have := k.lost; omega)
      · exact k.settle _
theorem St.ok.Trunc (h : S.ok) (f n : Int) : (S.Trunc f n).1.ok := by
  have k := h.count
  unfold St.Trunc
  split
  · exact k
  · split
    · exact k
    · rename_i h1
      simp at h1
      exact k.trunc (by omega)
end
end Dsk
end Go.Proofs.Ytgaclibokapfaaa

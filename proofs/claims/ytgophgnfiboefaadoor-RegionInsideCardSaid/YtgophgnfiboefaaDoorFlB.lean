/- Breadth first, plainly: least lengths of walks; a queue finds them. Nothing of the program is imported. -/
namespace Go.Proofs.YtgophgnfiboefaaDoor
namespace Flo

/-- What a list says of a node. -/
abbrev gt (out : List Int) (c : Nat) : Int := out.getD c (-1)
section
variable {N : Nat} {src : Nat → Prop} {E : Nat → Nat → Prop} {out a b : List Int} {q : List Nat} {c n i : Nat}
theorem gt_set (h : n < out.length) (v : Int) (c : Nat) : gt (out.set n v) c = if c = n then v else gt out c := by
  unfold gt
  rw [List.getD_eq_getElem?_getD, List.getD_eq_getElem?_getD, List.getElem?_set]
  by_cases e : n = c
  · rw [if_pos e, if_pos e.symm, if_pos (by omega)]
    rfl
  · rw [if_neg e, if_neg (Ne.symm e)]
theorem gt_of (h : c < out.length) : out[c]? = some (gt out c) := by
  unfold gt
  rw [List.getD_eq_getElem?_getD, List.getElem?_eq_getElem h]
  rfl

inductive Walk (src : Nat → Prop) (E : Nat → Nat → Prop) : Nat → Nat → Prop
  | src {c : Nat} : src c → Walk src E 0 c
  | step {k c n : Nat} : Walk src E k c → E c n → Walk src E (k + 1) n
/-- The list holds the least lengths; -1, where there is no walk. -/
structure IsDist (N : Nat) (src : Nat → Prop) (E : Nat → Nat → Prop) (out : List Int) : Prop where
  len : out.length = N
  none_ : ∀ c, c < N → gt out c = -1 → ∀ k, ¬ Walk src E k c
  some_ : ∀ c, c < N → gt out c ≠ -1 → ∃ k : Nat, gt out c = k ∧ Walk src E k c ∧ ∀ j, j < k → ¬ Walk src E j c
theorem IsDist.unique (ha : IsDist N src E a) (hb : IsDist N src E b) : a = b := by
  have hg : ∀ c, c < N → gt a c = gt b c := by
    intro c hc
    by_cases ea : gt a c = -1
    · by_cases eb : gt b c = -1
      · rw [ea, eb]
      · obtain ⟨k, _, hw, _⟩ := hb.some_ c hc eb
        exact absurd hw (ha.none_ c hc ea k)
    · obtain ⟨k, h1, hw, hl⟩ := ha.some_ c hc ea
      by_cases eb : gt b c = -1
      · exact absurd hw (hb.none_ c hc eb k)
      · obtain ⟨k', h1', hw', hl'⟩ := hb.some_ c hc eb
        have : k = k' := by
          rcases Nat.lt_trichotomy k k' with h | h | h
          · exact absurd hw (hl' k h)
          · exact h
          · exact absurd hw' (hl k' h)
        rw [h1, h1', this]
  refine List.ext_getElem? fun c => ?_
  by_cases hc : c < N
  · rw [gt_of (by rw [ha.len]; exact hc), gt_of (by rw [hb.len]; exact hc), hg c hc]
  · rw [List.getElem?_eq_none (by rw [ha.len]; omega), List.getElem?_eq_none (by rw [hb.len]; omega)]

/-- A queue of nodes, and what is said of them. -/
structure Bfs (N : Nat) (src : Nat → Prop) (E : Nat → Nat → Prop) (out : List Int) (q : List Nat) (i : Nat) : Prop where
  len : out.length = N
  lt : ∀ c ∈ q, c < N
  nodup : q.Nodup
  neg : ∀ c, c ∉ q → gt out c = -1
  walk : ∀ c ∈ q, ∃ k : Nat, gt out c = k ∧ Walk src E k c
  srcs : ∀ c, src c → c ∈ q ∧ gt out c = 0
  mono : ∀ (j j' c c' : Nat), j ≤ j' → q[j]? = some c → q[j']? = some c' → gt out c ≤ gt out c'
  near : ∀ (c j c' : Nat), q[i]? = some c → q[j]? = some c' → gt out c' ≤ gt out c + 1
  done : ∀ (j c n : Nat), j < i → q[j]? = some c → E c n → n ∈ q ∧ gt out n ≤ gt out c + 1
  idx : ∀ (j c : Nat), q[j]? = some c → gt out c ≤ j
theorem nodup_len : ∀ {q : List Nat} {N : Nat}, q.Nodup → (∀ c ∈ q, c < N) → q.length ≤ N
  | q, 0, hn, hl => by
    cases q with
    | nil => exact Nat.le_refl _
    | cons c r => exact absurd (hl c (List.mem_cons_self ..)) (by omega)
  | q, N + 1, hn, hl => by
    have h1 := nodup_len (q := q.erase N) (N := N) (hn.erase N) (fun c hc => by
      have h2 := hl c (List.mem_of_mem_erase hc)
      have h3 : c ≠ N := fun e => by
        rw [e] at hc
        exact (List.Nodup.mem_erase_iff hn).1 hc |>.1 rfl
      omega)
    rw [List.length_erase] at h1
    split at h1 <;> omega
theorem Bfs.len_le (h : Bfs N src E out q i) : q.length ≤ N := nodup_len h.nodup h.lt
theorem Bfs.mem_iff (h : Bfs N src E out q i) : c ∈ q ↔ 0 ≤ gt out c := by
  constructor
  · intro hc
    obtain ⟨k, h1, _⟩ := h.walk c hc
    omega
  · intro hc
    apply Classical.byContradiction
    intro e
    have := h.neg c e
    omega
/-- The next one in the queue has a neighbour that is not in it. -/
theorem Bfs.visit (h : Bfs N src E out q i) (hc : q[i]? = some c) (he : E c n) (hn : n < N) (hf : gt out n < 0) :
    Bfs N src E (out.set n (gt out c + 1)) (q ++ [n]) i ∧ gt (out.set n (gt out c + 1)) n = gt out c + 1 ∧ ∀ m ∈ q, gt (out.set n (gt out c + 1)) m = gt out m := by
  have hcq : c ∈ q := List.mem_of_getElem? hc
  have hnq : n ∉ q := fun e => by have := h.mem_iff.1 e; omega
  have hcn : c ≠ n := fun e => hnq (e ▸ hcq)
  have hil := (List.getElem?_eq_some_iff.1 hc).1
  have hs := gt_set (out := out) (n := n) (by rw [h.len]; exact hn) (gt out c + 1)
  have hself : gt (out.set n (gt out c + 1)) n = gt out c + 1 := by rw [hs, if_pos rfl]
  have hold : ∀ m, m ≠ n → gt (out.set n (gt out c + 1)) m = gt out m := fun m hm => by rw [hs, if_neg hm]
  have holdq : ∀ m ∈ q, gt (out.set n (gt out c + 1)) m = gt out m := fun m hm => hold m (fun e => hnq (e ▸ hm))
  have at_ : ∀ j x, (q ++ [n])[j]? = some x → q[j]? = some x ∨ (j = q.length ∧ x = n) := fun j x hx => by
    rcases Nat.lt_or_ge j q.length with hj | hj
    · rw [List.getElem?_append_left hj] at hx
      exact .inl hx
    · have hlt := (List.getElem?_eq_some_iff.1 hx).1
      simp at hlt
      obtain rfl : j = q.length := by omega
      rw [List.getElem?_append_right (by omega)] at hx
      simp at hx
      exact .inr ⟨rfl, hx.symm⟩
  have hiq : (q ++ [n])[i]? = some c := by rw [List.getElem?_append_left hil]; exact hc
  refine ⟨⟨by rw [List.length_set]; exact h.len, fun m hm => ?_, ?_, fun m hm => ?_, fun m hm => ?_, fun m hm => ?_, fun j j' x x' hj hx hx' => ?_, fun x j x' hx hx' => ?_, fun j x m hj hx hm => ?_, fun j x hx => ?_⟩, hself, holdq⟩
  · rcases List.mem_append.1 hm with h1 | h1
    · exact h.lt m h1
    · rw [List.mem_singleton.1 h1]; exact hn
  · exact List.nodup_append.2 ⟨h.nodup, by simp, fun x hx y hy e => by
      rw [List.mem_singleton.1 hy] at e
      exact hnq (e ▸ hx)⟩
  · have h1 : m ∉ q := fun e => hm (List.mem_append_left _ e)
    have h2 : m ≠ n := fun e => hm (List.mem_append_right _ (by simp [e]))
    rw [hold m h2]
    exact h.neg m h1
  · rcases List.mem_append.1 hm with h1 | h1
    · rw [holdq m h1]
      exact h.walk m h1
    · rw [List.mem_singleton.1 h1, hself]
      obtain ⟨k, h2, h3⟩ := h.walk c hcq
      exact ⟨k + 1, by rw [h2]; omega, .step h3 he⟩
  · obtain ⟨h1, h2⟩ := h.srcs m hm
    exact ⟨List.mem_append_left _ h1, by rw [holdq m h1]; exact h2⟩
  · rcases at_ j x hx with h1 | ⟨h1, h1'⟩ <;> rcases at_ j' x' hx' with h2 | ⟨h2, h2'⟩
    · rw [holdq x (List.mem_of_getElem? h1), holdq x' (List.mem_of_getElem? h2)]
      exact h.mono j j' x x' hj h1 h2
    · rw [holdq x (List.mem_of_getElem? h1), h2', hself]
      exact h.near c j x hc h1
    · have := (List.getElem?_eq_some_iff.1 h2).1
      omega
    · rw [h1', h2']
      exact Int.le_refl _
  · rw [hiq] at hx
    obtain rfl := Option.some.inj hx
    rw [holdq c hcq]
    rcases at_ j x' hx' with h1 | ⟨_, h1'⟩
    · rw [holdq x' (List.mem_of_getElem? h1)]
      exact h.near c j x' hc h1
    · rw [h1', hself]
      exact Int.le_refl _
  · rcases at_ j x hx with h1 | ⟨h1, _⟩
    · obtain ⟨h2, h3⟩ := h.done j x m hj h1 hm
      exact ⟨List.mem_append_left _ h2, by rw [holdq m h2, holdq x (List.mem_of_getElem? h1)]; exact h3⟩
    · omega
  · rcases at_ j x hx with h1 | ⟨h1, h1'⟩
    · rw [holdq x (List.mem_of_getElem? h1)]
      exact h.idx j x h1
    · rw [h1', hself]
      have := h.idx i c hc
      omega
/-- All neighbours of the next one are in the queue. -/
theorem Bfs.next (h : Bfs N src E out q i) (hc : q[i]? = some c) (hd : ∀ n, E c n → 0 ≤ gt out n) : Bfs N src E out q (i + 1) := by
  have hcq : c ∈ q := List.mem_of_getElem? hc
  refine { h with near := fun x j x' hx hx' => ?_, done := fun j x m hj hx hm => ?_ }
  · have h1 := h.near c j x' hc hx'
    have h2 := h.mono i (i + 1) c x (by omega) hc hx
    omega
  · by_cases e : j = i
    · subst e
      rw [hc] at hx
      obtain rfl := Option.some.inj hx
      have hmq := h.mem_iff.2 (hd m hm)
      obtain ⟨j', hj'⟩ := List.getElem?_of_mem hmq
      exact ⟨hmq, h.near c j' m hc hj'⟩
    · exact h.done j x m (by omega) hx hm
/-- The queue is done. -/
theorem Bfs.dist (h : Bfs N src E out q i) (hi : q.length ≤ i) : IsDist N src E out := by
  have reach : ∀ k c, Walk src E k c → c ∈ q ∧ gt out c ≤ k := by
    intro k c hw
    induction hw with
    | src hs =>
      obtain ⟨h1, h2⟩ := h.srcs _ hs
      exact ⟨h1, by omega⟩
    | step _ he ih =>
      obtain ⟨h1, h2⟩ := ih
      obtain ⟨j, hj⟩ := List.getElem?_of_mem h1
      have hjl := (List.getElem?_eq_some_iff.1 hj).1
      obtain ⟨h3, h4⟩ := h.done j _ _ (by omega) hj he
      exact ⟨h3, by push_cast; omega⟩
  refine ⟨h.len, fun c hc e k hw => ?_, fun c hc e => ?_⟩
  · have := h.mem_iff.1 (reach k c hw).1
    omega
  · have hq : c ∈ q := Classical.byContradiction fun e2 => e (h.neg c e2)
    obtain ⟨k, h1, h2⟩ := h.walk c hq
    exact ⟨k, h1, h2, fun j hj hw => by have := (reach j c hw).2; omega⟩

/-- The queue's beginning. -/
structure Srcs (N : Nat) (src : Nat → Prop) (out : List Int) (q : List Nat) : Prop where
  len : out.length = N
  lt : ∀ c ∈ q, c < N
  nodup : q.Nodup
  neg : ∀ c, c ∉ q → gt out c = -1
  zero : ∀ c ∈ q, gt out c = 0
  src : ∀ c ∈ q, src c
theorem Srcs.nil (N : Nat) : Srcs N src (List.replicate N (-1)) [] := by
  refine ⟨List.length_replicate, fun c h => (by cases h), List.nodup_nil, fun c _ => ?_, fun c h => (by cases h), fun c h => (by cases h)⟩
  unfold gt
  rw [List.getD_eq_getElem?_getD, List.getElem?_replicate]
  split <;> rfl
theorem Srcs.add (h : Srcs N src out q) (hs : src c) (hc : c < N) (hf : gt out c < 0) : Srcs N src (out.set c 0) (q ++ [c]) := by
  have hcq : c ∉ q := fun e => by have := h.zero c e; omega
  have hs2 := gt_set (out := out) (n := c) (by rw [h.len]; exact hc) 0
  refine ⟨by rw [List.length_set]; exact h.len, fun m hm => ?_, ?_, fun m hm => ?_, fun m hm => ?_, fun m hm => ?_⟩
  · rcases List.mem_append.1 hm with h1 | h1
    · exact h.lt m h1
    · rw [List.mem_singleton.1 h1]; exact hc
  · exact List.nodup_append.2 ⟨h.nodup, by simp, fun x hx y hy e => by
      rw [List.mem_singleton.1 hy] at e
      exact hcq (e ▸ hx)⟩
  · rw [hs2, if_neg (fun e => hm (List.mem_append_right _ (by simp [e])))]
    exact h.neg m (fun e => hm (List.mem_append_left _ e))
  · rw [hs2]
    by_cases e : m = c
    · rw [if_pos e]
    · rw [if_neg e]
      rcases List.mem_append.1 hm with h1 | h1
      · exact h.zero m h1
      · exact absurd (List.mem_singleton.1 h1) e
  · rcases List.mem_append.1 hm with h1 | h1
    · exact h.src m h1
    · rw [List.mem_singleton.1 h1]; exact hs
theorem Srcs.has (h : Srcs N src out q) (hf : ¬ gt out c < 0) : c ∈ q := by
  apply Classical.byContradiction
  intro e
  have := h.neg c e
  omega
theorem Srcs.start (h : Srcs N src out q) (hall : ∀ c, src c → c ∈ q) : Bfs N src E out q 0 :=
  ⟨h.len, h.lt, h.nodup, h.neg, fun c hc => ⟨0, h.zero c hc, .src (h.src c hc)⟩, fun c hc => ⟨hall c hc, h.zero c (hall c hc)⟩,
    fun j j' c c' _ h1 h2 => by rw [h.zero c (List.mem_of_getElem? h1), h.zero c' (List.mem_of_getElem? h2)]; exact Int.le_refl _,
    fun c j c' h1 h2 => by rw [h.zero c (List.mem_of_getElem? h1), h.zero c' (List.mem_of_getElem? h2)]; decide,
    fun j c n hj => (by omega), fun j c hc => by rw [h.zero c (List.mem_of_getElem? hc)]; omega⟩
end
end Flo
end Go.Proofs.YtgophgnfiboefaaDoor

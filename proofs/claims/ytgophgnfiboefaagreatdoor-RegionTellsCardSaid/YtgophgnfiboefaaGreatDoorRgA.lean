/- Parts of a graph, plainly: ways, parts, a search that goes as deep as it can, and why two of them find the parts. Nothing of the program is imported. -/
namespace Go.Proofs.YtgophgnfiboefaaGreatDoor
namespace Rgn

/-- One gets from x to y; all later nodes have P. -/
inductive Rch (E : Nat → Nat → Prop) (P : Nat → Prop) (x : Nat) : Nat → Prop
  | refl : Rch E P x x
  | step {y z : Nat} : Rch E P x y → E y z → P z → Rch E P x z
section
variable {E E' : Nat → Nat → Prop} {P P' : Nat → Prop} {x y z c : Nat}
theorem Rch.trans (h : Rch E P x y) (k : Rch E P y z) : Rch E P x z := by
  induction k with
  | refl => exact h
  | step _ e p ih => exact ih.step e p
theorem Rch.mono (h : Rch E P x y) (hE : ∀ a b, E a b → E' a b) (hP : ∀ a, P a → P' a) : Rch E' P' x y := by
  induction h with
  | refl => exact .refl
  | step _ e p ih => exact ih.step (hE _ _ e) (hP _ p)
theorem Rch.head (e : E x y) (p : P y) (h : Rch E P y z) : Rch E P x z := (Rch.step .refl e p).trans h
/-- The end has P, if the beginning has. -/
theorem Rch.last (h : Rch E P x y) (hx : P x) : P y := by
  cases h with
  | refl => exact hx
  | step _ _ p => exact p
/-- Backwards. -/
theorem Rch.rev (h : Rch E P x y) (hx : P x) : Rch (fun a b => E b a) P y x := by
  induction h with
  | refl => exact .refl
  | step k e p ih => exact Rch.head e (k.last hx) ih
theorem Rch.unrev (h : Rch (fun a b => E b a) P x y) (hx : P x) : Rch E P y x := h.rev hx

/-- Lists that are in order are one, if they have the same elements. -/
theorem pw_unique {α : Type} {R : α → α → Prop} (ha : ∀ a b, R a b → ¬ R b a) : ∀ {l m : List α}, l.Pairwise R → m.Pairwise R → (∀ a, a ∈ l ↔ a ∈ m) → l = m
  | [], [], _, _, _ => rfl
  | [], b :: m, _, _, h => by have := (h b).2 (List.mem_cons_self ..); simp at this
  | a :: l, [], _, _, h => by have := (h a).1 (List.mem_cons_self ..); simp at this
  | a :: l, b :: m, hl, hm, h => by
    rw [List.pairwise_cons] at hl hm
    have irr : ∀ a, ¬ R a a := fun a h => ha a a h h
    have e : a = b := by
      rcases List.mem_cons.1 ((h a).1 (List.mem_cons_self ..)) with e | h1
      · exact e
      · rcases List.mem_cons.1 ((h b).2 (List.mem_cons_self ..)) with e | h2
        · exact e.symm
        · exact absurd (hl.1 b h2) (ha _ _ (hm.1 a h1))
    subst e
    congr 1
    refine pw_unique ha hl.2 hm.2 fun c => ⟨fun hc => ?_, fun hc => ?_⟩
    · rcases List.mem_cons.1 ((h c).1 (List.mem_cons_of_mem _ hc)) with e | h1
      · exact absurd (hl.1 c hc) (e ▸ irr a)
      · exact h1
    · rcases List.mem_cons.1 ((h c).2 (List.mem_cons_of_mem _ hc)) with e | h1
      · exact absurd (hm.1 c hc) (e ▸ irr a)
      · exact h1
theorem asc_unique {l m : List Nat} (hl : l.Pairwise (· < ·)) (hm : m.Pairwise (· < ·)) (h : ∀ a, a ∈ l ↔ a ∈ m) : l = m := pw_unique (fun a b h k => by omega) hl hm h

/-- The parts: each in order, all in order of their least nodes. -/
structure IsParts (E : Nat → Nat → Prop) (U : Nat → Prop) (Ps : List (List Nat)) : Prop where
  asc : ∀ p ∈ Ps, p.Pairwise (· < ·)
  ne : ∀ p ∈ Ps, p ≠ []
  cls : ∀ p ∈ Ps, ∀ x ∈ p, ∀ y, y ∈ p ↔ U y ∧ Rch E U x y ∧ Rch E U y x
  all : ∀ x, U x → ∃ p ∈ Ps, x ∈ p
  ord : Ps.Pairwise (fun p q => p.headD 0 < q.headD 0)
theorem IsParts.unique {U : Nat → Prop} {Ps Qs : List (List Nat)} (h : IsParts E U Ps) (k : IsParts E U Qs) : Ps = Qs := by
  have sub : ∀ {Ps Qs : List (List Nat)}, IsParts E U Ps → IsParts E U Qs → ∀ p, p ∈ Ps → p ∈ Qs := by
    intro Ps Qs h k p hp
    obtain ⟨x, hx⟩ := List.exists_mem_of_ne_nil p (h.ne p hp)
    have hU := ((h.cls p hp x hx x).1 hx).1
    obtain ⟨q, hq, hxq⟩ := k.all x hU
    have e : p = q := asc_unique (h.asc p hp) (k.asc q hq) fun y => by rw [h.cls p hp x hx y, k.cls q hq x hxq y]
    rw [e]
    exact hq
  exact pw_unique (fun a b h k => by omega) h.ord k.ord fun p => ⟨sub h k p, sub k h p⟩

/-! The search. -/
def opn (l : List Bool) (c : Nat) : Prop := l.getD c false = true
theorem opn_set {l : List Bool} (h : c < l.length) : opn (l.set c false) x ↔ opn l x ∧ x ≠ c := by
  unfold opn
  rw [List.getD_eq_getElem?_getD, List.getD_eq_getElem?_getD, List.getElem?_set]
  by_cases e : c = x
  · rw [if_pos e, if_pos (by omega)]
    simp [e]
  · rw [if_neg e]
    exact ⟨fun h => ⟨h, fun k => e k.symm⟩, fun h => h.1⟩
theorem opn_lt {l : List Bool} (h : opn l c) : c < l.length := by
  refine Classical.byContradiction fun k => ?_
  unfold opn at h
  rw [List.getD_eq_getElem?_getD, List.getElem?_eq_none (by omega)] at h
  simp at h
/-- Whoever leads to a later one: all between are reached from that one. -/
def Bk (E : Nat → Nat → Prop) (P : Nat → Prop) (L : List Nat) : Prop := ∀ A x B y C, L = A ++ x :: (B ++ y :: C) → E x y → ∀ z ∈ x :: B, Rch E P y z
theorem Bk.nil : Bk E P [] := by
  intro A x B y C h
  have := congrArg List.length h
  simp at this
/-- One visit from c: what it leaves, and what is open behind it. -/
structure Dfs (E : Nat → Nat → Prop) (P : Nat → Prop) (O O' : List Bool) (c : Nat) (L : List Nat) : Prop where
  len : O'.length = O.length
  nodup : L.Nodup
  mem : ∀ x, x ∈ L ↔ opn O x ∧ ¬ opn O' x
  sub : ∀ x, opn O' x → opn O x
  last : ∃ L0, L = L0 ++ [c]
  reach : ∀ x ∈ L, Rch E (opn O) c x
  closed : ∀ x ∈ L, ∀ y, E x y → ¬ opn O' y
  back : Bk E P L
/-- Within a visit. -/
structure Dfl (E : Nat → Nat → Prop) (P : Nat → Prop) (O O' : List Bool) (c : Nat) (L : List Nat) : Prop where
  len : O'.length = O.length
  nodup : L.Nodup
  here : opn O c ∧ ¬ opn O' c
  mem : ∀ x, x ∈ L ↔ x ≠ c ∧ opn O x ∧ ¬ opn O' x
  sub : ∀ x, opn O' x → opn O x
  reach : ∀ x ∈ L, Rch E (opn O) c x
  closed : ∀ x ∈ L, ∀ y, E x y → ¬ opn O' y
  back : Bk E P L
theorem Dfl.start {O : List Bool} (h : opn O c) : Dfl E P O (O.set c false) c [] where
  len := by simp
  nodup := List.nodup_nil
  here := ⟨h, fun k => ((opn_set (opn_lt h)).1 k).2 rfl⟩
  mem := fun x => by
    rw [opn_set (opn_lt h)]
    constructor
    · intro k; simp at k
    · rintro ⟨h1, h2, h3⟩; exact absurd ⟨h2, h1⟩ h3
  sub := fun x k => ((opn_set (opn_lt h)).1 k).1
  reach := fun x k => by simp at k
  closed := fun x k => by simp at k
  back := Bk.nil
theorem Bk.append {L M : List Nat} (h : Bk E P L) (k : Bk E P M) (hn : ∀ x ∈ L, ∀ y ∈ M, ¬ E x y) : Bk E P (L ++ M) := by
  intro A x B y C e exy z hz
  rcases List.append_eq_append_iff.1 e with ⟨A2, e1, e2⟩ | ⟨B2, e1, e2⟩
  · exact k A2 x B y C e2 exy z hz
  · cases B2 with
    | nil => exact k [] x B y C e2.symm exy z hz
    | cons a B2 =>
      rw [List.cons_append] at e2
      injection e2 with e2 e3
      subst e2
      rcases List.append_eq_append_iff.1 e3 with ⟨B3, e4, e5⟩ | ⟨A3, e4, e5⟩
      · cases B3 with
        | nil => exact absurd exy (hn x (by rw [e1]; simp) y (by rw [← show y :: C = M from e5]; simp))
        | cons b B3 =>
          rw [List.cons_append] at e5
          injection e5 with e5 e6
          subst e5
          exact h A x B y B3 (by rw [e1, e4]) exy z hz
      · exact absurd exy (hn x (by rw [e1]; simp) y (by rw [e5]; simp))
/-- A visit to a node that c leads to. -/
theorem Dfl.visit {O O' O'' : List Bool} {L M : List Nat} {n : Nat} (h : Dfl E P O O' c L) (he : E c n) (k : Dfs E P O' O'' n M) : Dfl E P O O'' c (L ++ M) where
  len := by rw [k.len, h.len]
  nodup := by
    rw [List.nodup_append]
    refine ⟨h.nodup, k.nodup, ?_⟩
    rintro a ha b hb rfl
    exact ((h.mem a).1 ha).2.2 ((k.mem a).1 hb).1
  here := ⟨h.here.1, fun q => h.here.2 (k.sub _ q)⟩
  mem := fun x => by
    rw [List.mem_append, h.mem, k.mem]
    constructor
    · rintro (⟨h1, h2, h3⟩ | ⟨h1, h2⟩)
      · exact ⟨h1, h2, fun q => h3 (k.sub _ q)⟩
      · exact ⟨fun q => h.here.2 (q ▸ h1), h.sub _ h1, h2⟩
    · rintro ⟨h1, h2, h3⟩
      by_cases q : opn O' x
      · exact .inr ⟨q, h3⟩
      · exact .inl ⟨h1, h2, q⟩
  sub := fun x q => h.sub _ (k.sub _ q)
  reach := fun x hx => by
    rcases List.mem_append.1 hx with hx | hx
    · exact h.reach x hx
    · have hn : opn O' n := by
        obtain ⟨L0, e⟩ := k.last
        exact ((k.mem n).1 (by rw [e]; simp)).1
      exact Rch.head he (h.sub _ hn) ((k.reach x hx).mono (fun _ _ e => e) h.sub)
  closed := fun x hx y hy => by
    rcases List.mem_append.1 hx with hx | hx
    · exact fun q => h.closed x hx y hy (k.sub _ q)
    · exact k.closed x hx y hy
  back := h.back.append k.back fun x hx y hy e => h.closed x hx y e ((k.mem y).1 hy).1
/-- The end of a visit. -/
theorem Dfl.done {O O' : List Bool} {L : List Nat} (h : Dfl E P O O' c L) (hP : ∀ x, opn O x → P x) (hd : ∀ n, E c n → ¬ opn O' n) : Dfs E P O O' c (L ++ [c]) where
  len := h.len
  nodup := by
    rw [List.nodup_append]
    refine ⟨h.nodup, by simp, ?_⟩
    rintro a ha b hb rfl
    exact ((h.mem a).1 ha).1 (by simpa using hb)
  mem := fun x => by
    rw [List.mem_append, h.mem, List.mem_singleton]
    constructor
    · rintro (⟨h1, h2⟩ | rfl)
      · exact h2
      · exact h.here
    · intro q
      by_cases e : x = c
      · exact .inr e
      · exact .inl ⟨e, q⟩
  sub := h.sub
  last := ⟨L, rfl⟩
  reach := fun x hx => by
    rcases List.mem_append.1 hx with hx | hx
    · exact h.reach x hx
    · rw [List.mem_singleton] at hx
      subst hx
      exact .refl
  closed := fun x hx y hy => by
    rcases List.mem_append.1 hx with hx | hx
    · exact h.closed x hx y hy
    · rw [List.mem_singleton] at hx
      subst hx
      exact hd y hy
  back := by
    intro A x B y C e exy z hz
    by_cases hC : C = []
    · subst hC
      have e' : L ++ [c] = (A ++ x :: B) ++ [y] := by rw [e]; simp
      obtain ⟨e1, e2⟩ := List.append_inj' e' rfl
      injection e2 with e2 _
      subst e2
      exact (h.reach z (by rw [e1]; exact List.mem_append_right _ hz)).mono (fun _ _ e => e) hP
    · obtain ⟨C', d, rfl⟩ : ∃ C' d, C = C' ++ [d] := ⟨C.dropLast, C.getLast hC, (List.dropLast_concat_getLast hC).symm⟩
      have e' : L ++ [c] = (A ++ x :: (B ++ y :: C')) ++ [d] := by rw [e]; simp
      obtain ⟨e1, _⟩ := List.append_inj' e' rfl
      exact h.back A x B y C' e1 exy z hz

/-- Visits from all nodes below k. -/
structure Lft (E : Nat → Nat → Prop) (P : Nat → Prop) (U O' : List Bool) (L : List Nat) (k : Nat) : Prop where
  len : O'.length = U.length
  nodup : L.Nodup
  mem : ∀ x, x ∈ L ↔ opn U x ∧ ¬ opn O' x
  sub : ∀ x, opn O' x → opn U x
  closed : ∀ x ∈ L, ∀ y, E x y → ¬ opn O' y
  back : Bk E P L
  done : ∀ x, x < k → ¬ opn O' x
theorem Lft.start (U : List Bool) : Lft E P U U [] 0 where
  len := rfl
  nodup := List.nodup_nil
  mem := fun x => by simp
  sub := fun _ h => h
  closed := fun x k => by simp at k
  back := Bk.nil
  done := fun x k => by omega
theorem Lft.skip {U O' : List Bool} {L : List Nat} {k : Nat} (h : Lft E P U O' L k) (hk : ¬ opn O' k) : Lft E P U O' L (k + 1) :=
  ⟨h.len, h.nodup, h.mem, h.sub, h.closed, h.back, fun x hx => by
    by_cases e : x = k
    · rw [e]; exact hk
    · exact h.done x (by omega)⟩
theorem Lft.visit {U O' O'' : List Bool} {L M : List Nat} {k : Nat} (h : Lft E P U O' L k) (q : Dfs E P O' O'' k M) : Lft E P U O'' (L ++ M) (k + 1) where
  len := by rw [q.len, h.len]
  nodup := by
    rw [List.nodup_append]
    refine ⟨h.nodup, q.nodup, ?_⟩
    rintro a ha b hb rfl
    exact ((h.mem a).1 ha).2 ((q.mem a).1 hb).1
  mem := fun x => by
    rw [List.mem_append, h.mem, q.mem]
    constructor
    · rintro (⟨h1, h2⟩ | ⟨h1, h2⟩)
      · exact ⟨h1, fun r => h2 (q.sub _ r)⟩
      · exact ⟨h.sub _ h1, h2⟩
    · rintro ⟨h1, h2⟩
      by_cases r : opn O' x
      · exact .inr ⟨r, h2⟩
      · exact .inl ⟨h1, r⟩
  sub := fun x r => h.sub _ (q.sub _ r)
  closed := fun x hx y hy => by
    rcases List.mem_append.1 hx with hx | hx
    · exact fun r => h.closed x hx y hy (q.sub _ r)
    · exact q.closed x hx y hy
  back := h.back.append q.back fun x hx y hy e => h.closed x hx y e ((q.mem y).1 hy).1
  done := fun x hx => by
    by_cases e : x = k
    · obtain ⟨L0, e'⟩ := q.last
      exact ((q.mem x).1 (by rw [e', e]; simp)).2
    · exact fun r => h.done x (by omega) (q.sub _ r)

/-- Whoever leads to c by nodes that were left no later: c leads to it. -/
theorem later {A B : List Nat} (h : Bk E P (A ++ c :: B)) {O : Nat → Prop} (hO : ∀ z, O z → z ∈ A ++ [c]) (k : Rch (fun a b => E b a) O c x) : Rch E P c x := by
  have key : ∃ A1 B1, A ++ [c] = A1 ++ B1 ∧ x ∈ B1 ∧ ∀ z ∈ B1, Rch E P c z := by
    induction k with
    | refl => exact ⟨A, [c], rfl, by simp, fun z hz => by rw [List.mem_singleton] at hz; subst hz; exact .refl⟩
    | @step y z _ e p ih =>
      obtain ⟨A1, B1, e1, hy, hr⟩ := ih
      have hz := hO z p
      rw [e1] at hz
      rcases List.mem_append.1 hz with hz | hz
      · obtain ⟨A2, A3, e2⟩ := List.append_of_mem hz
        obtain ⟨B2, B3, e3⟩ := List.append_of_mem hy
        refine ⟨A2, z :: A3 ++ B1, by rw [e1, e2]; simp, by simp, fun u hu => ?_⟩
        rcases List.mem_append.1 hu with hu | hu
        · have e4 : A ++ c :: B = A2 ++ z :: ((A3 ++ B2) ++ y :: (B3 ++ B)) := by
            have : A ++ c :: B = (A ++ [c]) ++ B := by simp
            rw [this, e1, e2, e3]
            simp
          refine (hr y hy).trans (h A2 z (A3 ++ B2) y (B3 ++ B) e4 e u ?_)
          rcases List.mem_cons.1 hu with hu | hu
          · rw [hu]; simp
          · simp [hu]
        · exact hr u hu
      · exact ⟨A1, B1, e1, hz, hr⟩
  obtain ⟨A1, B1, _, hx, hr⟩ := key
  exact hr x hx

/-- Parts of the nodes that were left last, each in the order in which it was found, the later nodes first. -/
structure Bck (E : Nat → Nat → Prop) (U O' : List Bool) (L : List Nat) (j : Nat) (Ps : List (List Nat)) : Prop where
  len : O'.length = U.length
  sub : ∀ x, opn O' x → opn U x
  mem : ∀ x, opn U x → (¬ opn O' x ↔ ∃ p ∈ Ps, x ∈ p)
  asc : ∀ p ∈ Ps, p.Pairwise (· < ·)
  ne : ∀ p ∈ Ps, p ≠ []
  cls : ∀ p ∈ Ps, ∀ x ∈ p, ∀ y, y ∈ p ↔ opn U y ∧ Rch E (opn U) x y ∧ Rch E (opn U) y x
  apart : Ps.Pairwise (fun p q => ∀ x ∈ p, x ∉ q)
  done : ∀ x ∈ L.drop j, ¬ opn O' x
theorem Bck.start (U : List Bool) (L : List Nat) : Bck E U U L L.length [] where
  len := rfl
  sub := fun _ h => h
  mem := fun x h => by simp [h]
  asc := fun p h => by simp at h
  ne := fun p h => by simp at h
  cls := fun p h => by simp at h
  apart := List.Pairwise.nil
  done := fun x h => by simp at h
theorem Bck.skip {U O' : List Bool} {L : List Nat} {j : Nat} {Ps : List (List Nat)} (h : Bck E U O' L (j + 1) Ps) (hc : L[j]? = some c) (hk : ¬ opn O' c) : Bck E U O' L j Ps :=
  ⟨h.len, h.sub, h.mem, h.asc, h.ne, h.cls, h.apart, fun x hx => by
    obtain ⟨hj, e⟩ := List.getElem?_eq_some_iff.1 hc
    rw [List.drop_eq_getElem_cons hj, e] at hx
    rcases List.mem_cons.1 hx with rfl | hx
    · exact hk
    · exact h.done x hx⟩
theorem Bck.visit {U O' O'' : List Bool} {L M S : List Nat} {j : Nat} {Ps : List (List Nat)} (h : Bck E U O' L (j + 1) Ps) (hc : L[j]? = some c) (hB : Bk E (opn U) L) (hL : ∀ x, opn U x → x ∈ L)
    (q : Dfs (fun a b => E b a) (opn U) O' O'' c M) (hs : ∀ x, x ∈ S ↔ x ∈ M) (ha : S.Pairwise (· < ·)) : Bck E U O'' L j (Ps ++ [S]) := by
  obtain ⟨hj, ej⟩ := List.getElem?_eq_some_iff.1 hc
  have eL : L = L.take j ++ c :: L.drop (j + 1) := by
    have := List.drop_eq_getElem_cons hj
    rw [ej] at this
    rw [← this, List.take_append_drop]
  have hcM : c ∈ M := by
    obtain ⟨L0, e⟩ := q.last
    rw [e]
    simp
  have hcO : opn O' c := ((q.mem c).1 hcM).1
  have hO : ∀ z, opn O' z → z ∈ L.take j ++ [c] := by
    intro z hz
    have := hL z (h.sub z hz)
    rw [eL] at this
    rcases List.mem_append.1 this with h1 | h1
    · exact List.mem_append_left _ h1
    · rcases List.mem_cons.1 h1 with h2 | h2
      · rw [h2]; simp
      · exact absurd hz (h.done z h2)
  have mtl : ∀ y, y ∈ M ↔ opn U y ∧ Rch E (opn U) c y ∧ Rch E (opn U) y c := by
    intro y
    constructor
    · intro hy
      have h1 := q.reach y hy
      refine ⟨h.sub _ ((q.mem y).1 hy).1, later (A := L.take j) (B := L.drop (j + 1)) (by rw [← eL]; exact hB) hO h1, ?_⟩
      exact (h1.mono (fun _ _ e => e) h.sub).unrev (h.sub c hcO)
    · rintro ⟨h1, h2, h3⟩
      have k1 : Rch (fun a b => E b a) (opn U) c y := h3.rev h1
      have key : ∀ y, Rch (fun a b => E b a) (opn U) c y → Rch E (opn U) c y → opn O' y ∧ y ∈ M := by
        intro y k
        induction k with
        | refl => exact fun _ => ⟨hcO, hcM⟩
        | @step u v k e p ih =>
          intro cv
          have cu : Rch E (opn U) c u := cv.step e (k.last (h.sub c hcO))
          have ov : opn O' v := by
            refine Classical.byContradiction fun hn => ?_
            obtain ⟨p1, hp, hv⟩ := (h.mem v p).1 hn
            have vc : Rch E (opn U) v c := (Rch.step k e p).unrev (h.sub c hcO)
            have := (h.cls p1 hp v hv c).2 ⟨h.sub c hcO, vc, cv⟩
            exact (h.mem c (h.sub c hcO)).2 ⟨p1, hp, this⟩ hcO
          exact ⟨ov, (q.mem v).2 ⟨ov, q.closed u (ih cu).2 v e⟩⟩
      exact (key y k1 h2).2
  refine ⟨by rw [q.len, h.len], fun x r => h.sub _ (q.sub _ r), ?_, ?_, ?_, ?_, ?_, ?_⟩
  · intro x hx
    constructor
    · intro hn
      by_cases r : opn O' x
      · exact ⟨S, by simp, (hs x).2 ((q.mem x).2 ⟨r, hn⟩)⟩
      · obtain ⟨p, hp, hxp⟩ := (h.mem x hx).1 r
        exact ⟨p, List.mem_append_left _ hp, hxp⟩
    · rintro ⟨p, hp, hxp⟩
      rcases List.mem_append.1 hp with hp | hp
      · exact fun r => (h.mem x hx).2 ⟨p, hp, hxp⟩ (q.sub _ r)
      · rw [List.mem_singleton] at hp
        subst hp
        exact ((q.mem x).1 ((hs x).1 hxp)).2
  · intro p hp
    rcases List.mem_append.1 hp with hp | hp
    · exact h.asc p hp
    · rw [List.mem_singleton] at hp
      rw [hp]
      exact ha
  · intro p hp
    rcases List.mem_append.1 hp with hp | hp
    · exact h.ne p hp
    · rw [List.mem_singleton] at hp
      rw [hp]
      intro e
      have := (hs c).2 hcM
      rw [e] at this
      simp at this
  · intro p hp x hx y
    rcases List.mem_append.1 hp with hp | hp
    · exact h.cls p hp x hx y
    · rw [List.mem_singleton] at hp
      subst hp
      have hx' := (mtl x).1 ((hs x).1 hx)
      rw [hs, mtl]
      exact ⟨fun ⟨a1, a2, a3⟩ => ⟨a1, hx'.2.2.trans a2, a3.trans hx'.2.1⟩, fun ⟨a1, a2, a3⟩ => ⟨a1, hx'.2.1.trans a2, a3.trans hx'.2.2⟩⟩
  · rw [List.pairwise_append]
    refine ⟨h.apart, by simp, ?_⟩
    intro p hp r hr x hx hxr
    rw [List.mem_singleton] at hr
    subst hr
    have := (q.mem x).1 ((hs x).1 hxr)
    exact (h.mem x (h.sub x this.1)).2 ⟨p, hp, hx⟩ this.1
  · intro x hx
    rw [List.drop_eq_getElem_cons hj, ej] at hx
    rcases List.mem_cons.1 hx with rfl | hx
    · exact ((q.mem x).1 hcM).2
    · exact fun r => h.done x hx (q.sub _ r)
/-- At last, in order. -/
theorem Bck.parts {U O' : List Bool} {L : List Nat} {Ps Qs : List (List Nat)} (h : Bck E U O' L 0 Ps) (hL : ∀ x, opn U x → x ∈ L) (hp : Qs.Perm Ps) (ho : Qs.Pairwise (fun p q => p.headD 0 ≤ q.headD 0)) : IsParts E (opn U) Qs where
  asc := fun p hq => h.asc p (hp.mem_iff.1 hq)
  ne := fun p hq => h.ne p (hp.mem_iff.1 hq)
  cls := fun p hq => h.cls p (hp.mem_iff.1 hq)
  all := fun x hx => by
    obtain ⟨p, hp1, hx1⟩ := (h.mem x hx).1 (h.done x (by rw [List.drop_zero]; exact hL x hx))
    exact ⟨p, hp.mem_iff.2 hp1, hx1⟩
  ord := by
    have hap : Qs.Pairwise (fun p q => ∀ x ∈ p, x ∉ q) := (hp.symm.pairwise_iff (fun {a b} hh x hx hy => hh x hy hx)).1 h.apart
    have hne : ∀ p ∈ Qs, p ≠ [] := fun p hq => h.ne p (hp.mem_iff.1 hq)
    have hboth := List.Pairwise.and ho hap
    refine List.Pairwise.imp_of_mem ?_ hboth
    rintro p q hp1 hq1 ⟨h1, h2⟩
    have e1 : p.headD 0 ∈ p := by
      cases p with
      | nil => exact absurd rfl (hne _ hp1)
      | cons a p => simp
    have e2 : q.headD 0 ∈ q := by
      cases q with
      | nil => exact absurd rfl (hne _ hq1)
      | cons a q => simp
    have : p.headD 0 ≠ q.headD 0 := fun e => h2 _ e1 (e ▸ e2)
    omega
/-- What is open, and this list, are at most so many. -/
def Fits (O : List Bool) (k B : Nat) : Prop := ∀ q : List Nat, q.Nodup → (∀ x ∈ q, opn O x) → k + q.length ≤ B
theorem Fits.sub {O O1 : List Bool} {L : List Nat} {k B : Nat} (h : Fits O k B) (hd : Dfl E P O O1 c L) : Fits O1 (k + L.length + 1) B := fun q hq hs => by
  have := h (q ++ (L ++ [c])) (by
    rw [List.nodup_append]
    refine ⟨hq, ?_, ?_⟩
    · rw [List.nodup_append]
      refine ⟨hd.nodup, by simp, ?_⟩
      rintro a ha b hb rfl
      exact ((hd.mem a).1 ha).1 (by simpa using hb)
    · rintro a ha b hb rfl
      rcases List.mem_append.1 hb with hb | hb
      · exact ((hd.mem a).1 hb).2.2 (hs a ha)
      · rw [List.mem_singleton] at hb
        subst hb
        exact hd.here.2 (hs a ha)) (fun x hx => by
    rcases List.mem_append.1 hx with hx | hx
    · exact hd.sub x (hs x hx)
    · rcases List.mem_append.1 hx with hx | hx
      · exact ((hd.mem x).1 hx).2.1
      · rw [List.mem_singleton] at hx
        subst hx
        exact hd.here.1)
  simp at this
  omega
theorem Fits.after {O O1 : List Bool} {L : List Nat} {k B : Nat} (h : Fits O k B) (hd : Dfs E P O O1 c L) : Fits O1 (k + L.length) B := fun q hq hs => by
  have := h (q ++ L) (by
    rw [List.nodup_append]
    refine ⟨hq, hd.nodup, ?_⟩
    rintro a ha b hb rfl
    exact ((hd.mem a).1 hb).2 (hs a ha)) (fun x hx => by
    rcases List.mem_append.1 hx with hx | hx
    · exact hd.sub x (hs x hx)
    · exact ((hd.mem x).1 hx).1)
  simp at this
  omega
theorem Fits.mono {O : List Bool} {k k' B : Nat} (h : Fits O k B) (hk : k' ≤ k) : Fits O k' B := fun q hq hs => by have := h q hq hs; omega
theorem Fits.nil {O : List Bool} {k B : Nat} (h : Fits O k B) : k ≤ B := h [] List.nodup_nil (by simp)
theorem Fits.one {O : List Bool} {k B : Nat} (h : Fits O k B) (hc : opn O c) : k + 1 ≤ B := h [c] (by simp) (by simpa using hc)
theorem nodup_le : ∀ {q : List Nat} {N : Nat}, q.Nodup → (∀ c ∈ q, c < N) → q.length ≤ N
  | q, 0, _, h => by
    cases q with
    | nil => simp
    | cons a q => have := h a (by simp); omega
  | q, N + 1, hq, h => by
    have h1 := nodup_le (q := q.erase N) (N := N) (hq.erase N) (fun c hc => by
      have h2 := h c (List.mem_of_mem_erase hc)
      have h3 : c ≠ N := fun e => by
        subst e
        exact (List.Nodup.not_mem_erase hq) hc
      omega)
    by_cases hm : N ∈ q
    · rw [List.length_erase_of_mem hm] at h1
      omega
    · rw [List.erase_of_not_mem hm] at h1
      omega
theorem Fits.start (O : List Bool) : Fits O 0 O.length := fun q hq hs => by
  rw [Nat.zero_add]
  exact nodup_le hq fun x hx => opn_lt (hs x hx)
end
end Rgn
end Go.Proofs.YtgophgnfiboefaaGreatDoor

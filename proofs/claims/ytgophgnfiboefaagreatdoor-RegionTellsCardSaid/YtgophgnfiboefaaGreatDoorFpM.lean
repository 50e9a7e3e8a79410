/- Least ways, plainly: what a list of cells has to be to be the least way; a queue with its cells ahead finds it. -/
import Derived.Test.YtgophgnfiboefaaGreatDoorFlH
namespace Go.Proofs.YtgophgnfiboefaaGreatDoor
set_option linter.unusedVariables false
set_option linter.unusedSimpArgs false
namespace Flo
section
variable {f : Fl} {avoid : List Int} {a b c n m i j k : Nat} {l l' : List Nat}
/-- There is a way of k moves from c to b. -/
abbrev To (f : Fl) (avoid : List Int) (b : Nat) : Nat → Nat → Prop := Walk (spSrc f [(b : Int)] avoid) (spE f avoid true)
abbrev Fw (f : Fl) (avoid : List Int) (a : Nat) : Nat → Nat → Prop := Walk (spSrc f [(a : Int)] avoid) (spE f avoid false)
theorem spSrc_one : spSrc f [(a : Int)] avoid c ↔ c = a ∧ c < f.Kind.length ∧ shutB f avoid c = false := by
  unfold spSrc
  simp only [List.mem_singleton]
  constructor
  · rintro ⟨h1, h2, h3⟩
    exact ⟨by omega, h1, h3⟩
  · rintro ⟨rfl, h1, h3⟩
    exact ⟨h1, rfl, h3⟩
theorem next_lt (ho : f.ok) {c n d : Nat} (h : f.next c d = some (n : Int)) : n < f.Kind.length ∧ c < f.Kind.length ∧ d < 6 := by
  obtain ⟨h1, h2, h3, _, _⟩ := Fl.next_is h
  have h4 := Fl.is_bounds h3
  have h5 := Fl.is_bounds h1
  have h6 := ho.kinds
  have h7 := of_decide_eq_true h2
  omega
theorem spE_fw : spE f avoid false c n ↔ ∃ d : Nat, d < 6 ∧ f.next c d = some (n : Int) ∧ shutB f avoid n = false := by
  unfold spE stp
  simp
theorem spE_bw (ho : f.ok) : spE f avoid true c n ↔ ∃ d : Nat, d < 6 ∧ f.next n d = some (c : Int) ∧ shutB f avoid n = false := by
  unfold spE stp
  simp only [if_true]
  constructor
  · rintro ⟨d, h1, h2, h3⟩
    exact ⟨d, h1, (Fl.back_iff ho).1 h2, h3⟩
  · rintro ⟨d, h1, h2, h3⟩
    exact ⟨d, h1, (Fl.back_iff ho).2 h2, h3⟩
theorem walk_open (ho : f.ok) {src : List Int} {bk : Bool} (h : Walk (spSrc f src avoid) (spE f avoid bk) k c) : c < f.Kind.length ∧ shutB f avoid c = false := by
  cases h with
  | src h => exact ⟨h.1, h.2.2⟩
  | step h e =>
    cases bk
    · obtain ⟨d, h1, h2, h3⟩ := spE_fw.1 e
      exact ⟨(next_lt ho h2).1, h3⟩
    · obtain ⟨d, h1, h2, h3⟩ := (spE_bw ho).1 e
      exact ⟨(next_lt ho h2).2.1, h3⟩
theorem To.start (h1 : b < f.Kind.length) (h2 : shutB f avoid b = false) : To f avoid b 0 b := .src (spSrc_one.2 ⟨rfl, h1, h2⟩)
theorem Fw.start (h1 : a < f.Kind.length) (h2 : shutB f avoid a = false) : Fw f avoid a 0 a := .src (spSrc_one.2 ⟨rfl, h1, h2⟩)
theorem To.zero (h : To f avoid b 0 c) : c = b := by
  cases h with
  | src h => exact (spSrc_one.1 h).1
/-- One move ahead. -/
theorem To.ahead (ho : f.ok) {d : Nat} (h : To f avoid b k n) (e : f.next c d = some (n : Int)) (hc : shutB f avoid c = false) : To f avoid b (k + 1) c :=
  .step h ((spE_bw ho).2 ⟨d, (next_lt ho e).2.2, e, hc⟩)
theorem To.split (ho : f.ok) (h : To f avoid b (k + 1) c) : ∃ n d : Nat, d < 6 ∧ f.next c d = some (n : Int) ∧ To f avoid b k n ∧ shutB f avoid c = false := by
  cases h with
  | step h e =>
    obtain ⟨d, h1, h2, h3⟩ := (spE_bw ho).1 e
    exact ⟨_, d, h1, h2, h, h3⟩
theorem fw_to (ho : f.ok) {i : Nat} {c : Nat} (h : Fw f avoid a i c) : ∀ j, To f avoid b j c → To f avoid b (i + j) a := by
  induction h with
  | src h =>
    intro j h2
    obtain ⟨rfl, _, _⟩ := spSrc_one.1 h
    rwa [Nat.zero_add]
  | step h e ih =>
    intro j h2
    obtain ⟨d, _, h3, _⟩ := spE_fw.1 e
    have := ih (j + 1) (To.ahead ho h2 h3 (walk_open ho h).2)
    rwa [show ∀ x : Nat, x + 1 + j = x + (j + 1) from fun x => by omega]
theorem to_fw (ho : f.ok) {j : Nat} {c : Nat} (h : To f avoid b j c) : ∀ i, Fw f avoid a i c → Fw f avoid a (i + j) b := by
  induction h with
  | src h =>
    intro i h2
    obtain ⟨rfl, _, _⟩ := spSrc_one.1 h
    exact h2
  | step h e ih =>
    intro i h2
    obtain ⟨d, h1, h3, _⟩ := (spE_bw ho).1 e
    have := ih (i + 1) (.step h2 (spE_fw.2 ⟨d, h1, h3, (walk_open ho h).2⟩))
    rwa [show ∀ x : Nat, i + (x + 1) = i + 1 + x from fun x => by omega]
theorem fw_iff (ho : f.ok) : Fw f avoid a k b ↔ To f avoid b k a := by
  constructor
  · intro h
    have := fw_to ho h 0 (To.start (walk_open ho h).1 (walk_open ho h).2)
    exact this
  · intro h
    have := to_fw ho h 0 (Fw.start (walk_open ho h).1 (walk_open ho h).2)
    rwa [Nat.zero_add] at this

/-- The least way from a to b. -/
structure Least (f : Fl) (avoid : List Int) (a b : Nat) (l : List Nat) : Prop where
  head : l[0]? = some a
  last : l[l.length - 1]? = some b
  opened : ∀ c ∈ l, c < f.Kind.length ∧ shutB f avoid c = false
  step : ∀ (t c n : Nat), l[t]? = some c → l[t + 1]? = some n → ∃ d : Nat, d < 6 ∧ f.next c d = some (n : Int) ∧ ∀ d' m : Nat, d' < d → f.next c d' = some (m : Int) → shutB f avoid m = false → ∀ x, x + t + 2 ≤ l.length → ¬ To f avoid b x m
  short : ∀ k, To f avoid b k a → l.length ≤ k + 1
theorem Least.pos (h : Least f avoid a b l) : 0 < l.length := (List.getElem?_eq_some_iff.1 h.head).1
theorem Least.rest (ho : f.ok) (h : Least f avoid a b l) : ∀ x, x < l.length → ∀ c, l[l.length - 1 - x]? = some c → To f avoid b x c
  | 0, hx, c, hc => by
    rw [Nat.sub_zero, h.last] at hc
    obtain rfl := Option.some.inj hc
    obtain ⟨h1, h2⟩ := h.opened _ (List.mem_of_getElem? h.last)
    exact To.start h1 h2
  | x + 1, hx, c, hc => by
    have hlt : l.length - 1 - x < l.length := by omega
    have hn : l[l.length - 1 - (x + 1) + 1]? = some l[l.length - 1 - x] := by
      rw [show l.length - 1 - (x + 1) + 1 = l.length - 1 - x from by omega]
      exact List.getElem?_eq_getElem hlt
    obtain ⟨d, _, h2, _⟩ := h.step _ c _ hc hn
    exact To.ahead ho (Least.rest ho h x (by omega) _ (List.getElem?_eq_getElem hlt)) h2 (h.opened c (List.mem_of_getElem? hc)).2
theorem Least.from_ (ho : f.ok) (h : Least f avoid a b l) {t : Nat} (ht : l[t]? = some c) : To f avoid b (l.length - 1 - t) c := by
  have hlt := (List.getElem?_eq_some_iff.1 ht).1
  exact h.rest ho _ (by omega) c (by rw [show l.length - 1 - (l.length - 1 - t) = t from by omega]; exact ht)
theorem Least.way (ho : f.ok) (h : Least f avoid a b l) : To f avoid b (l.length - 1) a := h.from_ ho h.head
theorem Least.unique (ho : f.ok) (h : Least f avoid a b l) (h' : Least f avoid a b l') : l = l' := by
  have e : l.length = l'.length := by
    have h1 := h.short _ (h'.way ho)
    have h2 := h'.short _ (h.way ho)
    have := h.pos
    have := h'.pos
    omega
  have hall : ∀ t : Nat, l[t]? = l'[t]? := by
    intro t
    induction t with
    | zero => rw [h.head, h'.head]
    | succ t ih =>
      by_cases hlt : t + 1 < l.length
      · have h1 : l[t]? = some l[t] := List.getElem?_eq_getElem (by omega)
        have h2 : l[t + 1]? = some l[t + 1] := List.getElem?_eq_getElem hlt
        have h2' : l'[t + 1]? = some l'[t + 1] := List.getElem?_eq_getElem (by omega)
        have h1' : l'[t]? = some l[t] := by rw [← ih]; exact h1
        obtain ⟨d, q0, q1, q2⟩ := h.step t _ _ h1 h2
        obtain ⟨d', q0', q1', q2'⟩ := h'.step t _ _ h1' h2'
        have ho1 := (h.opened _ (List.mem_of_getElem? h2)).2
        have ho1' := (h'.opened _ (List.mem_of_getElem? h2')).2
        have hr := h.from_ ho h2
        have hr' := h'.from_ ho h2'
        rcases Nat.lt_trichotomy d d' with hd | hd | hd
        · exact absurd hr (q2' d _ hd q1 ho1 _ (by omega))
        · subst hd
          rw [q1] at q1'
          have e2 := Option.some.inj q1'
          rw [h2, h2']
          congr 1
          omega
        · exact absurd hr' (q2 d' _ hd q1' ho1' _ (by omega))
      · rw [List.getElem?_eq_none (by omega), List.getElem?_eq_none (by omega)]
  exact List.ext_getElem? hall

/-- What Path returns. -/
def PathIs (f : Fl) (avoid : List Int) (a b : Int) (l : List Int) : Prop :=
  (l = [] ∧ ∀ a' b' : Nat, a = a' → b = b' → ∀ k, ¬ To f avoid b' k a') ∨ ∃ (a' b' : Nat) (l' : List Nat), a = a' ∧ b = b' ∧ l = l'.map (fun c : Nat => (c : Int)) ∧ Least f avoid a' b' l'
theorem PathIs.unique (ho : f.ok) {a b : Int} {l l' : List Int} (h : PathIs f avoid a b l) (h' : PathIs f avoid a b l') : l = l' := by
  rcases h with ⟨rfl, h1⟩ | ⟨a1, b1, l1, rfl, rfl, rfl, h1⟩ <;> rcases h' with ⟨rfl, h2⟩ | ⟨a2, b2, l2, e1, e2, rfl, h2⟩
  · rfl
  · exact absurd (h2.way ho) (h1 a2 b2 e1 e2 _)
  · exact absurd (h1.way ho) (h2 a1 b1 rfl rfl _)
  · obtain rfl : a1 = a2 := by omega
    obtain rfl : b1 = b2 := by omega
    rw [h1.unique ho h2]

/-! A queue with the cells ahead. -/
abbrev up (g : Nat → Nat) (k v : Nat) : Nat → Nat := fun t => if t = k then v else g t
structure Ord (f : Fl) (avoid : List Int) (s : Nat) (q : List Nat) (out bf : List Int) (i j : Nat) (P D : Nat → Nat) : Prop where
  blen : bf.length = f.Kind.length
  src : ∀ t c : Nat, t < s → q[t]? = some c → gt bf c = c
  par : ∀ t c : Nat, s ≤ t → q[t]? = some c → ∃ p : Nat, q[P t]? = some p ∧ D t < 6 ∧ f.next p (D t : Nat) = some (c : Int) ∧ gt bf c = p ∧ gt out c = gt out p + 1 ∧ P t < t ∧ (P t < i ∨ P t = i ∧ D t < j)
  asc : ∀ t t' : Nat, s ≤ t → t < t' → t' < q.length → P t < P t' ∨ P t = P t' ∧ D t < D t'
  first : ∀ t' d' p n : Nat, (t' < i ∨ t' = i ∧ d' < j) → d' < 6 → q[t']? = some p → f.next p d' = some (n : Int) → shutB f avoid n = false → ∃ t, q[t]? = some n ∧ (t < s ∨ P t < t' ∨ P t = t' ∧ D t ≤ d')
section
variable {s : Nat} {q : List Nat} {out bf : List Int} {P D : Nat → Nat}
theorem Ord.start (hb : bf.length = f.Kind.length) (h : ∀ t c : Nat, q[t]? = some c → gt bf c = c) : Ord f avoid q.length q out bf 0 0 (fun _ => 0) (fun _ => 0) :=
  ⟨hb, fun t c _ hc => h t c hc, fun t c ht hc => absurd (List.getElem?_eq_some_iff.1 hc).1 (by omega), fun t t' h1 h2 h3 => by omega, fun t' d' p n h1 => by omega⟩
/-- Nothing new in this direction. -/
theorem Ord.pass (h : Ord f avoid s q out bf i j P D) (hn : ∀ p n : Nat, q[i]? = some p → f.next p j = some (n : Int) → shutB f avoid n = false → n ∈ q) : Ord f avoid s q out bf i (j + 1) P D := by
  refine ⟨h.blen, h.src, fun t c ht hc => ?_, h.asc, fun t' d' p n h1 h2 h3 h4 h5 => ?_⟩
  · obtain ⟨p, h1, h2, h3, h4, h5, h6, h7⟩ := h.par t c ht hc
    exact ⟨p, h1, h2, h3, h4, h5, h6, by omega⟩
  · by_cases e : t' = i ∧ d' = j
    · obtain ⟨rfl, rfl⟩ := e
      obtain ⟨t, ht⟩ := List.getElem?_of_mem (hn p n h3 h4 h5)
      refine ⟨t, ht, ?_⟩
      by_cases hs : t < s
      · exact .inl hs
      · obtain ⟨_, _, _, _, _, _, _, h7⟩ := h.par t n (by omega) ht
        omega
    · exact h.first t' d' p n (by omega) h2 h3 h4 h5
theorem Ord.turn (h : Ord f avoid s q out bf i 6 P D) : Ord f avoid s q out bf (i + 1) 0 P D := by
  refine ⟨h.blen, h.src, fun t c ht hc => ?_, h.asc, fun t' d' p n h1 h2 h3 h4 h5 => h.first t' d' p n (by omega) h2 h3 h4 h5⟩
  obtain ⟨p, h1, h2, h3, h4, h5, h6, h7⟩ := h.par t c ht hc
  exact ⟨p, h1, h2, h3, h4, h5, h6, by omega⟩
/-- A new cell. -/
theorem Ord.visit (h : Ord f avoid s q out bf i j P D) (hs : s ≤ q.length) (hc : q[i]? = some c) (hj : j < 6) (he : f.next c j = some (n : Int)) (hn : n < f.Kind.length) (hnq : n ∉ q) (ho : ∀ m ∈ q, gt (out.set n (gt out c + 1)) m = gt out m) (hself : gt (out.set n (gt out c + 1)) n = gt out c + 1) :
    Ord f avoid s (q ++ [n]) (out.set n (gt out c + 1)) (bf.set n (c : Int)) i (j + 1) (up P q.length i) (up D q.length j) := by
  have hil := (List.getElem?_eq_some_iff.1 hc).1
  have hb := gt_set (out := bf) (n := n) (by rw [h.blen]; exact hn) (c : Int)
  have hbq : ∀ m ∈ q, gt (bf.set n (c : Int)) m = gt bf m := fun m hm => by rw [hb]; exact if_neg (fun e : m = n => hnq (by rw [← e]; exact hm))
  have at_ : ∀ t x, (q ++ [n])[t]? = some x → (t < q.length ∧ q[t]? = some x) ∨ (t = q.length ∧ x = n) := fun t x hx => by
    rcases Nat.lt_or_ge t q.length with ht | ht
    · rw [List.getElem?_append_left ht] at hx
      exact .inl ⟨ht, hx⟩
    · have hlt := (List.getElem?_eq_some_iff.1 hx).1
      simp at hlt
      obtain rfl : t = q.length := by omega
      rw [List.getElem?_append_right (by omega)] at hx
      simp at hx
      exact .inr ⟨rfl, hx.symm⟩
  have old : ∀ {t x : Nat}, q[t]? = some x → (q ++ [n])[t]? = some x := fun hx => by rw [List.getElem?_append_left (List.getElem?_eq_some_iff.1 hx).1]; exact hx
  have uP : ∀ t, t < q.length → up P q.length i t = P t := fun t ht => if_neg (by omega)
  have uD : ∀ t, t < q.length → up D q.length j t = D t := fun t ht => if_neg (by omega)
  have uP' : up P q.length i q.length = i := if_pos rfl
  have uD' : up D q.length j q.length = j := if_pos rfl
  refine ⟨by rw [List.length_set]; exact h.blen, fun t x ht hx => ?_, fun t x ht hx => ?_, fun t t' h1 h2 h3 => ?_, fun t' d' p m h1 h2 h3 h4 h5 => ?_⟩
  · rcases at_ t x hx with ⟨h1, h2⟩ | ⟨h1, _⟩
    · rw [hbq x (List.mem_of_getElem? h2)]
      exact h.src t x ht h2
    · omega
  · rcases at_ t x hx with ⟨h1, h2⟩ | ⟨rfl, rfl⟩
    · obtain ⟨p, p1, p2, p3, p4, p5, p6, p7⟩ := h.par t x ht h2
      rw [uP t h1, uD t h1]
      refine ⟨p, old p1, p2, p3, ?_, ?_, p6, by omega⟩
      · rw [hbq x (List.mem_of_getElem? h2)]; exact p4
      · rw [ho x (List.mem_of_getElem? h2), ho p (List.mem_of_getElem? p1)]; exact p5
    · rw [uP', uD']
      refine ⟨c, old hc, hj, he, by rw [hb, if_pos rfl], ?_, hil, by omega⟩
      rw [hself, ho c (List.mem_of_getElem? hc)]
  · have h3' : t' < q.length + 1 := by simpa using h3
    rw [uP t (by omega), uD t (by omega)]
    by_cases e : t' = q.length
    · rw [e, uP', uD']
      obtain ⟨_, _, _, _, _, _, _, p7⟩ := h.par t _ h1 (List.getElem?_eq_getElem (by omega))
      exact p7
    · rw [uP t' (by omega), uD t' (by omega)]
      exact h.asc t t' h1 h2 (by omega)
  · have hp : q[t']? = some p := by
      rcases at_ t' p h3 with ⟨_, h6⟩ | ⟨h6, _⟩
      · exact h6
      · omega
    by_cases e : t' = i ∧ d' = j
    · obtain ⟨rfl, rfl⟩ := e
      rw [hc] at hp
      obtain rfl := Option.some.inj hp
      rw [he] at h4
      have e3 := Option.some.inj h4
      obtain rfl : n = m := by omega
      refine ⟨q.length, by simp, .inr (.inr ?_)⟩
      rw [uP', uD']
      exact ⟨rfl, Nat.le_refl _⟩
    · obtain ⟨t, ht, h6⟩ := h.first t' d' p m (by omega) h2 hp h4 h5
      have htl := (List.getElem?_eq_some_iff.1 ht).1
      refine ⟨t, old ht, ?_⟩
      rw [uP t htl, uD t htl]
      exact h6
/-- The cells ahead of b. -/
def anc (bf : List Int) (b : Nat) : Nat → Nat
  | 0 => b
  | t + 1 => (gt bf (anc bf b t)).toNat
/-- The whole queue is done, from one cell. -/
structure Done1 (f : Fl) (avoid : List Int) (a : Nat) (q : List Nat) (out bf : List Int) : Prop where
  dist : IsDist f.Kind.length (spSrc f [(a : Int)] avoid) (spE f avoid false) out
  nodup : q.Nodup
  ord : ∃ P D, Ord f avoid 1 q out bf q.length 0 P D
  head : q[0]? = some a
  zero : gt out a = 0
  mem : ∀ c, c < f.Kind.length → gt out c ≠ -1 → c ∈ q
  inq : ∀ c ∈ q, c < f.Kind.length ∧ gt out c ≠ -1
theorem idx_eq (hn : q.Nodup) {t t' c : Nat} (h : q[t]? = some c) (h' : q[t']? = some c) : t = t' := by
  obtain ⟨h1, e1⟩ := List.getElem?_eq_some_iff.1 h
  obtain ⟨h2, e2⟩ := List.getElem?_eq_some_iff.1 h'
  exact (List.getElem_inj hn).1 (e1.trans e2.symm)
/-- From a later place on its way, no other way of the same length. -/
theorem Done1.later (h : Done1 f avoid a q out bf) {P D : Nat → Nat} (hO : Ord f avoid 1 q out bf q.length 0 P D) (ho : f.ok) : ∀ (x : Nat) (m p : Nat) (tm tp : Nat), q[tm]? = some m → q[tp]? = some p → tm < tp → To f avoid b x m → gt out b = gt out p + x → (∃ l : Nat → Nat, l 0 = b ∧ l x = p ∧ ∀ y, y < x → gt bf (l y) = l (y + 1) ∧ gt out (l y) = gt out (l (y + 1)) + 1 ∧ l y ∈ q) → False
  | 0, m, p, tm, tp, hm, hp, hlt, hto, _, ⟨l, h0, hx, _⟩ => by
    have := To.zero hto
    rw [this] at hm
    rw [h0] at hx
    rw [← hx] at hp
    have := idx_eq h.nodup hm hp
    omega
  | x + 1, m, p, tm, tp, hm, hp, hlt, hto, hd, ⟨l, h0, hx, hl⟩ => by
    obtain ⟨n, d, hd6, hnx, hto2, hmo⟩ := To.split ho hto
    obtain ⟨l1, l2, l3⟩ := hl x (by omega)
    obtain ⟨tc, htc⟩ := List.getElem?_of_mem l3
    -- the next one of m is in the queue
    have hmq := List.mem_of_getElem? hm
    obtain ⟨tn, htn, hk⟩ := hO.first tm d m n (by have := (List.getElem?_eq_some_iff.1 hm).1; omega) hd6 hm hnx (walk_open ho hto2).2
    -- the next one of p
    have htc1 : ¬ tc < 1 := by
      intro e
      obtain rfl : tc = 0 := by omega
      rw [h.head] at htc
      have e2 := Option.some.inj htc
      rw [← e2, h.zero] at l2
      have hpq := List.mem_of_getElem? hp
      rw [← hx] at hpq
      have := (h.inq _ hpq)
      obtain ⟨k, h5, _⟩ := h.dist.some_ _ this.1 this.2
      omega
    obtain ⟨p', p1, _, p3, p4, _, p6, _⟩ := hO.par tc (l x) (by omega) htc
    have e1 : p' = p := by
      rw [l1, hx] at p4
      omega
    rw [e1] at p1
    have e2 : P tc = tp := idx_eq h.nodup p1 hp
    have hlt2 : tn < tc := by
      rcases hk with hk | hk | hk
      · omega
      · apply Classical.byContradiction
        intro hge
        rcases Nat.lt_or_ge tc tn with h7 | h7
        · have := hO.asc tc tn (by omega) h7 (List.getElem?_eq_some_iff.1 htn).1
          omega
        · have : tc = tn := by omega
          subst this
          omega
      · apply Classical.byContradiction
        intro hge
        rcases Nat.lt_or_ge tc tn with h7 | h7
        · have := hO.asc tc tn (by omega) h7 (List.getElem?_eq_some_iff.1 htn).1
          omega
        · have : tc = tn := by omega
          subst this
          omega
    rw [hx] at l2
    exact Done1.later h hO ho x n (l x) tn tc htn htc hlt2 hto2 (by push_cast at hd; omega) ⟨l, h0, rfl, fun y hy => hl y (by omega)⟩
/-- The cells ahead of b, one after the other. -/
theorem Done1.ahead (h : Done1 f avoid a q out bf) {P D : Nat → Nat} (hO : Ord f avoid 1 q out bf q.length 0 P D) {k : Nat} (hb : b < f.Kind.length) (hk : gt out b = k) : ∀ t, t ≤ k → (anc bf b t ∈ q ∧ gt out (anc bf b t) = (k : Int) - t) ∧ (t < k → gt bf (anc bf b t) = anc bf b (t + 1) ∧ ∃ tc, q[tc]? = some (anc bf b t) ∧ 1 ≤ tc ∧ q[P tc]? = some (anc bf b (t + 1)) ∧ D tc < 6 ∧ f.next (anc bf b (t + 1) : Nat) (D tc : Nat) = some (anc bf b t : Int)) := by
  have one : ∀ t, anc bf b t ∈ q → gt out (anc bf b t) = (k : Int) - t → t < k → (gt bf (anc bf b t) = anc bf b (t + 1) ∧ ∃ tc, q[tc]? = some (anc bf b t) ∧ 1 ≤ tc ∧ q[P tc]? = some (anc bf b (t + 1)) ∧ D tc < 6 ∧ f.next (anc bf b (t + 1) : Nat) (D tc : Nat) = some (anc bf b t : Int)) ∧ anc bf b (t + 1) ∈ q ∧ gt out (anc bf b (t + 1)) = (k : Int) - (t + 1 : Nat) := by
    intro t hm hd hlt
    obtain ⟨tc, htc⟩ := List.getElem?_of_mem hm
    have htc1 : ¬ tc < 1 := by
      intro e
      obtain rfl : tc = 0 := by omega
      rw [h.head] at htc
      have e2 := Option.some.inj htc
      rw [← e2, h.zero] at hd
      omega
    obtain ⟨p, p1, p2, p3, p4, p5, p6, _⟩ := hO.par tc _ (by omega) htc
    have e1 : anc bf b (t + 1) = p := by
      show (gt bf (anc bf b t)).toNat = p
      rw [p4]
      omega
    rw [e1]
    exact ⟨⟨p4, tc, htc, by omega, p1, p2, p3⟩, List.mem_of_getElem? p1, by push_cast; omega⟩
  intro t
  induction t with
  | zero =>
    intro _
    have hm : anc bf b 0 ∈ q := h.mem b hb (by omega)
    have hd : gt out (anc bf b 0) = (k : Int) - (0 : Nat) := by
      show gt out b = _
      rw [hk]
      simp
    exact ⟨⟨hm, hd⟩, fun hlt => (one 0 hm hd hlt).1⟩
  | succ t ih =>
    intro hle
    obtain ⟨⟨hm, hd⟩, _⟩ := ih (by omega)
    obtain ⟨_, hm2, hd2⟩ := one t hm hd (by omega)
    exact ⟨⟨hm2, hd2⟩, fun hlt => (one (t + 1) hm2 hd2 hlt).1⟩
/-- The way from a to b by the cells ahead. -/
def wayL (bf : List Int) (b k : Nat) : List Nat := (List.range (k + 1)).map fun t => anc bf b (k - t)
theorem wayL_at {k t : Nat} (ht : t ≤ k) : (wayL bf b k)[t]? = some (anc bf b (k - t)) := by
  unfold wayL
  rw [List.getElem?_map, List.getElem?_range (by omega)]
  rfl
theorem Done1.least (h : Done1 f avoid a q out bf) (ho : f.ok) {k : Nat} (hb : b < f.Kind.length) (hk : gt out b = k) : Least f avoid a b (wayL bf b k) := by
  obtain ⟨P, D, hO⟩ := h.ord
  have hA := h.ahead hO hb hk
  have hlen : (wayL bf b k).length = k + 1 := by unfold wayL; simp
  have hop : ∀ t, t ≤ k → Fw f avoid a t (anc bf b (k - t)) := by
    intro t ht
    obtain ⟨⟨h1, h2⟩, _⟩ := hA (k - t) (by omega)
    obtain ⟨h3, h4⟩ := h.inq _ h1
    obtain ⟨x, h5, h6, _⟩ := h.dist.some_ _ h3 h4
    obtain rfl : t = x := by omega
    exact h6
  have hmin : ∀ x, Fw f avoid a x b → k ≤ x := by
    intro x hx
    obtain ⟨y, h5, _, h7⟩ := h.dist.some_ b hb (by omega)
    rcases Nat.lt_or_ge x y with h8 | h8
    · exact absurd hx (h7 x h8)
    · omega
  refine ⟨?_, ?_, fun c hc => ?_, fun t c n hc hn => ?_, fun x hx => ?_⟩
  · rw [wayL_at (by omega), Nat.sub_zero]
    obtain ⟨⟨h1, h2⟩, _⟩ := hA k (Nat.le_refl _)
    obtain ⟨tc, htc⟩ := List.getElem?_of_mem h1
    by_cases e : tc < 1
    · obtain rfl : tc = 0 := by omega
      rw [h.head] at htc
      exact htc.symm
    · obtain ⟨p, p1, _, _, _, p5, _, _⟩ := hO.par tc _ (by omega) htc
      obtain ⟨h3, h4⟩ := h.inq p (List.mem_of_getElem? p1)
      obtain ⟨y, h5, _⟩ := h.dist.some_ p h3 h4
      omega
  · rw [hlen, wayL_at (by omega), show k - (k + 1 - 1) = 0 from by omega]
    rfl
  · obtain ⟨t, ht⟩ := List.getElem?_of_mem hc
    have hlt := (List.getElem?_eq_some_iff.1 ht).1
    rw [hlen] at hlt
    rw [wayL_at (by omega)] at ht
    rw [← Option.some.inj ht]
    exact walk_open ho (hop t (by omega))
  · have hlt := (List.getElem?_eq_some_iff.1 hn).1
    rw [hlen] at hlt
    rw [wayL_at (by omega)] at hc hn
    obtain rfl := Option.some.inj hc
    obtain rfl := Option.some.inj hn
    obtain ⟨⟨m1, m2⟩, m3⟩ := hA (k - (t + 1)) (by omega)
    obtain ⟨_, tc, q1, q2, q3, q4, q5⟩ := m3 (by omega)
    rw [show k - (t + 1) + 1 = k - t from by omega] at q3 q5
    refine ⟨D tc, q4, q5, fun d' m hd hm hmo x hx hto => ?_⟩
    rw [hlen] at hx
    have hfm : Fw f avoid a (t + 1) m := .step (hop t (by omega)) (spE_fw.2 ⟨d', by omega, hm, hmo⟩)
    have hge := hmin _ (to_fw ho hto _ hfm)
    obtain rfl : x = k - (t + 1) := by omega
    obtain ⟨tm, h1, h2⟩ := hO.first (P tc) d' _ m (by have := (List.getElem?_eq_some_iff.1 q3).1; omega) (by omega) q3 hm hmo
    have hlt2 : tm < tc := by
      apply Classical.byContradiction
      intro hge
      rcases Nat.lt_or_ge tc tm with h7 | h7
      · have := hO.asc tc tm q2 h7 (List.getElem?_eq_some_iff.1 h1).1
        omega
      · have : tc = tm := by omega
        subst this
        omega
    refine h.later hO ho (k - (t + 1)) m _ tm tc h1 q1 hlt2 hto (by rw [m2, hk]; omega) ⟨fun y => anc bf b y, rfl, rfl, fun y hy => ?_⟩
    obtain ⟨⟨n1, n2⟩, n3⟩ := hA y (by omega)
    obtain ⟨⟨n4, n5⟩, _⟩ := hA (y + 1) (by omega)
    exact ⟨(n3 (by omega)).1, by rw [n2, n5]; push_cast; omega, n1⟩
  · rw [hlen]
    have := hmin x ((fw_iff ho).2 hx)
    omega
end
end
end Flo
end Go.Proofs.YtgophgnfiboefaaGreatDoor

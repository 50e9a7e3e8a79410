/- A floor, plainly: cells, places, neighbours. Nothing of the program is imported. Breadth first, plainly: least lengths of walks; a queue finds them. Nothing of the program is imported. -/
namespace Go.Proofs.YtgophgnfiboefaaGreatDoor
namespace Flo

structure Fl where
  W : Int
  H : Int
  D : Int
  Kind : List Int
  Out : List Int

section
variable {f : Fl} {c d n x y z : Int}
def Fl.size (f : Fl) : Int := f.W * f.H * f.D
/-- It is right. -/
structure Fl.ok (f : Fl) : Prop where
  w : 1 ≤ f.W
  h : 1 ≤ f.H
  d : 1 ≤ f.D
  d4 : f.D ≤ 4
  size : f.W * f.H * f.D ≤ 4096
  kinds : (f.Kind.length : Int) = f.W * f.H * f.D
  outs : (f.Out.length : Int) = f.W * f.H * f.D
  kind : ∀ k ∈ f.Kind, 0 ≤ k ∧ k < 7
  out : ∀ o ∈ f.Out, 0 ≤ o ∧ o ≤ 63
def Fl.is (f : Fl) (c : Int) : Bool := decide (0 ≤ c ∧ c < f.W * f.H * f.D)
def Fl.cell (f : Fl) (x y z : Int) : Int := if 0 ≤ x ∧ x < f.W ∧ 0 ≤ y ∧ y < f.H ∧ 0 ≤ z ∧ z < f.D then (z * f.H + y) * f.W + x else -1
def Fl.px (f : Fl) (c : Int) : Int := c % f.W
def Fl.py (f : Fl) (c : Int) : Int := c / f.W % f.H
def Fl.pz (f : Fl) (c : Int) : Int := c / f.W / f.H
def Fl.at (f : Fl) (c : Int) : Int × Int × Int := if f.is c then (f.px c, f.py c, f.pz c) else (0, 0, 0)
def dx (d : Int) : Int := if d = 0 then 1 else if d = 2 then -1 else 0
def dy (d : Int) : Int := if d = 1 then 1 else if d = 3 then -1 else 0
def dz (d : Int) : Int := if d = 4 then 1 else if d = 5 then -1 else 0
def isDir (d : Int) : Bool := decide (0 ≤ d ∧ d ≤ 5)
/-- The neighbour; -1, if there is none. -/
def Fl.beside (f : Fl) (c d : Int) : Int := if f.is c && isDir d then f.cell (f.px c + dx d) (f.py c + dy d) (f.pz c + dz d) else -1
def opp (d : Int) : Int := if d = 0 then 2 else if d = 2 then 0 else if d = 1 then 3 else if d = 3 then 1 else if d = 4 then 5 else if d = 5 then 4 else -1
def Fl.kindAt (f : Fl) (c : Int) : Int := f.Kind.getD c.toNat 0
def Fl.outAt (f : Fl) (c : Int) : Int := f.Out.getD c.toNat 0
def bitOf (o d : Int) : Int := o / 2 ^ d.toNat % 2
/-- May one go from c to its neighbour n? -/
def Fl.may (f : Fl) (c n d : Int) : Bool := f.kindAt c != 0 && f.kindAt n != 0 && bitOf (f.outAt c) d != 0 && (decide (d < 4) || (f.kindAt c == 6 && f.kindAt n == 6))
def Fl.next (f : Fl) (c d : Int) : Option Int := if f.beside c d < 0 then none else if f.may c (f.beside c d) d then some (f.beside c d) else none
def Fl.back (f : Fl) (c d : Int) : Option Int := if f.beside c (opp d) < 0 then none else if (f.next (f.beside c (opp d)) d).isSome then some (f.beside c (opp d)) else none
def Fl.near (f : Fl) (a b : Int) : Bool := f.is b && (f.beside a 0 == b || f.beside a 1 == b || f.beside a 2 == b || f.beside a 3 == b)

/-! Numbers. -/
theorem split_mod {q r m : Int} (h0 : 0 ≤ r) (h1 : r < m) : (q * m + r) % m = r ∧ (q * m + r) / m = q := by
  have hm : m ≠ 0 := by omega
  constructor
  · rw [Int.add_comm, Int.add_mul_emod_self_right]
    exact Int.emod_eq_of_lt h0 h1
  · rw [Int.add_comm, Int.add_mul_ediv_right _ _ hm, Int.ediv_eq_zero_of_lt h0 h1]
    omega
theorem inside_size {w h dd : Int} (hx : 0 ≤ x ∧ x < w) (hy : 0 ≤ y ∧ y < h) (hz : 0 ≤ z ∧ z < dd) : 0 ≤ (z * h + y) * w + x ∧ (z * h + y) * w + x < w * h * dd := by
  have e1 : 0 ≤ z * h := Int.mul_nonneg hz.1 (by omega)
  have e2 : 0 ≤ (z * h + y) * w := Int.mul_nonneg (by omega) (by omega)
  refine ⟨by omega, ?_⟩
  have e3 : z * h + y + 1 ≤ (dd - 1) * h + h := by
    have : z * h ≤ (dd - 1) * h := Int.mul_le_mul_of_nonneg_right (by omega) (by omega)
    omega
  have e4 : (dd - 1) * h + h = dd * h := by rw [Int.sub_mul]; omega
  have e5 : (z * h + y + 1) * w ≤ dd * h * w := Int.mul_le_mul_of_nonneg_right (by omega) (by omega)
  rw [Int.add_mul (z * h + y) 1 w] at e5
  have e6 : dd * h * w = w * h * dd := by rw [Int.mul_comm dd h, Int.mul_comm (h * dd) w, Int.mul_assoc]
  omega

/-! Cells and places. -/
/-- A place of the floor. -/
def Fl.inn (f : Fl) (x y z : Int) : Prop := 0 ≤ x ∧ x < f.W ∧ 0 ≤ y ∧ y < f.H ∧ 0 ≤ z ∧ z < f.D
theorem Fl.cell_in (h : f.inn x y z) : f.cell x y z = (z * f.H + y) * f.W + x := if_pos h
theorem Fl.cell_out (h : ¬ f.inn x y z) : f.cell x y z = -1 := if_neg h
theorem Fl.cell_is (h : f.inn x y z) : f.is (f.cell x y z) = true := by
  rw [Fl.cell_in h]
  obtain ⟨a, b, c, d, e, g⟩ := h
  exact decide_eq_true (inside_size ⟨a, b⟩ ⟨c, d⟩ ⟨e, g⟩)
theorem Fl.cell_place (h : f.inn x y z) : f.px (f.cell x y z) = x ∧ f.py (f.cell x y z) = y ∧ f.pz (f.cell x y z) = z := by
  rw [Fl.cell_in h]
  obtain ⟨a, b, c, d, e, g⟩ := h
  have h1 := split_mod (q := z * f.H + y) a b
  have h2 := split_mod (q := z) c d
  unfold Fl.px Fl.py Fl.pz
  rw [h1.1, h1.2]
  exact ⟨rfl, h2.1, h2.2⟩
theorem Fl.is_bounds (h : f.is c = true) : 0 ≤ c ∧ c < f.W * f.H * f.D := of_decide_eq_true h
theorem Fl.place_in (ho : f.ok) (h : f.is c = true) : f.inn (f.px c) (f.py c) (f.pz c) := by
  obtain ⟨h0, h1⟩ := Fl.is_bounds h
  have hw := ho.w
  have hh := ho.h
  unfold Fl.inn Fl.px Fl.py Fl.pz
  refine ⟨Int.emod_nonneg _ (by omega), Int.emod_lt_of_pos _ (by omega), Int.emod_nonneg _ (by omega), Int.emod_lt_of_pos _ (by omega), Int.ediv_nonneg (Int.ediv_nonneg h0 (by omega)) (by omega), ?_⟩
  rw [Int.ediv_ediv_of_nonneg (by omega)]
  refine Int.ediv_lt_of_lt_mul (Int.mul_pos (by omega) (by omega)) ?_
  rw [Int.mul_comm f.D]
  exact h1
theorem Fl.place_cell (ho : f.ok) (h : f.is c = true) : f.cell (f.px c) (f.py c) (f.pz c) = c := by
  rw [Fl.cell_in (Fl.place_in ho h)]
  unfold Fl.px Fl.py Fl.pz
  have e1 : c / f.W / f.H * f.H + c / f.W % f.H = c / f.W := by
    have := Int.mul_ediv_add_emod (c / f.W) f.H
    rw [Int.mul_comm]
    exact this
  rw [e1]
  have := Int.mul_ediv_add_emod c f.W
  rw [Int.mul_comm]
  exact this
theorem Fl.cell_neg : f.cell x y z < 0 ↔ ¬ f.inn x y z := by
  by_cases h : f.inn x y z
  · have := Fl.is_bounds (Fl.cell_is h)
    exact ⟨fun e => by omega, fun e => absurd h e⟩
  · rw [Fl.cell_out h]
    exact ⟨fun _ => h, fun _ => by omega⟩
/-- Two cells at one place are one. -/
theorem Fl.place_inj {a b : Int} (ho : f.ok) (ha : f.is a = true) (hb : f.is b = true) (hx : f.px a = f.px b) (hy : f.py a = f.py b) (hz : f.pz a = f.pz b) : a = b := by
  rw [← Fl.place_cell ho ha, ← Fl.place_cell ho hb, hx, hy, hz]

/-! Neighbours. -/
theorem dir_cases (h : isDir d = true) : d = 0 ∨ d = 1 ∨ d = 2 ∨ d = 3 ∨ d = 4 ∨ d = 5 := by
  have := of_decide_eq_true h
  omega
theorem opp_dir (h : isDir d = true) : isDir (opp d) = true ∧ dx (opp d) = - dx d ∧ dy (opp d) = - dy d ∧ dz (opp d) = - dz d ∧ opp (opp d) = d ∧ opp d ≠ d := by
  rcases dir_cases h with rfl | rfl | rfl | rfl | rfl | rfl <;> decide
theorem opp_none (h : isDir d = false) : opp d = -1 := by
  have := of_decide_eq_false h
  unfold opp
  rw [if_neg (by omega), if_neg (by omega), if_neg (by omega), if_neg (by omega), if_neg (by omega), if_neg (by omega)]
theorem Fl.beside_some (h : ¬ f.beside c d < 0) : f.is c = true ∧ isDir d = true ∧ f.inn (f.px c + dx d) (f.py c + dy d) (f.pz c + dz d) ∧ f.beside c d = f.cell (f.px c + dx d) (f.py c + dy d) (f.pz c + dz d) := by
  unfold Fl.beside at h ⊢
  split at h
  · rename_i h1
    rw [if_pos h1]
    simp only [Bool.and_eq_true] at h1
    exact ⟨h1.1, h1.2, Classical.not_not.1 (fun e => h (Fl.cell_neg.2 e)), rfl⟩
  · exact absurd (by decide) h
/-- The neighbour is a cell whose place differs by the step. -/
theorem Fl.beside_place (h : ¬ f.beside c d < 0) : f.is (f.beside c d) = true ∧ f.px (f.beside c d) = f.px c + dx d ∧ f.py (f.beside c d) = f.py c + dy d ∧ f.pz (f.beside c d) = f.pz c + dz d := by
  obtain ⟨_, _, h3, h4⟩ := Fl.beside_some h
  rw [h4]
  exact ⟨Fl.cell_is h3, Fl.cell_place h3⟩
theorem Fl.beside_of (ho : f.ok) (hc : f.is c = true) (hd : isDir d = true) (hn : f.is n = true) (hx : f.px n = f.px c + dx d) (hy : f.py n = f.py c + dy d) (hz : f.pz n = f.pz c + dz d) : f.beside c d = n := by
  unfold Fl.beside
  rw [hc, hd]
  simp only [Bool.and_self, if_true]
  rw [← hx, ← hy, ← hz]
  exact Fl.place_cell ho hn
theorem Fl.beside_opp (ho : f.ok) (h : ¬ f.beside c d < 0) : f.beside (f.beside c d) (opp d) = c := by
  obtain ⟨h1, h2, _, _⟩ := Fl.beside_some h
  obtain ⟨p0, p1, p2, p3⟩ := Fl.beside_place h
  obtain ⟨o0, o1, o2, o3, _, _⟩ := opp_dir h2
  exact Fl.beside_of ho p0 o0 h1 (by omega) (by omega) (by omega)
theorem Fl.beside_none (h : isDir d = false) : f.beside c d = -1 := by
  unfold Fl.beside
  rw [h]
  simp
theorem Fl.beside_nocell (h : f.is c = false) : f.beside c d = -1 := by
  unfold Fl.beside
  rw [h]
  simp
theorem Fl.beside_ne (h : ¬ f.beside c d < 0) : f.beside c d ≠ c := by
  intro e
  obtain ⟨_, h2, _, _⟩ := Fl.beside_some h
  obtain ⟨_, p1, p2, p3⟩ := Fl.beside_place h
  rw [e] at p1 p2 p3
  rcases dir_cases h2 with rfl | rfl | rfl | rfl | rfl | rfl <;> simp [dx, dy, dz] at p1 p2 p3 <;> omega

/-! Steps. -/
theorem Fl.next_some (h : f.next c d = some n) : ¬ f.beside c d < 0 ∧ n = f.beside c d ∧ f.may c n d = true := by
  unfold Fl.next at h
  split at h
  · cases h
  · rename_i h1
    split at h
    · rename_i h2
      injection h with h
      subst h
      exact ⟨h1, rfl, h2⟩
    · cases h
theorem Fl.next_is (h : f.next c d = some n) : f.is c = true ∧ isDir d = true ∧ f.is n = true ∧ 0 ≤ n ∧ 0 ≤ c := by
  obtain ⟨h1, rfl, _⟩ := Fl.next_some h
  obtain ⟨a, b, _, _⟩ := Fl.beside_some h1
  exact ⟨a, b, (Fl.beside_place h1).1, by omega, (Fl.is_bounds a).1⟩
theorem Fl.next_of (h1 : ¬ f.beside c d < 0) (h2 : f.may c (f.beside c d) d = true) : f.next c d = some (f.beside c d) := by
  unfold Fl.next
  rw [if_neg h1, if_pos h2]
theorem Fl.back_some (ho : f.ok) (h : f.back c d = some n) : f.next n d = some c := by
  unfold Fl.back at h
  split at h
  · cases h
  · rename_i h1
    split at h
    · rename_i h2
      injection h with h
      obtain ⟨m, hm⟩ := Option.isSome_iff_exists.1 h2
      obtain ⟨h3, h4, _⟩ := Fl.next_some hm
      obtain ⟨_, k2, _, _⟩ := Fl.beside_some h3
      have e := Fl.beside_opp ho h1
      rw [(opp_dir k2).2.2.2.2.1] at e
      rw [h4, e] at hm
      rw [← h]
      exact hm
    · cases h
theorem Fl.next_back (ho : f.ok) (h : f.next n d = some c) : f.back c d = some n := by
  obtain ⟨h1, h2, _⟩ := Fl.next_some h
  have e := Fl.beside_opp ho h1
  rw [← h2] at e
  have hn := (Fl.next_is h).2.2.2.2
  unfold Fl.back
  rw [e, if_neg (by omega), h]
  rfl
/-- Next and Back are inverse to each other. -/
theorem Fl.back_iff (ho : f.ok) : f.back c d = some n ↔ f.next n d = some c := ⟨Fl.back_some ho, Fl.next_back ho⟩
theorem Fl.back_none (h : isDir d = false) : f.back c d = none := by
  unfold Fl.back
  rw [opp_none h, Fl.beside_none (by decide), if_pos (by decide)]
theorem Fl.next_none (h : isDir d = false) : f.next c d = none := by
  unfold Fl.next
  rw [Fl.beside_none h, if_pos (by decide)]
end
end Flo
end Go.Proofs.YtgophgnfiboefaaGreatDoor

namespace Go.Proofs.YtgophgnfiboefaaGreatDoor
namespace Flo

/-- What a list says of a node. -/
abbrev gt (out : List Int) (c : Nat) : Int := out.getD c (-1)
section
variable {N : Nat} {src : Nat → Prop} {E : Nat → Nat → Prop} {out a b : List Int} {q : List Nat} {c n i : Nat}
theorem gt_set (h : n < out.length) (v : Int) (c : Nat) : gt (out.set n v) c = if c = n then v else gt out c := by
  unfold gt
  rw [List.getD_eq_getElem?_getD, List.getD_eq_getElem?_getD, List.getElem?_set]
  by_cases e : n = c
  · rw [if_pos e, if_pos e.symm, if_pos (by omega)]
    rfl
  · rw [if_neg e, if_neg (Ne.symm e)]
theorem gt_of (h : c < out.length) : out[c]? = some (gt out c) := by
  unfold gt
  rw [List.getD_eq_getElem?_getD, List.getElem?_eq_getElem h]
  rfl

inductive Walk (src : Nat → Prop) (E : Nat → Nat → Prop) : Nat → Nat → Prop
  | src {c : Nat} : src c → Walk src E 0 c
  | step {k c n : Nat} : Walk src E k c → E c n → Walk src E (k + 1) n
/-- The list holds the least lengths; -1, where there is no walk. -/
structure IsDist (N : Nat) (src : Nat → Prop) (E : Nat → Nat → Prop) (out : List Int) : Prop where
  len : out.length = N
  none_ : ∀ c, c < N → gt out c = -1 → ∀ k, ¬ Walk src E k c
  some_ : ∀ c, c < N → gt out c ≠ -1 → ∃ k : Nat, gt out c = k ∧ Walk src E k c ∧ ∀ j, j < k → ¬ Walk src E j c
theorem IsDist.unique (ha : IsDist N src E a) (hb : IsDist N src E b) : a = b := by
  have hg : ∀ c, c < N → gt a c = gt b c := by
    intro c hc
    by_cases ea : gt a c = -1
    · by_cases eb : gt b c = -1
      · rw [ea, eb]
      · obtain ⟨k, _, hw, _⟩ := hb.some_ c hc eb
        exact absurd hw (ha.none_ c hc ea k)
    · obtain ⟨k, h1, hw, hl⟩ := ha.some_ c hc ea
      by_cases eb : gt b c = -1
      · exact absurd hw (hb.none_ c hc eb k)
      · obtain ⟨k', h1', hw', hl'⟩ := hb.some_ c hc eb
        have : k = k' := by
          rcases Nat.lt_trichotomy k k' with h | h | h
          · exact absurd hw (hl' k h)
          · exact h
          · exact absurd hw' (hl k' h)
        rw [h1, h1', this]
  refine List.ext_getElem? fun c => ?_
  by_cases hc : c < N
  · rw [gt_of (by rw [ha.len]; exact hc), gt_of (by rw [hb.len]; exact hc), hg c hc]
  · rw [List.getElem?_eq_none (by rw [ha.len]; omega), List.getElem?_eq_none (by rw [hb.len]; omega)]

/-- A queue of nodes, and what is said of them. -/
structure Bfs (N : Nat) (src : Nat → Prop) (E : Nat → Nat → Prop) (out : List Int) (q : List Nat) (i : Nat) : Prop where
  len : out.length = N
  lt : ∀ c ∈ q, c < N
  nodup : q.Nodup
  neg : ∀ c, c ∉ q → gt out c = -1
  walk : ∀ c ∈ q, ∃ k : Nat, gt out c = k ∧ Walk src E k c
  srcs : ∀ c, src c → c ∈ q ∧ gt out c = 0
  mono : ∀ (j j' c c' : Nat), j ≤ j' → q[j]? = some c → q[j']? = some c' → gt out c ≤ gt out c'
  near : ∀ (c j c' : Nat), q[i]? = some c → q[j]? = some c' → gt out c' ≤ gt out c + 1
  done : ∀ (j c n : Nat), j < i → q[j]? = some c → E c n → n ∈ q ∧ gt out n ≤ gt out c + 1
  idx : ∀ (j c : Nat), q[j]? = some c → gt out c ≤ j
theorem nodup_len : ∀ {q : List Nat} {N : Nat}, q.Nodup → (∀ c ∈ q, c < N) → q.length ≤ N
  | q, 0, hn, hl => by
    cases q with
    | nil => exact Nat.le_refl _
    | cons c r => exact absurd (hl c (List.mem_cons_self ..)) (by omega)
  | q, N + 1, hn, hl => by
    have h1 := nodup_len (q := q.erase N) (N := N) (hn.erase N) (fun c hc => by
      have h2 := hl c (List.mem_of_mem_erase hc)
      have h3 : c ≠ N := fun e => by
        rw [e] at hc
        exact (List.Nodup.mem_erase_iff hn).1 hc |>.1 rfl
      omega)
    rw [List.length_erase] at h1
    split at h1 <;> omega
theorem Bfs.len_le (h : Bfs N src E out q i) : q.length ≤ N := nodup_len h.nodup h.lt
theorem Bfs.mem_iff (h : Bfs N src E out q i) : c ∈ q ↔ 0 ≤ gt out c := by
  constructor
  · intro hc
    obtain ⟨k, h1, _⟩ := h.walk c hc
    omega
  · intro hc
    apply Classical.byContradiction
    intro e
    have := h.neg c e
    omega
/-- The next one in the queue has a neighbour that is not in it. -/
theorem Bfs.visit (h : Bfs N src E out q i) (hc : q[i]? = some c) (he : E c n) (hn : n < N) (hf : gt out n < 0) :
    Bfs N src E (out.set n (gt out c + 1)) (q ++ [n]) i ∧ gt (out.set n (gt out c + 1)) n = gt out c + 1 ∧ ∀ m ∈ q, gt (out.set n (gt out c + 1)) m = gt out m := by
  have hcq : c ∈ q := List.mem_of_getElem? hc
  have hnq : n ∉ q := fun e => by have := h.mem_iff.1 e; omega
  have hcn : c ≠ n := fun e => hnq (e ▸ hcq)
  have hil := (List.getElem?_eq_some_iff.1 hc).1
  have hs := gt_set (out := out) (n := n) (by rw [h.len]; exact hn) (gt out c + 1)
  have hself : gt (out.set n (gt out c + 1)) n = gt out c + 1 := by rw [hs, if_pos rfl]
  have hold : ∀ m, m ≠ n → gt (out.set n (gt out c + 1)) m = gt out m := fun m hm => by rw [hs, if_neg hm]
  have holdq : ∀ m ∈ q, gt (out.set n (gt out c + 1)) m = gt out m := fun m hm => hold m (fun e => hnq (e ▸ hm))
  have at_ : ∀ j x, (q ++ [n])[j]? = some x → q[j]? = some x ∨ (j = q.length ∧ x = n) := fun j x hx => by
    rcases Nat.lt_or_ge j q.length with hj | hj
    · rw [List.getElem?_append_left hj] at hx
      exact .inl hx
    · have hlt := (List.getElem?_eq_some_iff.1 hx).1
      simp at hlt
      obtain rfl : j = q.length := by omega
      rw [List.getElem?_append_right (by omega)] at hx
      simp at hx
      exact .inr ⟨rfl, hx.symm⟩
  have hiq : (q ++ [n])[i]? = some c := by rw [List.getElem?_append_left hil]; exact hc
  refine ⟨⟨by rw [List.length_set]; exact h.len, fun m hm => ?_, ?_, fun m hm => ?_, fun m hm => ?_, fun m hm => ?_, fun j j' x x' hj hx hx' => ?_, fun x j x' hx hx' => ?_, fun j x m hj hx hm => ?_, fun j x hx => ?_⟩, hself, holdq⟩
  · rcases List.mem_append.1 hm with h1 | h1
    · exact h.lt m h1
    · rw [List.mem_singleton.1 h1]; exact hn
  · exact List.nodup_append.2 ⟨h.nodup, by simp, fun x hx y hy e => by
      rw [List.mem_singleton.1 hy] at e
      exact hnq (e ▸ hx)⟩
  · have h1 : m ∉ q := fun e => hm (List.mem_append_left _ e)
    have h2 : m ≠ n := fun e => hm (List.mem_append_right _ (by simp [e]))
    rw [hold m h2]
    exact h.neg m h1
  · rcases List.mem_append.1 hm with h1 | h1
    · rw [holdq m h1]
      exact h.walk m h1
    · rw [List.mem_singleton.1 h1, hself]
      obtain ⟨k, h2, h3⟩ := h.walk c hcq
      exact ⟨k + 1, by rw [h2]; omega, .step h3 he⟩
  · obtain ⟨h1, h2⟩ := h.srcs m hm
    exact ⟨List.mem_append_left _ h1, by rw [holdq m h1]; exact h2⟩
  · rcases at_ j x hx with h1 | ⟨h1, h1'⟩ <;> rcases at_ j' x' hx' with h2 | ⟨h2, h2'⟩
    · rw [holdq x (List.mem_of_getElem? h1), holdq x' (List.mem_of_getElem? h2)]
      exact h.mono j j' x x' hj h1 h2
    · rw [holdq x (List.mem_of_getElem? h1), h2', hself]
      exact h.near c j x hc h1
    · have := (List.getElem?_eq_some_iff.1 h2).1
      omega
    · rw [h1', h2']
      exact Int.le_refl _
  · rw [hiq] at hx
    obtain rfl := Option.some.inj hx
    rw [holdq c hcq]
    rcases at_ j x' hx' with h1 | ⟨_, h1'⟩
    · rw [holdq x' (List.mem_of_getElem? h1)]
      exact h.near c j x' hc h1
    · rw [h1', hself]
      exact Int.le_refl _
  · rcases at_ j x hx with h1 | ⟨h1, _⟩
    · obtain ⟨h2, h3⟩ := h.done j x m hj h1 hm
      exact ⟨List.mem_append_left _ h2, by rw [holdq m h2, holdq x (List.mem_of_getElem? h1)]; exact h3⟩
    · omega
  · rcases at_ j x hx with h1 | ⟨h1, h1'⟩
    · rw [holdq x (List.mem_of_getElem? h1)]
      exact h.idx j x h1
    · rw [h1', hself]
      have := h.idx i c hc
      omega
/-- All neighbours of the next one are in the queue. -/
theorem Bfs.next (h : Bfs N src E out q i) (hc : q[i]? = some c) (hd : ∀ n, E c n → 0 ≤ gt out n) : Bfs N src E out q (i + 1) := by
  have hcq : c ∈ q := List.mem_of_getElem? hc
  refine { h with near := fun x j x' hx hx' => ?_, done := fun j x m hj hx hm => ?_ }
  · have h1 := h.near c j x' hc hx'
    have h2 := h.mono i (i + 1) c x (by omega) hc hx
    omega
  · by_cases e : j = i
    · subst e
      rw [hc] at hx
      obtain rfl := Option.some.inj hx
      have hmq := h.mem_iff.2 (hd m hm)
      obtain ⟨j', hj'⟩ := List.getElem?_of_mem hmq
      exact ⟨hmq, h.near c j' m hc hj'⟩
    · exact h.done j x m (by omega) hx hm
/-- The queue is done. -/
theorem Bfs.dist (h : Bfs N src E out q i) (hi : q.length ≤ i) : IsDist N src E out := by
  have reach : ∀ k c, Walk src E k c → c ∈ q ∧ gt out c ≤ k := by
    intro k c hw
    induction hw with
    | src hs =>
      obtain ⟨h1, h2⟩ := h.srcs _ hs
      exact ⟨h1, by omega⟩
    | step _ he ih =>
      obtain ⟨h1, h2⟩ := ih
      obtain ⟨j, hj⟩ := List.getElem?_of_mem h1
      have hjl := (List.getElem?_eq_some_iff.1 hj).1
      obtain ⟨h3, h4⟩ := h.done j _ _ (by omega) hj he
      exact ⟨h3, by push_cast; omega⟩
  refine ⟨h.len, fun c hc e k hw => ?_, fun c hc e => ?_⟩
  · have := h.mem_iff.1 (reach k c hw).1
    omega
  · have hq : c ∈ q := Classical.byContradiction fun e2 => e (h.neg c e2)
    obtain ⟨k, h1, h2⟩ := h.walk c hq
    exact ⟨k, h1, h2, fun j hj hw => by have := (reach j c hw).2; omega⟩

/-- The queue's beginning. -/
structure Srcs (N : Nat) (src : Nat → Prop) (out : List Int) (q : List Nat) : Prop where
  len : out.length = N
  lt : ∀ c ∈ q, c < N
  nodup : q.Nodup
  neg : ∀ c, c ∉ q → gt out c = -1
  zero : ∀ c ∈ q, gt out c = 0
  src : ∀ c ∈ q, src c
theorem Srcs.nil (N : Nat) : Srcs N src (List.replicate N (-1)) [] := by
  refine ⟨List.length_replicate, fun c h => (by cases h), List.nodup_nil, fun c _ => ?_, fun c h => (by cases h), fun c h => (by cases h)⟩
  unfold gt
  rw [List.getD_eq_getElem?_getD, List.getElem?_replicate]
  split <;> rfl
theorem Srcs.add (h : Srcs N src out q) (hs : src c) (hc : c < N) (hf : gt out c < 0) : Srcs N src (out.set c 0) (q ++ [c]) := by
  have hcq : c ∉ q := fun e => by have := h.zero c e; omega
  have hs2 := gt_set (out := out) (n := c) (by rw [h.len]; exact hc) 0
  refine ⟨by rw [List.length_set]; exact h.len, fun m hm => ?_, ?_, fun m hm => ?_, fun m hm => ?_, fun m hm => ?_⟩
  · rcases List.mem_append.1 hm with h1 | h1
    · exact h.lt m h1
    · rw [List.mem_singleton.1 h1]; exact hc
  · exact List.nodup_append.2 ⟨h.nodup, by simp, fun x hx y hy e => by
      rw [List.mem_singleton.1 hy] at e
      exact hcq (e ▸ hx)⟩
  · rw [hs2, if_neg (fun e => hm (List.mem_append_right _ (by simp [e])))]
    exact h.neg m (fun e => hm (List.mem_append_left _ e))
  · rw [hs2]
    by_cases e : m = c
    · rw [if_pos e]
    · rw [if_neg e]
      rcases List.mem_append.1 hm with h1 | h1
      · exact h.zero m h1
      · exact absurd (List.mem_singleton.1 h1) e
  · rcases List.mem_append.1 hm with h1 | h1
    · exact h.src m h1
    · rw [List.mem_singleton.1 h1]; exact hs
theorem Srcs.has (h : Srcs N src out q) (hf : ¬ gt out c < 0) : c ∈ q := by
  apply Classical.byContradiction
  intro e
  have := h.neg c e
  omega
theorem Srcs.start (h : Srcs N src out q) (hall : ∀ c, src c → c ∈ q) : Bfs N src E out q 0 :=
  ⟨h.len, h.lt, h.nodup, h.neg, fun c hc => ⟨0, h.zero c hc, .src (h.src c hc)⟩, fun c hc => ⟨hall c hc, h.zero c (hall c hc)⟩,
    fun j j' c c' _ h1 h2 => by rw [h.zero c (List.mem_of_getElem? h1), h.zero c' (List.mem_of_getElem? h2)]; exact Int.le_refl _,
    fun c j c' h1 h2 => by rw [h.zero c (List.mem_of_getElem? h1), h.zero c' (List.mem_of_getElem? h2)]; decide,
    fun j c n hj => (by omega), fun j c hc => by rw [h.zero c (List.mem_of_getElem? hc)]; omega⟩
end
end Flo
end Go.Proofs.YtgophgnfiboefaaGreatDoor

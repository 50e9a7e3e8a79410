/- Quoted strings as plain functions on bytes; nothing of the program is imported. -/
import Derived.WalkKit
namespace Go.Proofs.YtjgaghapjlmcpaaDoor
namespace Txt

def hexes : List UInt8 := [48, 49, 50, 51, 52, 53, 54, 55, 56, 57, 97, 98, 99, 100, 101, 102]
def hx (n : Nat) : UInt8 := hexes.getD n 0

/-- What stands for a byte in a quoted string. -/
def encB (c : UInt8) : List UInt8 :=
  if c = 34 ∨ c = 92 then [92, c]
  else if c = 10 then [92, 110]
  else if c.toNat < 32 ∨ 126 < c.toNat then [92, 120, hx (c.toNat / 16), hx (c.toNat % 16)]
  else [c]
/-- The quoted string. -/
def quo (l : List UInt8) : List UInt8 := 34 :: (l.flatMap encB ++ [34])

theorem encB_len (c : UInt8) : 1 ≤ (encB c).length ∧ (encB c).length ≤ 4 := by
  unfold encB
  split
  · simp
  · split
    · simp
    · split <;> simp
theorem flat_len (l : List UInt8) : (l.flatMap encB).length ≤ 4 * l.length := by
  induction l with
  | nil => simp
  | cons c l ih =>
    have := encB_len c
    simp only [List.flatMap_cons, List.length_append, List.length_cons]
    omega
theorem quo_len (l : List UInt8) : (quo l).length ≤ 4 * l.length + 2 := by
  have := flat_len l
  unfold quo
  rw [List.length_cons, List.length_append, List.length_singleton]
  omega

/-- The value of a hexadecimal digit, or 0. -/
def dgN (c : UInt8) : Nat := if hexes.contains c then hexes.idxOf c else 0

theorem dgN_lt (c : UInt8) : dgN c < 16 := by
  unfold dgN
  split
  · rename_i h
    have := List.idxOf_lt_length_of_mem (List.contains_iff_mem.1 h)
    simpa [hexes] using this
  · omega

/-- The byte for which the beginning stands, and how many bytes this takes. -/
def dq (c : UInt8) (r : List UInt8) : UInt8 × Nat :=
  if c = 92 then
    match r with
    | [] => (c, 1)
    | d :: r' =>
      if d = 110 then (10, 2)
      else if d = 120 then
        match r' with
        | a :: b :: _ => (UInt8.ofNat (16 * dgN a + dgN b), 4)
        | _ => (d, 2)
      else (d, 2)
  else (c, 1)

theorem dq_size (c : UInt8) (r : List UInt8) : 1 ≤ (dq c r).2 ∧ (dq c r).2 ≤ r.length + 1 := by
  unfold dq
  split
  · cases r with
    | nil => simp
    | cons d r' =>
      simp only
      split
      · simp
      · split
        · split <;> simp
        · simp
  · simp

def unqF : Nat → List UInt8 → List UInt8
  | 0, _ => []
  | _ + 1, [] => []
  | k + 1, c :: r => (dq c r).1 :: unqF k ((c :: r).drop (dq c r).2)
def unq (l : List UInt8) : List UInt8 := unqF l.length l

theorem unqF_more : ∀ (k : Nat) (l : List UInt8), l.length ≤ k → unqF k l = unqF l.length l
  | 0, l, h => by
    have : l = [] := List.eq_nil_of_length_eq_zero (by omega)
    subst this
    rfl
  | k + 1, [], _ => rfl
  | k + 1, c :: r, h => by
    have hs := dq_size c r
    simp only [List.length_cons] at h
    have hd : ((c :: r).drop (dq c r).2).length ≤ r.length := by
      rw [List.length_drop, List.length_cons]
      omega
    show _ :: _ = _ :: _
    congr 1
    rw [unqF_more k _ (by omega), unqF_more r.length _ hd]

theorem unq_nil : unq [] = [] := rfl
theorem unq_cons (c : UInt8) (r : List UInt8) : unq (c :: r) = (dq c r).1 :: unq ((c :: r).drop (dq c r).2) := by
  have hs := dq_size c r
  have hd : ((c :: r).drop (dq c r).2).length ≤ r.length := by
    rw [List.length_drop, List.length_cons]
    omega
  unfold unq
  show _ :: _ = _ :: _
  congr 1
  exact unqF_more r.length _ hd

theorem unq_len : ∀ (k : Nat) (l : List UInt8), (unqF k l).length ≤ l.length
  | 0, l => by simp [unqF]
  | k + 1, [] => by simp [unqF]
  | k + 1, c :: r => by
    have hs := dq_size c r
    have := unq_len k ((c :: r).drop (dq c r).2)
    rw [List.length_drop] at this
    simp only [List.length_cons] at this
    simp only [unqF, List.length_cons]
    omega

/-- The inside of a quoted string. -/
def inner (l : List UInt8) : List UInt8 := (l.take (l.length - 1)).drop 1
def unqT (l : List UInt8) : List UInt8 := unq (inner l)
def unqB (l : List UInt8) : Bool := decide (quo (unqT l) = l)
def unqV (l : List UInt8) : List UInt8 := if unqB l = true then unqT l else []

theorem hex_byte : ∀ n, n < 256 → dgN (hx (n / 16)) = n / 16 ∧ dgN (hx (n % 16)) = n % 16 ∧ UInt8.ofNat (16 * (n / 16) + n % 16) = UInt8.ofNat n := by
  decide +kernel

theorem unq_enc (c : UInt8) (r : List UInt8) : unq (encB c ++ r) = c :: unq r := by
  unfold encB
  split
  · rename_i h
    show unq (92 :: c :: r) = _
    have hd : dq 92 (c :: r) = (c, 2) := by
      unfold dq
      rcases h with rfl | rfl <;> rfl
    rw [unq_cons, hd]
    rfl
  · rename_i h
    split
    · rename_i h10
      subst h10
      show unq (92 :: 110 :: r) = _
      rw [unq_cons, show dq 92 (110 :: r) = (10, 2) from rfl]
      rfl
    · split
      · have hx' := hex_byte c.toNat (UInt8.toNat_lt c)
        show unq (92 :: 120 :: hx (c.toNat / 16) :: hx (c.toNat % 16) :: r) = _
        rw [unq_cons]
        have hd : dq 92 (120 :: hx (c.toNat / 16) :: hx (c.toNat % 16) :: r) = (c, 4) := by
          show (UInt8.ofNat (16 * dgN (hx (c.toNat / 16)) + dgN (hx (c.toNat % 16))), 4) = _
          rw [hx'.1, hx'.2.1, hx'.2.2, UInt8.ofNat_toNat]
        rw [hd]
        rfl
      · show unq (c :: r) = _
        have hd : dq c r = (c, 1) := by
          unfold dq
          rw [if_neg (fun e => h (.inr e))]
        rw [unq_cons, hd]
        rfl

theorem unq_flat (l : List UInt8) : unq (l.flatMap encB) = l := by
  induction l with
  | nil => rfl
  | cons c l ih => rw [List.flatMap_cons, unq_enc, ih]

theorem inner_quo (l : List UInt8) : inner (quo l) = l.flatMap encB := by
  unfold inner quo
  simp

theorem unq_quo (l : List UInt8) : unqB (quo l) = true ∧ unqV (quo l) = l := by
  have h : unqT (quo l) = l := by
    unfold unqT
    rw [inner_quo, unq_flat]
  have hb : unqB (quo l) = true := by
    unfold unqB
    rw [h]
    exact decide_eq_true rfl
  refine ⟨hb, ?_⟩
  unfold unqV
  rw [if_pos hb, h]

theorem unq_yes {l : List UInt8} (h : unqB l = true) : quo (unqV l) = l := by
  unfold unqV
  rw [if_pos h]
  exact of_decide_eq_true h
theorem unq_no {l : List UInt8} (h : unqB l = false) : unqV l = [] := by
  unfold unqV
  rw [h]
  rfl
theorem unq_is {l : List UInt8} (h : quo (unqT l) = l) : unqB l = true ∧ unqV l = unqT l := by
  have hb : unqB l = true := decide_eq_true h
  refine ⟨hb, ?_⟩
  unfold unqV
  rw [if_pos hb]
theorem unq_not {l : List UInt8} (h : quo (unqT l) ≠ l) : unqB l = false ∧ unqV l = [] := by
  have hb : unqB l = false := decide_eq_false h
  exact ⟨hb, unq_no hb⟩
theorem unqV_len (l : List UInt8) : (unqT l).length ≤ l.length := by
  have h1 := unq_len (inner l).length (inner l)
  have h2 : (inner l).length ≤ l.length := by
    unfold inner
    rw [List.length_drop, List.length_take]
    omega
  unfold unqT unq
  omega
end Txt
end Go.Proofs.YtjgaghapjlmcpaaDoor

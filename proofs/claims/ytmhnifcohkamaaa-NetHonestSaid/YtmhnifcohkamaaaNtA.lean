/- A network of packets, plainly: calls as functions of a list and a number; what is delivered was sent. -/
namespace Go.Proofs.Ytmhnifcohkamaaa
namespace Ntw

structure Pk where
  src : Int
  dst : Int
  body : ByteArray
deriving DecidableEq

/-- Packets in flight, and the split (0 to 65535). -/
structure Nt where
  L : List Pk
  m : Nat

def isEnd (a : Int) : Bool := decide (0 ≤ a ∧ a ≤ 15)
def sideOf (m : Nat) (a : Int) : Nat := m / 2 ^ a.toNat % 2
def Nt.hear (S : Nt) (a b : Int) : Bool := isEnd a && isEnd b && (sideOf S.m a == sideOf S.m b)
def Nt.send (S : Nt) (a b : Int) (s : ByteArray) : Int × Nt :=
  if (isEnd a && isEnd b) = false ∨ a = b then (1, S) else
  if S.hear a b = false then (10, S) else
  if 500 ≤ S.L.length then (6, S) else (0, { S with L := S.L ++ [⟨a, b, s⟩] })
def Nt.has (S : Nt) (i : Int) : Bool := decide (0 ≤ i ∧ i < S.L.length)
def Nt.deliver (S : Nt) (i : Int) : Option Pk × Int × Nt :=
  if S.has i = false then (none, 4, S) else
  match S.L[i.toNat]? with
  | none => (none, 4, S)
  | some p => if S.hear p.src p.dst then (some p, 0, { S with L := S.L.eraseIdx i.toNat }) else (none, 10, { S with L := S.L.eraseIdx i.toNat })
def Nt.drop (S : Nt) (i : Int) : Int × Nt := if S.has i = false then (4, S) else (0, { S with L := S.L.eraseIdx i.toNat })
def Nt.double (S : Nt) (i : Int) : Int × Nt :=
  if S.has i = false then (4, S) else
  if 500 ≤ S.L.length then (6, S) else
  match S.L[i.toNat]? with
  | none => (4, S)
  | some p => (0, { S with L := S.L ++ [p] })

/-! What is removed from a list, and how often each thing is in it. -/
theorem count_erase {L : List Pk} {i : Nat} {p : Pk} (h : L[i]? = some p) (x : Pk) : L.count x = (L.eraseIdx i).count x + if p = x then 1 else 0 := by
  induction L generalizing i with
  | nil => cases h
  | cons y L ih =>
    cases i with
    | zero =>
      simp only [List.getElem?_cons_zero, Option.some.injEq] at h
      subst h
      rw [List.eraseIdx_cons_zero, List.count_cons]
      by_cases e : y = x
      · simp [e]
      · simp [e]
    | succ i =>
      rw [List.getElem?_cons_succ] at h
      rw [List.eraseIdx_cons_succ, List.count_cons, List.count_cons, ih h]
      omega
theorem count_snoc (L : List Pk) (p x : Pk) : (L ++ [p]).count x = L.count x + if p = x then 1 else 0 := by
  rw [List.count_append, List.count_cons, List.count_nil]
  by_cases e : p = x <;> simp [e]

/-- Nothing is delivered or in flight more often than it was made. -/
def Fair (made got L : List Pk) : Prop := ∀ x, got.count x + L.count x ≤ made.count x
section
variable {made got : List Pk} {S : Nt}
theorem Fair.nil : Fair [] [] [] := fun _ => Nat.le_refl _
theorem Fair.add {L : List Pk} (h : Fair made got L) (p : Pk) : Fair (made ++ [p]) got (L ++ [p]) := fun x => by
  have := h x
  rw [count_snoc, count_snoc]
  omega
theorem Fair.less {L : List Pk} {i : Nat} {p : Pk} (h : Fair made got L) (hp : L[i]? = some p) : Fair made got (L.eraseIdx i) := fun x => by
  have := h x
  have := count_erase hp x
  omega
theorem Fair.take {L : List Pk} {i : Nat} {p : Pk} (h : Fair made got L) (hp : L[i]? = some p) : Fair made (got ++ [p]) (L.eraseIdx i) := fun x => by
  have := h x
  have := count_erase hp x
  rw [count_snoc]
  omega
theorem has_at {i : Int} (h : S.has i = true) : ∃ p, S.L[i.toNat]? = some p := by
  unfold Nt.has at h
  have h := of_decide_eq_true h
  exact ⟨_, List.getElem?_eq_getElem (by omega)⟩
theorem Nt.hear_ends {a b : Int} (h : S.hear a b = true) : isEnd a = true ∧ isEnd b = true ∧ sideOf S.m a = sideOf S.m b := by
  unfold Nt.hear at h
  simp only [Bool.and_eq_true, beq_iff_eq] at h
  exact ⟨h.1.1, h.1.2, h.2⟩
/-- What every network keeps. -/
structure Nt.ok (S : Nt) : Prop where
  split : S.m < 65536
  len : S.L.length ≤ 500
  ends : ∀ p ∈ S.L, isEnd p.src = true ∧ isEnd p.dst = true ∧ p.src ≠ p.dst
def Nt.empty : Nt := ⟨[], 0⟩
/-- A packet that is none. -/
def Pk.zero : Pk := ⟨0, 0, ⟨#[]⟩⟩
def Nt.splitBy (S : Nt) (mask : Int) : Nt := { S with m := (mask % 65536).toNat }
theorem Nt.ok_empty : Nt.empty.ok := ⟨by decide, by decide, fun p h => by cases h⟩
theorem Nt.ok.splitBy (h : S.ok) (mask : Int) : (S.splitBy mask).ok := ⟨by show (mask % 65536).toNat < _; omega, h.len, h.ends⟩
theorem Nt.ok.add (h : S.ok) {p : Pk} (hl : S.L.length < 500) (hp : isEnd p.src = true ∧ isEnd p.dst = true ∧ p.src ≠ p.dst) : Nt.ok { S with L := S.L ++ [p] } :=
  ⟨h.split, by show (S.L ++ [p]).length ≤ 500; rw [List.length_append]; simp only [List.length_cons, List.length_nil]; omega, fun q hq => by
    rcases List.mem_append.1 hq with h1 | h1
    · exact h.ends q h1
    · rw [List.mem_singleton.1 h1]; exact hp⟩
theorem Nt.ok.less (h : S.ok) (i : Nat) : Nt.ok { S with L := S.L.eraseIdx i } :=
  ⟨h.split, by show (S.L.eraseIdx i).length ≤ 500; have := h.len; rw [List.length_eraseIdx]; split <;> omega, fun q hq => h.ends q (List.mem_of_mem_eraseIdx hq)⟩
theorem Nt.ok.at (h : S.ok) {i : Nat} {p : Pk} (hp : S.L[i]? = some p) : isEnd p.src = true ∧ isEnd p.dst = true ∧ p.src ≠ p.dst := h.ends p (List.mem_of_getElem? hp)
theorem Nt.ok.send (h : S.ok) (a b : Int) (s : ByteArray) : (S.send a b s).2.ok := by
  unfold Nt.send
  split
  · exact h
  · rename_i h1
    split
    · exact h
    · rename_i h2
      split
      · exact h
      · have h3 := Nt.hear_ends (a := a) (b := b) (S := S) (by simpa using h2)
        exact h.add (by omega) ⟨h3.1, h3.2.1, fun e => h1 (.inr e)⟩
theorem Nt.ok.deliver (h : S.ok) (i : Int) : (S.deliver i).2.2.ok := by
  unfold Nt.deliver
  split
  · exact h
  · split
    · exact h
    · split
      · exact h.less _
      · exact h.less _
theorem Nt.ok.drop (h : S.ok) (i : Int) : (S.drop i).2.ok := by
  unfold Nt.drop
  split
  · exact h
  · exact h.less _
theorem Nt.ok.double (h : S.ok) (i : Int) : (S.double i).2.ok := by
  unfold Nt.double
  split
  · exact h
  · split
    · exact h
    · split
      · exact h
      · rename_i p hp
        exact h.add (by omega) (h.at hp)
/-- An operation of the statements. -/
structure Opn where
  kind : Int
  n : Int
  t : Int
  s : ByteArray
/-- What an operation answers, and what is left. -/
def Nt.step (S : Nt) (x : Opn) : Pk × Int × Nt :=
  if x.kind % 8 = 3 then ((S.deliver x.n).1.getD Pk.zero, (S.deliver x.n).2.1, (S.deliver x.n).2.2)
  else if x.kind % 8 = 4 then (Pk.zero, (S.drop x.n).1, (S.drop x.n).2)
  else if x.kind % 8 = 5 then (Pk.zero, (S.double x.n).1, (S.double x.n).2)
  else if x.kind % 8 = 6 then (Pk.zero, 0, S.splitBy x.n)
  else if x.kind % 8 = 7 then (Pk.zero, 0, S.splitBy 0)
  else (Pk.zero, (S.send x.n x.t x.s).1, (S.send x.n x.t x.s).2)
theorem Nt.ok.step (h : S.ok) (x : Opn) : (S.step x).2.2.ok := by
  unfold Nt.step
  split
  · exact h.deliver _
  · split
    · exact h.drop _
    · split
      · exact h.double _
      · split
        · exact h.splitBy _
        · split
          · exact h.splitBy _
          · exact h.send _ _ _
theorem Fair.send (h : Fair made got S.L) (a b : Int) (s : ByteArray) : ((S.send a b s).1 = 0 ∧ S.hear a b = true ∧ a ≠ b ∧ (S.send a b s).2.m = S.m ∧ Fair (made ++ [⟨a, b, s⟩]) got (S.send a b s).2.L) ∨ ((S.send a b s).1 ≠ 0 ∧ (S.send a b s).2 = S) := by
  unfold Nt.send
  split
  · exact .inr ⟨by simp, rfl⟩
  · rename_i h1
    split
    · exact .inr ⟨by simp, rfl⟩
    · rename_i h2
      split
      · exact .inr ⟨by simp, rfl⟩
      · exact .inl ⟨rfl, by simpa using h2, fun e => h1 (.inr e), rfl, h.add _⟩
theorem Fair.deliver (h : Fair made got S.L) (i : Int) : (∃ p, (S.deliver i).1 = some p ∧ (S.deliver i).2.1 = 0 ∧ S.hear p.src p.dst = true ∧ (S.deliver i).2.2.m = S.m ∧ Fair made (got ++ [p]) (S.deliver i).2.2.L) ∨ ((S.deliver i).1 = none ∧ (S.deliver i).2.1 ≠ 0 ∧ Fair made got (S.deliver i).2.2.L) := by
  unfold Nt.deliver
  split
  · exact .inr ⟨rfl, by simp, h⟩
  · rename_i h1
    obtain ⟨p, hp⟩ := has_at (by simpa using h1)
    simp only [hp]
    split
    · rename_i h2
      exact .inl ⟨p, rfl, rfl, h2, rfl, h.take hp⟩
    · exact .inr ⟨rfl, by simp, h.less hp⟩
theorem Fair.drop (h : Fair made got S.L) (i : Int) : Fair made got (S.drop i).2.L := by
  unfold Nt.drop
  split
  · exact h
  · rename_i h1
    obtain ⟨p, hp⟩ := has_at (by simpa using h1)
    exact h.less hp
theorem Fair.double (h : Fair made got S.L) (i : Int) : (∃ p, S.L[i.toNat]? = some p ∧ S.has i = true ∧ (S.double i).1 = 0 ∧ Fair (made ++ [p]) got (S.double i).2.L) ∨ ((S.double i).1 ≠ 0 ∧ (S.double i).2 = S) := by
  unfold Nt.double
  split
  · exact .inr ⟨by simp, rfl⟩
  · rename_i h1
    have h2 : S.has i = true := by simpa using h1
    obtain ⟨p, hp⟩ := has_at h2
    split
    · exact .inr ⟨by simp, rfl⟩
    · simp only [hp]
      exact .inl ⟨p, rfl, h2, by simp, by simpa using h.add p⟩
/-- How NetHonest ends. -/
theorem Fair.count {L : List Pk} (h : Fair made got L) (x : Pk) : (got ++ L).count x ≤ made.count x := by
  rw [List.count_append]
  exact h x
end
end Ntw
end Go.Proofs.Ytmhnifcohkamaaa

/- A disk as a plain value, and what its calls do; nothing of the program is imported. -/
import Derived.Test.YtgaclibokapfaaaCon
namespace Go.Proofs.Ytgaclibokapfaaa
set_option linter.unusedVariables false
namespace Dsk

/-- Is this a file's number? -/
def isF (f : Int) : Bool := decide (0 ≤ f ∧ f < 16)
/-- Is the lowest bit set? -/
def odd (k : Int) : Bool := bits .and .i64 k 1 == 1
theorem odd_one : odd 1 = true := by decide
theorem odd_zero : odd 0 = false := by decide
/-- Does the sector with the index i survive? -/
def surv (i : Nat) (ks : List Int) : Bool := decide (0 < ks.length) && odd (ks.getD (i % ks.length) 0)

abbrev isF' (f : Nat) : Nat × Nat → Bool := fun p => p.1 == f
abbrev noF (f : Nat) : Nat × Nat → Bool := fun p => !(p.1 == f)
/-- The sectors with one more. -/
def addL (l : List (Nat × Nat)) (p : Nat × Nat) : List (Nat × Nat) := if p ∈ l then l else l ++ [p]

/-- A disk. -/
structure St where
  now : Con
  last : Con
  queue : List (Nat × Nat)
  down : Bool
  lost : Int
  calls : Int
  keep : List Int

def St.new : St := ⟨Con.none, Con.none, [], false, 0, 0, []⟩

/-- A sector put into durable parts. -/
def hard (now : Con) (p : Nat × Nat) (L : Con) : Con := L.put p.1 (64 * p.2) (now.read p.1 (64 * p.2) 64)
/-- Of the first k sectors of q those that are chosen. -/
def hardK (now : Con) (sel : Nat → Bool) (q : List (Nat × Nat)) (L : Con) : Nat → Con
  | 0 => L
  | k + 1 => if sel k then hard now (q.getD k (0, 0)) (hardK now sel q L k) else hardK now sel q L k

def St.settle (S : St) (f : Nat) : St :=
  { S with last := hardK S.now (fun _ => true) (S.queue.filter (isF' f)) S.last (S.queue.filter (isF' f)).length, queue := S.queue.filter (noF f) }
def St.dead (S : St) (ks : List Int) : Con := hardK S.now (fun i => surv i ks) S.queue S.last S.queue.length
def St.crash (S : St) (ks : List Int) : St :=
  if S.down then S else ⟨S.dead ks, S.dead ks, [], true, S.lost, 0, []⟩
def St.arm (S : St) (n : Int) (ks : List Int) : St := { S with calls := max n 0, keep := ks }
def St.lose (S : St) (n : Int) : St := { S with lost := max n 0 }
def St.start (S : St) : St := { S with down := false }
def St.count (S : St) : St :=
  if S.down || S.calls == 0 then S else if S.calls - 1 == 0 then St.crash { S with calls := 0 } S.keep else { S with calls := S.calls - 1 }
def St.writeF : Nat → St → Nat → Nat → List UInt8 → St
  | 0, S, _, _, _ => S
  | k + 1, S, f, a, l => if l = [] then S else St.writeF k { S with now := S.now.put f a (l.take (64 - a % 64)), queue := addL S.queue (f, a / 64) } f (a + (l.take (64 - a % 64)).length) (l.drop (64 - a % 64))
def St.write (S : St) (f a : Nat) (l : List UInt8) : St := S.writeF l.length f a l
def St.errW (S : St) (f a : Int) (len : Nat) : Int := if S.down then 9 else if !isF f || decide (a < 0) then 1 else if a > 16777216 - (len : Int) then 6 else 0
def St.Write (S : St) (f a : Int) (l : List UInt8) : St × Int :=
  let S2 := (if S.errW f a l.length = 0 then S.write f.toNat a.toNat l else S).count
  (S2, if S2.down then 9 else S.errW f a l.length)
def St.Sync (S : St) (f : Int) : St × Int :=
  if S.count.down then (S.count, 9) else if !isF f then (S.count, 1) else if 0 < S.count.lost then ({ S.count with lost := S.count.lost - 1 }, 10) else (S.count.settle f.toNat, 0)
def St.trunc (S : St) (f n : Nat) : St := { S.settle f with now := (S.settle f).now.cut f n, last := (S.settle f).last.cut f n }
def St.Trunc (S : St) (f n : Int) : St × Int :=
  if S.count.down then (S.count, 9) else if !isF f || decide (n < 0) || decide ((S.count.now.size f.toNat : Int) < n) then (S.count, 1) else (S.count.trunc f.toNat n.toNat, 0)
def St.Read (S : St) (f a n : Int) : List UInt8 × Int :=
  if S.down then ([], 9) else if !isF f || decide (a < 0) || decide (n < 0) then ([], 1) else (S.now.read f.toNat a.toNat n.toNat, 0)
def St.Size (S : St) (f : Int) : Nat := if isF f then S.now.size f.toNat else 0

/-- What holds of every disk. -/
structure St.ok (S : St) : Prop where
  now : S.now.ok
  last : S.last.ok
  inq : ∀ p ∈ S.queue, p.1 < 16 ∧ 64 * p.2 < S.now.size p.1
  nodup : S.queue.Nodup
  same : ∀ f i, (f, i / 64) ∉ S.queue → S.now.byte f i = S.last.byte f i
  tail : ∀ f, S.last.size f = S.now.size f ∨ (S.last.size f < S.now.size f ∧ (f, (S.now.size f - 1) / 64) ∈ S.queue)
  lost : 0 ≤ S.lost ∧ S.lost ≤ 9223372036854775807
  calls : 0 ≤ S.calls ∧ S.calls ≤ 9223372036854775807
  keep : S.keep.length ≤ 1000000000

theorem isF_nat {f : Int} (h : isF f = true) : 0 ≤ f ∧ f < 16 ∧ f.toNat < 16 ∧ ((f.toNat : Nat) : Int) = f := by
  unfold isF at h
  have := of_decide_eq_true h
  omega

/-! How long a queue is. -/
theorem nodup_lt : ∀ (N : Nat) (l : List Nat), l.Nodup → (∀ x ∈ l, x < N) → l.length ≤ N
  | 0, l, _, h => by
    cases l with
    | nil => simp
    | cons a r => exact absurd (h a (by simp)) (by omega)
  | N + 1, l, hn, h => by
    by_cases hm : N ∈ l
    · have h1 := nodup_lt N (l.erase N) (hn.erase N) (fun x hx => by
        have h2 := (hn.mem_erase_iff).1 hx
        have := h x h2.2
        have := h2.1
        omega)
      rw [List.length_erase_of_mem hm] at h1
      omega
    · exact Nat.le_succ_of_le (nodup_lt N l hn fun x hx => by
        have := h x hx
        have : x ≠ N := fun e => hm (e ▸ hx)
        omega)
theorem queue_len {l : List (Nat × Nat)} (hn : l.Nodup) (h : ∀ p ∈ l, p.1 < 16 ∧ p.2 ≤ 262144) : l.length ≤ 16777216 := by
  have h1 := nodup_lt 16777216 (l.map fun p => p.1 * 1000000 + p.2) (by
    rw [List.nodup_iff_pairwise_ne, List.pairwise_map]
    rw [List.nodup_iff_pairwise_ne] at hn
    refine hn.imp_of_mem fun {a b} ha hb hne e => hne ?_
    have := h a ha
    have := h b hb
    exact Prod.ext (by omega) (by omega)) (fun x hx => by
    obtain ⟨p, hp, rfl⟩ := List.mem_map.1 hx
    have := h p hp
    omega)
  simpa using h1
theorem St.ok.sec {S : St} (h : S.ok) : ∀ p ∈ S.queue, p.1 < 16 ∧ p.2 < 262144 := fun p hp => by
  have := h.inq p hp
  have := h.now.room p.1
  omega
theorem St.ok.qlen {S : St} (h : S.ok) : S.queue.length ≤ 16777216 := queue_len h.nodup fun p hp => by have := h.sec p hp; omega

/-! Durable parts. -/
theorem hard_ok {now L : Con} {p : Nat × Nat} (hn : now.ok) (hL : L.ok) : (hard now p L).ok := by
  unfold hard
  by_cases h : now.read p.1 (64 * p.2) 64 = []
  · rw [h, Con.put_nil]
    exact hL
  · refine Con.put_ok hL ?_
    have h1 := Con.read_len now p.1 (64 * p.2) 64
    have h2 : 0 < (now.read p.1 (64 * p.2) 64).length := List.length_pos_iff.2 h
    have := hn.room p.1
    omega
theorem hardK_ok {now L : Con} {sel : Nat → Bool} {q : List (Nat × Nat)} (hn : now.ok) (hL : L.ok) : ∀ k, (hardK now sel q L k).ok
  | 0 => hL
  | k + 1 => by
    unfold hardK
    split
    · exact hard_ok hn (hardK_ok hn hL k)
    · exact hardK_ok hn hL k

theorem hard_byte {now L : Con} {p : Nat × Nat} (hn : now.ok) (hl : L.ok) (hle : L.size p.1 ≤ now.size p.1) (f i : Nat) : (hard now p L).byte f i = if (f, i / 64) = p then now.byte f i else L.byte f i := by
  unfold hard
  rw [Con.put_byte, Con.read_len]
  by_cases h : (f, i / 64) = p
  · rw [if_pos h]
    subst h
    by_cases h2 : i < now.size f
    · rw [if_pos ⟨rfl, by omega, by simp only; omega⟩, List.getD_eq_getElem?_getD, Con.read_get _ _ _ _ _ (by simp only; omega)]
      simp only [Option.getD_some]
      congr 1
      omega
    · rw [if_neg (by simp only; omega), hl.zero f i (by simp only at hle; omega), hn.zero f i (by omega)]
  · rw [if_neg h, if_neg]
    rintro ⟨rfl, h1, h2⟩
    exact h (Prod.ext rfl (by simp only; omega))
theorem hard_size {now L : Con} {p : Nat × Nat} (f : Nat) : (hard now p L).size f = if f = p.1 ∧ 64 * p.2 < now.size p.1 then max (L.size f) (min (64 * p.2 + 64) (now.size f)) else L.size f := by
  unfold hard
  have hl := Con.read_len now p.1 (64 * p.2) 64
  by_cases h : now.read p.1 (64 * p.2) 64 = []
  · rw [h, Con.put_nil]
    rw [h] at hl
    simp at hl
    rw [if_neg]
    rintro ⟨rfl, h2⟩
    omega
  · have h2 : 0 < (now.read p.1 (64 * p.2) 64).length := List.length_pos_iff.2 h
    rw [Con.put_size _ _ _ _ h, hl]
    by_cases hf : f = p.1
    · subst hf
      rw [if_pos rfl, if_pos ⟨rfl, by omega⟩]
      omega
    · rw [if_neg hf, if_neg (fun h => hf h.1)]
end Dsk
end Go.Proofs.Ytgaclibokapfaaa

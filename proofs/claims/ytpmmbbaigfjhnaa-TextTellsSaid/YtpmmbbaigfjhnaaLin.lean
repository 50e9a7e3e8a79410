/- Lines and fields as plain functions on bytes; nothing of the program is imported. -/
import Derived.WalkKit
namespace Go.Proofs.Ytpmmbbaigfjhnaa
namespace Txt

/-- The lines of what is left, cur being the beginning of the first one. -/
def linA : List UInt8 → List UInt8 → List (List UInt8)
  | cur, [] => if cur = [] then [] else [cur]
  | cur, c :: r => if c = 10 then cur :: linA [] r else linA (cur ++ [c]) r
def lines (l : List UInt8) : List (List UInt8) := linA [] l
def unlines (t : List (List UInt8)) : List UInt8 := t.flatMap (· ++ [10])

def white (c : UInt8) : Bool := c == 32 || c == 9 || c == 10
/-- The fields of what is left, cur being the beginning of the first one. -/
def fldA : List UInt8 → List UInt8 → List (List UInt8)
  | cur, [] => if cur = [] then [] else [cur]
  | cur, c :: r => if white c = true then (if cur = [] then fldA [] r else cur :: fldA [] r) else fldA (cur ++ [c]) r
def fields (l : List UInt8) : List (List UInt8) := fldA [] l

theorem linA_one (t : List UInt8) (h : 10 ∉ t) : ∀ cur r, linA cur (t ++ 10 :: r) = (cur ++ t) :: linA [] r := by
  induction t with
  | nil => intro cur r; show (if (10 : UInt8) = 10 then _ else _) = _; rw [if_pos rfl, List.append_nil]
  | cons c t ih =>
    intro cur r
    have hc : c ≠ 10 := fun e => h (by simp [e])
    rw [List.cons_append, linA, if_neg hc, ih (fun e => h (by simp [e]))]
    simp

/-- Lines inverts Unlines where no element has an LF. -/
theorem lines_unlines (t : List (List UInt8)) (h : ∀ x ∈ t, 10 ∉ x) : lines (unlines t) = t := by
  induction t with
  | nil => rfl
  | cons x t ih =>
    have e : unlines (x :: t) = x ++ 10 :: unlines t := by simp [unlines]
    unfold lines
    rw [e, linA_one x (h x (by simp))]
    show ([] ++ x) :: lines (unlines t) = _
    rw [ih (fun y hy => h y (by simp [hy]))]
    rfl

theorem linA_plain (l : List UInt8) : ∀ cur, 10 ∉ cur → ∀ x ∈ linA cur l, 10 ∉ x := by
  induction l with
  | nil =>
    intro cur hc x hx
    unfold linA at hx
    split at hx
    · simp at hx
    · obtain rfl : x = cur := by simpa using hx
      exact hc
  | cons c l ih =>
    intro cur hc x hx
    unfold linA at hx
    split at hx
    · rcases List.mem_cons.1 hx with rfl | hx
      · exact hc
      · exact ih [] (by simp) x hx
    · rename_i h
      exact ih (cur ++ [c]) (by simp [hc, Ne.symm h]) x hx
theorem lines_plain (l : List UInt8) : ∀ x ∈ lines l, 10 ∉ x := linA_plain l [] (by simp)

/-- The string with an LF at its end, if it is neither empty nor has one. -/
def ended (l : List UInt8) : List UInt8 := if l ≠ [] ∧ l.getLast? ≠ some 10 then l ++ [10] else l

theorem unlines_linA (l : List UInt8) : ∀ cur, unlines (linA cur l) = if l = [] then (if cur = [] then [] else cur ++ [10]) else cur ++ ended l := by
  induction l with
  | nil =>
    intro cur
    rw [if_pos rfl]
    unfold linA
    split
    · rfl
    · simp [unlines]
  | cons c l ih =>
    intro cur
    rw [if_neg (by simp)]
    unfold linA
    split
    · rename_i h
      subst h
      have e : unlines (cur :: linA [] l) = cur ++ [10] ++ unlines (linA [] l) := by simp [unlines]
      rw [e, ih]
      cases l with
      | nil => simp [ended]
      | cons d l =>
        rw [if_neg (by simp)]
        unfold ended
        rw [List.getLast?_cons_cons]
        by_cases hl : (d :: l).getLast? = some 10
        · rw [if_neg (by simp [hl]), if_neg (by simp [hl])]
          simp
        · rw [if_pos (by simp [hl]), if_pos (by simp [hl])]
          simp
    · rename_i h
      rw [ih]
      cases l with
      | nil =>
        rw [if_pos rfl, if_neg (by simp)]
        unfold ended
        rw [if_pos (by simp [h])]
        simp
      | cons d l =>
        rw [if_neg (by simp)]
        unfold ended
        rw [List.getLast?_cons_cons]
        by_cases hl : (d :: l).getLast? = some 10
        · rw [if_neg (by simp [hl]), if_neg (by simp [hl])]
          simp
        · rw [if_pos (by simp [hl]), if_pos (by simp [hl])]
          simp

/-- The lines joined are the string, ended. -/
theorem unlines_lines (l : List UInt8) : unlines (lines l) = ended l := by
  unfold lines
  rw [unlines_linA]
  split
  · rename_i h
    subst h
    rfl
  · rfl

theorem fldA_plain (l : List UInt8) : ∀ cur, (∀ c ∈ cur, white c = false) → ∀ x ∈ fldA cur l, x ≠ [] ∧ ∀ c ∈ x, white c = false := by
  induction l with
  | nil =>
    intro cur hc x hx
    unfold fldA at hx
    split at hx
    · simp at hx
    · rename_i h
      obtain rfl : x = cur := by simpa using hx
      exact ⟨h, hc⟩
  | cons c l ih =>
    intro cur hc x hx
    unfold fldA at hx
    split at hx
    · split at hx
      · exact ih [] (by simp) x hx
      · rename_i h
        rcases List.mem_cons.1 hx with rfl | hx
        · exact ⟨h, hc⟩
        · exact ih [] (by simp) x hx
    · rename_i h
      refine ih (cur ++ [c]) (fun d hd => ?_) x hx
      rcases List.mem_append.1 hd with hd | hd
      · exact hc d hd
      · obtain rfl : d = c := by simpa using hd
        simpa using h
theorem fields_plain (l : List UInt8) : ∀ x ∈ fields l, x ≠ [] ∧ ∀ c ∈ x, white c = false := fldA_plain l [] (by simp)

theorem fldA_join (t : List UInt8) : ∀ cur r, fldA cur (t ++ 10 :: r) = fldA cur t ++ fldA [] r := by
  induction t with
  | nil =>
    intro cur r
    rw [List.nil_append, fldA, fldA, if_pos (show white 10 = true from rfl)]
    split
    · rfl
    · rfl
  | cons c t ih =>
    intro cur r
    rw [List.cons_append, fldA, fldA]
    split
    · split
      · exact ih [] r
      · rw [ih [] r]
        rfl
    · exact ih (cur ++ [c]) r

theorem linA_head (l : List UInt8) : ∀ cur, 10 ∉ cur → (linA cur l).flatMap fields = fields (cur ++ l) := by
  induction l with
  | nil =>
    intro cur _
    unfold linA
    split
    · rename_i h
      subst h
      rfl
    · simp
  | cons c l ih =>
    intro cur hc
    unfold linA
    split
    · rename_i h
      subst h
      rw [List.flatMap_cons, ih [] (by simp)]
      unfold fields
      rw [fldA_join]
      rfl
    · rename_i h
      rw [ih (cur ++ [c]) (by simp [hc, Ne.symm h])]
      simp

/-- The fields of a string are those of its lines. -/
theorem fields_lines (l : List UInt8) : (lines l).flatMap fields = fields l := linA_head l [] (by simp)

/-! The sizes of what comes out. -/

theorem linA_len (l : List UInt8) : ∀ cur, (linA cur l).length ≤ l.length + 1 := by
  induction l with
  | nil =>
    intro cur
    unfold linA
    split <;> simp
  | cons c l ih =>
    intro cur
    unfold linA
    split
    · have := ih []
      simp
      omega
    · have := ih (cur ++ [c])
      simp
      omega
theorem lines_len (l : List UInt8) : (lines l).length ≤ l.length + 1 := linA_len l []
theorem fldA_len (l : List UInt8) : ∀ cur, (fldA cur l).length ≤ l.length + 1 := by
  induction l with
  | nil =>
    intro cur
    unfold fldA
    split <;> simp
  | cons c l ih =>
    intro cur
    unfold fldA
    split
    · have := ih []
      split <;> simp <;> omega
    · have := ih (cur ++ [c])
      simp
      omega
theorem fields_len (l : List UInt8) : (fields l).length ≤ l.length + 1 := fldA_len l []

theorem linA_size (l : List UInt8) : ∀ cur, ∀ x ∈ linA cur l, x.length ≤ cur.length + l.length := by
  induction l with
  | nil =>
    intro cur x hx
    unfold linA at hx
    split at hx
    · simp at hx
    · obtain rfl : x = cur := by simpa using hx
      simp
  | cons c l ih =>
    intro cur x hx
    unfold linA at hx
    split at hx
    · rcases List.mem_cons.1 hx with rfl | hx
      · omega
      · have := ih [] x hx
        simp at this
        simp
        omega
    · have := ih (cur ++ [c]) x hx
      simp at this
      simp
      omega
theorem lines_size (l : List UInt8) : ∀ x ∈ lines l, x.length ≤ l.length := by
  intro x hx
  have := linA_size l [] x hx
  simpa using this
end Txt
end Go.Proofs.Ytpmmbbaigfjhnaa

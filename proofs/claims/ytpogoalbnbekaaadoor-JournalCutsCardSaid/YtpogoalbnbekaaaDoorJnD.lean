/- Reading n strings one after the other; what Open answers of a log and a cell's value that just stand there. -/
import Derived.Test.YtpogoalbnbekaaaDoorJnC
namespace Go.Proofs.YtpogoalbnbekaaaDoor
set_option linter.unusedVariables false
set_option linter.unusedSimpArgs false
namespace Wr
theorem rep_snoc {α : Type} (p : List UInt8 → Option (α × List UInt8)) : ∀ (i : Nat) (l : List UInt8),
    rep p (i + 1) l = match rep p i l with
      | some (xs, r) => (match p r with | some (x, r') => some (xs ++ [x], r') | none => none)
      | none => none
  | 0, l => by
    show (match p l with | some (x, r') => (rep p 0 r').map fun q => (x :: q.1, q.2) | none => none) = (match p l with | some (x, r') => some ([] ++ [x], r') | none => none)
    cases p l with
    | none => rfl
    | some q => rfl
  | i + 1, l => by
    have e1 : rep p (i + 1 + 1) l = (match p l with | some (x, r') => (rep p (i + 1) r').map fun q => (x :: q.1, q.2) | none => none) := rfl
    have e2 : rep p (i + 1) l = (match p l with | some (x, r') => (rep p i r').map fun q => (x :: q.1, q.2) | none => none) := rfl
    rw [e1, e2]
    cases p l with
    | none => rfl
    | some q =>
      obtain ⟨x, r'⟩ := q
      simp only
      rw [rep_snoc p i r']
      cases rep p i r' with
      | none => rfl
      | some q =>
        obtain ⟨xs, r⟩ := q
        simp only [Option.map_some]
        cases p r with
        | none => rfl
        | some q => rfl
theorem rep_next {α : Type} {p : List UInt8 → Option (α × List UInt8)} {i : Nat} {l r r' : List UInt8} {xs : List α} {x : α} (h : rep p i l = some (xs, r)) (h2 : p r = some (x, r')) : rep p (i + 1) l = some (xs ++ [x], r') := by
  rw [rep_snoc, h]
  simp only
  rw [h2]
/-- Once one fails, all further ones do. -/
theorem rep_fail {α : Type} {p : List UInt8 → Option (α × List UInt8)} {i : Nat} {l : List UInt8} (h : rep p i l = none) : ∀ m, i ≤ m → rep p m l = none
  | 0, hm => by
    obtain rfl : i = 0 := by omega
    exact h
  | m + 1, hm => by
    by_cases e : i = m + 1
    · rw [← e]
      exact h
    · rw [rep_snoc, rep_fail h m (by omega)]
theorem rep_stop {α : Type} {p : List UInt8 → Option (α × List UInt8)} {i m : Nat} {l r : List UInt8} {xs : List α} (h : rep p i l = some (xs, r)) (h2 : p r = none) (hm : i < m) : rep p m l = none := by
  refine rep_fail (i := i + 1) ?_ m (by omega)
  rw [rep_snoc, h]
  simp only
  rw [h2]
theorem rep_len {α : Type} {p : List UInt8 → Option (α × List UInt8)} : ∀ {i : Nat} {l r : List UInt8} {xs : List α}, rep p i l = some (xs, r) → xs.length = i
  | 0, l, r, xs, h => by
    simp only [rep, Option.some.injEq, Prod.mk.injEq] at h
    rw [← h.1]
    rfl
  | i + 1, l, r, xs, h => by
    rw [rep] at h
    split at h
    · obtain ⟨⟨ys, r2⟩, h1, h2⟩ := Option.map_eq_some_iff.1 h
      simp only [Prod.mk.injEq] at h2
      rw [← h2.1, List.length_cons, rep_len h1]
    · cases h
theorem text_nil : text [] = none := rfl
end Wr

namespace Dsk
/-- The end of the reading: all n were read and nothing is left; or something is, or one failed, or nothing is left too early. -/
theorem texts_done {n : Nat} {l : List UInt8} {xs : List (List UInt8)} (h : Wr.rep Wr.text n l = some (xs, [])) : textsOf n l = some (xs.map fun x => ⟨x.toArray⟩) := by
  unfold textsOf
  rw [h]
theorem texts_more {n : Nat} {l : List UInt8} {xs : List (List UInt8)} {c : UInt8} {r : List UInt8} (h : Wr.rep Wr.text n l = some (xs, c :: r)) : textsOf n l = none := by
  unfold textsOf
  rw [h]
theorem texts_fail {n : Nat} {l : List UInt8} (h : Wr.rep Wr.text n l = none) : textsOf n l = none := by
  unfold textsOf
  rw [h]
theorem texts_early {i n : Nat} {l : List UInt8} {xs : List (List UInt8)} (h : Wr.rep Wr.text i l = some (xs, [])) (hi : i < n) : textsOf n l = none := texts_fail (Wr.rep_stop h Wr.text_nil hi)
/-- What was read has its form. -/
theorem texts_read {n : Nat} {l : List UInt8} {L : List ByteArray} (h : textsOf n l = some L) : l = form L ∧ L.length = n := by
  unfold textsOf at h
  split at h
  · rename_i xs hr
    injection h with h
    have hp : ∀ (l : List UInt8) (x : List UInt8) (r : List UInt8), Wr.text l = some (x, r) → l = Wr.encText ⟨x.toArray⟩ ++ r := by
      intro l x r k
      rw [Wr.text_sound k]
      unfold Wr.encText
      simp
      rfl
    obtain ⟨h1, h2⟩ := Wr.rep_read (enc := fun x => Wr.encText ⟨x.toArray⟩) hp n l xs [] hr
    subst h
    refine ⟨?_, by rw [List.length_map, h2]⟩
    rw [h1, List.append_nil]
    unfold form
    rw [List.flatMap_map]
  · cases h

section
variable {f : Nat} {S : St} {l : List UInt8}
theorem read_take {C : Con} (h : Has C f 0 l) (hs : C.size f = l.length) (b : Nat) : C.read f 0 b = l.take b := by
  apply List.ext_getElem?
  intro i
  by_cases hi : i < min b l.length
  · rw [Con.read_get _ _ _ _ _ (by omega), h.byte i (by omega), List.getElem?_take_of_lt (by omega), List.getD_eq_getElem?_getD, List.getElem?_eq_getElem (by omega)]
    rfl
  · rw [List.getElem?_eq_none (by rw [Con.read_len]; omega), List.getElem?_eq_none (by rw [List.length_take]; omega)]
/-- What Open answers, where the log is l and the cell has the value v. -/
def answer (l v : List UInt8) : Option (List ByteArray) :=
  match pairOf v with
  | none => none
  | some (b, n) => if l.length < b then none else textsOf n (l.take b)
theorem jread_of {c : Cl} (hd : S.down = false) (hf : f ≤ 14) (h : Has S.now f 0 l) (hs : S.now.size f = l.length) (h0 : c.slot ≠ 0) :
    jread S f c = match answer l c.value with | none => (2, none) | some L => (0, some ⟨f, c, L, false⟩) := by
  have hf0 : isF (f : Int) = true := by unfold isF; exact decide_eq_true (by omega)
  unfold jread answer
  rw [if_neg h0]
  cases pairOf c.value with
  | none => rfl
  | some p =>
    obtain ⟨b, n⟩ := p
    have hR : S.Read (f : Int) 0 (b : Int) = (l.take b, 0) := by
      rw [Read_good hd hf0 (by omega) (by omega)]
      exact congrArg (·, (0 : Int)) (read_take h hs b)
    simp only
    rw [hR, if_neg (by simp)]
    by_cases hb : l.length < b
    · rw [if_pos hb, if_pos (by rw [List.length_take]; omega)]
    · rw [if_neg hb, if_neg (by rw [List.length_take]; omega)]
      simp only
      cases textsOf n (l.take b) <;> rfl
theorem jload_at {v : List UInt8} {k : Nat} (hd : S.down = false) (hf : f ≤ 14) (h : Has S.now f 0 l) (hs : S.now.size f = l.length) (h1 : Head S.now (f + 1) (some (k, v))) (h2 : Has S.now (f + 1) (beg k) v) :
    ∃ c, jload S f = match answer l v with | none => (2, none) | some L => (0, some ⟨f, c, L, false⟩) := by
  obtain ⟨c, e1, e2, e3, e4⟩ := opn_of (T := S) hd (f := f + 1) (by omega) h1 h2
  have e0 : opn S ((f : Int) + 1) = (0, some c) := e1
  obtain ⟨s0, s1⟩ := nm_some e2
  refine ⟨c, ?_⟩
  unfold jload
  rw [e0]
  simp only
  rw [jread_of hd hf h hs s0, s1]
end
end Dsk
end Go.Proofs.YtpogoalbnbekaaaDoor

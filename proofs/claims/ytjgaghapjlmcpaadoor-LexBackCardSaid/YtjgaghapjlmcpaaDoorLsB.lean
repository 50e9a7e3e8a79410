/- The answers of both sides in one form. -/
import Derived.Test.YtjgaghapjlmcpaaDoorLsA
import Derived.Test.YtjgaghapjlmcpaaDoorLyC
import Derived.Test.YtjgaghapjlmcpaaDoorLxV
namespace Go.Proofs.YtjgaghapjlmcpaaDoor
open Go.RowKit Wire Txt
set_option linter.unusedVariables false
set_option linter.unusedSimpArgs false
namespace Lx

theorem lexP_count : ∀ a line, ∀ x, lexP a line = .ok x → x.length ≤ a.length + 1 := by
  refine lexP_ind (fun line x h => ?_) (fun c r line hw ih x h => ?_) (fun r line ih x h => ?_) (fun c r line e hw h35 ht x h => ?_) (fun c r line kind text n rest hw h35 ht ih x h => ?_)
  · rw [lexP_nil] at h
    cases h
    simp
  · rw [lexP_white hw] at h
    have := ih x h
    simp only [List.length_cons]
    omega
  · rw [lexP_note] at h
    have := ih x h
    have := drop_len no10 r
    simp only [List.length_cons]
    omega
  · rw [lexP_bad hw h35 ht] at h
    cases h
  · rw [lexP_got hw h35 ht] at h
    cases hr : lexP rest (nxt kind line) with
    | bad e k => rw [hr] at h; cases h
    | ok l =>
      rw [hr] at h
      cases h
      have := ih l hr
      have := tok_len ht
      simp only [List.length_cons]
      omega
theorem lexP_short {a : List UInt8} {x : List Tk} {line : Nat} (ha : a.length ≤ 20000) (hline : line ≤ 100000) (h : lexP a line = .ok x) : Short x ∧ ∀ t ∈ x, t.line ≤ 1000000 := by
  have h1 := lexP_count a line x h
  have h2 := wr_fine h
  exact ⟨⟨by omega, fun t ht => ⟨by have := (h2 t ht).1; omega, (h2 t ht).2.2⟩⟩, fun t ht => by have := (h2 t ht).2.1; omega⟩

theorem has_nil (w : World) : Has w (.slice none 0 0) [] := ⟨none, 0, rfl, Nat.le_refl _, fun k u hu => by simp [tks] at hu⟩
/-- What Lex answers, whether or not there is an error. -/
theorem lpost_form (src : List UInt8) : ∃ (er k : Int) (l : List Tk), (∀ w e w', LPost w (lexAll src) e w' → Below w.heap.size w w' ∧ ∃ v, e = .returned (.tuple #[v, .int .i64 er, .int .i64 k]) ∧ Has w' v l) ∧ Short l ∧ ∀ t ∈ l, t.line ≤ 1000000 := by
  cases h : lexAll src with
  | bad er k =>
    refine ⟨er, k, [], fun w e w' hp => ⟨hp.1, _, hp.2, has_nil w'⟩, ⟨by simp, fun t ht => by cases ht⟩, fun t ht => by cases ht⟩
  | ok l =>
    refine ⟨0, 0, l, fun w e w' hp => ⟨hp.1, ?_⟩, ?_⟩
    · obtain ⟨v, h1, h2⟩ := hp.2
      exact ⟨v, h1, h2⟩
    · unfold lexAll at h
      split at h
      · cases h
      · exact lexP_short (by omega) (by omega) h

end Lx
end Go.Proofs.YtjgaghapjlmcpaaDoor

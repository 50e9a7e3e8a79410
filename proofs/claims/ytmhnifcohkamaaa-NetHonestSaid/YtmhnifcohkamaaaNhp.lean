/- NetHonest, plainly. -/
import Derived.Test.YtmhnifcohkamaaaNrw
namespace Go.Proofs.Ytmhnifcohkamaaa
open Go.RowKit Wire
open Txt (Row)
set_option linter.unusedVariables false
set_option linter.unusedSimpArgs false
namespace Ntw
theorem hear_m {S S' : Nt} (h : S'.m = S.m) (a b : Int) : S'.hear a b = S.hear a b := by
  unfold Nt.hear
  rw [h]
/-- What one operation did to what is made, delivered and in flight. -/
inductive Did (x : Opn) (S : Nt) (mk gt : List Pk) (q : Pk) (er : Int) (S' : Nt) : Prop
  | bad : er ≠ 0 → q = Pk.zero → Fair mk gt S'.L → Did x S mk gt q er S'
  | sent : er = 0 → x.kind % 8 < 3 → S'.hear x.n x.t = true → x.n ≠ x.t → Fair (mk ++ [⟨x.n, x.t, x.s⟩]) gt S'.L → Did x S mk gt q er S'
  | got : er = 0 → x.kind % 8 = 3 → S'.hear q.src q.dst = true → Fair mk (gt ++ [q]) S'.L → Did x S mk gt q er S'
  | twice : er = 0 → x.kind % 8 = 5 → (∃ (k : Nat) (p : Pk), x.n = k ∧ S.L[k]? = some p ∧ Fair (mk ++ [p]) gt S'.L) → Did x S mk gt q er S'
  | other : er = 0 → x.kind % 8 = 4 ∨ x.kind % 8 = 6 ∨ x.kind % 8 = 7 → Fair mk gt S'.L → Did x S mk gt q er S'
theorem step_did {S : Nt} {mk gt : List Pk} (h : Fair mk gt S.L) (x : Opn) : Did x S mk gt (S.step x).1 (S.step x).2.1 (S.step x).2.2 := by
  rcases kinds x.kind with hk | hk | hk | hk | hk | hk
  · rw [step_3 hk]
    rcases h.deliver x.n with ⟨p, h1, h2, h3, h4, h5⟩ | ⟨h1, h2, h3⟩
    · refine .got h2 hk ?_ ?_
      · show (S.deliver x.n).2.2.hear ((S.deliver x.n).1.getD Pk.zero).src ((S.deliver x.n).1.getD Pk.zero).dst = true
        rw [h1, hear_m h4]
        exact h3
      · show Fair mk (gt ++ [(S.deliver x.n).1.getD Pk.zero]) _
        rw [h1]
        exact h5
    · refine .bad h2 ?_ h3
      show (S.deliver x.n).1.getD Pk.zero = _
      rw [h1]
      rfl
  · rw [step_4 hk]
    have hf := h.drop x.n
    by_cases e : (S.drop x.n).1 = 0
    · exact .other e (.inl hk) hf
    · exact .bad e rfl hf
  · rw [step_5 hk]
    rcases h.double x.n with ⟨p, h1, h2, h3, h4⟩ | ⟨h1, h2⟩
    · refine .twice h3 hk ⟨x.n.toNat, p, ?_, h1, h4⟩
      have := of_decide_eq_true h2
      omega
    · exact .bad h1 rfl (by show Fair mk gt (S.double x.n).2.L; rw [h2]; exact h)
  · rw [step_6 hk]
    exact .other rfl (.inr (.inl hk)) h
  · rw [step_7 hk]
    exact .other rfl (.inr (.inr hk)) h
  · rw [step_0 hk]
    rcases h.send x.n x.t x.s with ⟨h1, h2, h3, h4, h5⟩ | ⟨h1, h2⟩
    · exact .sent h1 hk (by show (S.send x.n x.t x.s).2.hear x.n x.t = true; rw [hear_m h4]; exact h2) h3 h5
    · exact .bad h1 rfl (by show Fair mk gt (S.send x.n x.t x.s).2.L; rw [h2]; exact h)
end Ntw
end Go.Proofs.Ytmhnifcohkamaaa

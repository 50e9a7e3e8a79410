/- What Write makes of tokens, and that its tokens are the same; what the tokens of a source are like; the examples; nothing of the program is imported. -/
import Derived.Test.YtjgaghapjlmcpaaDoorLxB
namespace Go.Proofs.YtjgaghapjlmcpaaDoor
open Txt Wire
set_option linter.unusedVariables false
set_option linter.unusedSimpArgs false
namespace Lx

/-- What is written for one token. -/
def wr1 (t : Tk) : List UInt8 :=
  if t.kind = 0 ∨ t.kind = 1 then t.text ++ [32]
  else if t.kind = 2 then quo t.text ++ [32]
  else if t.kind = 3 then [10]
  else []
def wrP (l : List Tk) : List UInt8 := l.flatMap wr1

/-- What the tokens from a line on are like. -/
def Fine : Nat → List Tk → Prop
  | _, [] => False
  | line, [t] => t = fin line
  | line, t :: u :: r => t.line = line ∧ t.kind < 4 ∧ (t.kind ≠ 1 → t.n = 0) ∧ (t.kind = 0 → word t.text = true) ∧ (t.kind = 1 → 0 ≤ t.n ∧ t.n ≤ 9223372036854775807 ∧ decI t.n = t.text) ∧ Fine (nxt t.kind line) (u :: r)

theorem fine_cons {line : Nat} {t : Tk} {l : List Tk} (h : Fine (nxt t.kind line) l) (h1 : t.line = line) (h2 : t.kind < 4) (h3 : t.kind ≠ 1 → t.n = 0) (h4 : t.kind = 0 → word t.text = true) (h5 : t.kind = 1 → 0 ≤ t.n ∧ t.n ≤ 9223372036854775807 ∧ decI t.n = t.text) : Fine line (t :: l) := by
  cases l with
  | nil => exact h.elim
  | cons u r => exact ⟨h1, h2, h3, h4, h5, h⟩

theorem wordT_is {w r : List UInt8} {kind : Nat} {text : List UInt8} {n : Int} {rest : List UInt8} (h : wordT w r = .got kind text n rest) (hh : ∃ c s, w = c :: s ∧ c ≠ 45) :
    rest = r ∧ text = w ∧ ((kind = 0 ∧ n = 0 ∧ word w = true) ∨ (kind = 1 ∧ ∃ m : Nat, m ≤ 9223372036854775807 ∧ n = m ∧ w = dec m)) := by
  unfold wordT at h
  split at h
  · cases h
    exact ⟨rfl, rfl, .inl ⟨rfl, rfl, ‹_›⟩⟩
  · split at h
    · rename_i hi
      cases h
      refine ⟨rfl, rfl, .inr ⟨rfl, ?_⟩⟩
      obtain ⟨z, hz, e⟩ := (intB_iff _).1 hi
      have h2 := (int_of z hz).2
      rw [e] at h2
      unfold Fits at hz
      by_cases h0 : 0 ≤ z
      · obtain ⟨m, rfl⟩ := Int.eq_ofNat_of_zero_le h0
        exact ⟨m, by omega, h2, by rw [← e, decI_pos]⟩
      · obtain ⟨m, hm⟩ := Int.eq_ofNat_of_zero_le (show 0 ≤ -z by omega)
        obtain rfl : z = -(m : Int) := by omega
        rw [decI_neg m (by omega)] at e
        obtain ⟨c, s, e2, hc⟩ := hh
        rw [← e] at e2
        cases e2
        exact absurd rfl hc
    · split at h <;> cases h

/-- What one token that is read is like: what it is, and how many bytes it takes. -/
theorem tok_is {c : UInt8} {r : List UInt8} {kind : Nat} {text : List UInt8} {n : Int} {rest : List UInt8} (h : tok c r = .got kind text n rest) :
    (kind = 3 ∧ text = [] ∧ n = 0 ∧ rest.length = r.length) ∨ (kind = 2 ∧ n = 0 ∧ (quo text).length + rest.length = r.length + 1) ∨ (kind = 0 ∧ n = 0 ∧ word text = true ∧ text.length + rest.length = r.length + 1) ∨
      (kind = 1 ∧ (∃ m : Nat, m ≤ 9223372036854775807 ∧ n = m ∧ text = dec m) ∧ text.length + rest.length = r.length + 1) := by
  unfold tok at h
  split at h
  · cases h
    exact .inl ⟨rfl, rfl, rfl, rfl⟩
  · split at h
    · unfold textT at h
      split at h
      · cases h
      · rename_i k hk
        have hl := clo_le _ _ _ hk
        split at h
        · rename_i hb
          cases h
          refine .inr (.inl ⟨rfl, rfl, ?_⟩)
          rw [unq_yes hb, List.length_cons, List.length_take, List.length_drop]
          omega
        · cases h
    · split at h
      · rename_i hc
        have hw : ((c :: r).takeWhile isP).length + ((c :: r).dropWhile isP).length = r.length + 1 := by
          rw [← List.length_append, List.takeWhile_append_dropWhile]
          rfl
        have hd : ∃ d s, (c :: r).takeWhile isP = d :: s ∧ d ≠ 45 := by
          refine ⟨c, r.takeWhile isP, by rw [List.takeWhile_cons_of_pos (isP_of hc)], ?_⟩
          rintro rfl
          exact absurd hc (by decide)
        obtain ⟨rfl, rfl, ⟨rfl, rfl, h3⟩ | ⟨rfl, h3⟩⟩ := wordT_is h hd
        · exact .inr (.inr (.inl ⟨rfl, rfl, h3, hw⟩))
        · exact .inr (.inr (.inr ⟨rfl, h3, hw⟩))
      · cases h

/-- The tokens of what Write makes of the tokens of a source are these tokens. -/
theorem lexP_back : ∀ a line, ∀ x, lexP a line = .ok x → lexP (wrP x) line = .ok x ∧ (wrP x).length ≤ 2 * a.length ∧ Fine line x := by
  refine lexP_ind (fun line x h => ?_) (fun c r line hw ih x h => ?_) (fun r line ih x h => ?_) (fun c r line e hw h35 ht x h => ?_) (fun c r line kind text n rest hw h35 ht ih x h => ?_)
  · rw [lexP_nil] at h
    cases h
    exact ⟨rfl, Nat.zero_le _, rfl⟩
  · rw [lexP_white hw] at h
    obtain ⟨h1, h2, h3⟩ := ih x h
    exact ⟨h1, by simp only [List.length_cons]; omega, h3⟩
  · rw [lexP_note] at h
    obtain ⟨h1, h2, h3⟩ := ih x h
    have := drop_len no10 r
    exact ⟨h1, by simp only [List.length_cons]; omega, h3⟩
  · rw [lexP_bad hw h35 ht] at h
    cases h
  · rw [lexP_got hw h35 ht] at h
    cases hr : lexP rest (nxt kind line) with
    | bad e k => rw [hr] at h; cases h
    | ok l =>
      rw [hr] at h
      cases h
      obtain ⟨h1, h2, h3⟩ := ih l hr
      have hsp : ∀ c s, (32 :: wrP l) = c :: s → isP c = false := by
        intro c s e
        cases e
        decide
      have h32 : ∀ line, lexP (32 :: wrP l) line = lexP (wrP l) line := fun line => lexP_white (by decide)
      have e0 : ∀ t : Tk, wrP (t :: l) = wr1 t ++ wrP l := fun t => rfl
      rcases tok_is ht with ⟨rfl, rfl, rfl, h4⟩ | ⟨rfl, rfl, h4⟩ | ⟨rfl, rfl, h5, h4⟩ | ⟨rfl, ⟨m, hm, rfl, rfl⟩, h4⟩
      · refine ⟨?_, ?_, fine_cons h3 rfl (by simp) (fun _ => rfl) (fun e => by cases e) (fun e => by cases e)⟩
        · rw [e0]
          show lexP (10 :: wrP l) line = _
          rw [lexP_got (by decide) (by decide) (rfl : tok 10 (wrP l) = .got 3 [] 0 (wrP l)), h1]
          rfl
        · rw [e0]
          show (10 :: wrP l).length ≤ _
          simp only [List.length_cons]
          omega
      · refine ⟨?_, ?_, fine_cons h3 rfl (by simp) (fun _ => rfl) (fun e => by cases e) (fun e => by cases e)⟩
        · rw [e0]
          show lexP (quo text ++ [32] ++ wrP l) line = _
          obtain ⟨q, e, hq⟩ := tok_quo text (32 :: wrP l)
          rw [e, List.append_assoc, List.cons_append]
          show lexP (34 :: (q ++ 32 :: wrP l)) line = _
          rw [lexP_got (by decide) (by decide) hq, h32, show nxt 2 line = line from rfl] at *
          rw [h1]
          rfl
        · rw [e0]
          show (quo text ++ [32] ++ wrP l).length ≤ _
          simp only [List.length_append, List.length_cons, List.length_nil]
          have : 2 ≤ (quo text).length := by unfold quo; simp
          omega
      · refine ⟨?_, ?_, fine_cons h3 rfl (by simp) (fun _ => rfl) (fun _ => h5) (fun e => by cases e)⟩
        · rw [e0]
          show lexP (text ++ [32] ++ wrP l) line = _
          obtain ⟨c, s, rfl, hw, h35, hq⟩ := tok_word h5 hsp
          rw [List.append_assoc, List.cons_append]
          show lexP (c :: (s ++ 32 :: wrP l)) line = _
          rw [lexP_got hw h35 hq, h32, h1]
          rfl
        · rw [e0]
          show (text ++ [32] ++ wrP l).length ≤ _
          simp only [List.length_append, List.length_cons, List.length_nil]
          obtain ⟨c, s, rfl, _⟩ := word_head h5
          simp only [List.length_cons] at h4 ⊢
          omega
      · refine ⟨?_, ?_, fine_cons h3 rfl (by simp) (fun e => absurd rfl e) (fun e => by cases e) (fun _ => ⟨by show (0 : Int) ≤ m; omega, by show (m : Int) ≤ _; omega, by show decI (m : Int) = dec m; exact decI_pos m⟩)⟩
        · rw [e0]
          show lexP (dec m ++ [32] ++ wrP l) line = _
          obtain ⟨c, s, e, hw, h35, hq⟩ := tok_dec hm hsp
          rw [e, List.append_assoc, List.cons_append]
          show lexP (c :: (s ++ 32 :: wrP l)) line = _
          rw [lexP_got hw h35 hq, h32, h1, e]
          rfl
        · rw [e0]
          show (dec m ++ [32] ++ wrP l).length ≤ _
          have := dec_pos m
          simp only [List.length_append, List.length_cons, List.length_nil]
          omega

/-! How the tokens go on. -/
theorem fine_ne {line : Nat} {l : List Tk} (h : Fine line l) : l ≠ [] := by
  rintro rfl
  exact h
/-- How long what is written may be. -/
theorem wr_fine {a : List UInt8} {line : Nat} {x : List Tk} (h : lexP a line = .ok x) : ∀ t ∈ x, t.text.length ≤ a.length ∧ t.line ≤ line + a.length ∧ t.kind ≤ 4 := by
  have key : ∀ a line, ∀ x, lexP a line = .ok x → ∀ t ∈ x, t.text.length ≤ a.length ∧ t.line ≤ line + a.length ∧ t.kind ≤ 4 := by
    refine lexP_ind (fun line x h => ?_) (fun c r line hw ih x h => ?_) (fun r line ih x h => ?_) (fun c r line e hw h35 ht x h => ?_) (fun c r line kind text n rest hw h35 ht ih x h => ?_)
    · rw [lexP_nil] at h
      cases h
      intro t ht
      obtain rfl : t = fin line := by simpa using ht
      simp [fin]
    · rw [lexP_white hw] at h
      intro t ht
      have := ih x h t ht
      simp only [List.length_cons]
      omega
    · rw [lexP_note] at h
      have hl := drop_len no10 r
      intro t ht
      have := ih x h t ht
      simp only [List.length_cons]
      omega
    · rw [lexP_bad hw h35 ht] at h
      cases h
    · rw [lexP_got hw h35 ht] at h
      cases hr : lexP rest (nxt kind line) with
      | bad e k => rw [hr] at h; cases h
      | ok l =>
        rw [hr] at h
        cases h
        have hq : ∀ text : List UInt8, text.length ≤ (quo text).length := by
          intro text
          have h1 := unqV_len (quo text)
          have h2 := (unq_is (l := quo text) (by unfold unqT; rw [inner_quo, unq_flat]))
          rw [← h2.2, (unq_quo text).2] at h1
          exact h1
        have hlen := tok_len ht
        have ht2 : text.length ≤ r.length + 1 ∧ kind ≤ 4 := by
          rcases tok_is ht with ⟨rfl, rfl, rfl, h4⟩ | ⟨rfl, rfl, h4⟩ | ⟨rfl, rfl, h5, h4⟩ | ⟨rfl, _, h4⟩
          · simp
          · have := hq text
            omega
          · omega
          · omega
        intro t hm
        rcases List.mem_cons.1 hm with rfl | hm
        · simp only [List.length_cons]
          omega
        · have := ih l hr t hm
          have hn : nxt kind line ≤ line + 1 := by unfold nxt; split <;> omega
          simp only [List.length_cons]
          omega
  exact key a line x h

/-! The examples. -/
theorem ex_a : lexAll [122, 111, 110, 101, 32, 99, 111, 108, 100, 45, 49, 32, 49, 50, 32, 35, 32, 99] = .ok [⟨0, [122, 111, 110, 101], 0, 1⟩, ⟨0, [99, 111, 108, 100, 45, 49], 0, 1⟩, ⟨1, [49, 50], 12, 1⟩, fin 1] := by decide +kernel
theorem ex_b : lexAll [114, 111, 119, 32, 34, 35, 35, 46, 80, 34] = .ok [⟨0, [114, 111, 119], 0, 1⟩, ⟨2, [35, 35, 46, 80], 0, 1⟩, fin 1] := by decide +kernel
theorem ex_c : lexAll [48, 49] = .bad 11 1 := by decide +kernel
theorem ex_d : lexAll [49, 97] = .bad 11 1 := by decide +kernel
theorem ex_e : lexAll [45, 49] = .bad 11 1 := by decide +kernel
theorem ex_f : lexAll [34, 97] = .bad 11 1 := by decide +kernel
theorem ex_g : word [97, 45, 49] = true ∧ word [45, 97] = false := by decide +kernel

end Lx
end Go.Proofs.YtjgaghapjlmcpaaDoor

/- Reading inverts writing, and what is read is its encoding: on lists of bytes. -/
import Derived.Test.YtionidjhfcmgiaaParse
import Derived.Test.YtionidjhfcmgiaaList
namespace Go.Proofs.Ytionidjhfcmgiaa
set_option linter.unusedVariables false
set_option linter.unusedSimpArgs false
namespace Wire

theorem int_enc {z : Int} (h1 : -9223372036854775808 ≤ z) (h2 : z ≤ 9223372036854775807) (r : List UInt8) : int (encInt z ++ r) = some (z, r) := by
  unfold encInt
  by_cases h : 0 ≤ z
  · obtain ⟨n, rfl⟩ := Int.eq_ofNat_of_zero_le h
    rw [if_pos h, Int.toNat_natCast, List.append_assoc]
    exact int_pos_enc (by omega) r
  · obtain ⟨n, hn⟩ := Int.eq_ofNat_of_zero_le (show 0 ≤ -z by omega)
    obtain rfl : z = -(n : Int) := by omega
    rw [if_neg h, Int.neg_neg, Int.toNat_natCast]
    have := int_neg_enc (n := n) (by omega) (by omega) r
    simpa using this

theorem int_read {l r : List UInt8} {z : Int} (h : int l = some (z, r)) : -9223372036854775808 ≤ z ∧ z ≤ 9223372036854775807 ∧ l = encInt z ++ r := by
  unfold encInt
  rcases int_sound h with ⟨h1, h2, h3⟩ | ⟨h1, h2, h3⟩
  · rw [if_pos h1, h3]
    exact ⟨by omega, h2, by simp⟩
  · rw [if_neg (by omega), h3]
    exact ⟨h2, by omega, by simp⟩

theorem size_bytes (s : ByteArray) : s.data.toList.length = s.size := by rw [Array.length_toList]; rfl

theorem text_back {s : ByteArray} (hs : s.size ≤ 9223372036854775807) (r : List UInt8) : text (encText s ++ r) = some (s.data.toList, r) := by
  unfold encText
  have h := text_enc (t := s.data.toList) (by rw [size_bytes]; exact hs) r
  rw [size_bytes] at h
  simpa using h

theorem rep_ints : ∀ (zs : List Int) (r : List UInt8), (∀ z ∈ zs, -9223372036854775808 ≤ z ∧ z ≤ 9223372036854775807) → rep int zs.length (zs.flatMap encInt ++ r) = some (zs, r)
  | [], r, _ => rfl
  | z :: zs, r, h => by
    have hz := h z (by simp)
    rw [List.length_cons, rep, List.flatMap_cons, List.append_assoc, int_enc hz.1 hz.2]
    simp only [rep_ints zs r (fun y hy => h y (by simp [hy]))]
    rfl

theorem rep_texts : ∀ (ss : List ByteArray) (r : List UInt8), (∀ s ∈ ss, s.size ≤ 9223372036854775807) → rep text ss.length (ss.flatMap encText ++ r) = some (ss.map (·.data.toList), r)
  | [], r, _ => rfl
  | s :: ss, r, h => by
    rw [List.length_cons, rep, List.flatMap_cons, List.append_assoc, text_back (h s (by simp))]
    simp only [rep_texts ss r (fun y hy => h y (by simp [hy]))]
    rfl

theorem list_enc {α β : Type} {p : List UInt8 → Option (β × List UInt8)} {enc : α → List UInt8} {xs : List α} {ys : List β} (hn : xs.length ≤ 9223372036854775807) (r : List UInt8) (h : rep p xs.length (xs.flatMap enc ++ (93 :: r)) = some (ys, 93 :: r)) :
    list p (encList enc xs ++ r) = some (ys, r) := by
  unfold list encList
  have e : dec xs.length ++ (91 :: (xs.flatMap enc ++ [93])) ++ r = dec xs.length ++ (91 :: (xs.flatMap enc ++ (93 :: r))) := by simp
  rw [e, num_dec (by decide) hn]
  simp [h]

theorem list_ints {zs : List Int} (hn : zs.length ≤ 9223372036854775807) (hz : ∀ z ∈ zs, -9223372036854775808 ≤ z ∧ z ≤ 9223372036854775807) (r : List UInt8) : list int (encList encInt zs ++ r) = some (zs, r) :=
  list_enc hn r (rep_ints zs _ hz)
theorem list_texts {ss : List ByteArray} (hn : ss.length ≤ 9223372036854775807) (hz : ∀ s ∈ ss, s.size ≤ 9223372036854775807) (r : List UInt8) : list text (encList encText ss ++ r) = some (ss.map (·.data.toList), r) :=
  list_enc hn r (rep_texts ss _ hz)

/-- What is read has its encoding. -/
theorem rep_read {α : Type} {p : List UInt8 → Option (α × List UInt8)} {enc : α → List UInt8} (hp : ∀ l x r, p l = some (x, r) → l = enc x ++ r) : ∀ (n : Nat) (l : List UInt8) (xs : List α) (r : List UInt8), rep p n l = some (xs, r) → l = xs.flatMap enc ++ r ∧ xs.length = n
  | 0, l, xs, r, h => by
    simp only [rep, Option.some.injEq, Prod.mk.injEq] at h
    obtain ⟨rfl, rfl⟩ := h
    exact ⟨rfl, rfl⟩
  | n + 1, l, xs, r, h => by
    rw [rep] at h
    split at h
    · rename_i x r' hx
      obtain ⟨⟨ys, r2⟩, h1, h2⟩ := Option.map_eq_some_iff.1 h
      simp only [Prod.mk.injEq] at h2
      obtain ⟨rfl, rfl⟩ := h2
      obtain ⟨h3, h4⟩ := rep_read hp n r' ys r2 h1
      exact ⟨by rw [hp l x r' hx, h3, List.flatMap_cons, List.append_assoc], by simp [h4]⟩
    · cases h

theorem list_read {α : Type} {p : List UInt8 → Option (α × List UInt8)} {enc : α → List UInt8} (hp : ∀ l x r, p l = some (x, r) → l = enc x ++ r) {l r : List UInt8} {xs : List α} (h : list p l = some (xs, r)) : l = encList enc xs ++ r := by
  unfold list at h
  split at h
  · rename_i n r0 hn
    split at h
    · rename_i ys c r1 hr
      split at h
      · rename_i hc
        subst hc
        simp only [Option.some.injEq, Prod.mk.injEq] at h
        obtain ⟨rfl, rfl⟩ := h
        obtain ⟨h1, h2⟩ := rep_read hp n r0 ys _ hr
        rw [(num_sound hn).1, h1, ← h2]
        unfold encList
        simp
      · cases h
    · cases h
  · cases h
end Wire
end Go.Proofs.Ytionidjhfcmgiaa

/- Where nothing fails: Open stays calm, and is nothing to another journal; how long forms are. -/
import Derived.Test.YtpogoalbnbekaaaDoorJnE
namespace Go.Proofs.YtpogoalbnbekaaaDoor
set_option linter.unusedVariables false
set_option linter.unusedSimpArgs false
namespace Dsk
section
variable {f g : Nat} {S : St} {J K : Jl} {A : List ByteArray → Prop}
theorem Calm.opened (h : Calm S) (hf : f ≤ 14) : Calm (jopn S f).2.2 := by
  have hf0 : isF (f : Int) = true := by unfold isF; exact decide_eq_true (by omega)
  have hf1 : isF ((f : Int) + 1) = true := by unfold isF; exact decide_eq_true (by omega)
  have s1 := h.Sync hf0
  have s2 := s1.2.Sync hf1
  unfold Dsk.jopn
  rw [if_neg (by omega), if_neg (by simpa using s1.1), if_neg (by simpa using s2.1)]
  exact s2.2
theorem Calm.jopn_eq (h : Calm S) (hf : f ≤ 14) : (jopn S f).2.2 = ((S.Sync (f : Int)).1.Sync ((f : Int) + 1)).1 := by
  have hf0 : isF (f : Int) = true := by unfold isF; exact decide_eq_true (by omega)
  have hf1 : isF ((f : Int) + 1) = true := by unfold isF; exact decide_eq_true (by omega)
  have s1 := h.Sync hf0
  have s2 := s1.2.Sync hf1
  unfold Dsk.jopn
  rw [if_neg (by omega), if_neg (by simpa using s1.1), if_neg (by simpa using s2.1)]
theorem CanJ.opn_calm (h : CanJ f S A) (hf : f ≤ 14) (hc : Calm S) : ∃ J, (jopn S f).1 = 0 ∧ (jopn S f).2.1 = some J ∧ A J.L ∧ RelJ f (jopn S f).2.2 J ∧ Calm (jopn S f).2.2 := by
  rcases h.opn hf with ⟨_, _, _, k⟩ | ⟨J, k1, k2, k3, k4⟩
  · exact absurd hc k
  · exact ⟨J, k1, k2, k3, k4, hc.opened hf⟩
theorem RelJ.opn_other (h : RelJ f S J) (hc : Calm S) (hg : g ≤ 14) (hne : g ≠ f + 1 ∧ g + 1 ≠ f + 1) : RelJ f (jopn S g).2.2 J := by
  have hg0 : isF (g : Int) = true := by unfold isF; exact decide_eq_true (by omega)
  have hg1 : isF ((g : Int) + 1) = true := by unfold isF; exact decide_eq_true (by omega)
  have s1 := hc.Sync hg0
  have s2 := s1.2.Sync hg1
  rw [hc.jopn_eq hg]
  exact (h.Sync_other (by omega) s1.2.down).Sync_other (by omega) s2.2.down
theorem CanJ.opn_other (h : CanJ f S A) (hc : Calm S) (hg : g ≤ 14) : CanJ f (jopn S g).2.2 A := by
  rw [hc.jopn_eq hg]
  exact (h.Sync _).Sync _
/-- A cut is nothing to another journal. -/
theorem RelJ.cut_calm_other (h : RelJ f S J) (hK : RelJ g S K) (hc : Calm S) (hg : g + 1 ≠ f ∧ g ≠ f) (n : Int) : RelJ f (K.cut S n).2.2 J := by
  have hfile := hK.cell.file
  by_cases ho : n < 0 ∨ (K.L.length : Int) < n
  · rw [hK.cut_out n ho]
    exact h
  · have hn : ((n.toNat : Nat) : Int) = n := by omega
    by_cases ha : n = (K.L.length : Int)
    · rw [ha, hK.cut_all]
      exact h
    · have := ((hK.cut n.toNat (by omega)).2 hc).2.down
      rw [hn] at this
      exact h.cut_other (by rw [hfile]; omega) (by rw [hfile]; omega) n this
/-- Where nothing fails, Append and Cut do what they say. -/
theorem RelJ.append_calm (h : RelJ f S J) (hc : Calm S) (l : List ByteArray) (hr : (form (J.L ++ l)).length ≤ 1048576) : (J.append S l).1 = 0 ∧ (J.append S l).2.1.L = J.L ++ l ∧ RelJ f (J.append S l).2.2 (J.append S l).2.1 ∧ Calm (J.append S l).2.2 := by
  by_cases hl : l = []
  · rw [hl, h.append_nil, List.append_nil]
    exact ⟨rfl, rfl, h, hc⟩
  · obtain ⟨k1, k2⟩ := h.append l hl hr
    obtain ⟨e, k3⟩ := k2 hc
    rcases k1 with ⟨_, k4, k5⟩ | ⟨k4, _⟩
    · exact ⟨e, k4, k5, k3⟩
    · omega
theorem RelJ.cut_calm (h : RelJ f S J) (hc : Calm S) (n : Int) (h0 : 0 ≤ n) (h1 : n ≤ J.L.length) : (J.cut S n).1 = 0 ∧ (J.cut S n).2.1.L = J.L.take n.toNat ∧ RelJ f (J.cut S n).2.2 (J.cut S n).2.1 ∧ Calm (J.cut S n).2.2 := by
  have hn : ((n.toNat : Nat) : Int) = n := by omega
  by_cases ha : n = (J.L.length : Int)
  · rw [ha, h.cut_all]
    exact ⟨rfl, by rw [List.take_of_length_le (by omega)], h, hc⟩
  · obtain ⟨k1, k2⟩ := h.cut n.toNat (by omega)
    rw [hn] at k1 k2
    obtain ⟨e, k3⟩ := k2 hc
    rcases k1 with ⟨_, k4, k5⟩ | ⟨k4, _⟩
    · exact ⟨e, k4, k5, k3⟩
    · omega
theorem Calm.again (hd : S.down = false) (hl : S.lost = 0) (ks : List Int) : Calm (S.crash ks).start := by
  rw [crash_up' hd]
  exact ⟨rfl, rfl, hl⟩
/-- How long a form is. -/
theorem form_bound {L : List ByteArray} {m : Nat} (h : ∀ s ∈ L, s.size ≤ m) : (form L).length ≤ (m + 23) * L.length := by
  induction L with
  | nil => exact Nat.zero_le _
  | cons s L ih =>
    have e : form (s :: L) = Wr.encText s ++ form L := by unfold form; rw [List.flatMap_cons]
    have h1 := ih (fun x hx => h x (by simp [hx]))
    have h2 := h s (by simp)
    have h3 := Wire.dec_len s.size
    have h4 : (Wr.encText s).length ≤ m + 23 := by unfold Wr.encText; rw [List.length_append, List.length_cons, List.length_append, Wr.size_bytes]; simp only [List.length_singleton]; omega
    rw [e, List.length_append, List.length_cons, Nat.mul_succ]
    omega
theorem form_big {s : ByteArray} (h : 1048576 ≤ s.size) (L : List ByteArray) : 1048576 < (form (L ++ [s])).length := by
  have e : form [s] = Wr.encText s ++ [] := by unfold form; rw [List.flatMap_cons]; rfl
  rw [form_append, List.length_append, e, List.append_nil]
  unfold Wr.encText
  rw [List.length_append, List.length_cons, List.length_append, Wr.size_bytes]
  omega
end
end Dsk
end Go.Proofs.YtpogoalbnbekaaaDoor

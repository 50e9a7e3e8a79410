/- Places of cells near each other, plainly. -/
import Derived.Test.YtncbhhnojdhpeaaDoorFlA
namespace Go.Proofs.YtncbhhnojdhpeaaDoor
set_option linter.unusedVariables false
set_option linter.unusedSimpArgs false
namespace Flo
section
variable {f : Fl} {c e : Int}
def far1 (a u : Int) : Int := max (a - u) (u - a)
theorem far1_eq (a u : Int) : (0 ≤ far1 a u ∧ (far1 a u = a - u ∨ far1 a u = u - a) ∧ a - u ≤ far1 a u ∧ u - a ≤ far1 a u) := by
  unfold far1
  omega
theorem beside_iff (ho : f.ok) (hc : f.is c = true) (he : f.is e = true) {d : Int} (hd : isDir d = true) : f.beside c d = e ↔ (f.px e = f.px c + dx d ∧ f.py e = f.py c + dy d ∧ f.pz e = f.pz c + dz d) := by
  constructor
  · intro h
    have h0 := (Fl.is_bounds he).1
    have := Fl.beside_place (f := f) (c := c) (d := d) (by omega)
    rw [h] at this
    exact this.2
  · rintro ⟨h1, h2, h3⟩
    exact Fl.beside_of ho hc hd he h1 h2 h3
theorem near_place (ho : f.ok) (hc : f.is c = true) (he : f.is e = true) : f.near c e = (decide (far1 (f.px c) (f.px e) + far1 (f.py c) (f.py e) = 1) && decide (f.pz c = f.pz e)) := by
  have hx := far1_eq (f.px c) (f.px e)
  have hy := far1_eq (f.py c) (f.py e)
  have b0 := beside_iff (d := 0) ho hc he rfl
  have b1 := beside_iff (d := 1) ho hc he rfl
  have b2 := beside_iff (d := 2) ho hc he rfl
  have b3 := beside_iff (d := 3) ho hc he rfl
  rw [show dx 0 = 1 from rfl, show dy 0 = 0 from rfl, show dz 0 = 0 from rfl] at b0
  rw [show dx 1 = 0 from rfl, show dy 1 = 1 from rfl, show dz 1 = 0 from rfl] at b1
  rw [show dx 2 = -1 from rfl, show dy 2 = 0 from rfl, show dz 2 = 0 from rfl] at b2
  rw [show dx 3 = 0 from rfl, show dy 3 = -1 from rfl, show dz 3 = 0 from rfl] at b3
  unfold Fl.near
  rw [he, Bool.true_and, Bool.eq_iff_iff]
  simp only [Bool.or_eq_true, beq_iff_eq, Bool.and_eq_true, decide_eq_true_eq]
  rw [b0, b1, b2, b3]
  omega
theorem far1_symm (a u : Int) : far1 a u = far1 u a := by
  have := far1_eq a u
  have := far1_eq u a
  omega
theorem near_cells (h : f.near c e = true) : f.is c = true ∧ f.is e = true := by
  unfold Fl.near at h
  rw [Bool.and_eq_true] at h
  refine ⟨?_, h.1⟩
  have h0 := (Fl.is_bounds h.1).1
  cases hc : f.is c with
  | true => rfl
  | false =>
    have := h.2
    rw [Fl.beside_nocell hc, Fl.beside_nocell hc, Fl.beside_nocell hc, Fl.beside_nocell hc] at this
    simp only [Bool.or_eq_true, beq_iff_eq] at this
    omega
theorem near_symm (ho : f.ok) : f.near c e = f.near e c := by
  by_cases hc : f.is c = true
  · by_cases he : f.is e = true
    · rw [near_place ho hc he, near_place ho he hc, far1_symm (f.px e), far1_symm (f.py e)]
      congr 1
      rw [decide_eq_decide]
      exact ⟨fun h => h.symm, fun h => h.symm⟩
    · have h1 : f.near c e = false := by
        cases h : f.near c e with
        | false => rfl
        | true => exact absurd (near_cells h).2 he
      have h2 : f.near e c = false := by
        cases h : f.near e c with
        | false => rfl
        | true => exact absurd (near_cells h).1 he
      rw [h1, h2]
  · have h1 : f.near c e = false := by
      cases h : f.near c e with
      | false => rfl
      | true => exact absurd (near_cells h).1 hc
    have h2 : f.near e c = false := by
      cases h : f.near e c with
      | false => rfl
      | true => exact absurd (near_cells h).2 hc
    rw [h1, h2]
theorem near_self (ho : f.ok) : f.near c c = false := by
  cases h : f.near c c with
  | false => rfl
  | true =>
    have hc := (near_cells h).1
    rw [near_place ho hc hc, Bool.and_eq_true] at h
    have h1 := of_decide_eq_true h.1
    have := far1_eq (f.px c) (f.px c)
    have := far1_eq (f.py c) (f.py c)
    omega
theorem next_far (ho : f.ok) {d : Int} (h : f.next c d = some e) : far1 (f.px c) (f.px e) + far1 (f.py c) (f.py e) + far1 (f.pz c) (f.pz e) = 1 := by
  obtain ⟨h1, h2, _⟩ := Fl.next_some h
  obtain ⟨_, hd, _, _⟩ := Fl.next_is h
  obtain ⟨_, p1, p2, p3⟩ := Fl.beside_place h1
  rw [← h2] at p1 p2 p3
  have hx := far1_eq (f.px c) (f.px e)
  have hy := far1_eq (f.py c) (f.py e)
  have hz := far1_eq (f.pz c) (f.pz e)
  rcases dir_cases hd with rfl | rfl | rfl | rfl | rfl | rfl
  · rw [show dx 0 = 1 from rfl] at p1
    rw [show dy 0 = 0 from rfl] at p2
    rw [show dz 0 = 0 from rfl] at p3
    omega
  · rw [show dx 1 = 0 from rfl] at p1
    rw [show dy 1 = 1 from rfl] at p2
    rw [show dz 1 = 0 from rfl] at p3
    omega
  · rw [show dx 2 = -1 from rfl] at p1
    rw [show dy 2 = 0 from rfl] at p2
    rw [show dz 2 = 0 from rfl] at p3
    omega
  · rw [show dx 3 = 0 from rfl] at p1
    rw [show dy 3 = -1 from rfl] at p2
    rw [show dz 3 = 0 from rfl] at p3
    omega
  · rw [show dx 4 = 0 from rfl] at p1
    rw [show dy 4 = 0 from rfl] at p2
    rw [show dz 4 = 1 from rfl] at p3
    omega
  · rw [show dx 5 = 0 from rfl] at p1
    rw [show dy 5 = 0 from rfl] at p2
    rw [show dz 5 = -1 from rfl] at p3
    omega
end
end Flo
end Go.Proofs.YtncbhhnojdhpeaaDoor

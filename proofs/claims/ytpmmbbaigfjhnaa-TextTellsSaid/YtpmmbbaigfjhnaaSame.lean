import Derived.Test.YtpmmbbaigfjhnaaLins
import Derived.Deep.QuietTactic
import Derived.BigQuiet
import Derived.Deep.Draws
namespace Go.Proofs.Ytpmmbbaigfjhnaa
open Go.RowKit Wire
set_option linter.unusedVariables false
set_option linter.unusedSimpArgs false
namespace Txt

theorem Strs.row {w : World} {B : Nat} {v : Value} {t : List (List UInt8)} (h : Strs w B v t) : ∃ A c, v = .slice A t.length c ∧ Row w w.heap.size A (t.map str) := by
  rcases h.form with ⟨rfl, h0⟩ | ⟨g, cap, rfl, h1, h2, h3, h4, h5, h6, h7⟩
  · have : t = [] := List.eq_nil_of_length_eq_zero h0
    subst this
    exact ⟨_, _, rfl, fun k u hu => by simp at hu⟩
  · exact ⟨_, _, rfl, fun k u hu => ⟨g, 0, rfl, h2, by rw [Nat.zero_add]; exact h7 k u hu⟩⟩

theorem Strs.src {P : Program} {tx e' : TypeId} (hk : P.underlying tx = some (.slice e')) {w : World} {B : Nat} {v : Value} {t : List (List UInt8)} (h : Strs w B v t) : Src P 1 tx v t.length (t.map str) w := by
  have h1 : ∀ u ∈ t.map str, u.oneCell' = true := by
    intro u hu
    obtain ⟨x, _, rfl⟩ := List.mem_map.1 hu
    rfl
  rcases h.form with ⟨rfl, h0⟩ | ⟨g, cap, rfl, _, _, _, _, _, _, h7⟩
  · have : t = [] := List.eq_nil_of_length_eq_zero h0
    subst this
    exact Src.ofNil w hk 0
  · exact Src.ofSlice w hk ⟨g, 0, none⟩ t.length cap _ (by simp) (fun j u hu => by rw [row_add', Nat.zero_add]; exact h7 j u hu) h1

theorem Row.at {w W : World} {A : Option Addr} {t : List (List UInt8)} {k : Nat} (h : Row w w.heap.size A (t.map str)) (hb : Below w.heap.size w W) (hk : k < t.length) : ∃ b o, A = some ⟨b, o, none⟩ ∧ W.cell? ⟨b, o + k, none⟩ = some (str t[k]) := by
  obtain ⟨b, o, e, h1, h2⟩ := h.below hb k (str t[k]) (by rw [List.getElem?_map, List.getElem?_eq_getElem hk]; rfl)
  exact ⟨b, o, e, h2⟩

theorem drew_again (w : World) (q r : Nat) : (w.drewN q).drewN r = w.drewN (q + r) := by
  simp [World.drewN, Nat.add_assoc]
theorem below_draws (w : World) (q : Nat) : Below w.heap.size w (w.drewN q) := ⟨rfl, rfl, rfl, Nat.le_refl _, fun _ _ => rfl⟩

set_option maxHeartbeats 1000000 in
/-- Two lists that hold the same strings. -/
theorem same_yes (A A' : Option Addr) (c c' : Nat) (t : List (List UInt8)) (hn : t.length ≤ 1000000000) (w : World) (h1 : Row w w.heap.size A (t.map str)) (h2 : Row w w.heap.size A' (t.map str)) :
    Calls Try.prog 17 #[.slice A t.length c, .slice A' t.length c'] w fun e w' => e = .returned (.bool true) ∧ Below w.heap.size w w' := by
  have H1 := Lib.hid h1
  have H2 := Lib.hid h2
  clear h1 h2
  go_enter Try.func17, Try.ntmps17
  go_wp2_with fail
  go_loopw [5] (fun iv wr => (∃ k : Nat, iv = .int .i64 k ∧ k ≤ t.length) ∧ ∃ q, wr = w.drewN q) (fun iv _ => t.length - (intOf iv).toNat)
  case atStart => exact ⟨⟨0, rfl, Nat.zero_le _⟩, 0, rfl⟩
  case round =>
    obtain ⟨⟨k, rfl, hk⟩, q, rfl⟩ := hrel
    by_cases hlt : k < t.length
    · obtain ⟨b, o, rfl, hc⟩ := H1.out.at (Below.refl _ _) hlt
      obtain ⟨b', o', rfl, hc'⟩ := H2.out.at (Below.refl _ _) hlt
      have hi1 : (0 : Int) ≤ (k : Int) := by omega
      have hi2 : (k : Int) < (t.length : Int) := by omega
      generalize t[k] = x at *
      go_wp2_with fail
      go_quiet (fail)
      go_wp2_with fail
      go_roundw
      case rel => exact ⟨⟨k + 1, by simp, hlt⟩, _, rfl⟩
      case measure => simp [intOf]; omega
    · obtain rfl : k = t.length := by omega
      go_wp2_with fail
      go_ret
      exact ⟨rfl, below_draws w q⟩
end Txt
end Go.Proofs.Ytpmmbbaigfjhnaa

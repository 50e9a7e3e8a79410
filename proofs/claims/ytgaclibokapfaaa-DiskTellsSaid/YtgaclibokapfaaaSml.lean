/- The small functions of the disk. -/
import Derived.Test.YtgaclibokapfaaaOnly
import Derived.Test.YtgaclibokapfaaaSt
namespace Go.Proofs.Ytgaclibokapfaaa
open Go.RowKit Wire
set_option linter.unusedVariables false
set_option linter.unusedSimpArgs false
namespace Dsk


theorem isFile_any (f : Int) (w : World) : Calls Try.prog 41 #[.int .i64 f] w fun e w' => e = .returned (.bool (isF f)) ∧ w = w' := by
  by_cases h1 : 0 ≤ f
  · by_cases h2 : f < 16
    · have h : isF f = true := by unfold isF; simp [h1, h2]
      rw [h]
      go_enter Try.func41, Try.ntmps41
      go_wp2_with fail
      go_ret
      exact ⟨rfl, rfl⟩
    · have h : isF f = false := by unfold isF; simp [h1, h2]
      rw [h]
      go_enter Try.func41, Try.ntmps41
      go_wp2_with fail
      go_ret
      exact ⟨rfl, rfl⟩
  · have h : isF f = false := by unfold isF; simp [h1]
    rw [h]
    go_enter Try.func41, Try.ntmps41
    go_wp2_with fail
    go_ret
    exact ⟨rfl, rfl⟩

/-- v is a slice that reads as these numbers. -/
def Ints (w : World) (v : Value) (ks : List Int) : Prop :=
  ∃ A c, v = .slice A ks.length c ∧ ∀ k x, ks[k]? = some x → ∃ b o, A = some ⟨b, o, none⟩ ∧ w.cell? ⟨b, o + k, none⟩ = some (.int .i64 x)

theorem survives_any (i : Nat) (hi : i ≤ 1000000000) (v : Value) (ks : List Int) (w : World) (h : Ints w v ks) (hm : ks.length ≤ maxLen) :
    Calls Try.prog 50 #[.int .i64 i, v] w fun e w' => e = .returned (.bool (surv i ks)) ∧ w = w' := by
  unfold maxLen at hm
  obtain ⟨A, c, rfl, hr⟩ := h
  by_cases h0 : 0 < ks.length
  · have hlt : i % ks.length < ks.length := Nat.mod_lt _ h0
    obtain ⟨b, o, rfl, hc⟩ := hr (i % ks.length) _ (List.getElem?_eq_getElem hlt)
    have hs : surv i ks = (bits .and .i64 ks[i % ks.length] 1 == 1) := by
      unfold surv odd
      rw [List.getD_eq_getElem?_getD, List.getElem?_eq_getElem hlt]
      simp [h0]
    rw [hs]
    clear hr hs
    generalize ks[i % ks.length] = x at *
    have hb : (0 : Int) ≤ (i : Int) % (ks.length : Int) ∧ (i : Int) % (ks.length : Int) < (ks.length : Int) := by omega
    go_enter Try.func50, Try.ntmps50
    go_wp2_with fail
    go_ret
    exact ⟨rfl, rfl⟩
  · have hs : surv i ks = false := by unfold surv; simp [h0]
    rw [hs]
    clear hr
    go_enter Try.func50, Try.ntmps50
    go_wp2_with fail
    go_ret
    exact ⟨rfl, rfl⟩
end Dsk
end Go.Proofs.Ytgaclibokapfaaa

/- The reference's Within, Right. -/
import Derived.Test.YtgophgnfiboefaaGreatDoorMhS
namespace Go.Proofs.YtgophgnfiboefaaGreatDoor
open Go.RowKit Wire
open Txt (Row)
open Go.Proofs.YtgophgnfiboefaaGreatDoor.Own Flo
open Dsk (Only nth)
set_option linter.unusedVariables false
set_option linter.unusedSimpArgs false
namespace Rgn
theorem cells_all {w : World} {A : Option Addr} {n : Nat} {O : Nat → Int} (h : ∀ k, k < n → ∃ b o, A = some ⟨b, o, none⟩ ∧ ∀ w', Below w.heap.size w w' → w'.cell? ⟨b, o + k, none⟩ = some (.int .i64 (O k))) : ∃ b o, ∀ k, k < n → A = some ⟨b, o, none⟩ ∧ ∀ w', Below w.heap.size w w' → w'.cell? ⟨b, o + k, none⟩ = some (.int .i64 (O k)) := by
  by_cases h0 : 0 < n
  · obtain ⟨b, o, e, _⟩ := h 0 h0
    refine ⟨b, o, fun k hk => ⟨e, ?_⟩⟩
    obtain ⟨b', o', e', hc⟩ := h k hk
    rw [e] at e'
    injection e' with e'
    injection e' with e1 e2
    subst e1
    subst e2
    exact hc
  · exact ⟨0, 0, fun k hk => absurd hk (by omega)⟩
theorem sub_filter {a b : List Nat} : subB a b = decide ((a.filter fun x => !decide (x ∈ b)).length = 0) := by
  unfold subB
  rw [Bool.eq_iff_iff, decide_eq_true_iff, decide_eq_true_iff, List.length_eq_zero_iff, List.filter_eq_nil_iff]
  simp
set_option maxHeartbeats 1000000 in
theorem rwithin_any (w : World) (A B : Option Addr) (ca cb : Nat) (a b : List Nat) (ha : Reg a) (hlb : b.length ≤ 1000000) (hra : Row w w.heap.size A (qvs a)) (hrb : Row w w.heap.size B (qvs b)) :
    Calls Tryz.prog 20 #[.slice A a.length ca, .slice B b.length cb] w fun e w' => e = .returned (.bool (subB a b)) ∧ Below w.heap.size w w' := by
  have HD := Lib.hid (rdiff_any w A B ca cb a b ha hlb hra hrb)
  have HS : Hid (subB a b = decide ((a.filter fun x => !decide (x ∈ b)).length = 0)) := Lib.hid sub_filter
  clear hra hrb ha hlb
  unfold GotL at HD
  generalize (a.filter fun x => !decide (x ∈ b)) = L at *
  generalize subB a b = res at *
  go_enter Tryz.func20, Tryz.ntmps20
  by_cases h0 : L.length = 0
  · have HR : Hid (res = true) := Lib.hid (by rw [HS.out, decide_eq_true h0])
    generalize L.length = n at *
    subst h0
    go_wp2_with (go_at_call 16; refine HD.out.mono ?_; rintro e w1 ⟨A', c', rfl, _, b1⟩)
    first | exact ⟨by rw [HR.out]; rfl, b1⟩ | (go_ret; exact ⟨by rw [HR.out]; rfl, b1⟩)
  · have HR : Hid (res = false) := Lib.hid (by rw [HS.out, decide_eq_false h0])
    generalize L.length = n at *
    have h1 : ((n : Int) == 0) = false := by rw [beq_eq_false_iff_ne]; omega
    go_wp2_with (go_at_call 16; refine HD.out.mono ?_; rintro e w1 ⟨A', c', rfl, _, b1⟩)
    first | exact ⟨by rw [HR.out]; rfl, b1⟩ | (go_ret; exact ⟨by rw [HR.out]; rfl, b1⟩)
set_option maxRecDepth 100000 in
set_option maxHeartbeats 4000000 in
theorem rright_any (w : World) (A : Option Addr) (c : Nat) (l : List Int) (hl : l.length ≤ 9223372036854775807) (h : Row w w.heap.size A (ivs l)) :
    Calls Tryz.prog 6 #[.slice A l.length c] w fun e w' => e = .returned (.bool (isReg l)) ∧ Below w.heap.size w w' := by
  have HAU := Lib.hid (cells_all (O := fun k => l.getD k 0) fun k hk => row_val h hk)
  obtain ⟨b, o, hcc⟩ := HAU.out
  have HCC := Lib.hid hcc
  clear hcc HAU
  have HB : Hid (∀ i last, RiI l i last → i < l.length → (l.getD i 0 ≤ last ∨ 4096 ≤ l.getD i 0) → isReg l = false) := Lib.hid fun i last h => h.bad
  have HN : Hid (∀ i last, RiI l i last → i < l.length → ¬ l.getD i 0 ≤ last → ¬ 4096 ≤ l.getD i 0 → RiI l (i + 1) (l.getD i 0)) := Lib.hid fun i last h => h.next
  have HD : Hid (∀ last, RiI l l.length last → isReg l = true) := Lib.hid fun last h => h.done
  have H0 : Hid (RiI l 0 (-1)) := Lib.hid (RiI.start l)
  clear h
  generalize isReg l = res at *
  have hl9 : (l.length : Int) ≤ 9223372036854775807 := by omega
  go_enter Tryz.func6, Tryz.ntmps6
  go_wp2_with fail
  go_loopw [3] (fun iv wr => ∃ (i : Nat) (last : Int), iv = .int .i64 ((i : Nat) : Int) ∧ i ≤ l.length ∧ Hid (RiI l i last) ∧ Hid ((i = 0 ∧ last = -1) ∨ ∃ k, k + 1 = i ∧ last = l.getD k 0) ∧ Hid (Below w.heap.size w wr)) (fun iv _ => l.length - (intOf iv).toNat)
  case atStart => exact ⟨0, -1, rfl, Nat.zero_le _, H0, Lib.hid (.inl ⟨rfl, rfl⟩), Lib.hid (Below.refl _ _)⟩
  case round =>
    clear H0
    obtain ⟨i, last, rfl, hi, HI, HL, HW⟩ := hrel
    generalize wr = w5 at *
    by_cases hlt : i < l.length
    · obtain ⟨rfl, hc⟩ := HCC.out i hlt
      have z := hc _ HW.out
      have HBi := Lib.hid (HB.out i last HI.out hlt)
      have HNi := Lib.hid (HN.out i last HI.out hlt)
      have hlo := HI.out.low
      have hi9 : (i : Int) < (l.length : Int) := by omega
      have HV : Hid (∃ v, v = l.getD i 0) := Lib.hid ⟨_, rfl⟩
      obtain ⟨v, hv⟩ := HV.out
      have HVE := Lib.hid hv
      rw [← hv] at HBi HNi z
      have HWQ : Hid (∀ k, Below w.heap.size w (w5.drewN k)) := Lib.hid fun k => HW.out.trans (below_any w5 k)
      have HNX : Hid (∃ k, k + 1 = i + 1 ∧ v = l.getD k 0) := Lib.hid ⟨i, rfl, hv⟩
      clear hv HV hc HB HN HD HI HVE
      by_cases h1 : v < 0
      · have HR := Lib.hid (HBi.out (.inl (by omega)))
        clear HBi HNi
        go_upto_region 4 with (fail)
        go_quiet (fail)
        go_wp2_with fail
        go_ret
        exact ⟨by rw [HR.out]; rfl, HWQ.out _⟩
      · by_cases h2 : 4096 ≤ v
        · have HR := Lib.hid (HBi.out (.inr h2))
          clear HBi HNi
          go_upto_region 4 with (fail)
          go_quiet (fail)
          go_wp2_with fail
          go_ret
          exact ⟨by rw [HR.out]; rfl, HWQ.out _⟩
        · rcases HL.out with ⟨e1, e2⟩ | ⟨k, hk, e2⟩
          · have HR := Lib.hid (HNi.out (by omega) (by omega))
            have hi0 : ¬ 0 < i := by omega
            clear HBi HNi e1 e2
            go_upto_region 4 with (fail)
            go_quiet (fail)
            go_wp2_with fail
            go_roundw
            case rel => exact ⟨i + 1, v, by simp, hlt, HR, Lib.hid (.inr HNX.out), Lib.hid (HWQ.out _)⟩
            case measure => simp [intOf]; omega
          · have hi1 : 0 < i := by omega
            have mx : max ((i : Int) - 1) 0 = (k : Int) := by omega
            have hkN : (k : Int) < (l.length : Int) := by omega
            obtain ⟨_, hck⟩ := HCC.out k (by omega)
            have z3 := hck _ HW.out
            rw [← e2] at z3
            clear hck e2 hk
            by_cases h3 : v ≤ last
            · have HR := Lib.hid (HBi.out (.inl h3))
              clear HBi HNi
              go_upto_region 4 with (fail)
              go_quiet (fail)
              go_wp2_with fail
              go_ret
              exact ⟨by rw [HR.out]; rfl, HWQ.out _⟩
            · have HR := Lib.hid (HNi.out (by omega) (by omega))
              clear HBi HNi
              go_upto_region 4 with (fail)
              go_quiet (fail)
              go_wp2_with fail
              go_roundw
              case rel => exact ⟨i + 1, v, by simp, hlt, HR, Lib.hid (.inr HNX.out), Lib.hid (HWQ.out _)⟩
              case measure => simp [intOf]; omega
    · obtain rfl : i = l.length := by omega
      have HR := Lib.hid (HD.out last HI.out)
      clear HB HN HD HI HL HCC
      go_wp2_with fail
      go_ret
      exact ⟨by rw [HR.out]; rfl, HW.out⟩
end Rgn
end Go.Proofs.YtgophgnfiboefaaGreatDoor

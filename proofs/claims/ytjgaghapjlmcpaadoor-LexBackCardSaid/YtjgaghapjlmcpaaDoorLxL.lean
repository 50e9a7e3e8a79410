/- The library's functions and the sets of bytes, in this layer's words. -/
import Derived.Test.YtjgaghapjlmcpaaDoorBase
import Derived.Test.YtjgaghapjlmcpaaDoorLxC
import Derived.Test.YtjgaghapjlmcpaaDoorShl
import Derived.Shelf.Strings.SlTrimAscii
import Derived.Lib.IndexLaws
namespace Go.Proofs.YtjgaghapjlmcpaaDoor
open Go.RowKit Wire Txt Go.Shelf
set_option linter.unusedVariables false
set_option linter.unusedSimpArgs false
namespace Lx

def firstS : List UInt8 := [97, 98, 99, 100, 101, 102, 103, 104, 105, 106, 107, 108, 109, 110, 111, 112, 113, 114, 115, 116, 117, 118, 119, 120, 121, 122, 65, 66, 67, 68, 69, 70, 71, 72, 73, 74, 75, 76, 77, 78, 79, 80, 81, 82, 83, 84, 85, 86, 87, 88, 89, 90, 95]
def headS : List UInt8 := [97, 98, 99, 100, 101, 102, 103, 104, 105, 106, 107, 108, 109, 110, 111, 112, 113, 114, 115, 116, 117, 118, 119, 120, 121, 122, 65, 66, 67, 68, 69, 70, 71, 72, 73, 74, 75, 76, 77, 78, 79, 80, 81, 82, 83, 84, 85, 86, 87, 88, 89, 90, 95, 48, 49, 50, 51, 52, 53, 54, 55, 56, 57]
def laterS : List UInt8 := [97, 98, 99, 100, 101, 102, 103, 104, 105, 106, 107, 108, 109, 110, 111, 112, 113, 114, 115, 116, 117, 118, 119, 120, 121, 122, 65, 66, 67, 68, 69, 70, 71, 72, 73, 74, 75, 76, 77, 78, 79, 80, 81, 82, 83, 84, 85, 86, 87, 88, 89, 90, 95, 48, 49, 50, 51, 52, 53, 54, 55, 56, 57, 45]
def digitS : List UInt8 := [48, 49, 50, 51, 52, 53, 54, 55, 56, 57]
def whiteS : List UInt8 := [32, 9, 13]

theorem all_bytes {p : UInt8 → Prop} (h : ∀ n, n < 256 → p (UInt8.ofNat n)) (c : UInt8) : p c := by
  have := h c.toNat (UInt8.toNat_lt c)
  rwa [UInt8.ofNat_toNat] at this
theorem first_is (c : UInt8) : firstS.contains c = isL c := all_bytes (p := fun c => firstS.contains c = isL c) (by decide +kernel) c
theorem head_is (c : UInt8) : headS.contains c = (isL c || isD c) := all_bytes (p := fun c => headS.contains c = (isL c || isD c)) (by decide +kernel) c
theorem later_is (c : UInt8) : laterS.contains c = isP c := all_bytes (p := fun c => laterS.contains c = isP c) (by decide +kernel) c
theorem digit_is (c : UInt8) : digitS.contains c = isD c := all_bytes (p := fun c => digitS.contains c = isD c) (by decide +kernel) c
theorem white_is (c : UInt8) : whiteS.contains c = isW c := all_bytes (p := fun c => whiteS.contains c = isW c) (by decide +kernel) c

theorem trimS_is {cs : List UInt8} {p : UInt8 → Bool} (h : ∀ c, cs.contains c = p c) (l : List UInt8) : Lib.trimLeftS l cs = l.dropWhile p := by
  unfold Lib.trimLeftS
  congr 1
  funext c
  exact h c

theorem trim_any {cs : List UInt8} {p : UInt8 → Bool} (h : ∀ c, cs.contains c = p c) (hcs : cs.length < 1000) (ha : cs.all (fun b => decide (b.toNat < 128)) = true) (s : ByteArray) (w : World) :
    Calls Tryd.prog 29 #[.string s, .string ⟨cs.toArray⟩] w fun e w' => e = .returned (str ((bl s).dropWhile p)) ∧ Below w.heap.size w w' := by
  refine (Any.strings_TrimLeft_laid Tryd.lays161 (by kernel_rfl) s ⟨cs.toArray⟩ w (by show cs.length < _; omega) ?_).mono ?_
  · intro j b hb
    exact of_decide_eq_true (List.all_eq_true.1 ha b (List.mem_of_getElem? hb))
  · rintro e w' ⟨rfl, hw⟩
    refine ⟨?_, hw⟩
    show _ = Ending.returned (str _)
    rw [← trimS_is h]
theorem trimWhite_any (s : ByteArray) (w : World) : Calls Tryd.prog 29 #[.string s, .string ⟨#[32, 9, 13]⟩] w fun e w' => e = .returned (str ((bl s).dropWhile isW)) ∧ Below w.heap.size w w' :=
  trim_any (cs := whiteS) white_is (by decide) (by decide) s w
theorem trimLater_any (s : ByteArray) (w : World) : Calls Tryd.prog 29 #[.string s, .string ⟨#[97, 98, 99, 100, 101, 102, 103, 104, 105, 106, 107, 108, 109, 110, 111, 112, 113, 114, 115, 116, 117, 118, 119, 120, 121, 122, 65, 66, 67, 68, 69, 70, 71, 72, 73, 74, 75, 76, 77, 78, 79, 80, 81, 82, 83, 84, 85, 86, 87, 88, 89, 90, 95, 48, 49, 50, 51, 52, 53, 54, 55, 56, 57, 45]⟩] w fun e w' => e = .returned (str ((bl s).dropWhile isP)) ∧ Below w.heap.size w w' :=
  trim_any (cs := laterS) later_is (by decide) (by decide) s w
theorem trimDigit_any (s : ByteArray) (w : World) : Calls Tryd.prog 29 #[.string s, .string ⟨#[48, 49, 50, 51, 52, 53, 54, 55, 56, 57]⟩] w fun e w' => e = .returned (str ((bl s).dropWhile isD)) ∧ Below w.heap.size w w' :=
  trim_any (cs := digitS) digit_is (by decide) (by decide) s w

theorem index_mem (l : List UInt8) (c : UInt8) : decide (0 ≤ Lib.indexByte l c) = l.contains c := by
  induction l with
  | nil => rfl
  | cons b l ih =>
    have hg := Lib.indexByte_ge l c
    unfold Lib.indexByte
    rw [List.contains_cons]
    by_cases hb : b = c
    · subst hb
      simp
    · rw [if_neg (by simpa using hb)]
      have hcb : (c == b) = false := by simpa using fun e => hb e.symm
      rw [hcb, Bool.false_or, ← ih]
      congr 1
      by_cases h1 : Lib.indexByte l c = -1
      · simp [h1]
      · rw [if_neg (by simpa using h1)]
        apply propext
        constructor <;> intro _ <;> omega
/-- Where the first LF is: behind all that isn't one. -/
theorem index_lf (l : List UInt8) : (Lib.indexByte l 10 = -1 ∧ l.dropWhile no10 = []) ∨ ∃ k : Nat, Lib.indexByte l 10 = k ∧ k < l.length ∧ l.dropWhile no10 = l.drop k := by
  induction l with
  | nil => exact .inl ⟨rfl, rfl⟩
  | cons b l ih =>
    have hg := Lib.indexByte_ge l 10
    unfold Lib.indexByte
    by_cases hb : b = 10
    · subst hb
      exact .inr ⟨0, rfl, by simp, rfl⟩
    · rw [if_neg (by simpa using hb), List.dropWhile_cons_of_pos (by simpa [no10] using hb)]
      rcases ih with ⟨h1, h2⟩ | ⟨k, h1, h2, h3⟩
      · rw [h1]
        exact .inl ⟨rfl, h2⟩
      · rw [h1, if_neg (by rw [Bool.not_eq_true]; exact beq_eq_false_iff_ne.2 (by omega))]
        exact .inr ⟨k + 1, rfl, by simpa using h2, h3⟩

theorem indexByte_any (s : ByteArray) (c : UInt8) (w : World) : Calls Tryd.prog 34 #[.string s, .int .u8 c.toNat] w fun e w' => e = .returned (.int .i64 (Lib.indexByte (bl s) c)) ∧ w' = w := by
  have h := Tryd.strings_IndexByte s (c.toNat : Int) w
  rw [show ((c.toNat : Int)).toNat.toUInt8 = c from by simp] at h
  exact h
theorem indexLf_any (s : ByteArray) (w : World) : Calls Tryd.prog 34 #[.string s, .int .u8 10] w fun e w' => e = .returned (.int .i64 (Lib.indexByte (bl s) 10)) ∧ w' = w := indexByte_any s 10 w
theorem hasPrefix_any (s : ByteArray) (w : World) : Calls Tryd.prog 33 #[.string s, .string ⟨#[35]⟩] w fun e w' => e = .returned (.bool ((bl s).head? == some 35)) ∧ w' = w := by
  refine (Tryd.strings_HasPrefix s ⟨#[35]⟩ w).mono ?_
  rintro e w' ⟨rfl, rfl⟩
  refine ⟨?_, rfl⟩
  show Ending.returned (.bool (Lib.hasPrefix (bl s) [35])) = _
  congr 2
  unfold Lib.hasPrefix
  cases bl s with
  | nil => rfl
  | cons c r =>
    show ((35 == c) && List.isPrefixOf [] r) = (some c == some 35)
    rw [show List.isPrefixOf [] r = true from by cases r <;> rfl, Bool.and_true, Option.some_beq_some]
    exact Bool.beq_comm

end Lx
end Go.Proofs.YtjgaghapjlmcpaaDoor

/- What a Write leaves in its file, what a Truncate leaves: plain facts. -/
import Derived.Test.YtgaclibokapfaaaSyn
namespace Go.Proofs.Ytgaclibokapfaaa
set_option linter.unusedVariables false
open Go.RowKit Wire Txt
namespace Dsk

section
variable {S : St} {f : Nat}
theorem writeF_now : ∀ (k : Nat) (S : St) (f a : Nat) (l : List UInt8), l.length ≤ k → (S.writeF k f a l).now = S.now.put f a l ∧ (S.writeF k f a l).down = S.down ∧ (S.writeF k f a l).calls = S.calls
  | 0, S, f, a, l, h => by
    have : l = [] := List.length_eq_zero_iff.1 (by omega)
    subst this
    exact ⟨(Con.put_nil _ _ _).symm, rfl, rfl⟩
  | k + 1, S, f, a, l, h => by
    unfold St.writeF
    split
    · rename_i e
      subst e
      exact ⟨(Con.put_nil _ _ _).symm, rfl, rfl⟩
    · rename_i hl
      have hp : 0 < l.length := List.length_pos_iff.2 hl
      have h2 : (l.drop (64 - a % 64)).length = l.length - (64 - a % 64) := List.length_drop
      obtain ⟨h3, h4, h5⟩ := writeF_now k { S with now := S.now.put f a (l.take (64 - a % 64)), queue := addL S.queue (f, a / 64) } f (a + (l.take (64 - a % 64)).length) (l.drop (64 - a % 64)) (by omega)
      refine ⟨?_, h4, h5⟩
      rw [h3]
      show (S.now.put f a _).put f _ _ = _
      rw [Con.put_put, List.take_append_drop]
theorem write_now (S : St) (f a : Nat) (l : List UInt8) : (S.write f a l).now = S.now.put f a l ∧ (S.write f a l).down = S.down ∧ (S.write f a l).calls = S.calls := writeF_now _ S f a l (Nat.le_refl _)

/-- What was put is read again. -/
theorem read_put (C : Con) (f a : Nat) (l : List UInt8) : (C.put f a l).read f a l.length = l := by
  by_cases hl : l = []
  · subst hl
    unfold Con.read
    simp
  · apply List.ext_getElem?
    intro i
    have hs := Con.put_size C f a l hl f
    rw [if_pos rfl] at hs
    by_cases hi : i < l.length
    · rw [Con.read_get _ _ _ _ _ (by omega), Con.put_byte, if_pos ⟨rfl, by omega, by omega⟩, List.getD_eq_getElem?_getD, show a + i - a = i from by omega, List.getElem?_eq_getElem hi]
      rfl
    · rw [List.getElem?_eq_none (by rw [Con.read_len]; omega), List.getElem?_eq_none (by omega)]

theorem count_none (h : S.calls = 0) : S.count = S := by
  unfold St.count
  rw [if_pos (by rw [h]; simp)]
theorem crash_down (h : S.down = true) (ks : List Int) : S.crash ks = S := by
  unfold St.crash
  rw [if_pos h]
theorem Write_down (h : S.down = true) (f a : Int) (l : List UInt8) : S.Write f a l = (S, 9) := by
  have hc : S.count = S := by unfold St.count; rw [if_pos (by rw [h]; rfl)]
  have he : S.errW f a l.length = 9 := by unfold St.errW; rw [if_pos h]
  unfold St.Write
  rw [he, if_neg (by decide), hc]
  dsimp only
  rw [h]
  rfl
theorem Write_bad {g : Int} (h : isF g = false) (hc : S.calls = 0) (hd : S.down = false) (a : Int) (l : List UInt8) : (S.Write g a l).2 = 1 := by
  have he : S.errW g a l.length = 1 := by unfold St.errW; rw [hd, h]; rfl
  unfold St.Write
  rw [he, if_neg (by decide), count_none hc]
  dsimp only
  rw [hd]
  rfl
/-- A Write that nothing hinders. -/
theorem Write_good (hd : S.down = false) (hc : S.calls = 0) {g a : Int} (hf : isF g = true) (ha : 0 ≤ a) (l : List UInt8) (hr : a + l.length ≤ 16777216) : S.Write g a l = (S.write g.toNat a.toNat l, 0) := by
  have he : S.errW g a l.length = 0 := by
    unfold St.errW
    rw [hd, hf]
    rw [if_neg (by simp), if_neg (by simp; omega), if_neg (by omega)]
  obtain ⟨h1, h2, h3⟩ := write_now S g.toNat a.toNat l
  unfold St.Write
  rw [he, if_pos rfl, count_none (h3.trans hc)]
  dsimp only
  rw [h2, hd]
  rfl
theorem Read_good (hd : S.down = false) {g a n : Int} (hf : isF g = true) (ha : 0 ≤ a) (hn : 0 ≤ n) : S.Read g a n = (S.now.read g.toNat a.toNat n.toNat, 0) := by
  unfold St.Read
  rw [hd, hf]
  rw [if_neg (by simp), if_neg (by simp; omega)]
theorem Size_good {g : Int} (hf : isF g = true) : S.Size g = S.now.size g.toNat := by
  unfold St.Size
  rw [if_pos hf]

theorem read_full {C : Con} (h : C.ok) (f : Nat) : C.read f 0 (C.size f) = C.all f := by
  have := h.room f
  apply List.ext_getElem?
  intro i
  by_cases hi : i < C.size f
  · rw [Con.read_get _ _ _ _ _ (by omega), h.all_get hi, Nat.zero_add]
  · rw [List.getElem?_eq_none (by rw [Con.read_len]; omega), List.getElem?_eq_none (by rw [h.all_len]; omega)]
/-- A part of a file is that part of the whole. -/
theorem read_part {C : Con} (h : C.ok) (f a n : Nat) : C.read f a n = ((C.all f).drop (min a (C.size f))).take (min n (C.size f - min a (C.size f))) := by
  apply List.ext_getElem?
  intro i
  by_cases hi : i < min n (C.size f - a)
  · rw [Con.read_get _ _ _ _ _ hi, List.getElem?_take_of_lt (by omega), List.getElem?_drop, h.all_get (by omega)]
    congr 2
    omega
  · rw [List.getElem?_eq_none (by rw [Con.read_len]; omega), List.getElem?_eq_none (by rw [List.length_take, List.length_drop, h.all_len]; omega)]

theorem Trunc_good (hd : S.down = false) (hc : S.calls = 0) {g n : Int} (hf : isF g = true) (hn : 0 ≤ n) (hs : n ≤ S.now.size g.toNat) : S.Trunc g n = (S.trunc g.toNat n.toNat, 0) := by
  unfold St.Trunc
  rw [count_none hc, hd, hf]
  rw [if_neg (by simp), if_neg (by simp; omega)]
/-- What a Truncate leaves, behind a crash that keeps nothing. -/
theorem St.ok.cut_all (h : S.ok) (hd : S.down = false) {n : Nat} (hn : n ≤ S.now.size f) : ((S.trunc f n).crash []).start.now.all f = (S.now.all f).take n := by
  have hk := h.trunc hn
  have hdd : (S.trunc f n).down = false := hd
  rw [crash_up hdd, dead_nil]
  show ((S.settle f).last.cut f n).all f = _
  have hs : ((S.settle f).last.cut f n).size f = n := by show (if f = f then n else _) = n; rw [if_pos rfl]
  have hok : ((S.settle f).last.cut f n).ok := hk.last
  apply List.ext_getElem?
  intro i
  by_cases hi : i < n
  · rw [hok.all_get (by omega), List.getElem?_take_of_lt hi, h.now.all_get (by omega)]
    show some (if f = f ∧ n ≤ i then 0 else (S.settle f).last.byte f i) = _
    rw [if_neg (by omega), h.settle_last, if_pos rfl]
  · rw [List.getElem?_eq_none (by rw [hok.all_len]; omega), List.getElem?_eq_none (by rw [List.length_take]; omega)]
end
end Dsk
end Go.Proofs.Ytgaclibokapfaaa

/- What a crash leaves of a disk, as plain facts; nothing of the program is imported. -/
import Derived.Test.YtgaclibokapfaaaOk
namespace Go.Proofs.Ytgaclibokapfaaa
set_option linter.unusedVariables false
namespace Dsk

section
variable {S : St}
theorem crash_up (hd : S.down = false) (ks : List Int) : (S.crash ks).start = ⟨S.dead ks, S.dead ks, [], false, S.lost, 0, []⟩ := by
  unfold St.crash St.start
  rw [if_neg (by rw [hd]; simp)]
theorem surv_nil (i : Nat) : surv i [] = false := by unfold surv; simp
theorem surv_one (i : Nat) : surv i [1] = true := by
  unfold surv
  rw [show ([1] : List Int).length = 1 from rfl, Nat.mod_one]
  decide
theorem hardK_none {now : Con} {sel : Nat → Bool} {q : List (Nat × Nat)} {L : Con} (h : ∀ i, sel i = false) : ∀ k, hardK now sel q L k = L
  | 0 => rfl
  | k + 1 => by
    unfold hardK
    rw [h k, if_neg (by simp)]
    exact hardK_none h k
theorem dead_nil : S.dead [] = S.last := hardK_none (fun i => surv_nil i) _

/-- Which sectors survive. -/
def live (S : St) (ks : List Int) (p : Nat × Nat) : Prop := among (fun i => surv i ks) S.queue S.queue.length p
theorem live_one {p : Nat × Nat} : live S [1] p ↔ p ∈ S.queue := by
  unfold live
  rw [show (fun i => surv i [1]) = fun _ => true from funext surv_one]
  exact among_all
open Classical in
theorem St.ok.dead_byte (h : S.ok) (ks : List Int) (f i : Nat) : (S.dead ks).byte f i = if live S ks (f, i / 64) then S.now.byte f i else S.last.byte f i := hardK_byte h.now h.last h.le f i _
theorem St.ok.dead_le (h : S.ok) (ks : List Int) (f : Nat) : (S.dead ks).size f ≤ S.now.size f := hardK_le h.le _ f
theorem dead_ge (ks : List Int) (f : Nat) : S.last.size f ≤ (S.dead ks).size f := hardK_ge _ f
theorem St.ok.all_byte (h : S.ok) (f i : Nat) : (S.dead [1]).byte f i = S.now.byte f i := by
  rw [h.dead_byte]
  split
  · rfl
  · rename_i hn
    exact (h.same f i fun hm => hn (live_one.2 hm)).symm
theorem St.ok.all_size (h : S.ok) (f : Nat) : (S.dead [1]).size f = S.now.size f := by
  have h1 := h.dead_le [1] f
  have h2 := dead_ge (S := S) [1] f
  rcases h.tail f with h3 | ⟨h3, h4⟩
  · omega
  · have h5 := hardK_among (sel := fun i => surv i [1]) (q := S.queue) h.le (by omega : 64 * ((S.now.size f - 1) / 64) < S.now.size f) S.queue.length (live_one.2 h4)
    have : (S.dead [1]).size f = (hardK S.now (fun i => surv i [1]) S.queue S.last S.queue.length).size f := rfl
    omega
theorem St.ok.all_eq (h : S.ok) : S.dead [1] = S.now := Con.ext h.all_byte h.all_size

/-- A sector wholly new, or wholly old. -/
theorem St.ok.torn (h : S.ok) (ks : List Int) (f n : Nat) : (∀ i, i / 64 = n → (S.dead ks).byte f i = S.now.byte f i) ∨ (∀ i, i / 64 = n → (S.dead ks).byte f i = S.last.byte f i) := by
  by_cases hl : live S ks (f, n)
  · left
    intro i hi
    rw [h.dead_byte, hi, if_pos hl]
  · right
    intro i hi
    rw [h.dead_byte, hi, if_neg hl]

/-- The whole of a file. -/
def Con.all (C : Con) (f : Nat) : List UInt8 := C.read f 0 16777216
theorem Con.ok.all_len {C : Con} (h : C.ok) (f : Nat) : (C.all f).length = C.size f := by
  unfold Con.all
  rw [Con.read_len]
  have := h.room f
  omega
theorem Con.ok.all_get {C : Con} (h : C.ok) {f i : Nat} (hi : i < C.size f) : (C.all f)[i]? = some (C.byte f i) := by
  unfold Con.all
  have := h.room f
  rw [Con.read_get _ _ _ _ _ (by omega), Nat.zero_add]
theorem Con.ok.all_getD {C : Con} (h : C.ok) (f i : Nat) : (C.all f).getD i 0 = C.byte f i := by
  rw [List.getD_eq_getElem?_getD]
  by_cases hi : i < C.size f
  · rw [h.all_get hi]
    rfl
  · rw [List.getElem?_eq_none (by rw [h.all_len]; omega), h.zero f i (by omega)]
    rfl
theorem Con.ok.ext_all {C D : Con} (h : C.ok) (k : D.ok) {f : Nat} (e : C.all f = D.all f) : C.size f = D.size f ∧ ∀ i, C.byte f i = D.byte f i :=
  ⟨by rw [← h.all_len, e, k.all_len], fun i => by rw [← h.all_getD, e, k.all_getD]⟩
theorem Con.ok.all_ext {C D : Con} (h : C.ok) (k : D.ok) {f : Nat} (hs : C.size f = D.size f) (hb : ∀ i, i < C.size f → C.byte f i = D.byte f i) : C.all f = D.all f := by
  apply List.ext_getElem?
  intro i
  by_cases hi : i < C.size f
  · rw [h.all_get hi, k.all_get (by omega), hb i hi]
  · rw [List.getElem?_eq_none (by rw [h.all_len]; omega), List.getElem?_eq_none (by rw [k.all_len]; omega)]

/-- What DiskSurvives asks of the three texts. -/
structure Torn (now last some_ : ByteArray) : Prop where
  lo : last.size ≤ some_.size
  hi : some_.size ≤ now.size
  sec : ∀ n, (∀ i (h : i < some_.size), i / 64 = n → some_[i] = now[i]'(by omega)) ∨ (∀ i (h : i < some_.size), i / 64 = n → some_[i] = last.data.toList.getD i 0)

theorem getElem_of_list {l : List UInt8} {i : Nat} {x : UInt8} (h : l[i]? = some x) (hs : i < (⟨l.toArray⟩ : ByteArray).size) : (⟨l.toArray⟩ : ByteArray)[i] = x := by
  have h1 := (List.getElem?_eq_some_iff.1 h).2
  rw [← h1]
  rfl
theorem St.ok.torn3 (h : S.ok) (ks : List Int) (f : Nat) : Torn ⟨(S.now.all f).toArray⟩ ⟨(S.last.all f).toArray⟩ ⟨((S.dead ks).all f).toArray⟩ := by
  have hk := h.dead_ok ks
  have s1 : (⟨(S.now.all f).toArray⟩ : ByteArray).size = S.now.size f := by show (S.now.all f).toArray.size = _; rw [List.size_toArray, h.now.all_len]
  have s2 : (⟨(S.last.all f).toArray⟩ : ByteArray).size = S.last.size f := by show (S.last.all f).toArray.size = _; rw [List.size_toArray, h.last.all_len]
  have s3 : (⟨((S.dead ks).all f).toArray⟩ : ByteArray).size = (S.dead ks).size f := by show ((S.dead ks).all f).toArray.size = _; rw [List.size_toArray, hk.all_len]
  have l1 := h.dead_le ks f
  have l2 := dead_ge (S := S) ks f
  refine ⟨by omega, by omega, fun n => ?_⟩
  rcases h.torn ks f n with ht | ht
  · left
    intro i hi hn
    rw [getElem_of_list (hk.all_get (f := f) (i := i) (by omega)), getElem_of_list (h.now.all_get (f := f) (i := i) (by omega)), ht i hn]
  · right
    intro i hi hn
    rw [getElem_of_list (hk.all_get (f := f) (i := i) (by omega)), ht i hn]
    exact (h.last.all_getD f i).symm
end
end Dsk
end Go.Proofs.Ytgaclibokapfaaa

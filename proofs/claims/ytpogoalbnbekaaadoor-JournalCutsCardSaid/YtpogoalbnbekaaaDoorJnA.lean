/- A journal as a plain value: what its calls do, what is durable, what a crash leaves. -/
import Derived.Test.YtpogoalbnbekaaaDoorCelA
import Derived.Test.YtpogoalbnbekaaaDoorWrB
namespace Go.Proofs.YtpogoalbnbekaaaDoor
set_option linter.unusedVariables false
set_option linter.unusedSimpArgs false
namespace Dsk

/-! Bytes at the beginning of a file that are durable, and stay. -/
structure Dur (f : Nat) (l : List UInt8) (S : St) : Prop where
  ok : S.ok
  now : Has S.now f 0 l
  last : Has S.last f 0 l

section
variable {f : Nat} {l m : List UInt8} {S T : St}
theorem Has.pre {C : Con} {a : Nat} (h : Has C f a (l ++ m)) : Has C f a l := by
  refine ⟨fun i hi => ?_, fun hl => ?_⟩
  · rw [h.byte i (by rw [List.length_append]; omega), List.getD_eq_getElem?_getD, List.getD_eq_getElem?_getD, List.getElem?_append_left hi]
  · have := h.size (by intro e; exact hl (List.append_eq_nil_iff.1 e).1)
    rw [List.length_append] at this
    omega
theorem Has.nil (C : Con) (f a : Nat) : Has C f a [] := ⟨fun i hi => absurd hi (by simp), fun h => absurd rfl h⟩
theorem Has.more {C : Con} (h : Has C f 0 l) : Has (C.put f l.length m) f 0 (l ++ m) := by
  refine ⟨fun i hi => ?_, fun hl => ?_⟩
  · rw [List.length_append] at hi
    rw [Con.put_byte, List.getD_eq_getElem?_getD (l := l ++ m), List.getD_eq_getElem?_getD (l := m)]
    by_cases hi2 : i < l.length
    · rw [if_neg (by omega), h.byte i hi2, List.getElem?_append_left hi2, List.getD_eq_getElem?_getD]
    · rw [if_pos (by omega), List.getElem?_append_right (by omega), Nat.zero_add]
  · by_cases hm : m = []
    · subst hm
      rw [Con.put_nil, List.append_nil]
      exact h.size (by simpa using hl)
    · rw [Con.put_size _ _ _ _ hm, if_pos rfl, List.length_append]
      omega
theorem Dur.pre (h : Dur f (l ++ m) S) : Dur f l S := ⟨h.ok, h.now.pre, h.last.pre⟩
theorem Dur.nil (h : S.ok) : Dur f [] S := ⟨h, Has.nil _ _ _, Has.nil _ _ _⟩
theorem Dur.turn (h : Dur f l S) (hk : T.ok) (e1 : T.now = S.now) (e2 : T.last = S.last) : Dur f l T := ⟨hk, by rw [e1]; exact h.now, by rw [e2]; exact h.last⟩
theorem Dur.crash (h : Dur f l S) (ks : List Int) : Dur f l (S.crash ks) := by
  by_cases hd : S.down = true
  · rw [crash_down hd]
    exact h
  · have hk := h.ok.crash ks
    rw [crash_up' (by simpa using hd)] at hk ⊢
    exact ⟨hk, Has.dead h.ok h.now h.last ks, Has.dead h.ok h.now h.last ks⟩
theorem Dur.start (h : Dur f l S) : Dur f l S.start := h.turn h.ok.start rfl rfl
theorem Dur.lose (h : Dur f l S) {n : Int} (hn : n ≤ 9223372036854775807) : Dur f l (S.lose n) := h.turn (h.ok.lose hn) rfl rfl
theorem Dur.arm (h : Dur f l S) {n : Int} {ks : List Int} (hn : n ≤ 9223372036854775807) (hk : ks.length ≤ 1000000000) : Dur f l (S.arm n ks) := h.turn (h.ok.arm hn hk) rfl rfl
theorem Dur.count (h : Dur f l S) : Dur f l S.count := by
  have hk := h.ok.count
  unfold St.count at hk ⊢
  split
  · exact h
  · rename_i h1
    rw [if_neg h1] at hk
    split
    · exact Dur.crash (h.turn (T := { S with calls := 0 }) (h.ok.calls' ⟨by decide, by decide⟩) rfl rfl) _
    · rename_i h2
      rw [if_neg h2] at hk
      exact h.turn hk rfl rfl
theorem Dur.settle (h : Dur f l S) (g : Nat) : Dur f l (S.settle g) := by
  refine ⟨h.ok.settle g, h.now, ?_⟩
  by_cases hg : f = g
  · exact h.now.same (by rw [h.ok.settle_size, if_pos hg]) (fun i => by rw [h.ok.settle_last, if_pos hg])
  · exact h.last.same (by rw [h.ok.settle_size, if_neg hg]) (fun i => by rw [h.ok.settle_last, if_neg hg])
theorem Dur.Sync (h : Dur f l S) (g : Int) : Dur f l (S.Sync g).1 := by
  have hk := h.ok.Sync g
  have k := h.count
  unfold St.Sync at hk ⊢
  split
  · exact k
  · rename_i h1
    rw [if_neg h1] at hk
    split
    · exact k
    · rename_i h2
      rw [if_neg h2] at hk
      split
      · rename_i h3
        rw [if_pos h3] at hk
        exact k.turn hk rfl rfl
      · exact k.settle _
/-- What is written elsewhere, or behind. -/
theorem Dur.Write (h : Dur f l S) {g a : Int} (hg : g ≠ f ∨ (l.length : Int) ≤ a) (m : List UInt8) : Dur f l (S.Write g a m).1 := by
  unfold St.Write
  refine Dur.count ?_
  split
  · rename_i he
    obtain ⟨h1, h2, h3, h4⟩ := errW_ok he
    have hf := isF_nat h2
    refine ⟨h.ok.write (by omega) (by omega), ?_, by rw [write_last]; exact h.last⟩
    rw [(write_now S g.toNat a.toNat m).1]
    refine h.now.put_other ?_
    rcases hg with hg | hg
    · exact .inl (fun e => isF_ne h2 hg e.symm)
    · exact .inr (.inr (by omega))
  · exact h
variable {c : Cl}
theorem Dur.cell_settle (h : Dur f l S) (c : Cl) : Dur f l (c.settle S).2.2 := by
  unfold Cl.settle
  split
  · exact h
  · exact h.Sync _
theorem Dur.cell_replace (h : Dur f l S) (hc : c.file ≠ f) (s : List UInt8) : Dur f l (c.replace S s).2.2 := by
  have h1 := h.Write (.inl hc) (a := (beg (othK c.slot) : Nat)) s
  have h2 := h1.Sync c.file
  have h3 := h2.Write (.inl hc) (a := 0) (hdr (othK c.slot) s.length)
  unfold Cl.replace
  split
  · exact h1
  · split
    · exact h2
    · split
      · exact h3
      · exact h3
theorem Dur.cell_set (h : Dur f l S) (hc : c.file ≠ f) (s : List UInt8) : Dur f l (c.set S s).2.2 := by
  have h1 := h.cell_settle c
  have h2 := h1.cell_replace (c := (c.settle S).2.1) (by rw [(c.settle_file S).1]; exact hc) s
  have h3 := h2.cell_settle ((c.settle S).2.1.replace (c.settle S).2.2 s).2.1
  unfold Cl.set
  split
  · exact h
  · split
    · exact h1
    · split
      · exact h2
      · exact h3
/-- Written behind what is durable, and synced. -/
theorem Dur.more (h : Dur f l S) {m : List UInt8} (e1 : (S.Write (f : Int) (l.length : Int) m).2 = 0) (e2 : ((S.Write (f : Int) (l.length : Int) m).1.Sync (f : Int)).2 = 0) :
    Dur f (l ++ m) ((S.Write (f : Int) (l.length : Int) m).1.Sync (f : Int)).1 := by
  have h1 : Has (S.Write (f : Int) (l.length : Int) m).1.now f 0 (l ++ m) := by
    refine Has.Write_good e1 ?_
    rw [(write_now _ _ _ _).1]
    exact h.now.more
  have k := h.ok.Write (f : Int) (l.length : Int) m
  have := Has.Sync_good k h1 e2
  exact ⟨k.Sync _, this.1, this.2⟩
theorem Dur.read (h : Dur f l S) : S.now.read f 0 l.length = l := h.now.read

/-! Errors of the disk alone. -/
/-- No error, or one of the disk. -/
def Dky (e : Int) : Prop := e = 0 ∨ e = 9 ∨ e = 10
theorem Sync_dky {g : Int} (hg : isF g = true) : Dky (S.Sync g).2 := by
  unfold St.Sync
  rw [hg]
  split
  · exact .inr (.inl rfl)
  · rw [if_neg (by simp)]
    split
    · exact .inr (.inr rfl)
    · exact .inl rfl
theorem Write_dky {g a : Int} (hg : isF g = true) (ha : 0 ≤ a) (l : List UInt8) (hr : a + l.length ≤ 16777216) : Dky (S.Write g a l).2 := by
  have e : (S.Write g a l).2 = if (S.Write g a l).1.down then 9 else S.errW g a l.length := rfl
  rw [e]
  split
  · exact .inr (.inl rfl)
  · unfold St.errW
    rw [hg]
    split
    · exact .inr (.inl rfl)
    · rw [if_neg (by simp; omega), if_neg (by omega)]
      exact .inl rfl
theorem settle_dky (hf : isF c.file = true) : Dky (c.settle S).1 := by
  unfold Cl.settle
  split
  · exact .inl rfl
  · exact Sync_dky hf
theorem replace_dky (hf : isF c.file = true) (s : List UInt8) (hs : s.length ≤ 65536) : Dky (c.replace S s).1 := by
  have hb := beg_hi (othK c.slot)
  unfold Cl.replace
  split
  · exact Write_dky hf (by omega) s (by omega)
  · split
    · exact Sync_dky hf
    · split
      · exact Write_dky hf (by omega) _ (by rw [hdr_len]; omega)
      · exact .inl rfl
theorem set_dky (hf : isF c.file = true) (s : List UInt8) (hs : s.length ≤ 65536) : Dky (c.set S s).1 := by
  have h1 : isF (c.settle S).2.1.file = true := by rw [(c.settle_file S).1]; exact hf
  have h2 : isF ((c.settle S).2.1.replace (c.settle S).2.2 s).2.1.file = true := by rw [Cl.replace_file]; exact h1
  unfold Cl.set
  rw [if_neg (by omega)]
  split
  · exact settle_dky hf
  · split
    · exact replace_dky h1 s hs
    · exact settle_dky h2
end
end Dsk
end Go.Proofs.YtpogoalbnbekaaaDoor

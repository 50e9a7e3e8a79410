/- What calls on other files, and crashes, leave of a file that is synced; what a Write, a Truncate leave: plain facts. -/
import Derived.Test.YtgaclibokapfaaaActs
import Derived.Test.YtgaclibokapfaaaSur
namespace Go.Proofs.Ytgaclibokapfaaa
set_option linter.unusedVariables false
open Go.RowKit Wire Txt
namespace Dsk

theorem Con.all_same {C D : Con} {f : Nat} (h : C.size f = D.size f) (hb : ∀ i, C.byte f i = D.byte f i) : C.all f = D.all f := by
  unfold Con.all Con.read
  rw [h]
  congr 1
  funext i
  exact hb _

/-- File f is C, in what is there and in what is durable, and nothing of it is pending. -/
structure Clean (T : St) (f : Nat) (C : Con) : Prop where
  ok : T.ok
  now : T.now.size f = C.size f ∧ ∀ i, T.now.byte f i = C.byte f i
  last : T.last.size f = C.size f ∧ ∀ i, T.last.byte f i = C.byte f i
  queue : ∀ p ∈ T.queue, p.1 ≠ f

section
variable {T S : St} {f : Nat} {C : Con}
theorem Clean.crash (h : Clean T f C) (ks : List Int) : Clean (T.crash ks) f C := by
  have hk := h.ok.crash ks
  have hs : (T.dead ks).size f = T.last.size f := hardK_size_other (fun p hp => h.queue p hp) _ (Nat.le_refl _)
  have hb : ∀ i, (T.dead ks).byte f i = T.last.byte f i := fun i => by
    rw [h.ok.dead_byte, if_neg]
    intro hl
    exact h.queue _ (among_mem hl (Nat.le_refl _)) rfl
  have hd : (T.dead ks).size f = C.size f ∧ ∀ i, (T.dead ks).byte f i = C.byte f i := ⟨hs.trans h.last.1, fun i => (hb i).trans (h.last.2 i)⟩
  unfold St.crash at hk ⊢
  split
  · exact h
  · rename_i hn
    rw [if_neg hn] at hk
    exact ⟨hk, hd, hd, fun p hp => by cases hp⟩
theorem Clean.count (h : Clean T f C) : Clean T.count f C := by
  have hk := h.ok.count
  have hc : Clean ({ T with calls := 0 } : St) f C := ⟨h.ok.calls' ⟨by decide, by decide⟩, h.now, h.last, h.queue⟩
  have hc2 := hc.crash T.keep
  unfold St.count at hk ⊢
  split
  · exact h
  · rename_i h1
    rw [if_neg h1] at hk
    split
    · exact hc2
    · rename_i h2
      rw [if_neg h2] at hk
      exact ⟨hk, h.now, h.last, h.queue⟩
theorem Clean.lose (h : Clean T f C) {n : Int} (hn : n ≤ 9223372036854775807) : Clean (T.lose n) f C := ⟨h.ok.lose hn, h.now, h.last, h.queue⟩
theorem Clean.start (h : Clean T f C) : Clean T.start f C := ⟨h.ok.start, h.now, h.last, h.queue⟩
theorem Clean.settle (h : Clean T f C) {g : Nat} (hg : f ≠ g) : Clean (T.settle g) f C := by
  refine ⟨h.ok.settle g, h.now, ⟨?_, fun i => ?_⟩, fun p hp => h.queue p (mem_noF.1 hp).1⟩
  · rw [h.ok.settle_size, if_neg hg]
    exact h.last.1
  · rw [h.ok.settle_last, if_neg hg]
    exact h.last.2 i
theorem cut_aside (D : Con) {f g : Nat} (n : Nat) (hg : f ≠ g) : (D.cut g n).size f = D.size f ∧ ∀ i, (D.cut g n).byte f i = D.byte f i := by
  refine ⟨?_, fun i => ?_⟩
  · show (if f = g then n else D.size f) = _
    rw [if_neg hg]
  · show (if f = g ∧ n ≤ i then 0 else D.byte f i) = _
    rw [if_neg fun h => hg h.1]
theorem Clean.trunc (h : Clean T f C) {g n : Nat} (hg : f ≠ g) (hn : n ≤ T.now.size g) : Clean (T.trunc g n) f C := by
  have k := h.settle hg
  have c1 := cut_aside (T.settle g).now n hg
  have c2 := cut_aside (T.settle g).last n hg
  exact ⟨h.ok.trunc hn, ⟨c1.1.trans k.now.1, fun i => (c1.2 i).trans (k.now.2 i)⟩, ⟨c2.1.trans k.last.1, fun i => (c2.2 i).trans (k.last.2 i)⟩, k.queue⟩
theorem put_other (D : Con) {f g a : Nat} (l : List UInt8) (hg : f ≠ g) : (D.put g a l).size f = D.size f ∧ ∀ i, (D.put g a l).byte f i = D.byte f i :=
  ⟨Con.put_size_other _ _ _ _ hg, fun i => by rw [Con.put_byte, if_neg fun h => hg h.1]⟩
theorem Clean.writeF : ∀ (k : Nat) {T : St}, Clean T f C → ∀ {g a : Nat} {l : List UInt8}, f ≠ g → g < 16 → a + l.length ≤ 16777216 → Clean (T.writeF k g a l) f C
  | 0, T, h, g, a, l, hg, hf, hr => h
  | k + 1, T, h, g, a, l, hg, hf, hr => by
    unfold St.writeF
    split
    · exact h
    · rename_i hl
      have hp : 0 < l.length := List.length_pos_iff.2 hl
      have h1 : (l.take (64 - a % 64)).length = min (64 - a % 64) l.length := List.length_take
      have h2 : (l.drop (64 - a % 64)).length = l.length - (64 - a % 64) := List.length_drop
      have c := put_other T.now (f := f) (g := g) (a := a) (l.take (64 - a % 64)) hg
      refine Clean.writeF k (T := { T with now := T.now.put g a (l.take (64 - a % 64)), queue := addL T.queue (g, a / 64) }) ⟨h.ok.chunk hf (by omega) (by omega) (by omega), ⟨c.1.trans h.now.1, fun i => (c.2 i).trans (h.now.2 i)⟩, h.last, fun p hp => ?_⟩ hg hf (by omega)
      rcases mem_addL.1 hp with h3 | rfl
      · exact h.queue p h3
      · exact fun e => hg e.symm
theorem isF_ne {f : Nat} {g : Int} (h : isF g = true) (hg : g ≠ f) : f ≠ g.toNat := by
  have := isF_nat h
  omega
theorem Clean.Write (h : Clean T f C) {g : Int} (hg : g ≠ f) (a : Int) (l : List UInt8) : Clean (T.Write g a l).1 f C := by
  unfold St.Write
  refine Clean.count ?_
  split
  · rename_i he
    obtain ⟨h1, h2, h3, h4⟩ := errW_ok he
    have := isF_nat h2
    exact Clean.writeF _ h (isF_ne h2 hg) this.2.2.1 (by omega)
  · exact h
theorem Clean.Sync (h : Clean T f C) {g : Int} (hg : g ≠ f) : Clean (T.Sync g).1 f C := by
  have k := h.count
  unfold St.Sync
  split
  · exact k
  · split
    · exact k
    · rename_i h2
      split
      · exact ⟨k.ok.lost' (by have := k.ok.lost; omega), k.now, k.last, k.queue⟩
      · exact k.settle (isF_ne (by simpa using h2) hg)
theorem Clean.Trunc (h : Clean T f C) {g : Int} (hg : g ≠ f) (n : Int) : Clean (T.Trunc g n).1 f C := by
  have k := h.count
  unfold St.Trunc
  split
  · exact k
  · split
    · exact k
    · rename_i h1
      simp at h1
      exact k.trunc (isF_ne h1.1.1 hg) (by omega)
/-- What one of the acts leaves that are done after the sync. -/
theorem Clean.run (h : Clean T f C) {a : Act} (hf : a.fit) (hl : a.keep.length ≤ 1000000000) (hw : (a.kind < 4 ∧ a.f ≠ f) ∨ a.kind = 4) : Clean (a.run T).1 f C := by
  rcases kind_run a T with ⟨k, e⟩ | ⟨k, e⟩ | ⟨k, e⟩ | ⟨k, e⟩ | ⟨k, e⟩ | ⟨k, e⟩ | ⟨k2, k3, k4, k5, k6, k7, e⟩
  · rw [e]
    exact h.Sync (by omega)
  · rw [e]
    exact h.Trunc (by omega) _
  · rw [e]
    exact h.lose (and3 _)
  · omega
  · omega
  · omega
  · rw [e]
    exact h.Write (by omega) _ _

/-- A sync that was successful. -/
theorem St.ok.synced (h : S.ok) {g : Int} (he : (S.Sync g).2 = 0) : isF g = true ∧ S.down = false ∧ (S.Sync g).1.down = false ∧ Clean (S.Sync g).1 g.toNat S.now := by
  have hk := h.count
  unfold St.Sync at he ⊢
  split at he
  · simp at he
  · rename_i hd
    rw [if_neg hd]
    split at he
    · simp at he
    · rename_i hf
      rw [if_neg hf]
      split at he
      · simp at he
      · rename_i hl
        rw [if_neg hl]
        have hf' : isF g = true := by simpa using hf
        have hd' : S.count.down = false := by simpa using hd
        have hc : S.down = false ∧ S.count.now = S.now := by
          unfold St.count at hd' ⊢
          split at hd'
          · rename_i h1
            rw [if_pos h1]
            exact ⟨hd', rfl⟩
          · rename_i h1
            rw [if_neg h1]
            simp at h1
            split at hd'
            · rename_i h2
              unfold St.crash at hd'
              rw [if_neg (by show ¬ S.down = true; rw [h1.1]; simp)] at hd'
              simp at hd'
            · rename_i h2
              rw [if_neg h2]
              exact ⟨h1.1, rfl⟩
        refine ⟨hf', hc.1, hd', ⟨hk.settle _, ?_, ?_, fun p hp => (mem_noF.1 hp).2⟩⟩
        · show S.count.now.size _ = _ ∧ ∀ i, S.count.now.byte _ i = _
          rw [hc.2]
          exact ⟨rfl, fun _ => rfl⟩
        · refine ⟨?_, fun i => ?_⟩
          · show (S.count.settle g.toNat).last.size g.toNat = _
            rw [hk.settle_size, if_pos rfl, hc.2]
          · show (S.count.settle g.toNat).last.byte g.toNat i = _
            rw [hk.settle_last, if_pos rfl, hc.2]
theorem Clean.all (h : Clean T f C) : T.now.all f = C.all f := Con.all_same h.now.1 h.now.2
/-- What stands in the file behind a crash. -/
theorem Clean.end_ (h : Clean T f C) (ks : List Int) : (T.crash ks).start.now.all f = C.all f := ((h.crash ks).start).all
end
end Dsk
end Go.Proofs.Ytgaclibokapfaaa

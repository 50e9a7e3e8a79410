/- Open over a log and a cell that were written by hand. -/
import Derived.Test.YtpogoalbnbekaaaDoorJnD
namespace Go.Proofs.YtpogoalbnbekaaaDoor
set_option linter.unusedVariables false
set_option linter.unusedSimpArgs false
namespace Dsk
section
variable {f : Nat} {S : St} {l : List UInt8}
theorem Calm.wrote (h : Calm S) {g a : Int} (hf : isF g = true) (ha : 0 ≤ a) (l : List UInt8) (hr : a + l.length ≤ 16777216) : (S.Write g a l).1.now = S.now.put g.toNat a.toNat l := by
  rw [Dsk.Write_good h.down h.calls hf ha l hr]
  exact (write_now S g.toNat a.toNat l).1
theorem Calm.synced (h : Calm S) {g : Int} (hf : isF g = true) : (S.Sync g).1.now = S.now := by
  have hc := count_none h.calls
  unfold St.Sync
  rw [hc, if_neg (by rw [h.down]; simp), if_neg (by rw [hf]; simp), if_neg (by rw [h.lost]; decide)]
  rfl
/-- A log and a cell's value, written on a new disk. -/
def hand (f : Nat) (l v : List UInt8) : St :=
  (((St.new.Write (f : Int) 0 l).1.Write ((f + 1 : Nat) : Int) 64 v).1.Write ((f + 1 : Nat) : Int) 0 (hdr 1 v.length)).1
theorem hand_open (hf : f ≤ 14) (l v : List UInt8) (hl : l.length ≤ 65536) (hv : v.length ≤ 65536) :
    Calm (hand f l v) ∧ ∃ c, (jopn (hand f l v) f).1 = (match answer l v with | none => 2 | some _ => 0) ∧ (jopn (hand f l v) f).2.1 = (match answer l v with | none => none | some L => some ⟨f, c, L, false⟩) := by
  have hf0 : isF (f : Int) = true := by unfold isF; exact decide_eq_true (by omega)
  have hf1 : isF ((f + 1 : Nat) : Int) = true := by unfold isF; exact decide_eq_true (by omega)
  have c0 : Calm St.new := Calm.new
  have c1 := (c0.Write hf0 (a := 0) (by omega) l (by omega)).2
  have n1 := c0.wrote hf0 (a := 0) (by omega) l (by omega)
  have c2 := (c1.Write hf1 (a := 64) (by omega) v (by omega)).2
  have n2 := c1.wrote hf1 (a := 64) (by omega) v (by omega)
  have c3 := (c2.Write hf1 (a := 0) (by omega) (hdr 1 v.length) (by rw [hdr_len]; omega)).2
  have n3 := c2.wrote hf1 (a := 0) (by omega) (hdr 1 v.length) (by rw [hdr_len]; omega)
  have hn : (hand f l v).now = ((St.new.now.put f 0 l).put (f + 1) 64 v).put (f + 1) 0 (hdr 1 v.length) := by
    unfold hand
    rw [n3, n2, n1]
    rfl
  have hc : Calm (hand f l v) := c3
  refine ⟨hc, ?_⟩
  generalize hand f l v = H at *
  have s1 := hc.Sync hf0
  have m1 := hc.synced hf0
  have hf1' : isF ((f : Int) + 1) = true := hf1
  have s2 := s1.2.Sync hf1'
  have m2 := s1.2.synced hf1'
  have hnow : ((H.Sync (f : Int)).1.Sync ((f : Int) + 1)).1.now = ((St.new.now.put f 0 l).put (f + 1) 64 v).put (f + 1) 0 (hdr 1 v.length) := by rw [m2, m1, hn]
  have hlog : Has (((St.new.now.put f 0 l).put (f + 1) 64 v).put (f + 1) 0 (hdr 1 v.length)) f 0 l :=
    ((Has.put_same St.new.now f 0 l).put_other (.inl (by omega))).put_other (.inl (by omega))
  have hsize : (((St.new.now.put f 0 l).put (f + 1) 64 v).put (f + 1) 0 (hdr 1 v.length)).size f = l.length := by
    rw [Con.put_size_other _ _ _ _ (by omega), Con.put_size_other _ _ _ _ (by omega)]
    by_cases h0 : l = []
    · subst h0
      rw [Con.put_nil]
      rfl
    · rw [Con.put_size _ _ _ _ h0, if_pos rfl]
      show max 0 (0 + l.length) = l.length
      omega
  have hhead : Head (((St.new.now.put f 0 l).put (f + 1) 64 v).put (f + 1) 0 (hdr 1 v.length)) (f + 1) (some (1, v)) := ⟨Has.put_same _ _ _ _, .inl rfl, hv⟩
  have hbody : Has (((St.new.now.put f 0 l).put (f + 1) 64 v).put (f + 1) 0 (hdr 1 v.length)) (f + 1) (beg 1) v :=
    (Has.put_same _ _ _ _).put_other (.inr (.inl (by rw [hdr_len]; decide)))
  rw [← hnow] at hlog hsize hhead hbody
  obtain ⟨c, hj⟩ := jload_at s2.2.down hf hlog hsize hhead hbody
  refine ⟨c, ?_⟩
  unfold jopn
  rw [if_neg (by omega), if_neg (by simpa using s1.1), if_neg (by simpa using s2.1), hj]
  cases answer l v <;> exact ⟨rfl, rfl⟩
end
end Dsk
end Go.Proofs.YtpogoalbnbekaaaDoor

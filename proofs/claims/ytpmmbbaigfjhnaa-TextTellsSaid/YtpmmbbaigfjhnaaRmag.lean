import Derived.Test.YtpmmbbaigfjhnaaRprt
namespace Go.Proofs.Ytpmmbbaigfjhnaa
open Go.RowKit Wire
set_option linter.unusedVariables false
set_option linter.unusedSimpArgs false
namespace Txt

theorem flat5 : ∀ (ps : List Pt) (k j : Nat) (hk : k < ps.length) (hj : j < 5), (ps.flatMap refC)[k * 5 + j]? = (refC ps[k])[j]?
  | p :: ps, 0, j, _, hj => by
    rw [List.flatMap_cons, List.getElem?_append_left (by simp; omega)]
    simp
  | p :: ps, k + 1, j, hk, hj => by
    rw [List.flatMap_cons, List.getElem?_append_right (by simp; omega), show (k + 1) * 5 + j - (refC p).length = k * 5 + j from by simp; omega]
    exact flat5 ps k j (by simpa using hk) hj

/-- The parts lie at g. -/
structure Lain (w : World) (ps : List Pt) (g : Nat) : Prop where
  inside : ps ≠ [] → g < w.heap.size
  at0 : ∀ k (h : k < ps.length), w.cell? ⟨g, k * 5, none⟩ = some (.int .i64 (rkind ps[k] : Nat))
  at1 : ∀ k (h : k < ps.length), w.cell? ⟨g, k * 5 + 1, none⟩ = some (.int .u8 (rbyte ps[k]).toNat)
  at2 : ∀ k (h : k < ps.length), w.cell? ⟨g, k * 5 + 2, none⟩ = some (str ps[k].set)
  at3 : ∀ k (h : k < ps.length), w.cell? ⟨g, k * 5 + 3, none⟩ = some (.bool (ps[k].kind == 5))
  at4 : ∀ k (h : k < ps.length), w.cell? ⟨g, k * 5 + 4, none⟩ = some (str ps[k].src)

theorem Lain.of {w : World} {B : Nat} {v : Value} {ps : List Pt} (h : Grow w B 5 v ps.length (ps.flatMap refC)) : (ps = [] ∧ v = .slice none 0 0) ∨ ∃ g c, v = .slice (some ⟨g, 0, none⟩) ps.length c ∧ B ≤ g ∧ g < w.heap.size ∧ Lain w ps g := by
  rcases h.form with ⟨h1, h2⟩ | ⟨g, cap, h1, h2, h3, _, _, _, _, h7⟩
  · exact .inl ⟨List.eq_nil_of_length_eq_zero h2, h1⟩
  · refine .inr ⟨g, cap, h1, h2, h3, fun _ => h3, ?_, ?_, ?_, ?_, ?_⟩
    · exact fun k hk => h7 _ _ ((flat5 ps k 0 hk (by omega)).trans rfl)
    · exact fun k hk => h7 _ _ ((flat5 ps k 1 hk (by omega)).trans rfl)
    · exact fun k hk => h7 _ _ ((flat5 ps k 2 hk (by omega)).trans rfl)
    · exact fun k hk => h7 _ _ ((flat5 ps k 3 hk (by omega)).trans rfl)
    · exact fun k hk => h7 _ _ ((flat5 ps k 4 hk (by omega)).trans rfl)
theorem Lain.keep {w w' : World} {ps : List Pt} {g : Nat} (h : Lain w ps g) (hg : w.heap.size ≤ w'.heap.size) (hk : w'.heap[g]? = w.heap[g]?) : Lain w' ps g := by
  have hc : ∀ j, w'.cell? ⟨g, j, none⟩ = w.cell? ⟨g, j, none⟩ := fun j => World.cell?_of_block (a := ⟨g, j, none⟩) hk
  exact ⟨fun e => by have := h.inside e; omega, fun k hk => (hc _).trans (h.at0 k hk), fun k hk => (hc _).trans (h.at1 k hk), fun k hk => (hc _).trans (h.at2 k hk), fun k hk => (hc _).trans (h.at3 k hk), fun k hk => (hc _).trans (h.at4 k hk)⟩

theorem parse_len' : ∀ (k : Nat) (p : List UInt8), p.length ≤ k → (parse p).length ≤ p.length
  | _, [], _ => by simp [parse_nil]
  | 0, c :: r, h => by simp at h
  | k + 1, c :: r, h => by
    have hs := part_shape c r
    have ih := parse_len' k ((c :: r).drop (part c r).src.length) (by rw [List.length_drop, List.length_cons]; simp at h; omega)
    rw [parse_cons, List.length_cons, List.length_cons]
    rw [List.length_drop, List.length_cons] at ih
    omega
theorem parse_len (s : ByteArray) : (parse (bl s)).length ≤ s.size := by
  have := parse_len' _ (bl s) (Nat.le_refl _)
  rwa [bl_len] at this

abbrev mgc (ps : List Pt) : Bool := ps.any fun q => !(q.kind == 0) && !(q.kind == 1)
theorem mgc_at {ps : List Pt} {k : Nat} (h : k < ps.length) : mgc (ps.drop k) = (((rkind ps[k] : Nat) : Int) != 0 || mgc (ps.drop (k + 1))) := by
  rw [List.drop_eq_getElem_cons h]
  show ((!(ps[k].kind == 0) && !(ps[k].kind == 1)) || mgc (ps.drop (k + 1))) = _
  congr 1
  unfold rkind
  generalize ps[k].kind = n
  by_cases hn : n ≤ 1
  · rw [if_pos hn]
    have : n = 0 ∨ n = 1 := by omega
    rcases this with rfl | rfl <;> rfl
  · rw [if_neg hn, show (n == 0) = false from by simp; omega, show (n == 1) = false from by simp; omega]
    split
    · rfl
    · split <;> rfl

set_option maxHeartbeats 1000000 in
theorem rmagic_any (p : ByteArray) (hp : p.size ≤ 1000000) (w : World) :
    Calls Try.prog 27 #[.string p] w fun e w' => e = .returned (.bool (magic (bl p))) ∧ Below w.heap.size w w' := by
  have HP := Lib.hid (rparts_any p (by omega))
  have HM : Hid (magic (bl p) = mgc ((parse (bl p)).drop 0)) := Lib.hid rfl
  have HL := Lib.hid (parse_len p)
  generalize parse (bl p) = ps at *
  generalize magic (bl p) = m at *
  go_enter Try.func27, Try.ntmps27
  go_wp2_with (go_at_call 39; refine (HP.out _).mono ?_; rintro e w1 ⟨v, rfl, hown, hb⟩)
  rcases Lain.of hown with ⟨h1, h2⟩ | ⟨g, c, h2, h3, h4, h5⟩
  · subst h1 h2
    clear hown
    go_loopw [4] (fun iv wr => iv = .int .i64 0 ∧ w1 = wr) (fun _ _ => 0)
    case atStart => exact ⟨rfl, rfl⟩
    case round =>
      obtain ⟨rfl, rfl⟩ := hrel
      go_wp2_with fail
      go_ret
      exact ⟨by rw [HM.out]; rfl, hb⟩
  · subst h2
    clear hown
    have H5 := Lib.hid h5
    have hlen := HL.out
    clear h5
    go_loopw [4] (fun iv wr => (∃ k : Nat, iv = .int .i64 k ∧ k ≤ ps.length ∧ Hid (m = mgc (ps.drop k))) ∧ w1 = wr) (fun iv _ => ps.length - (intOf iv).toNat)
    case atStart => exact ⟨⟨0, rfl, Nat.zero_le _, HM⟩, rfl⟩
    case round =>
      obtain ⟨⟨k, rfl, hk, HN⟩, rfl⟩ := hrel
      by_cases hlt : k < ps.length
      · have c0 := H5.out.at0 k hlt
        have HR := Lib.hid (mgc_at hlt)
        generalize rkind ps[k] = rk at *
        by_cases ht : ((rk : Int) != 0) = true
        · have HE : Hid (m = true) := Lib.hid (by rw [HN.out, HR.out, ht]; rfl)
          go_wp2_with fail
          go_ret
          exact ⟨by rw [HE.out]; rfl, hb⟩
        · have ht : ((rk : Int) != 0) = false := by simpa using ht
          have HE : Hid (m = mgc (ps.drop (k + 1))) := Lib.hid (by rw [HN.out, HR.out, ht]; rfl)
          go_wp2_with fail
          go_roundw
          case rel => exact ⟨⟨k + 1, by simp, hlt, HE⟩, trivial⟩
          case measure => simp [intOf]; omega
      · have HE : Hid (m = false) := Lib.hid (by rw [HN.out, List.drop_eq_nil_of_le (by omega)]; rfl)
        go_wp2_with fail
        go_ret
        exact ⟨by rw [HE.out]; rfl, hb⟩
end Txt
end Go.Proofs.Ytpmmbbaigfjhnaa

import Derived.Test.YtpmmbbaigfjhnaaRmag
namespace Go.Proofs.Ytpmmbbaigfjhnaa
open Go.RowKit Wire
set_option linter.unusedVariables false
set_option linter.unusedSimpArgs false
namespace Txt

structure Nice (n : Nat) (q : Pt) : Prop where
  pos : 1 ≤ q.src.length
  kind : q.kind ≤ 5
  one : q.kind = 0 → q.src.length = 1
  two : q.kind = 1 → q.src.length = 2
  set : q.set.length ≤ n

theorem cls_nice {r : List UInt8} {q : Pt} (h : clsOf r = some q) : Nice (r.length + 1) q := by
  unfold clsOf at h
  split at h
  · obtain rfl := Option.some.inj h
    exact ⟨by simp, by simp, by simp, by simp, by simp only [List.length_drop, List.length_take]; omega⟩
  · split at h
    · obtain rfl := Option.some.inj h
      exact ⟨by simp, by simp, by simp, by simp, by simp only [List.length_take]; omega⟩
    · cases h
theorem part_nice (c : UInt8) (r : List UInt8) : Nice (r.length + 1) (part c r) := by
  unfold part
  split
  · cases r <;> exact ⟨by simp, by simp, by simp, by simp, by simp⟩
  · split
    · exact ⟨by simp, by simp, by simp, by simp, by simp⟩
    · split
      · exact ⟨by simp, by simp, by simp, by simp, by simp⟩
      · split
        · split
          · rename_i q hq
            exact cls_nice hq
          · exact ⟨by simp, by simp, by simp, by simp, by simp⟩
        · exact ⟨by simp, by simp, by simp, by simp, by simp⟩
theorem parse_nice : ∀ (k n : Nat) (p : List UInt8), p.length ≤ k → p.length ≤ n → ∀ q ∈ parse p, Nice n q
  | _, n, [], _, _, q, hq => by simp [parse_nil] at hq
  | 0, n, c :: r, h, _, _, _ => by simp at h
  | k + 1, n, c :: r, h, hn, q, hq => by
    rw [parse_cons] at hq
    have hs := part_shape c r
    have hp := part_nice c r
    simp only [List.length_cons] at h hn
    rcases List.mem_cons.1 hq with rfl | hq
    · exact ⟨hp.pos, hp.kind, hp.one, hp.two, by have := hp.set; omega⟩
    · exact parse_nice k n _ (by rw [List.length_drop, List.length_cons]; omega) (by rw [List.length_drop, List.length_cons]; omega) q hq
theorem nice_at {s : ByteArray} {k : Nat} (h : k < (parse (bl s)).length) : Nice s.size (parse (bl s))[k] :=
  parse_nice _ _ _ (Nat.le_refl _) (by rw [bl_len]; exact Nat.le_refl _) _ (List.getElem_mem h)

theorem two_of' {a : List UInt8} (h : a.length = 2) : ∃ c d, a = [c, d] := by
  match a, h with
  | [c, d], _ => exact ⟨c, d, rfl⟩
theorem rplain_len : ∀ (k : Nat) (p : List UInt8), p.length ≤ k → (plain p).length ≤ p.length
  | _, [], _ => by simp [plain, parse_nil]
  | 0, c :: r, h => by simp at h
  | k + 1, c :: r, h => by
    have hs := part_shape c r
    have ih := rplain_len k ((c :: r).drop (part c r).src.length) (by rw [List.length_drop, List.length_cons]; simp at h; omega)
    unfold plain at ih ⊢
    rw [parse_cons, List.flatMap_cons, List.length_append]
    rw [List.length_drop, List.length_cons] at ih
    have hp : (plainPt (part c r)).length ≤ (part c r).src.length := by
      unfold plainPt
      split
      · rw [List.length_drop]; omega
      · omega
    simp only [List.length_cons]
    omega

abbrev pln (ps : List Pt) : List UInt8 := ps.flatMap plainPt
theorem pln_at {ps : List Pt} {k : Nat} (h : k < ps.length) : pln (ps.drop k) = plainPt ps[k] ++ pln (ps.drop (k + 1)) := by
  rw [List.drop_eq_getElem_cons h]
  exact List.flatMap_cons
theorem pln_more {m u : List UInt8} {ps : List Pt} {k : Nat} (hm : m = u ++ pln (ps.drop k)) (h : k < ps.length) {x : List UInt8} (hx : plainPt ps[k] = x) : m = (u ++ x) ++ pln (ps.drop (k + 1)) := by
  rw [hm, pln_at h, hx, List.append_assoc]

set_option maxHeartbeats 1000000 in
theorem rplain_any (p : ByteArray) (hp : p.size ≤ 1000000) (w : World) :
    Calls Try.prog 29 #[.string p] w fun e w' => e = .returned (str (plain (bl p))) ∧ Below w.heap.size w w' := by
  have HP := Lib.hid (rparts_any p (by omega))
  have HM : Hid (plain (bl p) = [] ++ pln ((parse (bl p)).drop 0)) := Lib.hid rfl
  have HL := Lib.hid (parse_len p)
  have HG : Hid (∀ k (h : k < (parse (bl p)).length), Nice p.size (parse (bl p))[k]) := Lib.hid fun k h => nice_at h
  have HB := Lib.hid (rplain_len _ (bl p) (Nat.le_refl _))
  have hbl := bl_len p
  generalize parse (bl p) = ps at *
  generalize plain (bl p) = m at *
  rw [hbl] at HB
  clear hbl
  go_enter Try.func29, Try.ntmps29
  go_wp2_with (go_at_call 39; refine (HP.out _).mono ?_; rintro e w1 ⟨v, rfl, hown, hb⟩)
  rcases Lain.of hown with ⟨h1, h2⟩ | ⟨g, c, h2, h3, h4, h5⟩
  · subst h1 h2
    clear hown
    go_loopw [4, 5, 6] (fun ov iv _ wr => ov = str [] ∧ iv = .int .i64 0 ∧ w1 = wr) (fun _ _ _ _ => 0)
    case atStart => exact ⟨rfl, rfl, rfl⟩
    case round =>
      obtain ⟨rfl, rfl, rfl⟩ := hrel
      go_wp2_with fail
      go_ret
      exact ⟨by rw [HM.out]; rfl, hb⟩
  · subst h2
    clear hown
    have H5 := Lib.hid h5
    have hlen := HL.out
    clear h5
    go_loopw [4, 5, 6] (fun ov iv _ wr => (∃ k u, ov = str u ∧ iv = .int .i64 (k : Nat) ∧ k ≤ ps.length ∧ Hid (m = u ++ pln (ps.drop k))) ∧ w1 = wr) (fun _ iv _ _ => ps.length - (intOf iv).toNat)
    case atStart => exact ⟨⟨0, [], rfl, rfl, Nat.zero_le _, HM⟩, rfl⟩
    case round =>
      obtain ⟨⟨k, u, rfl, rfl, hk, HN⟩, rfl⟩ := hrel
      by_cases hlt : k < ps.length
      · have c0 := H5.out.at0 k hlt
        have c4 := H5.out.at4 k hlt
        have hn := HG.out k hlt
        have hlm : u.length + (plainPt ps[k]).length ≤ 1000000 := by
          have := HB.out
          rw [HN.out, pln_at hlt, List.length_append, List.length_append] at this
          omega
        by_cases hk0 : ps[k].kind = 0
        · have hr : rkind ps[k] = 0 := by unfold rkind; rw [if_pos (by omega)]
          have hx : plainPt ps[k] = ps[k].src := by unfold plainPt; rw [if_neg (by omega)]
          have HE := Lib.hid (pln_more HN.out hlt hx)
          have hz := hn.one hk0
          rw [hr] at c0
          rw [hx] at hlm
          clear hn hk0 hr hx
          generalize ps[k].src = x at *
          have hz2 : ((x.length : Int) == 2) = false := by rw [hz]; rfl
          go_wp2_with fail
          go_roundw
          case rel => exact ⟨⟨k + 1, _, congrArg Value.string (cat_bytes u x), by simp, hlt, HE⟩, trivial⟩
          case measure => simp [intOf]; omega
        · by_cases hk1 : ps[k].kind = 1
          · have hr : rkind ps[k] = 0 := by unfold rkind; rw [if_pos (by omega)]
            have hx : plainPt ps[k] = ps[k].src.drop 1 := by unfold plainPt; rw [if_pos hk1]
            have HE := Lib.hid (pln_more HN.out hlt hx)
            have hz := hn.two hk1
            rw [hr] at c0
            rw [hx] at hlm
            clear hn hk0 hk1 hr hx
            generalize ps[k].src = x at *
            obtain ⟨a, b, rfl⟩ := two_of' hz
            go_wp2_with fail
            go_roundw
            case rel => exact ⟨⟨k + 1, _, congrArg Value.string (cat_bytes u [b]), by simp, hlt, HE⟩, trivial⟩
            case measure => simp [intOf]; omega
          · have hr : ((rkind ps[k] : Int) == 0) = false := by
              unfold rkind
              rw [if_neg (by omega)]
              split
              · rfl
              · split <;> rfl
            have hx : plainPt ps[k] = ps[k].src := by unfold plainPt; rw [if_neg (by omega)]
            have HE := Lib.hid (pln_more HN.out hlt hx)
            rw [hx] at hlm
            clear hn hk0 hk1 hx
            generalize ps[k].src = x at *
            generalize rkind ps[k] = rk at *
            go_wp2_with fail
            go_roundw
            case rel => exact ⟨⟨k + 1, _, congrArg Value.string (cat_bytes u x), by simp, hlt, HE⟩, trivial⟩
            case measure => simp [intOf]; omega
      · have HE : Hid (m = u) := Lib.hid (by rw [HN.out, List.drop_eq_nil_of_le (by omega)]; simp)
        go_wp2_with fail
        go_ret
        exact ⟨by rw [HE.out]; rfl, hb⟩
end Txt
end Go.Proofs.Ytpmmbbaigfjhnaa

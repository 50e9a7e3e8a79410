/- parse: the labelled loop. -/
import Derived.Test.YtpogoalbnbekaaaDoorJcA
namespace Go.Proofs.YtpogoalbnbekaaaDoor
open Go.RowKit Wire
set_option linter.unusedVariables false
set_option linter.unusedSimpArgs false
open Txt
open Sls (strs)
namespace Dsk

def mkB (l : List UInt8) : ByteArray := ⟨l.toArray⟩
theorem text_less {l t r : List UInt8} (h : Wr.text l = some (t, r)) : r.length < l.length := by
  have := congrArg List.length (Wr.text_sound h)
  simp only [List.length_append, List.length_cons] at this
  omega
/-- What was read so far. -/
def Told (s : List UInt8) (i : Nat) (st : Wr.St) (xs : List ByteArray) : Prop :=
  (∃ r ys, st = some r ∧ Wr.rep Wr.text i s = some (ys, r) ∧ xs = ys.map mkB ∧ i + r.length ≤ s.length) ∨ (st = none ∧ Wr.rep Wr.text i s = none ∧ i ≤ s.length + 1)
structure PrsRel (W : World) (s : List UInt8) (count : Nat) (lv : Value) (w : World) (i : Nat) (st : Wr.St) (xs : List ByteArray) : Prop where
  row : Grow w (W.heap.size + 1) 1 lv i (strs xs)
  rs : Wr.RS w W.heap.size st
  told : Told s i st xs
  cnt : i ≤ count
  below : Below W.heap.size W w
def lenV : Value → Nat
  | .slice _ n _ => n
  | _ => 0
def ParsePost (W : World) (s : List UInt8) (count : Nat) (e : Ending) (w : World) : Prop :=
  ∃ v, e = .returned (.tuple #[v, .bool (textsOf count s).isSome]) ∧ (∀ L, textsOf count s = some L → Grow w W.heap.size 1 v L.length (strs L)) ∧ Below W.heap.size W w
theorem told_ok {s : List UInt8} {i : Nat} {r t r' : List UInt8} {xs : List ByteArray} (h : Told s i (some r) xs) (ht : Wr.text r = some (t, r')) : Told s (i + 1) (some r') (xs ++ [mkB t]) := by
  rcases h with ⟨r0, ys, e, h1, rfl, h3⟩ | ⟨e, _⟩
  · injection e with e
    subst e
    have := text_less ht
    exact .inl ⟨r', ys ++ [t], rfl, Wr.rep_next h1 ht, by rw [List.map_append]; rfl, by omega⟩
  · cases e
theorem told_bad {s : List UInt8} {i : Nat} {r : List UInt8} {xs : List ByteArray} (h : Told s i (some r) xs) (ht : Wr.text r = none) (zs : List ByteArray) : Told s (i + 1) none zs := by
  rcases h with ⟨r0, ys, e, h1, rfl, h3⟩ | ⟨e, _⟩
  · injection e with e
    subst e
    exact .inr ⟨rfl, Wr.rep_stop h1 ht (by omega), by omega⟩
  · cases e
theorem told_le {s : List UInt8} {i : Nat} {st : Wr.St} {xs : List ByteArray} (h : Told s i st xs) : i ≤ s.length + 1 ∧ (st.getD []).length ≤ s.length := by
  rcases h with ⟨r, ys, rfl, h1, rfl, h3⟩ | ⟨rfl, _, h3⟩
  · exact ⟨by omega, by show r.length ≤ _; omega⟩
  · exact ⟨h3, Nat.zero_le _⟩
theorem told_end {s : List UInt8} {count : Nat} {xs : List ByteArray} (h : Told s count (some []) xs) : textsOf count s = some xs := by
  rcases h with ⟨r0, ys, e, h1, rfl, h3⟩ | ⟨e, _⟩
  · injection e with e
    subst e
    exact texts_done h1
  · cases e
theorem told_early {s : List UInt8} {i count : Nat} {xs : List ByteArray} (h : Told s i (some []) xs) (hi : i < count) : textsOf count s = none := by
  rcases h with ⟨r0, ys, e, h1, rfl, h3⟩ | ⟨e, _⟩
  · injection e with e
    subst e
    exact texts_early h1 hi
  · cases e
theorem told_none {s : List UInt8} {i count : Nat} {xs : List ByteArray} (h : Told s i none xs) (hi : i ≤ count) : textsOf count s = none := by
  rcases h with ⟨r0, ys, e, h1, rfl, h3⟩ | ⟨e, h1, _⟩
  · cases e
  · exact texts_fail (Wr.rep_fail h1 count hi)
theorem told_more {s : List UInt8} {count : Nat} {c : UInt8} {r : List UInt8} {xs : List ByteArray} (h : Told s count (some (c :: r)) xs) : textsOf count s = none := by
  rcases h with ⟨r0, ys, e, h1, rfl, h3⟩ | ⟨e, _⟩
  · injection e with e
    subst e
    exact texts_more h1
  · cases e
theorem prs_len {W : World} {s : List UInt8} {count : Nat} {lv : Value} {w : World} {i : Nat} {st : Wr.St} {xs : List ByteArray} (h : PrsRel W s count lv w i st xs) : xs.length = i := by
  have := h.row.len
  rw [List.length_map] at this
  omega
theorem below_grown {B g : Nat} {w w1 w2 : World} (h : Below B w w1) (hg : w1.grownBy w2 (some g)) (hB : B ≤ w.heap.size) (hgB : B ≤ g) : Below B w w2 := h.grown hg (Nat.le_trans hB h.size) (fun k hk => by injection hk with hk; omega)
/-- A string more. -/
theorem prs_next {W : World} {s : List UInt8} {count i : Nat} {lv v6 : Value} {w w5 w6 : World} {st st' : Wr.St} {xs : List ByteArray} {x : ByteArray} {o : Obj} (h : PrsRel W s count lv w i st xs) (hi : i < count)
    (hg5 : w.grownBy w5 (some W.heap.size)) (hr5 : Wr.RS w5 W.heap.size st') (ht : Told s (i + 1) st' (xs ++ [x])) (hown : Grow w6 (W.heap.size + 1) 1 v6 (i + 1) (strs xs ++ [.string x])) (hg6 : (w5.alloc o).grownBy w6 lv.ownBlock) : PrsRel W s count v6 w6 (i + 1) st' (xs ++ [x]) := by
  have hlt := h.rs.inside
  have hs5 := hg5.size
  have hz : (w5.alloc o).heap.size = w5.heap.size + 1 := Array.size_push ..
  have b5 := below_grown h.below hg5 (Nat.le_refl _) (Nat.le_refl _)
  have b5a := b5.alloc b5.size o
  refine ⟨by rw [show strs (xs ++ [x]) = strs xs ++ [.string x] from List.map_append]; exact hown, ?_, ht, hi, b5a.grown hg6 b5a.size (fun k hk => by have := (h.row.block k hk).1; omega)⟩
  exact Blk.past (Blk.kept hr5 o) hg6 (fun e => by have := (h.row.block _ e.symm).1; omega)

set_option maxRecDepth 8000 in
set_option maxHeartbeats 4000000 in
theorem jparse_any (s : ByteArray) (count : Nat) (w : World) (hs : s.size ≤ 16777216) (hc : count ≤ 9223372036854775807) :
    Calls Tryd.prog 35 #[.string s, .int .i64 count] w (ParsePost w (bl s) count) := by
  obtain ⟨i0, hi0, hi1, hi2, hi3⟩ := info_parts info_str
  have hsl : (bl s).length = s.size := bl_len s
  go_enter Tryd.func35, Tryd.ntmps35
  go_wp2_with fail
  go_step3
  go_wp2_with (go_at_call 24; refine (Wr.open_any s _).mono ?_; rintro e w1 ⟨rfl, h1, b1, z1⟩; have H1 := Lib.hid h1; have B1 := Lib.hid b1; clear h1 b1)
  go_step3
  go_wp2_with fail
  go_loopw [4, 5, 6, 10, 14] (fun _ _ lv _ _ wr => ∃ i st xs, PrsRel w (bl s) count lv wr i st xs) (fun _ _ lv _ _ _ => count + 1 - lenV lv)
  case atStart => exact ⟨0, some (bl s), [], Grow.nil _ _ _, H1.out, .inl ⟨bl s, [], rfl, rfl, rfl, by omega⟩, Nat.zero_le _, B1.out⟩
  case round =>
    obtain ⟨i, st, xs, hR⟩ := hrel
    have HR := Lib.hid hR
    have hlen := prs_len hR
    have htl := told_le hR.told
    have hcnt := hR.cnt
    obtain ⟨A, cp, rfl⟩ := hR.row.slice
    have htold := hR.told
    have hrs := hR.rs
    have hsz := hR.below.size
    have HGB : Hid (Grow wr w.heap.size 1 (.slice A i cp) xs.length (strs xs)) := Lib.hid (by rw [hlen]; exact hR.row.lower (by omega))
    clear hR H1 B1
    cases st with
    | none =>
      have HN := Lib.hid (told_none htold hcnt)
      have HL : Hid (∀ w', Wr.RS w' w.heap.size none → Calls Tryd.prog 27 #[Wr.ptr w.heap.size] w' fun e w2 => e = .returned (.int .i64 0) ∧ w' = w2) := Lib.hid fun w' h => Wr.left_any _ none w' h
      have HD := Lib.hid (fun w' h => Wr.done_none w.heap.size w' h)
      have HRS := Lib.hid hrs
      clear htold hrs
      go_wp2_with (first
        | (go_at_call 27; refine (HL.out _ HRS.out).mono ?_; rintro e w3 ⟨rfl, rfl⟩)
        | (go_at_call 26; refine (HD.out _ HRS.out).mono ?_; rintro e w3 ⟨rfl, rfl⟩))
      go_returns
      exact ⟨_, by rw [HN.out]; rfl, (fun L h => by rw [HN.out] at h; cases h), HR.out.below⟩
    | some r =>
      cases r with
      | nil =>
        have HL : Hid (∀ w', Wr.RS w' w.heap.size (some []) → Calls Tryd.prog 27 #[Wr.ptr w.heap.size] w' fun e w2 => e = .returned (.int .i64 0) ∧ w' = w2) := Lib.hid fun w' h => Wr.left_any _ (some []) w' h
        have HD : Hid (∀ w', Wr.RS w' w.heap.size (some []) → Calls Tryd.prog 26 #[Wr.ptr w.heap.size] w' fun e w2 => e = .returned (.bool true) ∧ w' = w2) := Lib.hid fun w' h => Wr.done_some _ [] w' h
        have HRS := Lib.hid hrs
        have HTD := Lib.hid htold
        clear htold hrs
        by_cases hic : i = count
        · have hq : ((i : Int) == (count : Int)) = true := by simp [hic]
          have HN : Hid (textsOf count (bl s) = some xs) := Lib.hid (told_end (by rw [← hic]; exact HTD.out))
          clear hic
          go_wp2_with (first
            | (go_at_call 27; refine (HL.out _ HRS.out).mono ?_; rintro e w3 ⟨rfl, rfl⟩)
            | (go_at_call 26; refine (HD.out _ HRS.out).mono ?_; rintro e w3 ⟨rfl, rfl⟩))
          go_returns
          exact ⟨_, by rw [HN.out]; rfl, (fun L h => by rw [HN.out] at h; injection h with h; rw [← h]; exact HGB.out), HR.out.below⟩
        · have hq : ((i : Int) == (count : Int)) = false := beq_eq_false_iff_ne.2 (by omega)
          have HN : Hid (textsOf count (bl s) = none) := Lib.hid (told_early HTD.out (by omega))
          clear hic
          go_wp2_with (first
            | (go_at_call 27; refine (HL.out _ HRS.out).mono ?_; rintro e w3 ⟨rfl, rfl⟩)
            | (go_at_call 26; refine (HD.out _ HRS.out).mono ?_; rintro e w3 ⟨rfl, rfl⟩))
          go_returns
          exact ⟨_, by rw [HN.out]; rfl, (fun L h => by rw [HN.out] at h; cases h), HR.out.below⟩
      | cons c r =>
        have hrl : ((c :: r).length : Int) ≤ 9223372036854775807 := by have := htl.2; have e : ((some (c :: r) : Wr.St).getD []).length = (c :: r).length := rfl; omega
        have HL : Hid (∀ w', Wr.RS w' w.heap.size (some (c :: r)) → Calls Tryd.prog 27 #[Wr.ptr w.heap.size] w' fun e w2 => e = .returned (.int .i64 (c :: r).length) ∧ w' = w2) := Lib.hid fun w' h => Wr.left_any _ (some (c :: r)) w' h
        have h0 : (((c :: r).length : Int) == 0) = false := beq_eq_false_iff_ne.2 (by rw [List.length_cons]; omega)
        have hl4 : ((some (c :: r) : Wr.St).getD []).length ≤ 4611686018427387904 := by have := htl.2; omega
        have HRS := Lib.hid hrs
        have HTD := Lib.hid htold
        by_cases hic : i = count
        · have hq : ((i : Int) == (count : Int)) = true := by simp [hic]
          have HN : Hid (textsOf count (bl s) = none) := Lib.hid (told_more (by rw [← hic]; exact HTD.out))
          generalize c :: r = rr at *
          clear hic htold hrs
          go_wp2_with (go_at_call 27; refine (HL.out _ HRS.out).mono ?_; rintro e w3 ⟨rfl, rfl⟩)
          go_returns
          exact ⟨_, by rw [HN.out]; rfl, (fun L h => by rw [HN.out] at h; cases h), HR.out.below⟩
        · have hq : ((i : Int) == (count : Int)) = false := beq_eq_false_iff_ne.2 (by omega)
          have hi1 : i + 1 ≤ maxLen := small_max (by omega)
          have hi2 : (i + 1) * 16 ≤ 140737488355328 := by omega
          have HB := Lib.hid (And.intro hi1 hi2)
          clear hi1 hi2
          cases ht : Wr.text (c :: r) with
          | none =>
            have HT := Lib.hid (Wr.rtext_bad w.heap.size (some (c :: r)) wr hrs hl4 ht)
            have HTN := Lib.hid (told_bad htold ht (xs ++ [⟨#[]⟩]))
            unfold str at HT
            generalize c :: r = rr at *
            clear htold hrs ht
            go_wp2_with (first
              | (go_at_call 27; refine (HL.out _ HRS.out).mono ?_; rintro e w3 ⟨rfl, rfl⟩)
              | (go_at_call 28; refine HT.out.mono ?_; rintro e w5 ⟨rfl, h5, g5⟩; have H5 := Lib.hid h5; have G5 := Lib.hid g5; have z5 := g5.size; have R5 := Lib.hid (HR.out.row.grown g5 (.inr (fun e => by have := (HR.out.row.block _ e).1; omega))); clear h5 g5)
              | (at_builtin; refine wpList_append_src _ rfl (.tmp 19) (.tmp 22) _ _ rfl (w.heap.size + 1) 9 i0 _ 1 16 Tryd.underlying32 hi0 hi1 hi2 hi3 rfl (by omega) _ _ _ rfl (R5.out.alloc _) _ 1 [.string ⟨#[]⟩] rfl (Src.ofSlice _ Tryd.underlying32 ⟨w5.heap.size, 0, none⟩ 1 1 [.string ⟨#[]⟩] rfl (new_cells w5 _ [.string ⟨#[]⟩]) (by simp [Value.oneCell'])) HB.out.1 HB.out.2 (by have := HR.out.rs.inside; simp; omega) ?_; intro v6 w6 hown6 hg6 hor6))
            go_roundw
            case rel => exact ⟨i + 1, none, _, prs_next HR.out (by omega) G5.out H5.out HTN.out hown6 hg6⟩
            case measure => obtain ⟨A6, c6, rfl⟩ := hown6.slice; simp [lenV]; omega
          | some q =>
            obtain ⟨x, r'⟩ := q
            have HT := Lib.hid (Wr.rtext_ok w.heap.size (some (c :: r)) wr hrs hl4 x r' ht)
            have HTN := Lib.hid (told_ok htold ht)
            unfold str at HT
            unfold mkB at HTN
            generalize c :: r = rr at *
            generalize (⟨x.toArray⟩ : ByteArray) = xb at *
            clear htold hrs ht
            go_wp2_with (first
              | (go_at_call 27; refine (HL.out _ HRS.out).mono ?_; rintro e w3 ⟨rfl, rfl⟩)
              | (go_at_call 28; refine HT.out.mono ?_; rintro e w5 ⟨rfl, h5, g5⟩; have H5 := Lib.hid h5; have G5 := Lib.hid g5; have z5 := g5.size; have R5 := Lib.hid (HR.out.row.grown g5 (.inr (fun e => by have := (HR.out.row.block _ e).1; omega))); clear h5 g5)
              | (at_builtin; refine wpList_append_src _ rfl (.tmp 19) (.tmp 22) _ _ rfl (w.heap.size + 1) 9 i0 _ 1 16 Tryd.underlying32 hi0 hi1 hi2 hi3 rfl (by omega) _ _ _ rfl (R5.out.alloc _) _ 1 [.string xb] rfl (Src.ofSlice _ Tryd.underlying32 ⟨w5.heap.size, 0, none⟩ 1 1 [.string xb] rfl (new_cells w5 _ [.string xb]) (by simp [Value.oneCell'])) HB.out.1 HB.out.2 (by have := HR.out.rs.inside; simp; omega) ?_; intro v6 w6 hown6 hg6 hor6))
            go_roundw
            case rel => exact ⟨i + 1, some r', _, prs_next HR.out (by omega) G5.out H5.out HTN.out hown6 hg6⟩
            case measure => obtain ⟨A6, c6, rfl⟩ := hown6.slice; simp [lenV]; omega
end Dsk
end Go.Proofs.YtpogoalbnbekaaaDoor

/- slices.Reverse; the program's Dist. -/
import Derived.Test.YtncbhhnojdhpeaaDoorFpK
namespace Go.Proofs.YtncbhhnojdhpeaaDoor
open Go.RowKit Wire
open Txt (Row)
open Own
open Dsk (Only nth)
set_option linter.unusedVariables false
set_option linter.unusedSimpArgs false
namespace Flo
/-- The outer i are exchanged. -/
structure RevR (W : World) (T : List Thing) (k g n : Nat) (xs : List Int) (iv jv : Value) (wr : World) (i : Nat) (ys : List Int) : Prop where
  iv : iv = .int .i64 i
  jv : jv = .int .i64 ((n : Int) - 1 - i)
  le : 2 * i ≤ n + 1
  sp : Sp W wr (T.set k (RowT 1 (slV g n) n (ivs ys)))
  len : ys.length = n
  val : ∀ t : Nat, t < n → gt ys t = if t < i ∨ n ≤ t + i then gt xs (n - 1 - t) else gt xs t
set_option maxRecDepth 100000 in
set_option maxHeartbeats 4000000 in
theorem reverse_any {W w : World} {T : List Thing} (h : Sp W w T) (k g n : Nat) (xs : List Int) (hk : T[k]? = some (RowT 1 (slV g n) n (ivs xs))) (hx : xs.length = n) (hn : n ≤ 100000) :
    Calls Tryd.prog 42 #[slV g n] w fun e w' => e = .returned (.tuple #[]) ∧ Sp W w' (T.set k (RowT 1 (slV g n) n (ivs xs.reverse))) := by
  have hkl := (List.getElem?_eq_some_iff.1 hk).1
  have HKL := Lib.hid hkl
  have hT : T = T.set k (RowT 1 (slV g n) n (ivs xs)) := by
    refine List.ext_getElem? fun i => ?_
    rw [List.getElem?_set]
    by_cases e : k = i
    · subst e
      rw [if_pos rfl, if_pos hkl, hk]
    · rw [if_neg e]
  have h0 : Sp W w (T.set k (RowT 1 (slV g n) n (ivs xs))) := by rw [← hT]; exact h
  have H0 : Hid (RevR W T k g n xs (.int .i64 0) (.int .i64 ((n : Int) - 1)) w 0 xs) := Lib.hid ⟨rfl, by simp, by omega, h0, hx, fun t ht => by rw [if_neg (by omega)]⟩
  have HX := Lib.hid hx
  obtain ⟨XR, hXR⟩ : ∃ XR, XR = ivs xs.reverse := ⟨_, rfl⟩
  rw [← hXR]
  have HXR := Lib.hid hXR
  clear h hk hT h0 hx hkl hXR
  go_enter Tryd.func42, Tryd.ntmps42
  go_wp2_with fail
  go_loopw [2, 3] (fun iv jv wr => ∃ i ys, RevR W T k g n xs iv jv wr i ys) (fun iv _ _ => n - (intOf iv).toNat)
  case atStart => exact ⟨0, xs, H0.out⟩
  case round =>
    clear H0
    obtain ⟨i, ys, hR⟩ := hrel
    obtain rfl := hR.iv
    obtain rfl := hR.jv
    have hle := hR.le
    have HR := Lib.hid hR
    clear hR
    by_cases hlt : 2 * i + 1 < n
    · have hlt' : (i : Int) < (n : Int) - 1 - i := by omega
      obtain ⟨j, hj⟩ : ∃ j, j = n - 1 - i := ⟨_, rfl⟩
      have hjz : (n : Int) - 1 - i = j := by omega
      rw [hjz] at hlt' ⊢
      have hin : i < n := by omega
      have hjn : j < n := by omega
      have hij : i < j := by omega
      have e1 : List.length ys = n := HR.out.len
      obtain ⟨x0, x1⟩ := Grow.cell (HR.out.sp.grow k (by rw [List.getElem?_set_self HKL.out])) (ivs_at (l := ys) (k := i) (by omega))
      obtain ⟨y0, y1⟩ := Grow.cell (HR.out.sp.grow k (by rw [List.getElem?_set_self HKL.out])) (ivs_at (l := ys) (k := j) (by omega))
      have h2 : Sp W (wr.setCell ⟨g, i, none⟩ (.int .i64 (gt ys j))) (T.set k (RowT 1 (slV g n) n (ivs (ys.set i (gt ys j))))) := by
        have := HR.out.sp.store k (by rw [List.getElem?_set_self HKL.out]) i hin (.int .i64 (gt ys j))
        rw [ivs_set, List.set_set] at this
        exact this
      have h3 : Sp W ((wr.setCell ⟨g, i, none⟩ (.int .i64 (gt ys j))).setCell ⟨g, j, none⟩ (.int .i64 (gt ys i))).drew (T.set k (RowT 1 (slV g n) n (ivs ((ys.set i (gt ys j)).set j (gt ys i))))) := by
        have := h2.store k (by rw [List.getElem?_set_self HKL.out]) j hjn (.int .i64 (gt ys i))
        rw [ivs_set, List.set_set] at this
        exact this.keep (Below.refl _ _).drew
      have HNX : Hid (RevR W T k g n xs (.int .i64 ((i + 1 : Nat) : Int)) (.int .i64 ((n : Int) - 1 - ((i + 1 : Nat) : Int))) ((wr.setCell ⟨g, i, none⟩ (.int .i64 (gt ys j))).setCell ⟨g, j, none⟩ (.int .i64 (gt ys i))).drew (i + 1) ((ys.set i (gt ys j)).set j (gt ys i))) := Lib.hid ⟨rfl, rfl, by omega, h3, by rw [List.length_set, List.length_set]; exact e1, fun t ht => by
        rw [gt_set (by rw [List.length_set]; omega), gt_set (by omega)]
        by_cases a1 : t = j
        · rw [if_pos a1, HR.out.val i hin, if_neg (by omega), if_pos (by omega)]
          congr 1
          omega
        · rw [if_neg a1]
          by_cases a2 : t = i
          · rw [if_pos a2, HR.out.val j hjn, if_neg (by omega), if_pos (by omega)]
            congr 1
            omega
          · rw [if_neg a2, HR.out.val t ht]
            by_cases a3 : t < i ∨ n ≤ t + i
            · rw [if_pos a3, if_pos (by omega)]
            · rw [if_neg a3, if_neg (by omega)]⟩
      have hjs : (j : Int) < 100000 := by omega
      have hjn' : (j : Int) < n := by omega
      have hin' : (i : Int) < n := by omega
      have HJ : Hid ((j : Int) - 1 = (n : Int) - 1 - ((i + 1 : Nat) : Int)) := Lib.hid (by omega)
      clear h2 h3 e1 hj hjz
      generalize gt ys i = vi at *
      generalize gt ys j = vj at *
      generalize ((ys.set i vj).set j vi) = ys2 at *
      go_wp2_with fail
      go_region
      go_wp2_with fail
      go_roundw
      case rel => exact ⟨i + 1, ys2, by simp, by rw [← HJ.out], HNX.out.le, HNX.out.sp, HNX.out.len, HNX.out.val⟩
      case measure => simp [intOf]; omega
    · have hnlt : ¬ (i : Int) < (n : Int) - 1 - i := by omega
      have HFI : Hid (Sp W wr (T.set k (RowT 1 (slV g n) n XR))) := Lib.hid (by
        have e : ys = xs.reverse := by
          refine List.ext_getElem? fun t => ?_
          by_cases ht : t < n
          · rw [gt_of (by rw [HR.out.len]; exact ht), HR.out.val t ht, List.getElem?_reverse (by rw [HX.out]; exact ht), HX.out, gt_of (by rw [HX.out]; omega)]
            by_cases a3 : t < i ∨ n ≤ t + i
            · rw [if_pos a3]
            · rw [if_neg a3]
              congr 2
              omega
          · rw [List.getElem?_eq_none (by rw [HR.out.len]; omega), List.getElem?_eq_none (by rw [List.length_reverse, HX.out]; omega)]
        rw [HXR.out, ← e]
        exact HR.out.sp)
      go_wp2_with fail
      go_end0
      exact ⟨rfl, HFI.out⟩
theorem row_of_grow {w : World} {g n : Nat} {xs : List Value} (h : Grow w 0 1 (slV g n) n xs) : Row w w.heap.size (some ⟨g, 0, none⟩) xs := by
  rcases h.form with ⟨e, _⟩ | ⟨g', cap', e, h1, h2, h3, h4, h5, h6, h7⟩
  · cases e
  · injection e with e1 _ e3
    injection e1 with e1
    injection e1 with e1 _ _
    subst e1
    exact fun k u hu => ⟨_, 0, rfl, h2, by rw [Nat.zero_add]; exact h7 k u hu⟩
theorem field_dist (a b c d : Value) (w : World) : Sem.run Tryd.prog (Instr.field 53 (.agg #[a, b, c, d]) 2) w = .ok c w := by kernel_rfl
set_option maxRecDepth 100000 in
set_option maxHeartbeats 4000000 in
theorem dist_any {f : Fl} (ho : f.ok) (p : Pl) (A B : Option Addr) (ca cb : Nat) (src avoid : List Int) (w : World) (hv : VS w) (hin : FlIn w f p) (hs : Row w w.heap.size A (ivs src)) (ha : Row w w.heap.size B (ivs avoid)) (hls : src.length ≤ 1000000) (hla : avoid.length ≤ 1000000) :
    Calls Tryd.prog 25 #[f.val p, .slice A src.length ca, .slice B avoid.length cb] w (SpreadPost f src avoid false w) := by
  have HEX := Lib.hid (fun w' (b : Below w.heap.size w w') => explore_any ho p A B ca cb src avoid w' (hv.lift b) (hin.lift b) (hs.lift b) (ha.lift b) hls hla)
  have HB0 : Hid (∀ o, Below w.heap.size w (w.alloc o)) := Lib.hid fun o => (Below.refl _ w).alloc (Nat.le_refl _) o
  have HP : Hid (∀ w0 w' gd gb out bf q s P D, Below w.heap.size w w0 → Ex f src avoid q out bf s q.length 0 P D → Sp w0 w' [RowT 1 (slV gd f.Kind.length) f.Kind.length (ivs out), RowT 1 (slV gb f.Kind.length) f.Kind.length (ivs bf)] → SpreadPost f src avoid false w (.returned (slV gd f.Kind.length)) w') := Lib.hid fun w0 w' gd gb out bf q s P D b h1 h2 =>
    ⟨_, _, out, rfl, h1.dist (Nat.le_refl _), row_of_grow (h2.grow 0 rfl), next_below b h2.below⟩
  clear hv hin hs ha ho
  generalize SpreadPost f src avoid false w = Q at *
  obtain ⟨A1, c1, A2, c2⟩ := p
  unfold ExPost at HEX
  generalize hn : f.Kind.length = n at *
  have HVAL : Hid (f.val ⟨A1, c1, A2, c2⟩ = .agg #[.int .i64 f.W, .int .i64 f.H, .int .i64 f.D, .slice A1 n c1, .slice A2 f.Out.length c2]) := Lib.hid (by rw [← hn])
  rw [HVAL.out] at HEX ⊢
  clear hn HVAL
  generalize f.W = fW at *
  generalize f.H = fH at *
  generalize f.D = fD at *
  generalize f.Out.length = n2 at *
  go_enter Tryd.func25, Tryd.ntmps25
  go_wp2_with (go_at_call 40; refine (HEX.out _ (HB0.out _)).mono ?_; rintro e w1 ⟨gc, gd, gb, Aq, cq, q, out, bf, s, P, D, rfl, h1, h2⟩; have HR := Lib.hid (HP.out _ _ _ _ _ _ _ _ _ _ (HB0.out _) h1 h2); clear h1 h2; have hfd := field_dist (slV gc n) (.slice Aq q.length cq) (slV gd n) (slV gb n))
  exact HR.out
end Flo
end Go.Proofs.YtncbhhnojdhpeaaDoor

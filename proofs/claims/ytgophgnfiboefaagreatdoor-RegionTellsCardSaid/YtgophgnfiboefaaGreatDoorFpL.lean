/- slices.Reverse; the program's Dist. -/
import Derived.Test.YtgophgnfiboefaaGreatDoorFpK
namespace Go.Proofs.YtgophgnfiboefaaGreatDoor
open Go.RowKit Wire
open Txt (Row)
open Own
open Dsk (Only nth)
set_option linter.unusedVariables false
set_option linter.unusedSimpArgs false
namespace Flo
/-- The outer i are exchanged. -/
structure RevR (W : World) (T : List Thing) (k g n : Nat) (xs : List Int) (iv jv : Value) (wr : World) (i : Nat) (ys : List Int) : Prop where
  iv : iv = .int .i64 i
  jv : jv = .int .i64 ((n : Int) - 1 - i)
  le : 2 * i ≤ n + 1
  sp : Sp W wr (T.set k (RowT 1 (slV g n) n (ivs ys)))
  len : ys.length = n
  val : ∀ t : Nat, t < n → gt ys t = if t < i ∨ n ≤ t + i then gt xs (n - 1 - t) else gt xs t
theorem row_of_grow {w : World} {g n : Nat} {xs : List Value} (h : Grow w 0 1 (slV g n) n xs) : Row w w.heap.size (some ⟨g, 0, none⟩) xs := by
  rcases h.form with ⟨e, _⟩ | ⟨g', cap', e, h1, h2, h3, h4, h5, h6, h7⟩
  · cases e
  · injection e with e1 _ e3
    injection e1 with e1
    injection e1 with e1 _ _
    subst e1
    exact fun k u hu => ⟨_, 0, rfl, h2, by rw [Nat.zero_add]; exact h7 k u hu⟩
theorem field_dist (a b c d : Value) (w : World) : Sem.run Tryz.prog (Instr.field 78 (.agg #[a, b, c, d]) 2) w = .ok c w := by kernel_rfl
set_option maxRecDepth 100000 in
set_option maxHeartbeats 4000000 in
theorem dist_any {f : Fl} (ho : f.ok) (p : Pl) (A B : Option Addr) (ca cb : Nat) (src avoid : List Int) (w : World) (hv : VS w) (hin : FlIn w f p) (hs : Row w w.heap.size A (ivs src)) (ha : Row w w.heap.size B (ivs avoid)) (hls : src.length ≤ 1000000) (hla : avoid.length ≤ 1000000) :
    Calls Tryz.prog 53 #[f.val p, .slice A src.length ca, .slice B avoid.length cb] w (SpreadPost f src avoid false w) := by
  have HEX := Lib.hid (fun w' (b : Below w.heap.size w w') => explore_any ho p A B ca cb src avoid w' (hv.lift b) (hin.lift b) (hs.lift b) (ha.lift b) hls hla)
  have HB0 : Hid (∀ o, Below w.heap.size w (w.alloc o)) := Lib.hid fun o => (Below.refl _ w).alloc (Nat.le_refl _) o
  have HP : Hid (∀ w0 w' gd gb out bf q s P D, Below w.heap.size w w0 → Ex f src avoid q out bf s q.length 0 P D → Sp w0 w' [RowT 1 (slV gd f.Kind.length) f.Kind.length (ivs out), RowT 1 (slV gb f.Kind.length) f.Kind.length (ivs bf)] → SpreadPost f src avoid false w (.returned (slV gd f.Kind.length)) w') := Lib.hid fun w0 w' gd gb out bf q s P D b h1 h2 =>
    ⟨_, _, out, rfl, h1.dist (Nat.le_refl _), row_of_grow (h2.grow 0 rfl), next_below b h2.below⟩
  clear hv hin hs ha ho
  generalize SpreadPost f src avoid false w = Q at *
  obtain ⟨A1, c1, A2, c2⟩ := p
  unfold ExPost at HEX
  generalize hn : f.Kind.length = n at *
  have HVAL : Hid (f.val ⟨A1, c1, A2, c2⟩ = .agg #[.int .i64 f.W, .int .i64 f.H, .int .i64 f.D, .slice A1 n c1, .slice A2 f.Out.length c2]) := Lib.hid (by rw [← hn])
  rw [HVAL.out] at HEX ⊢
  clear hn HVAL
  generalize f.W = fW at *
  generalize f.H = fH at *
  generalize f.D = fD at *
  generalize f.Out.length = n2 at *
  go_enter Tryz.func53, Tryz.ntmps53
  go_wp2_with (go_at_call 70; refine (HEX.out _ (HB0.out _)).mono ?_; rintro e w1 ⟨gc, gd, gb, Aq, cq, q, out, bf, s, P, D, rfl, h1, h2⟩; have HR := Lib.hid (HP.out _ _ _ _ _ _ _ _ _ _ (HB0.out _) h1 h2); clear h1 h2; have hfd := field_dist (slV gc n) (.slice Aq q.length cq) (slV gd n) (slV gb n))
  exact HR.out
end Flo
end Go.Proofs.YtgophgnfiboefaaGreatDoor

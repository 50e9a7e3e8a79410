/- The example's floor. -/
import Derived.Test.YtncbhhnojdhpeaaDoorFqA
namespace Go.Proofs.YtncbhhnojdhpeaaDoor
open Go.RowKit Wire
open Txt (Row)
open Own
open Dsk (Only nth)
set_option linter.unusedVariables false
set_option linter.unusedSimpArgs false
namespace Flo
def exF : Fl := ⟨3, 2, 1, [1, 0, 1, 1, 1, 1], [63, 63, 63, 63, 63, 63]⟩
theorem exF_ok : exF.ok := ⟨by decide, by decide, by decide, by decide, by decide, by decide, by decide, by decide, by decide⟩
/-- Five cells stored where a struct of five lies. -/
theorem poke5 {W w : World} {T : List Thing} {g : Nat} {ty : TypeId} {a b c d e a' b' c' d' e' : Value} (h : Sp W w T) (i : Nat) (hi : T[i]? = some (BlkT g ty #[a', b', c', d', e'])) : Sp W (w.setCells g 0 [a, b, c, d, e]) (T.set i (BlkT g ty #[a, b, c, d, e])) := by
  have hlt := (List.getElem?_eq_some_iff.1 hi).1
  have h1 := Sp.poke h i hi 0 a
  have h2 := Sp.poke h1 i (by rw [List.getElem?_set_self hlt]) 1 b
  have h3 := Sp.poke h2 i (by rw [List.getElem?_set_self (by rw [List.length_set]; exact hlt)]) 2 c
  have h4 := Sp.poke h3 i (by rw [List.getElem?_set_self (by rw [List.length_set, List.length_set]; exact hlt)]) 3 d
  have h5 := Sp.poke h4 i (by rw [List.getElem?_set_self (by rw [List.length_set, List.length_set, List.length_set]; exact hlt)]) 4 e
  rw [List.set_set, List.set_set, List.set_set, List.set_set] at h5
  exact h5
theorem five_there {W w : World} {T : List Thing} {g : Nat} {ty : TypeId} {a' b' c' d' e' : Value} (h : Sp W w T) (i : Nat) (hi : T[i]? = some (BlkT g ty #[a', b', c', d', e'])) : w.there g 0 5 := by
  have hb := h.blk i hi
  intro j hj
  rw [Nat.zero_add]
  refine ⟨?_, hb.thaw j⟩
  rw [hb.at]
  obtain rfl | rfl | rfl | rfl | rfl : j = 0 ∨ j = 1 ∨ j = 2 ∨ j = 3 ∨ j = 4 := by omega
  all_goals rfl
theorem info_floor : (Tryd.prog.info? 24).map (·.size) = some 5 := by kernel_rfl
theorem wpList_store5 {P : Program} {w : World} {ops : Array Oper} {rest : List Oper} {o : Oper} {ac : Act} {Q : Exit → Act → World → Prop} (hgd : o.guard = none) (ty : TypeId) (x y : Operand) (ho : o.op = .store ty x y) (g : Nat) (a b c d e : Value)
    (hx : ac.eval x = .pointer (some ⟨g, 0, none⟩)) (hy : ac.eval y = .agg #[a, b, c, d, e]) (ht : w.there g 0 5) (hi : (P.info? ty).map (·.size) = some 5) (h1 : a.oneCell' = true) (h2 : b.oneCell' = true) (h3 : c.oneCell' = true) (h4 : d.oneCell' = true) (h5 : e.oneCell' = true)
    (h : wpList P ops Q rest (ac.put o.dst undef) (w.setCells g 0 [a, b, c, d, e])) : wpList P ops Q (o :: rest) ac w :=
  wpList_plain hgd fun K hK => Dsk.wp_store_lie ty x y ho g 0 5 [a, b, c, d, e] hx hy rfl ht hi (fun v hv => by
    simp at hv
    rcases hv with rfl | rfl | rfl | rfl | rfl
    · exact h1
    · exact h2
    · exact h3
    · exact h4
    · exact h5) fun w' e _ _ => by subst e; exact hK _ _ h
/-- While the example grows. -/
abbrev exT (w : World) (kv ov : Value) (i : Nat) : List Thing :=
  [BlkT w.heap.size 24 #[.int .i64 0, .int .i64 0, .int .i64 0, .slice none 0 0, .slice none 0 0], BlkT (w.heap.size + 1) 24 #[.int .i64 3, .int .i64 2, .int .i64 1, kv, ov], RowT 1 kv (List.replicate i 1).length (qvs (List.replicate i 1)), RowT 1 ov (List.replicate i 63).length (qvs (List.replicate i 63))]
theorem rep_next (i v : Nat) : List.replicate i v ++ [v] = List.replicate (i + 1) v := (List.replicate_succ' ..).symm
set_option maxRecDepth 100000 in
set_option maxHeartbeats 8000000 in
theorem example_any (w : World) : Calls Tryd.prog 31 #[] w fun e w' => ∃ A1 c1 A2 c2, e = .returned (exF.val ⟨A1, c1, A2, c2⟩) ∧ FlIn w' exF ⟨A1, c1, A2, c2⟩ ∧ Below w.heap.size w w' := by
  have H0 : Hid (Sp w ((w.alloc (.cells #[.int .i64 0, .int .i64 0, .int .i64 0, .slice none 0 0, .slice none 0 0] 24)).alloc (.cells #[.int .i64 3, .int .i64 2, .int .i64 1, .slice none 0 0, .slice none 0 0] 24)) (exT w (.slice none 0 0) (.slice none 0 0) 0)) := Lib.hid (by
    have h1 := (Sp.nil (Below.refl w.heap.size w)).local 24 #[.int .i64 0, .int .i64 0, .int .i64 0, .slice none 0 0, .slice none 0 0]
    have h2 := ((h1.local 24 #[.int .i64 3, .int .i64 2, .int .i64 1, .slice none 0 0, .slice none 0 0]).nil_row 1).nil_row 1
    rw [show (w.alloc (.cells #[.int .i64 0, .int .i64 0, .int .i64 0, .slice none 0 0, .slice none 0 0] 24)).heap.size = w.heap.size + 1 from by simp] at h2
    exact h2)
  have HFI : Hid (∀ w' A1 c1 A2 c2 X Y, Sp w w' [X, Y, RowT 1 (.slice A1 6 c1) 6 (ivs [1, 0, 1, 1, 1, 1]), RowT 1 (.slice A2 6 c2) 6 (ivs [63, 63, 63, 63, 63, 63])] → ∃ A1' c1' A2' c2', (Ending.returned (.agg #[.int .i64 3, .int .i64 2, .int .i64 1, .slice A1 6 c1, .slice A2 6 c2]) = .returned (exF.val ⟨A1', c1', A2', c2'⟩)) ∧ FlIn w' exF ⟨A1', c1', A2', c2'⟩ ∧ Below w.heap.size w w') := Lib.hid fun w' A1 c1 A2 c2 X Y h => ⟨A1, c1, A2, c2, rfl, ⟨row_of_any (h.grow 2 rfl), row_of_any (h.grow 3 rfl)⟩, h.below⟩
  go_enter Tryd.func31, Tryd.ntmps31
  go_wp2_with fail
  go_loopw [2] (fun iv wr => ∃ i kv ov, iv = .int .i64 (i : Nat) ∧ i ≤ 6 ∧ Sp w wr (exT w kv ov i)) (fun iv _ => 6 - (intOf iv).toNat)
  case atStart => exact ⟨0, _, _, rfl, by omega, H0.out⟩
  case round =>
    clear H0
    obtain ⟨i, kv, ov, rfl, hi, hsp⟩ := hrel
    obtain ⟨Ak, ck, rfl⟩ := (hsp.grow 2 rfl).slice
    obtain ⟨Ao, co, rfl⟩ := (hsp.grow 3 rfl).slice
    by_cases hlt : i < 6
    · have m3 := (hsp.blk 1 rfl).at 3
      have m3f := (hsp.blk 1 rfl).thaw 3
      obtain ⟨L, hL⟩ : ∃ L : List Nat, L = List.replicate (i + 1) 1 := ⟨_, rfl⟩
      obtain ⟨L3, hL3⟩ : ∃ L : List Nat, L = List.replicate (i + 1) 63 := ⟨_, rfl⟩
      obtain ⟨l0, hl0⟩ : ∃ l0 : List Nat, l0 = List.replicate i 1 := ⟨_, rfl⟩
      obtain ⟨l3, hl3⟩ : ∃ l3 : List Nat, l3 = List.replicate i 63 := ⟨_, rfl⟩
      have HE3 : Hid (l3 ++ [63] = L3) := Lib.hid (by rw [hL3, hl3]; exact rep_next _ _)
      have hl3n : l3.length ≤ 100000 := by rw [hl3, List.length_replicate]; omega
      have H3N := Lib.hid hl3n
      have HL := Lib.hid hL
      have HL3 := Lib.hid hL3
      have HE1 : Hid (l0 ++ [1] = L) := Lib.hid (by rw [hL, hl0]; exact rep_next _ _)
      have hl0n : l0.length ≤ 100000 := by rw [hl0, List.length_replicate]; omega
      have HSP : Hid (Sp w wr [BlkT w.heap.size 24 #[.int .i64 0, .int .i64 0, .int .i64 0, .slice none 0 0, .slice none 0 0], BlkT (w.heap.size + 1) 24 #[.int .i64 3, .int .i64 2, .int .i64 1, .slice Ak l0.length ck, .slice Ao l3.length co], RowT 1 (.slice Ak l0.length ck) l0.length (qvs l0), RowT 1 (.slice Ao l3.length co) l3.length (qvs l3)]) := Lib.hid (by rw [hl0, hl3]; exact hsp)
      rw [← hl0] at m3
      have HP1 : Hid (∃ v' w', (Builtin.append_ #[22, 22] 22 #[.slice Ak l0.length ck, .slice (some ⟨wr.heap.size, 0, none⟩) 1 1]).run Tryd.prog (wr.alloc (.cells #[.int .i64 1] 3)) = .ok v' w' ∧ Sp w w' [BlkT w.heap.size 24 #[.int .i64 0, .int .i64 0, .int .i64 0, .slice none 0 0, .slice none 0 0], BlkT (w.heap.size + 1) 24 #[.int .i64 3, .int .i64 2, .int .i64 1, .slice Ak l0.length ck, .slice Ao l3.length co], RowT 1 v' L.length (qvs L), RowT 1 (.slice Ao l3.length co) l3.length (qvs l3)]) := Lib.hid (by
        have := push_int HSP.out 2 rfl 1 hl0n 3
        rw [HE1.out] at this
        exact this)
      clear hsp hL hL3 hl0 hl3 hl3n hl0n HE1
      go_upto_region 6 with ((at_builtin; obtain ⟨v7, w7, r7, h7⟩ := HP1.out; obtain ⟨A7, c7, e7⟩ := (h7.grow 2 rfl).slice; subst e7; refine wpList_append_run rfl _ _ _ _ rfl (by simp [go_sem]) (by simp [go_sem]) r7 ?_; have h7' : Sp w w7 [BlkT w.heap.size 24 #[.int .i64 0, .int .i64 0, .int .i64 0, .slice none 0 0, .slice none 0 0], BlkT (w.heap.size + 1) 24 #[.int .i64 3, .int .i64 2, .int .i64 1, .slice Ak l0.length ck, .slice Ao l3.length co], RowT 1 (.slice A7 L.length c7) L.length (qvs L), RowT 1 (.slice Ao l3.length co) l3.length (qvs l3)] := h7; have n3 := (h7'.blk 1 rfl).at 3; have n3f := (h7'.blk 1 rfl).thaw 3; have H8 : Hid (Sp w (w7.setCell ⟨w.heap.size + 1, 3, none⟩ (.slice A7 L.length c7)) [BlkT w.heap.size 24 #[.int .i64 0, .int .i64 0, .int .i64 0, .slice none 0 0, .slice none 0 0], BlkT (w.heap.size + 1) 24 #[.int .i64 3, .int .i64 2, .int .i64 1, .slice A7 L.length c7, .slice Ao l3.length co], RowT 1 (.slice A7 L.length c7) L.length (qvs L), RowT 1 (.slice Ao l3.length co) l3.length (qvs l3)]) := Lib.hid (Sp.poke h7' 1 rfl 3 _); clear r7 h7 h7'))
      generalize w7.setCell ⟨w.heap.size + 1, 3, none⟩ (.slice A7 L.length c7) = w8 at *
      clear n3 n3f m3 m3f HP1 HSP
      have m4 := (H8.out.blk 1 rfl).at 4
      have HP2 : Hid (∃ v' w', (Builtin.append_ #[22, 22] 22 #[.slice Ao l3.length co, .slice (some ⟨w8.heap.size, 0, none⟩) 1 1]).run Tryd.prog (w8.alloc (.cells #[.int .i64 63] 3)) = .ok v' w' ∧ Sp w w' [BlkT w.heap.size 24 #[.int .i64 0, .int .i64 0, .int .i64 0, .slice none 0 0, .slice none 0 0], BlkT (w.heap.size + 1) 24 #[.int .i64 3, .int .i64 2, .int .i64 1, .slice A7 L.length c7, .slice Ao l3.length co], RowT 1 (.slice A7 L.length c7) L.length (qvs L), RowT 1 v' L3.length (qvs L3)]) := Lib.hid (by
        have := push_int H8.out 3 rfl 63 H3N.out 3
        rw [HE3.out] at this
        exact this)
      go_wp2_with ((at_builtin; obtain ⟨v9, w9, r9, h9⟩ := HP2.out; obtain ⟨A9, c9, e9⟩ := (h9.grow 3 rfl).slice; subst e9; refine wpList_append_run rfl _ _ _ _ rfl (by simp [go_sem]) (by simp [go_sem]) r9 ?_; have h9' : Sp w w9 [BlkT w.heap.size 24 #[.int .i64 0, .int .i64 0, .int .i64 0, .slice none 0 0, .slice none 0 0], BlkT (w.heap.size + 1) 24 #[.int .i64 3, .int .i64 2, .int .i64 1, .slice A7 L.length c7, .slice Ao l3.length co], RowT 1 (.slice A7 L.length c7) L.length (qvs L), RowT 1 (.slice A9 L3.length c9) L3.length (qvs L3)] := h9; have n3 := (h9'.blk 1 rfl).at 4; have n3f := (h9'.blk 1 rfl).thaw 4; have H10 : Hid (Sp w (w9.setCell ⟨w.heap.size + 1, 4, none⟩ (.slice A9 L3.length c9)) [BlkT w.heap.size 24 #[.int .i64 0, .int .i64 0, .int .i64 0, .slice none 0 0, .slice none 0 0], BlkT (w.heap.size + 1) 24 #[.int .i64 3, .int .i64 2, .int .i64 1, .slice A7 L.length c7, .slice A9 L3.length c9], RowT 1 (.slice A7 L.length c7) L.length (qvs L), RowT 1 (.slice A9 L3.length c9) L3.length (qvs L3)]) := Lib.hid (Sp.poke h9' 1 rfl 4 _); clear r9 h9 h9'))
      go_roundw
      case rel =>
        refine ⟨i + 1, .slice A7 L.length c7, .slice A9 L3.length c9, by simp, hlt, ?_⟩
        have e : exT w (.slice A7 L.length c7) (.slice A9 L3.length c9) (i + 1) = [BlkT w.heap.size 24 #[.int .i64 0, .int .i64 0, .int .i64 0, .slice none 0 0, .slice none 0 0], BlkT (w.heap.size + 1) 24 #[.int .i64 3, .int .i64 2, .int .i64 1, .slice A7 L.length c7, .slice A9 L3.length c9], RowT 1 (.slice A7 L.length c7) L.length (qvs L), RowT 1 (.slice A9 L3.length c9) L3.length (qvs L3)] := by
          unfold exT
          rw [← HL.out, ← HL3.out]
        rw [e]
        exact H10.out
      case measure => simp [intOf]; omega
    · obtain rfl : i = 6 := by omega
      have hsp6 : Sp w wr [BlkT w.heap.size 24 #[.int .i64 0, .int .i64 0, .int .i64 0, .slice none 0 0, .slice none 0 0], BlkT (w.heap.size + 1) 24 #[.int .i64 3, .int .i64 2, .int .i64 1, .slice Ak 6 ck, .slice Ao 6 co], RowT 1 (.slice Ak 6 ck) 6 (ivs [1, 1, 1, 1, 1, 1]), RowT 1 (.slice Ao 6 co) 6 (ivs [63, 63, 63, 63, 63, 63])] := hsp
      obtain ⟨gk, capk, ek, x0⟩ := Grow.read (hsp6.grow 2 rfl) (k := 1) (u := .int .i64 1) rfl
      injection ek with ek1 _ ek3
      subst ek1 ek3
      have x1 := (Grow.cell (hsp6.grow 2 rfl) (k := 1) (u := .int .i64 1) rfl).2
      have m3 := (hsp6.blk 1 rfl).at 3
      have h7 : Sp w (wr.setCell ⟨gk, 1, none⟩ (.int .i64 0)) [BlkT w.heap.size 24 #[.int .i64 0, .int .i64 0, .int .i64 0, .slice none 0 0, .slice none 0 0], BlkT (w.heap.size + 1) 24 #[.int .i64 3, .int .i64 2, .int .i64 1, .slice (some ⟨gk, 0, none⟩) 6 ck, .slice Ao 6 co], RowT 1 (.slice (some ⟨gk, 0, none⟩) 6 ck) 6 (ivs [1, 0, 1, 1, 1, 1]), RowT 1 (.slice Ao 6 co) 6 (ivs [63, 63, 63, 63, 63, 63])] := hsp6.store 2 rfl 1 (by omega) (.int .i64 0)
      obtain ⟨k0, k1, k2, k3, k4⟩ := boxS (h7.blk 1 rfl)
      have HTH := Lib.hid (five_there h7 0 rfl)
      have h8 := poke5 (a := .int .i64 3) (b := .int .i64 2) (c := .int .i64 1) (d := .slice (some ⟨gk, 0, none⟩) 6 ck) (e := .slice Ao 6 co) h7 0 rfl
      have HFIN := Lib.hid (HFI.out _ _ _ _ _ _ _ h8)
      obtain ⟨t0, t1, t2, t3, t4⟩ := boxS (h8.blk 0 rfl)
      clear h7 h8 hsp6 hsp
      go_upto_region 8 with (fail)
      generalize (wr.setCell ⟨gk, 1, none⟩ (.int .i64 0)) = w5 at *
      generalize ((6 : Nat) : Int) = z6 at *
      clear x0 x1 m3
      go_wp2_with (refine wpList_store5 rfl 24 _ _ rfl w.heap.size (.int .i64 3) (.int .i64 2) (.int .i64 1) (.slice (some ⟨gk, 0, none⟩) 6 ck) (.slice Ao 6 co) rfl rfl HTH.out info_floor rfl rfl rfl rfl rfl ?_)
      exact bodyPost_ret (v := .agg #[.int .i64 3, .int .i64 2, .int .i64 1, .slice (some ⟨gk, 0, none⟩) 6 ck, .slice Ao 6 co]) (by simp [results, Tryd.results31, go_sem, t0, t1, t2, t3, t4]) rfl HFIN.out
end Flo
end Go.Proofs.YtncbhhnojdhpeaaDoor

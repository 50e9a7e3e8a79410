/- slices.Repeat of one number. -/
import Derived.Test.YtgophgnfiboefaaGreatDoorFpG
import Derived.IntWalk
import Derived.Deep.DeepMust
namespace Go.Proofs.YtgophgnfiboefaaGreatDoor
open Go.RowKit Wire
open Txt (Row)
open Own
open Dsk (Only)
set_option linter.unusedVariables false
set_option linter.unusedSimpArgs false
namespace Flo
theorem u64_small (n : Nat) (h : n ≤ 4096) : IntKind.u64.wrap (n : Int) = n := by
  unfold IntKind.wrap
  have e : (n : Int) % (2 ^ IntKind.u64.bits : Int) = n := Int.emod_eq_of_lt (by omega) (by
    have : (2 ^ IntKind.u64.bits : Int) = 18446744073709551616 := by decide
    omega)
  simp only [e]
  rfl
theorem i64_small (n : Nat) (h : n ≤ 4096) : IntKind.i64.wrap (n : Int) = n := IntWalk.i64_in _ (by omega)
theorem low32 (n : Nat) (h : n ≤ 4096) : bits .and .u64 (n : Int) 4294967295 = n := by
  have e : (n : Int) % (2 ^ 64 : Int) = n := Int.emod_eq_of_lt (by omega) (by omega)
  unfold bits
  have a1 : (BitVec.ofInt IntKind.u64.bits (n : Int)).toNat = n := by
    have : (BitVec.ofInt IntKind.u64.bits (n : Int)).toNat = ((n : Int) % 18446744073709551616).toNat := BitVec.toNat_ofInt ..
    omega
  have a2 : (BitVec.ofInt IntKind.u64.bits 4294967295).toNat = 2 ^ 32 - 1 := by decide
  have a3 : (BitVec.ofInt IntKind.u64.bits (n : Int) &&& BitVec.ofInt IntKind.u64.bits 4294967295).toNat = n := by
    rw [BitVec.toNat_and, a1, a2, Nat.and_two_pow_sub_one_eq_mod]
    omega
  show IntKind.u64.wrap (((BitVec.ofInt IntKind.u64.bits (n : Int) &&& BitVec.ofInt IntKind.u64.bits 4294967295).toNat : Nat) : Int) = _
  rw [a3]
  exact u64_small n h
theorem div32 (n : Nat) (h : n ≤ 4096) : (n : Int) / 4294967296 = 0 := by omega
set_option maxRecDepth 8000 in
set_option maxHeartbeats 1000000 in
theorem mul64_any (n : Nat) (h : n ≤ 4096) (w : World) : Calls Tryz.prog 114 #[.int .u64 1, .int .u64 n] w fun e w' => e = .returned (.tuple #[.int .u64 0, .int .u64 n]) ∧ w = w' := by
  have q1 : bits .and .u64 (1 : Int) 4294967295 = 1 := low32 1 (by omega)
  have q0 : bits .and .u64 (0 : Int) 4294967295 = 0 := low32 0 (by omega)
  have q2 := low32 n h
  have q3 := div32 n h
  have q4 := u64_small n h
  go_enter Tryz.func114, Tryz.ntmps114
  go_wp2_with fail
  go_returns
  simp [q1, q0, q2, q3, q4]
set_option maxRecDepth 8000 in
set_option maxHeartbeats 1000000 in
theorem mul_any (n : Nat) (h : n ≤ 4096) (w : World) : Calls Tryz.prog 112 #[.int .u64 1, .int .u64 n] w fun e w' => e = .returned (.tuple #[.int .u64 0, .int .u64 n]) ∧ w = w' := by
  have HM := Lib.hid (mul64_any n h)
  clear h
  go_enter Tryz.func112, Tryz.ntmps112
  go_wp2_with (go_at_call 114; refine (HM.out _).mono ?_; rintro e w1 ⟨rfl, rfl⟩)
  go_returns
  exact ⟨rfl, rfl⟩
theorem slice_upto (w : World) (g : Nat) {k n : Nat} (hk : k ≤ n) : (Instr.sliceAt 22 (.slice (some ⟨g, 0, none⟩) n n) none (some (.int .i64 k)) none).run Tryz.prog w = .ok (.slice (some ⟨g, 0, none⟩) k n) w := by
  have h1 : (k : Int) ≤ n := by omega
  have hs : (sizeOf 3).run Tryz.prog w = .ok 1 w := by kernel_rfl
  have e : (⟨g, 0, none⟩ : Addr).add 0 = ⟨g, 0, none⟩ := by rw [row_add']
  simp [Instr.sliceAt, Instr.slice, Instr.sliceBounds, Instr.sliceBound, asIntOf, run_underlying Tryz.underlying22, h1, hk, hs, e, Result.andThen]
theorem slice_behind (w : World) (g : Nat) {k n : Nat} (hk : k < n) : (Instr.sliceAt 22 (.slice (some ⟨g, 0, none⟩) n n) (some (.int .i64 k)) none none).run Tryz.prog w = .ok (.slice (some ⟨g, k, none⟩) (n - k) (n - k)) w := by
  have h1 : (k : Int) ≤ n := by omega
  have h2 : ¬ n = k := by omega
  have h3 : k ≤ n := by omega
  have hs : (sizeOf 3).run Tryz.prog w = .ok 1 w := by kernel_rfl
  have e : (⟨g, 0, none⟩ : Addr).add k = ⟨g, k, none⟩ := by rw [row_add', Nat.zero_add]
  simp [Instr.sliceAt, Instr.slice, Instr.sliceBounds, Instr.sliceBound, asIntOf, run_underlying Tryz.underlying22, h1, h2, h3, hs, e, Result.andThen]
theorem size_int : (Tryz.prog.info? 3).map (·.size) = some 1 := by kernel_rfl
/-- The first k are there. -/
structure RepR (W : World) (n : Nat) (kv : Value) (w : World) (k : Nat) : Prop where
  kv : kv = .int .i64 k
  le : k ≤ n
  pos : 0 < n → 0 < k
  below : Below W.heap.size W w
  new : W.heap.size < w.heap.size
  there : w.there W.heap.size 0 n
  vals : ∀ j, j < k → w.cell? ⟨W.heap.size, j, none⟩ = some (.int .i64 (-1))
theorem there_row {w : World} {g n : Nat} {xs : List Value} (h : Grow w g 1 (slV g n) n xs) : w.there g 0 n := by
  rcases h.form with ⟨e, _⟩ | ⟨g', cap', e, h1, h2, h3, h4, h5, h6, h7⟩
  · cases e
  · injection e with e1 _ e3
    injection e1 with e1
    injection e1 with e1 _ _
    subst e1 e3
    intro j hj
    rw [Nat.zero_add]
    exact ⟨h5 j (by omega), h6 j (by omega)⟩
theorem row_there {w : World} {B g n : Nat} {xs : List Value} (hB : B ≤ g) (hg : g < w.heap.size) (hn : n ≤ 4096) (hx : xs.length = n) (ht : w.there g 0 n) (hv : ∀ k u, xs[k]? = some u → w.cell? ⟨g, k, none⟩ = some u) : Grow w B 1 (slV g n) n xs := by
  refine ⟨by omega, .inr ⟨g, n, rfl, hB, hg, Nat.le_refl _, by unfold maxLen; omega, fun j hj => ?_, fun j hj => ?_, hv⟩⟩
  · have := (ht j (by omega)).1
    rwa [Nat.zero_add] at this
  · have := (ht j (by omega)).2
    rwa [Nat.zero_add] at this
theorem grown_keep {W w w' : World} {g : Nat} (h : Below W.heap.size W w) (hg : W.heap.size ≤ g) (hgr : w.grownBy w' (some g)) : Below W.heap.size W w' := h.trans (Dsk.Only.of_grown' hgr (F := fun b => b = g) (fun m hm => by injection hm with hm; omega) |>.below h.size (fun b hb => by subst hb; exact hg))
/-- So many of the first cells, over those from k on. -/
theorem RepR.next {W w : World} {n k c : Nat} {kv : Value} (h : RepR W n kv w k) (hk : k < n) (hc0 : 0 < c) (hc1 : k + c ≤ n) : RepR W n (.int .i64 ((k + c : Nat) : Int)) (w.drew.setCells W.heap.size k (List.replicate c (.int .i64 (-1)))) (k + c) := by
  have hth : w.drew.there W.heap.size 0 n := h.there
  have hgr := Dsk.grown_cells W.heap.size (List.replicate c (Value.int .i64 (-1))) k w.drew
  refine ⟨rfl, hc1, fun _ => by omega, grown_keep (w := w.drew) (h.below.trans ((Below.refl _ w).drew.mono h.below.size)) (Nat.le_refl _) hgr, by have := hgr.size; have := h.new; show _ < _; exact Nat.lt_of_lt_of_le h.new hgr.size, Dsk.there_set hth, fun j hj => ?_⟩
  by_cases e : j < k
  · rw [World.cell?_setCells_out _ _ _ _ ⟨W.heap.size, j, none⟩ (fun _ _ => by show j < _ ∨ _ ≤ j; omega)]
    exact h.vals j e
  · have := World.cell?_setCells_in W.heap.size (List.replicate c (Value.int .i64 (-1))) k w.drew (fun i hi => by
      rw [List.length_replicate] at hi
      have := (hth (k + i) (by omega)).1
      rwa [Nat.zero_add] at this) (j - k) (by rw [List.length_replicate]; omega)
    rw [show k + (j - k) = j from by omega] at this
    rw [this, List.getElem_replicate]
theorem wpList_cpyrun {P : Program} {ops : Array Oper} {rest : List Oper} {o : Oper} {a : Act} {w w' : World} {Q : Exit → Act → World → Prop} (hgd : o.guard = none) (s x : Operand) (t tx : TypeId) {v y v' : Value}
    (ho : o.op = .call { callee := .builtin .copy, args := #[s, x], argTypes := #[t, tx] }) (hs : a.eval s = v) (hx : a.eval x = y) (hr : (Builtin.copy_ #[t, tx] o.type #[v, y]).run P w = .ok v' w') (h : wpList P ops Q rest (a.put o.dst v') w') : wpList P ops Q (o :: rest) a w :=
  wpList_plain hgd fun K hK => by
    unfold Oper.wp execOp
    simp only [ho, resolve, invoke, builtin, Sem.run_bind, Sem.run_pure, Result.andThen_ok, List.map_toArray, List.map_cons, List.map_nil, hs, hx, hr]
    exact hK _ _ h
theorem wp_cpyrun {P : Program} {o : Oper} {a : Act} {w w' : World} {K : Act → World → Prop} {Q : Exit → Act → World → Prop} (s x : Operand) (t tx : TypeId) {v y v' : Value}
    (ho : o.op = .call { callee := .builtin .copy, args := #[s, x], argTypes := #[t, tx] }) (hs : a.eval s = v) (hx : a.eval x = y) (hr : (Builtin.copy_ #[t, tx] o.type #[v, y]).run P w = .ok v' w') (h : K (a.put o.dst v') w') : Oper.wp P o a w K Q := by
  unfold Oper.wp execOp
  simp only [ho, resolve, invoke, builtin, Sem.run_bind, Sem.run_pure, Result.andThen_ok, List.map_toArray, List.map_cons, List.map_nil, hs, hx, hr]
  exact h
set_option maxRecDepth 8000 in
set_option maxHeartbeats 4000000 in
theorem repeatInt_any (n : Nat) (hn : n ≤ 4096) (gx : Nat) (w : World) (hx : w.cell? ⟨gx, 0, none⟩ = some (.int .i64 (-1))) :
    Calls Tryz.prog 109 #[.slice (some ⟨gx, 0, none⟩) 1 1, .int .i64 n] w fun e w' => e = .returned (slV w.heap.size n) ∧ Grow w' w.heap.size 1 (slV w.heap.size n) n (ivs (List.replicate n (-1))) ∧ Below w.heap.size w w' := by
  have HM := Lib.hid (mul_any n hn)
  have q1 := u64_small n hn
  have q2 := i64_small n hn
  have q3 : ¬ (n : Int) > 9223372036854775807 := by omega
  have q4 : ¬ (n : Int) < 0 := by omega
  have hgx : gx < w.heap.size := World.block_lt_of_cell? w _ hx
  have HN := Lib.hid hn
  obtain ⟨ii, hii, hii0, hii1, hii2⟩ := info_parts Dsk.info_int
  go_enter Tryz.func109, Tryz.ntmps109
  go_upto_region 7 with (first
    | (go_at_call 112; refine (HM.out _).mono ?_; rintro e w1 ⟨rfl, rfl⟩)
    | (refine wpList_make_row rfl _ _ 22 3 ii _ 8 rfl Tryz.underlying22 hii hii0 hii1 hii2 (by omega) rfl n (by have := HN.out; omega) rfl rfl ?_; intro w2 g2 b2; have G2 := Lib.hid g2; have B2 := Lib.hid b2; clear g2 b2))
  have hth := there_row G2.out
  have hz2 : w.heap.size < w2.heap.size := (G2.out.block _ rfl).2
  have hx2 := (B2.out.cell (p := ⟨gx, 0, none⟩) hgx).trans hx
  have HTH := Lib.hid hth
  have HX2 := Lib.hid hx2
  have hc0 : (1 : Nat).min n = min 1 n := rfl
  have HC0 := Lib.hid hc0
  have H1 : Hid (RepR w n (.int .i64 ((min 1 n : Nat) : Int)) (w2.setCells w.heap.size 0 (List.replicate (min 1 n) (.int .i64 (-1)))) (min 1 n)) := Lib.hid (by
    have hgr := Dsk.grown_cells w.heap.size (List.replicate (min 1 n) (Value.int .i64 (-1))) 0 w2
    refine ⟨rfl, by omega, fun _ => by omega, grown_keep (w := w2) B2.out (Nat.le_refl _) hgr, Nat.lt_of_lt_of_le hz2 hgr.size, Dsk.there_set hth, fun j hj => ?_⟩
    have := World.cell?_setCells_in w.heap.size (List.replicate (min 1 n) (Value.int .i64 (-1))) 0 w2 (fun i hi => by
      rw [List.length_replicate] at hi
      have := (hth i (by omega)).1
      rw [Nat.zero_add] at this ⊢
      exact this) j (by rw [List.length_replicate]; exact hj)
    rw [Nat.zero_add] at this
    rw [this, List.getElem_replicate])
  have hcp : (Builtin.copy_ #[22, 22] 3 #[.slice (some ⟨w.heap.size, 0, none⟩) n n, .slice (some ⟨gx, 0, none⟩) 1 1]).run Tryz.prog w2 = .ok (goInt ((min 1 n : Nat) : Int)) (w2.setCells w.heap.size 0 (List.replicate (min 1 n) (.int .i64 (-1)))) :=
    Dsk.run_copy_cells Tryz.underlying22 size_int (m := 1) (k := min 1 n) (Dsk.From.slice _ _ List.length_replicate (fun j u hu => by
      have hj := (List.getElem?_eq_some_iff.1 hu).1
      rw [List.length_replicate] at hj
      rw [List.getElem?_replicate, if_pos hj] at hu
      obtain rfl := Option.some.inj hu
      obtain rfl : j = 0 := by omega
      exact hx2) (fun u hu => by
      rw [List.eq_of_mem_replicate hu]
      rfl)) hc0 (fun j hj => hth j (by omega))
  have HCP := Lib.hid hcp
  have hm1 : (0 : Int) ≤ ((min 1 n : Nat) : Int) ∧ ((min 1 n : Nat) : Int) ≤ 1 := by omega
  clear hth hx2 hc0 hz2 hx hcp
  generalize hk1 : min 1 n = k1 at *
  clear hk1
  have hg1 : goInt (k1 : Int) = .int .i64 k1 := rfl
  rw [hg1] at HCP
  clear hg1
  go_wp2_with (refine wpList_cpyrun rfl _ _ _ _ rfl (by simp [go_sem]) (by simp [go_sem]) HCP.out ?_)
  clear HCP
  go_loopw [8] (fun kv wr => ∃ k, RepR w n kv wr k) (fun kv _ => n - (intOf kv).toNat)
  case atStart => exact ⟨_, H1.out⟩
  case round =>
    obtain ⟨k, hk⟩ := hrel
    obtain rfl := hk.kv
    have HK := Lib.hid hk
    have hle := hk.le
    clear hk H1 G2 B2
    by_cases hlt : k < n
    · have hpos := HK.out.pos (by omega)
      obtain ⟨c, hc⟩ : ∃ c, c = min k (n - k) := ⟨_, rfl⟩
      have hcb : 0 < c ∧ k + c ≤ n := by omega
      have hs1 : ∀ w' : World, (Instr.sliceAt 22 (slV w.heap.size n) (some (.int .i64 k)) none none).run Tryz.prog w' = .ok (.slice (some ⟨w.heap.size, k, none⟩) (n - k) (n - k)) w' := fun w' => slice_behind w' _ hlt
      have hs2 : ∀ w' : World, (Instr.sliceAt 22 (slV w.heap.size n) none (some (.int .i64 k)) none).run Tryz.prog w' = .ok (.slice (some ⟨w.heap.size, 0, none⟩) k n) w' := fun w' => slice_upto w' _ (by omega)
      have hcp : (Builtin.copy_ #[22, 22] 3 #[.slice (some ⟨w.heap.size, k, none⟩) (n - k) (n - k), .slice (some ⟨w.heap.size, 0, none⟩) k n]).run Tryz.prog wr.drew = .ok (goInt (c : Int)) (wr.drew.setCells w.heap.size k (List.replicate c (.int .i64 (-1)))) :=
        Dsk.run_copy_cells Tryz.underlying22 size_int (m := k) (k := c) (Dsk.From.slice _ _ List.length_replicate (fun j u hu => by
          have hj := (List.getElem?_eq_some_iff.1 hu).1
          rw [List.length_replicate] at hj
          rw [List.getElem?_replicate, if_pos hj] at hu
          obtain rfl := Option.some.inj hu
          rw [row_add', Nat.zero_add]
          exact HK.out.vals j (by omega)) (fun u hu => by
          rw [List.eq_of_mem_replicate hu]
          rfl)) hc.symm (fun j hj => by
          have := HK.out.there (k + j) (by omega)
          rwa [Nat.zero_add] at this)
      have HCP := Lib.hid hcp
      have HN2 := Lib.hid (HK.out.next hlt hcb.1 hcb.2)
      have hw2 : IntKind.i64.wrap ((k : Int) + (c : Int)) = ((k + c : Nat) : Int) := by rw [IntWalk.i64_in _ (by have := HN.out; omega)]; omega
      clear hcp hc
      go_wp2_with fail
      refine Dsk.wp_region_sorted (fun _ => True) [0, 1, 2, 3, 4, 5, 6] [7, 8, 9] (by kernel_rfl) (by kernel_rfl) trivial ?_
      repeat refine Dsk.RD.next rfl rfl (by intro w' hS; go_simp; with_reducible rfl) ?_
      refine Dsk.RD.done ?_
      refine Dsk.CH.next rfl rfl fun K hK => ?_
      refine wp_cpyrun _ _ _ _ rfl (by simp [go_sem]) (by simp [go_sem]) HCP.out ?_
      refine hK _ _ trivial ?_
      clear hK HCP
      generalize wr.drew.setCells w.heap.size k (List.replicate c (Value.int .i64 (-1))) = w4 at *
      rw [show goInt (c : Int) = .int .i64 c from rfl]
      iterate 2
        refine Dsk.CH.next rfl rfl fun K hK => ?_
        go_simp
        refine hK _ _ trivial ?_
        clear hK
      refine Dsk.CH.done (NoPanic.normal ?_)
      clear hs1 hs2 hw2
      go_wp2_with fail
      go_roundw
      case rel => exact ⟨k + c, HN2.out⟩
      case measure => simp [intOf]; omega
    · obtain rfl : k = n := by omega
      have HG : Hid (Grow wr w.heap.size 1 (slV w.heap.size k) k (ivs (List.replicate k (-1)))) := Lib.hid (row_there (Nat.le_refl _) HK.out.new HN.out (by simp) HK.out.there (fun j u hu => by
        have hj := (List.getElem?_eq_some_iff.1 hu).1
        simp at hj
        rw [show ivs (List.replicate k (-1)) = List.replicate k (Value.int .i64 (-1)) from List.map_replicate .., List.getElem?_replicate, if_pos hj] at hu
        rw [← Option.some.inj hu]
        exact HK.out.vals j hj))
      go_wp2_with fail
      go_ret
      exact ⟨rfl, HG.out, HK.out.below⟩
end Flo
end Go.Proofs.YtgophgnfiboefaaGreatDoor

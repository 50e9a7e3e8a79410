/- The program's left: all visits by steps. -/
import Derived.Test.YtgophgnfiboefaaGreatDoorRpE
import Derived.Test.YtgophgnfiboefaaGreatDoorRgB
namespace Go.Proofs.YtgophgnfiboefaaGreatDoor
open Go.RowKit Wire
open Txt (Row)
open Go.Proofs.YtgophgnfiboefaaGreatDoor.Own Flo
open Dsk (Only nth)
set_option linter.unusedVariables false
set_option linter.unusedSimpArgs false
namespace Rgn
/-- Which cells a way within r may have. -/
def usL (f : Fl) (r : List Nat) : List Bool := (List.range f.Kind.length).map (usB f r)
theorem usL_len (f : Fl) (r : List Nat) : (usL f r).length = f.Kind.length := by simp [usL]
theorem usL_at (f : Fl) (r : List Nat) {c : Nat} (h : c < f.Kind.length) : (usL f r).getD c false = usB f r c := by
  unfold usL
  rw [List.getD_eq_getElem?_getD, List.getElem?_map, List.getElem?_range h]
  rfl
theorem usL_of {f : Fl} {r : List Nat} {bs : List Bool} (hl : bs.length = f.Kind.length) (hv : ∀ c : Nat, c < f.Kind.length → bs.getD c false = usB f r c) : bs = usL f r := by
  refine List.ext_getElem? fun i => ?_
  by_cases h : i < f.Kind.length
  · have h1 := hv i h
    rw [← usL_at f r h] at h1
    rw [List.getD_eq_getElem?_getD, List.getD_eq_getElem?_getD, List.getElem?_eq_getElem (by omega), List.getElem?_eq_getElem (by rw [usL_len]; exact h)] at h1
    rw [List.getElem?_eq_getElem (by omega), List.getElem?_eq_getElem (by rw [usL_len]; exact h)]
    exact congrArg some h1
  · rw [List.getElem?_eq_none (by omega), List.getElem?_eq_none (by rw [usL_len]; omega)]
theorem usable_l {f : Fl} (ho : f.ok) (p : Pl) (B : Option Addr) (cb : Nat) (r : List Nat) (w : World) (hin : FlIn w f p) (hra : Row w w.heap.size B (qvs r)) (hla : r.length ≤ 1000000) :
    Calls Tryz.prog 42 #[f.val p, .slice B r.length cb] w fun e w' => ∃ g, e = .returned (slV g f.Kind.length) ∧ Sp w w' [RowT 1 (slV g f.Kind.length) f.Kind.length (bvs (usL f r))] := by
  refine (usable_any ho p B cb r w hin hra hla).mono ?_
  rintro e w' ⟨g, bs, rfl, h1, h2, h3⟩
  rw [usL_of h1 h2] at h3
  exact ⟨g, rfl, h3⟩
abbrev vis0 : Array Value := #[.int .i64 0, .int .i64 0, .int .i64 0, .slice none 0 0, .slice none 0 0, .slice none 0 0, .nilFunc]
theorem poke7 {W w : World} {T : List Thing} {g : Nat} {ty : TypeId} {a b c d e f k a' b' c' d' e' f' k' : Value} (h : Sp W w T) (i : Nat) (hi : T[i]? = some (BlkT g ty #[a', b', c', d', e', f', k'])) : Sp W (w.setCells g 0 [a, b, c, d, e, f, k]) (T.set i (BlkT g ty #[a, b, c, d, e, f, k])) := by
  have hlt := (List.getElem?_eq_some_iff.1 hi).1
  have h1 := Sp.poke h i hi 0 a
  rw [show (#[a', b', c', d', e', f', k'] : Array Value).setIfInBounds 0 a = #[a, b', c', d', e', f', k'] from rfl] at h1
  have h2 := Sp.poke h1 i (by rw [List.getElem?_set_self hlt]) 1 b
  rw [List.set_set] at h2
  rw [show (#[a, b', c', d', e', f', k'] : Array Value).setIfInBounds 1 b = #[a, b, c', d', e', f', k'] from rfl] at h2
  have h3 := Sp.poke h2 i (by rw [List.getElem?_set_self hlt]) 2 c
  rw [List.set_set] at h3
  rw [show (#[a, b, c', d', e', f', k'] : Array Value).setIfInBounds 2 c = #[a, b, c, d', e', f', k'] from rfl] at h3
  have h4 := Sp.poke h3 i (by rw [List.getElem?_set_self hlt]) 3 d
  rw [List.set_set] at h4
  rw [show (#[a, b, c, d', e', f', k'] : Array Value).setIfInBounds 3 d = #[a, b, c, d, e', f', k'] from rfl] at h4
  have h5 := Sp.poke h4 i (by rw [List.getElem?_set_self hlt]) 4 e
  rw [List.set_set] at h5
  rw [show (#[a, b, c, d, e', f', k'] : Array Value).setIfInBounds 4 e = #[a, b, c, d, e, f', k'] from rfl] at h5
  have h6 := Sp.poke h5 i (by rw [List.getElem?_set_self hlt]) 5 f
  rw [List.set_set] at h6
  rw [show (#[a, b, c, d, e, f', k'] : Array Value).setIfInBounds 5 f = #[a, b, c, d, e, f, k'] from rfl] at h6
  have h7 := Sp.poke h6 i (by rw [List.getElem?_set_self hlt]) 6 k
  rw [List.set_set] at h7
  rw [show (#[a, b, c, d, e, f, k'] : Array Value).setIfInBounds 6 k = #[a, b, c, d, e, f, k] from rfl] at h7
  exact h7
theorem seven_there {W w : World} {T : List Thing} {g : Nat} {ty : TypeId} {a' b' c' d' e' f' k' : Value} (h : Sp W w T) (i : Nat) (hi : T[i]? = some (BlkT g ty #[a', b', c', d', e', f', k'])) : w.there g 0 7 := by
  have hb := h.blk i hi
  intro j hj
  rw [Nat.zero_add]
  refine ⟨?_, hb.thaw j⟩
  rw [hb.at]
  obtain rfl | rfl | rfl | rfl | rfl | rfl | rfl : j = 0 ∨ j = 1 ∨ j = 2 ∨ j = 3 ∨ j = 4 ∨ j = 5 ∨ j = 6 := by omega
  all_goals rfl
theorem info_visit : (Tryz.prog.info? 55).map (·.size) = some 7 := by kernel_rfl
def LeftPost (f : Fl) (r : List Nat) (w : World) (e : Ending) (w' : World) : Prop :=
  ∃ L : List Nat, L.Nodup ∧ (∀ x, x ∈ L ↔ opn (usL f r) x) ∧ Bk (stE f.next) (opn (usL f r)) L ∧ L.length ≤ 4096 ∧ NewL w L e w'
structure LfI (f : Fl) (U : List Bool) (w : World) (g n : Nat) (X : List Thing) (lv iv : Value) (wr : World) (k : Nat) (O1 : List Bool) (L : List Nat) : Prop where
  iv : iv = .int .i64 k
  le : k ≤ n
  sp : Sp w wr (RowT 1 (slV g n) n (bvs O1) :: RowT 1 lv L.length (qvs L) :: X)
  lft : Lft (stE f.next) (opn U) U O1 L k
  fits : Fits O1 L.length 4096
set_option maxRecDepth 100000 in
set_option maxHeartbeats 8000000 in
theorem left_any {f : Fl} (ho : f.ok) (p : Pl) (B : Option Addr) (cb : Nat) (r : List Nat) (w : World) (hv : VS w) (hin : FlIn w f p) (hra : Row w w.heap.size B (qvs r)) (hla : r.length ≤ 1000000) :
    Calls Tryz.prog 45 #[f.val p, .slice B r.length cb] w (LeftPost f r w) := by
  have hn4 : f.Kind.length ≤ 4096 := by have := ho.kinds; have := ho.size; omega
  have HUS := Lib.hid (fun w' (b : Below w.heap.size w w') => usable_l ho p B cb r w' (hin.lift b) (hra.lift b) hla)
  have HLF : Hid (∀ (L : List Bool × List Nat) v w', Lft (stE f.next) (opn (usL f r)) (usL f r) L.1 L.2 f.Kind.length → Fits L.1 L.2.length 4096 → Sp w w' [RowT 1 v L.2.length (qvs L.2)] → LeftPost f r w (.returned v) w') := Lib.hid fun L v w' h hf hs => by
    refine ⟨L.2, h.nodup, fun x => ?_, h.back, hf.nil, v, rfl, hs⟩
    rw [h.mem]
    exact ⟨fun q => q.1, fun q => ⟨q, h.done x (by have := opn_lt q; rw [usL_len] at this; exact this)⟩⟩
  have HFR : Hid (∀ g (O1 : List Bool) (L : List Nat) (lv : Value) (k : Nat) (w1 : World) (R : List Thing), Fits O1 L.length 4096 → O1.length = f.Kind.length → (∀ x, opn O1 x → opn (usL f r) x) → opn O1 k → Sp w w1 (RowT 1 (slV g f.Kind.length) f.Kind.length (bvs O1) :: RowT 1 lv L.length (qvs L) :: R) →
      Calls Tryz.prog 46 #[visV f p g 65, .int .i64 k, lv] w1 (FromPost f.next (opn (usL f r)) w g f.Kind.length O1 L k R)) := Lib.hid fun g O1 L lv k w1 R h1 h2 h3 h4 h5 =>
    from_next ho p w f.next (opn (usL f r)) (fun w' b c d => next_any ho p c d w' (hv.lift b) (hin.lift b)) (fun x d y h => by
      have := next_lt ho (c := x) (d := d) (n := y.toNat) (by
        have hy := (Fl.next_is h).2.2.2.1
        rw [show ((y.toNat : Nat) : Int) = y from by omega]
        exact h)
      exact ⟨y.toNat, by have hy := (Fl.next_is h).2.2.2.1; omega, this.1⟩) g O1.length O1 L lv k w1 R (Fits.start O1) (fun q hq hs => by have := h1 q hq hs; omega) h2 h3 h4 h5
  have HF0 : Hid (Fits (usL f r) 0 4096) := Lib.hid fun q hq hs => by have := Fits.start (usL f r) q hq hs; rw [usL_len] at this; omega
  have HUL := Lib.hid (usL_len f r)
  have HLS := Lib.hid (Lft.start (E := stE f.next) (P := opn (usL f r)) (usL f r))
  generalize hQQ : LeftPost f r w = QQ at *
  clear hQQ
  unfold FromPost at HFR
  generalize hU : usL f r = U at *
  clear hU ho hv hin hra hla
  obtain ⟨A1, c1, A2, c2⟩ := p
  obtain ⟨n, hn⟩ : ∃ n : Nat, n = f.Kind.length := ⟨_, rfl⟩
  have HVV : Hid (∀ g s, visV f ⟨A1, c1, A2, c2⟩ g s = .agg #[.int .i64 f.W, .int .i64 f.H, .int .i64 f.D, .slice A1 n c1, .slice A2 f.Out.length c2, slV g n, .func (.func s) #[] #[]]) := Lib.hid fun g s => by rw [hn]
  have HVL : Hid (f.val ⟨A1, c1, A2, c2⟩ = .agg #[.int .i64 f.W, .int .i64 f.H, .int .i64 f.D, .slice A1 n c1, .slice A2 f.Out.length c2]) := Lib.hid (by rw [hn])
  rw [HVL.out] at HUS ⊢
  simp only [HVV.out] at HFR
  rw [← hn] at hn4 HUS HLF HFR HUL
  clear HVV HVL hn
  generalize f.W = fW at *
  generalize f.H = fH at *
  generalize f.D = fD at *
  generalize f.Out.length = n2 at *
  have HN := Lib.hid hn4
  have H0 : Hid (Sp w (w.alloc (.cells #[.int .i64 fW, .int .i64 fH, .int .i64 fD, .slice A1 n c1, .slice A2 n2 c2] 24)) [BlkT w.heap.size 24 (boxV fW fH fD A1 n c1 A2 n2 c2)]) := Lib.hid ((Sp.nil (Below.refl w.heap.size w)).local 24 (boxV fW fH fD A1 n c1 A2 n2 c2))
  have HB0 : Hid (∀ w' T, Sp w w' (BlkT w.heap.size 24 (boxV fW fH fD A1 n c1 A2 n2 c2) :: T) → ∀ w2, Below w'.heap.size w' w2 → BoxS w.heap.size fW fH fD A1 n c1 A2 n2 c2 w2) := Lib.hid fun w' T h w2 b => boxS ((h.blk 0 rfl).under b (h.blk 0 rfl).inside)
  clear hn4
  go_enter Tryz.func45, Tryz.ntmps45
  go_upto_region 1 with (fail)
  generalize (w.alloc (.cells #[.int .i64 fW, .int .i64 fH, .int .i64 fD, .slice A1 n c1, .slice A2 n2 c2] 24)) = w1 at *
  generalize hgf : w.heap.size = gf at *
  go_cut [5] (fun v5 wx => ∃ g5 gu, v5 = ptrV g5 ∧ Sp w wx [RowT 1 (slV gu n) n (bvs U), BlkT g5 55 (visC fW fH fD A1 n c1 A2 n2 c2 gu 65), BlkT gf 24 (boxV fW fH fD A1 n c1 A2 n2 c2)])
  case first =>
    have HBD : Hid (Below w1.heap.size w1 w1.drew) := Lib.hid (Below.refl _ w1).drew
    have HKB : Hid (∀ w', Below w1.heap.size w1 w' → BoxS gf fW fH fD A1 n c1 A2 n2 c2 w') := Lib.hid fun w' b => HB0.out _ _ H0.out w' b
    have HUA := Lib.hid (HUS.out w1.drew (hgf ▸ H0.out.below.trans ((Below.refl _ w1).drew.mono H0.out.below.size)))
    have HUB := Lib.hid (HUS.out (w1.alloc (.cells vis0 55)).drew (hgf ▸ H0.out.below.trans (((Below.refl _ w1).alloc (Nat.le_refl _) (.cells vis0 55)).drew.mono H0.out.below.size)))
    have HBE : Hid (Below w1.heap.size w1 (w1.alloc (.cells vis0 55)).drew) := Lib.hid ((Below.refl _ w1).alloc (Nat.le_refl _) _).drew
    have HFA : Hid (∀ w3 gu, Sp w1.drew w3 [RowT 1 (slV gu n) n (bvs U)] → Below w1.heap.size w1 w3 ∧ (w3.alloc (.cells vis0 55)).there w3.heap.size 0 7 ∧ Sp w ((w3.alloc (.cells vis0 55)).setCells w3.heap.size 0 [.int .i64 fW, .int .i64 fH, .int .i64 fD, .slice A1 n c1, .slice A2 n2 c2, slV gu n, .func (.func 65) #[] #[]]) [RowT 1 (slV gu n) n (bvs U), BlkT w3.heap.size 55 (visC fW fH fD A1 n c1 A2 n2 c2 gu 65), BlkT gf 24 (boxV fW fH fD A1 n c1 A2 n2 c2)]) := Lib.hid fun w3 gu h3 => by
      have k1 := (join (H0.out.keep (Below.refl _ w1).drew) h3).local 55 vis0
      refine ⟨HBD.out.trans h3.below, seven_there k1 2 rfl, ?_⟩
      have k2 := poke7 (a := .int .i64 fW) (b := .int .i64 fH) (c := .int .i64 fD) (d := .slice A1 n c1) (e := .slice A2 n2 c2) (f := slV gu n) (k := .func (.func 65) #[] #[]) k1 2 rfl
      refine k2.pick (fun i => [1, 2, 0].getD i 0) (fun i j hi hj h => ?_) (fun i t h => ?_)
      · have all3 : ∀ i, i < 3 → ∀ j, j < 3 → [1, 2, 0].getD i 0 = [1, 2, 0].getD j 0 → i = j := by decide
        exact all3 i hi j hj h
      · match i, h with
        | 0, h => exact h
        | 1, h => exact h
        | 2, h => exact h
        | i + 3, h => simp at h
    have HFB : Hid (∀ w3 gu, Sp (w1.alloc (.cells vis0 55)).drew w3 [RowT 1 (slV gu n) n (bvs U)] → Below w1.heap.size w1 w3 ∧ w3.there w1.heap.size 0 7 ∧ Sp w (w3.setCells w1.heap.size 0 [.int .i64 fW, .int .i64 fH, .int .i64 fD, .slice A1 n c1, .slice A2 n2 c2, slV gu n, .func (.func 65) #[] #[]]) [RowT 1 (slV gu n) n (bvs U), BlkT w1.heap.size 55 (visC fW fH fD A1 n c1 A2 n2 c2 gu 65), BlkT gf 24 (boxV fW fH fD A1 n c1 A2 n2 c2)]) := Lib.hid fun w3 gu h3 => by
      have k1 := join ((H0.out.local 55 vis0).keep (Below.refl _ _).drew) h3
      refine ⟨HBE.out.trans (h3.below.mono HBE.out.size), seven_there k1 1 rfl, ?_⟩
      have k2 := poke7 (a := .int .i64 fW) (b := .int .i64 fH) (c := .int .i64 fD) (d := .slice A1 n c1) (e := .slice A2 n2 c2) (f := slV gu n) (k := .func (.func 65) #[] #[]) k1 1 rfl
      refine k2.pick (fun i => [2, 1, 0].getD i 0) (fun i j hi hj h => ?_) (fun i t h => ?_)
      · have all3 : ∀ i, i < 3 → ∀ j, j < 3 → [2, 1, 0].getD i 0 = [2, 1, 0].getD j 0 → i = j := by decide
        exact all3 i hi j hj h
      · match i, h with
        | 0, h => exact h
        | 1, h => exact h
        | 2, h => exact h
        | i + 3, h => simp at h
    refine Dsk.wp_region_any_order (fun w' => BoxS gf fW fH fD A1 n c1 A2 n2 c2 w') [0, 1, 2] [] 4 #[true, true, true, false, false, false, false] (by kernel_rfl) (by kernel_rfl) (by kernel_rfl) (by kernel_rfl) (by kernel_rfl) (HKB.out _ HBD.out) ?_
    repeat refine Dsk.RD.next rfl rfl (by intro w' hS; obtain ⟨s0, s1, s2, s3, s4⟩ := hS; go_simp; with_reducible rfl) ?_
    refine Dsk.RD.done ?_
    refine Dsk.anyW_all (l := [3, 5]) (by kernel_rfl) (by simp) fun i hi => ?_
    obtain rfl | rfl : i = 3 ∨ i = 5 := by simpa using hi
    · clear hi
      refine Dsk.Take.mk rfl rfl fun K hK => ?_
      go_simp
      refine HUA.out.mono ?_
      rintro e w3 ⟨gu, rfl, h3⟩
      obtain ⟨b3, ht, hfin⟩ := HFA.out w3 gu h3
      refine hK _ _ (.inr (HKB.out _ b3)) ?_
      clear hK
      refine Dsk.anyW_all (l := [4, 5]) (by kernel_rfl) (by simp) fun i hi => ?_
      obtain rfl | rfl : i = 4 ∨ i = 5 := by simpa using hi
      · clear hi
        refine Dsk.Take.mk rfl rfl fun K hK => ?_
        go_simp
        refine hK _ _ (.inr (HKB.out _ b3)) ?_
        clear hK
        refine Dsk.anyW_all (l := [5]) (by kernel_rfl) (by simp) fun i hi => ?_
        obtain rfl : i = 5 := by simpa using hi
        clear hi
        refine Dsk.Take.mk rfl rfl fun K hK => ?_
        go_simp
        refine hK _ _ (.inr (HKB.out _ (b3.alloc b3.size _))) ?_
        clear hK
        refine Dsk.anyW_all (l := [6]) (by kernel_rfl) (by simp) fun i hi => ?_
        obtain rfl : i = 6 := by simpa using hi
        clear hi
        refine Dsk.Take.mk rfl rfl fun K hK => ?_
        refine Dsk.wp_store_lie 55 _ _ rfl w3.heap.size 0 7 [.int .i64 fW, .int .i64 fH, .int .i64 fD, .slice A1 n c1, .slice A2 n2 c2, slV gu n, .func (.func 65) #[] #[]] rfl rfl rfl ht info_visit (fun v hv => by simp at hv; rcases hv with rfl | rfl | rfl | rfl | rfl | rfl | rfl <;> rfl) fun w4 e4 _ _ => ?_
        subst e4
        have HFIN := Lib.hid hfin
        generalize (w3.alloc (.cells vis0 55)).setCells w3.heap.size 0 [.int .i64 fW, .int .i64 fH, .int .i64 fD, .slice A1 n c1, .slice A2 n2 c2, slV gu n, .func (.func 65) #[] #[]] = w4 at *
        generalize w3.heap.size = g5 at *
        clear hfin ht h3 b3
        refine hK _ _ (.inr (boxS (HFIN.out.blk 2 rfl))) (Dsk.anyW_done (by kernel_rfl) (NoPanic.normal ?_))
        clear hK
        (go_wp2_with fail; go_meet; case rel => exact ⟨g5, gu, rfl, HFIN.out⟩)
      · clear hi
        refine Dsk.Take.mk rfl rfl fun K hK => ?_
        go_simp
        refine hK _ _ (.inr (HKB.out _ (b3.alloc b3.size _))) ?_
        clear hK
        refine Dsk.anyW_all (l := [4]) (by kernel_rfl) (by simp) fun i hi => ?_
        obtain rfl : i = 4 := by simpa using hi
        clear hi
        refine Dsk.Take.mk rfl rfl fun K hK => ?_
        go_simp
        refine hK _ _ (.inr (HKB.out _ (b3.alloc b3.size _))) ?_
        clear hK
        refine Dsk.anyW_all (l := [6]) (by kernel_rfl) (by simp) fun i hi => ?_
        obtain rfl : i = 6 := by simpa using hi
        clear hi
        refine Dsk.Take.mk rfl rfl fun K hK => ?_
        refine Dsk.wp_store_lie 55 _ _ rfl w3.heap.size 0 7 [.int .i64 fW, .int .i64 fH, .int .i64 fD, .slice A1 n c1, .slice A2 n2 c2, slV gu n, .func (.func 65) #[] #[]] rfl rfl rfl ht info_visit (fun v hv => by simp at hv; rcases hv with rfl | rfl | rfl | rfl | rfl | rfl | rfl <;> rfl) fun w4 e4 _ _ => ?_
        subst e4
        have HFIN := Lib.hid hfin
        generalize (w3.alloc (.cells vis0 55)).setCells w3.heap.size 0 [.int .i64 fW, .int .i64 fH, .int .i64 fD, .slice A1 n c1, .slice A2 n2 c2, slV gu n, .func (.func 65) #[] #[]] = w4 at *
        generalize w3.heap.size = g5 at *
        clear hfin ht h3 b3
        refine hK _ _ (.inr (boxS (HFIN.out.blk 2 rfl))) (Dsk.anyW_done (by kernel_rfl) (NoPanic.normal ?_))
        clear hK
        (go_wp2_with fail; go_meet; case rel => exact ⟨g5, gu, rfl, HFIN.out⟩)
    · clear hi
      refine Dsk.Take.mk rfl rfl fun K hK => ?_
      go_simp
      refine hK _ _ (.inr (HKB.out _ HBE.out)) ?_
      clear hK
      refine Dsk.anyW_all (l := [3]) (by kernel_rfl) (by simp) fun i hi => ?_
      obtain rfl : i = 3 := by simpa using hi
      clear hi
      refine Dsk.Take.mk rfl rfl fun K hK => ?_
      go_simp
      refine HUB.out.mono ?_
      rintro e w3 ⟨gu, rfl, h3⟩
      obtain ⟨b3, ht, hfin⟩ := HFB.out w3 gu h3
      refine hK _ _ (.inr (HKB.out _ b3)) ?_
      clear hK
      refine Dsk.anyW_all (l := [4]) (by kernel_rfl) (by simp) fun i hi => ?_
      obtain rfl : i = 4 := by simpa using hi
      clear hi
      refine Dsk.Take.mk rfl rfl fun K hK => ?_
      go_simp
      refine hK _ _ (.inr (HKB.out _ b3)) ?_
      clear hK
      refine Dsk.anyW_all (l := [6]) (by kernel_rfl) (by simp) fun i hi => ?_
      obtain rfl : i = 6 := by simpa using hi
      clear hi
      refine Dsk.Take.mk rfl rfl fun K hK => ?_
      refine Dsk.wp_store_lie 55 _ _ rfl w1.heap.size 0 7 [.int .i64 fW, .int .i64 fH, .int .i64 fD, .slice A1 n c1, .slice A2 n2 c2, slV gu n, .func (.func 65) #[] #[]] rfl rfl rfl ht info_visit (fun v hv => by simp at hv; rcases hv with rfl | rfl | rfl | rfl | rfl | rfl | rfl <;> rfl) fun w4 e4 _ _ => ?_
      subst e4
      have HFIN := Lib.hid hfin
      generalize w3.setCells w1.heap.size 0 [.int .i64 fW, .int .i64 fH, .int .i64 fD, .slice A1 n c1, .slice A2 n2 c2, slV gu n, .func (.func 65) #[] #[]] = w4 at *
      generalize w1.heap.size = g5 at *
      clear hfin ht h3 b3
      refine hK _ _ (.inr (boxS (HFIN.out.blk 2 rfl))) (Dsk.anyW_done (by kernel_rfl) (NoPanic.normal ?_))
      clear hK
      (go_wp2_with fail; go_meet; case rel => exact ⟨g5, gu, rfl, HFIN.out⟩)
  case rest =>
    obtain ⟨g5, gu, rfl, hsp⟩ := hcut
    clear H0 HB0 HUS
    obtain ⟨X, hX⟩ : ∃ X, [BlkT g5 55 (visC fW fH fD A1 n c1 A2 n2 c2 gu 65), BlkT gf 24 (boxV fW fH fD A1 n c1 A2 n2 c2)] = X := ⟨_, rfl⟩
    have HBB : Hid (∀ w' O1 v q, Sp w w' (RowT 1 (slV gu n) n (bvs O1) :: RowT 1 v q.length (qvs q) :: X) → w'.cell? ⟨g5, 0, none⟩ = some (.int .i64 fW) ∧ w'.cell? ⟨g5, 1, none⟩ = some (.int .i64 fH) ∧ w'.cell? ⟨g5, 2, none⟩ = some (.int .i64 fD) ∧ w'.cell? ⟨g5, 3, none⟩ = some (.slice A1 n c1) ∧ w'.cell? ⟨g5, 4, none⟩ = some (.slice A2 n2 c2) ∧ w'.cell? ⟨g5, 5, none⟩ = some (slV gu n) ∧ w'.cell? ⟨g5, 6, none⟩ = some (.func (.func 65) #[] #[])) := Lib.hid fun w' O1 v q h => by
      have hb := h.blk 2 (by rw [← hX]; rfl)
      exact ⟨hb.at 0, hb.at 1, hb.at 2, hb.at 3, hb.at 4, hb.at 5, hb.at 6⟩
    have HRE : Hid (∀ w', Sp w w' [RowT 1 (slV gu n) n (bvs U), BlkT g5 55 (visC fW fH fD A1 n c1 A2 n2 c2 gu 65), BlkT gf 24 (boxV fW fH fD A1 n c1 A2 n2 c2)] → Sp w w' (RowT 1 (slV gu n) n (bvs U) :: RowT 1 (.slice none 0 0) ([] : List Nat).length (qvs []) :: X)) := Lib.hid fun w' hs => (by
      rw [← hX]
      refine (hs.nil_row 1).pick (fun i => if i = 0 then 0 else if i = 1 then 3 else i - 1) (fun i j hi hj h => ?_) (fun i t h => ?_)
      · simp at hi hj h
        have all4 : ∀ i, i < 4 → ∀ j, j < 4 → (if i = 0 then 0 else if i = 1 then 3 else i - 1) = (if j = 0 then 0 else if j = 1 then 3 else j - 1) → i = j := by decide
        exact all4 i (by omega) j (by omega) h
      · match i, h with
        | 0, h => exact h
        | 1, h => exact h
        | 2, h => exact h
        | 3, h => exact h
        | i + 4, h => simp at h)
    have H2 := Lib.hid (HRE.out _ hsp)
    obtain ⟨m0, m1, m2, m3, m4, m5, m6⟩ := HBB.out _ _ _ _ H2.out
    clear hX hsp HRE
    go_wp2_with fail
    go_loopw [6, 7, 16] (fun lv _ iv wr => ∃ k O1 L, LfI f U w gu n X lv iv wr k O1 L) (fun _ _ iv _ => n - (intOf iv).toNat)
    case atStart => exact ⟨0, U, [], rfl, Nat.zero_le _, H2.out, HLS.out, HF0.out⟩
    case round =>
      clear H2 HLS HF0 m0 m1 m2 m3 m4 m5 m6
      obtain ⟨k, O1, L, ⟨rfl, hk, hsp, hlf, hft⟩⟩ := hrel
      obtain ⟨Aq, cq, rfl⟩ := (hsp.grow 1 rfl).slice
      have HSP := Lib.hid hsp
      have HLFT := Lib.hid hlf
      have HFT := Lib.hid hft
      have HLE : Hid (O1.length = n) := Lib.hid (by rw [hlf.len]; exact HUL.out)
      obtain ⟨m0, m1, m2, m3, m4, m5, m6⟩ := HBB.out _ _ _ _ hsp
      clear hsp hlf hft
      by_cases hlt : k < n
      · obtain ⟨x0, x1⟩ := Grow.cell (HSP.out.grow 0 rfl) (bvs_at (l := O1) (k := k) (by rw [HLE.out]; exact hlt))
        have hk9 : (k : Int) < 4096 := by have := HN.out; omega
        cases hop : O1.getD k false
        · rw [hop] at x0
          have HNX : Hid (LfI f U w gu n X (.slice Aq L.length cq) (.int .i64 ((k + 1 : Nat) : Int)) wr (k + 1) O1 L) := Lib.hid ⟨rfl, hlt, HSP.out, HLFT.out.skip (by unfold opn; rw [hop]; simp), HFT.out⟩
          clear hop HFR HLF HLFT HFT
          go_wp2_with fail
          go_roundw
          case rel => exact ⟨k + 1, O1, L, by simpa using HNX.out⟩
          case measure => simp [intOf]; omega
        · rw [hop] at x0
          have HRC := Lib.hid (HFR.out gu O1 L (.slice Aq L.length cq) k wr X HFT.out HLE.out HLFT.out.sub hop HSP.out)
          have HNX : Hid (∀ O2 M lv w7, Dfs (stE f.next) (opn U) O1 O2 k M → Sp w w7 (RowT 1 (slV gu n) n (bvs O2) :: RowT 1 lv (L ++ M).length (qvs (L ++ M)) :: X) → LfI f U w gu n X lv (.int .i64 ((k + 1 : Nat) : Int)) w7 (k + 1) O2 (L ++ M)) := Lib.hid fun O2 M lv w7 hd hs => ⟨rfl, hlt, hs, HLFT.out.visit hd, by have := HFT.out.after hd; rw [List.length_append]; exact this⟩
          clear hop HFR HLF HLFT HFT
          go_wp2_with (go_at_call 46; refine HRC.out.mono ?_; rintro e w7 ⟨O2, M, lv2, rfl, hd2, hs2⟩; have HX7 := Lib.hid (HNX.out O2 M lv2 w7 hd2 hs2); clear hd2 hs2)
          go_roundw
          case rel => exact ⟨k + 1, O2, L ++ M, by simpa using HX7.out⟩
          case measure => simp [intOf]; omega
      · obtain rfl : k = n := by omega
        have HX := Lib.hid (HLF.out (O1, L) (.slice Aq L.length cq) wr HLFT.out HFT.out (by
          refine HSP.out.pick (fun _ => 1) (fun i j hi hj h => by simp at hi hj; omega) (fun i t h => ?_)
          match i, h with
          | 0, h => exact h
          | i + 1, h => simp at h))
        clear HFR HLF
        go_wp2_with fail
        exact HX.out
end Rgn
end Go.Proofs.YtgophgnfiboefaaGreatDoor

/- The program's Parts. -/
import Derived.Test.YtgophgnfiboefaaGreatDoorRpH
namespace Go.Proofs.YtgophgnfiboefaaGreatDoor
open Go.RowKit Go.Shelf Wire
open Txt (Row)
open Go.Proofs.YtgophgnfiboefaaGreatDoor.Own Flo
open Dsk (Only nth)
set_option linter.unusedVariables false
set_option linter.unusedSimpArgs false
attribute [local go_sem] Oper.semAt_some
namespace Rgn
theorem Sp.second {W w : World} {a t : Thing} {X : List Thing} (h : Sp W w (a :: X ++ [t])) : Sp W w (a :: t :: X) := by
  refine h.pick (fun i => if i = 0 then 0 else if i = 1 then X.length + 1 else i - 1) (fun i j hi hj e => ?_) (fun i u hu => ?_)
  · simp only [List.length_cons] at hi hj
    split at e <;> split at e <;> (try split at e) <;> (try split at e) <;> omega
  · match i, hu with
    | 0, hu => exact hu
    | 1, hu =>
      rw [if_neg (by omega), if_pos rfl]
      rw [show a :: X ++ [t] = (a :: X) ++ [t] from rfl, List.getElem?_append_right (by simp)]
      simpa using hu
    | i + 2, hu =>
      rw [if_neg (by omega), if_neg (by omega)]
      have hl : i < X.length := by have := (List.getElem?_eq_some_iff.1 hu).1; simpa using this
      rw [show a :: X ++ [t] = (a :: X) ++ [t] from rfl, List.getElem?_append_left (by simp; omega)]
      simpa using hu
theorem Sp.lastly {W w : World} {a t : Thing} {X Y : List Thing} (h : Sp W w (a :: t :: (X ++ Y))) : Sp W w (a :: (X ++ [t])) := by
  refine h.pick (fun i => if i = 0 then 0 else if i ≤ X.length then i + 1 else 1) (fun i j hi hj e => ?_) (fun i u hu => ?_)
  · simp only [List.length_cons, List.length_append] at hi hj
    simp at hi hj
    split at e <;> split at e <;> (try split at e) <;> (try split at e) <;> omega
  · match i, hu with
    | 0, hu => exact hu
    | i + 1, hu =>
      rw [if_neg (by omega)]
      rw [List.getElem?_cons_succ] at hu
      by_cases e : i < X.length
      · rw [if_pos (by omega)]
        rw [List.getElem?_append_left e] at hu
        rw [List.getElem?_cons_succ, List.getElem?_cons_succ, List.getElem?_append_left e]
        exact hu
      · rw [if_neg (by omega)]
        rw [List.getElem?_append_right (by omega)] at hu
        have := (List.getElem?_eq_some_iff.1 hu).1
        simp at this
        obtain rfl : i = X.length := by omega
        simpa using hu
theorem info_ints : (Tryz.prog.info? 22).map (fun i => (i.zero, i.size, i.bytes)) = some (some (.slice none 0 0), 1, 24) := by kernel_rfl
theorem push_sl {W w : World} {T : List Thing} {v : Value} {xs : List Value} (h : Sp W w T) (i : Nat) (hi : T[i]? = some (RowT 1 v xs.length xs)) (u : Value) (hu : u.oneCell' = true) (hl : xs.length ≤ 100000) (tb : TypeId) :
    ∃ v' w', (Builtin.append_ #[32, 32] 32 #[v, .slice (some ⟨w.heap.size, 0, none⟩) 1 1]).run Tryz.prog (w.alloc (.cells #[u] tb)) = .ok v' w' ∧ Sp W w' (T.set i (RowT 1 v' (xs ++ [u]).length (xs ++ [u]))) := by
  obtain ⟨i0, hi0, hz0, hz1, hz2⟩ := info_parts info_ints
  have h1 := h.keep ((Below.refl _ w).alloc (Nat.le_refl _) (.cells #[u] tb))
  have hx : Blk (w.alloc (.cells #[u] tb)) w.heap.size tb #[u] := Blk.fresh w tb _
  generalize w.alloc (.cells #[u] tb) = w1 at *
  have hsrc : Src Tryz.prog 1 32 (.slice (some ⟨w.heap.size, 0, none⟩) 1 1) 1 [u] w1 := Src.ofSlice w1 Tryz.underlying32 ⟨w.heap.size, 0, none⟩ 1 1 [u] rfl (fun j z hz => by
    rw [row_add', Nat.zero_add, hx.at]
    simpa using hz) (fun z hz => by simp at hz; rw [hz]; exact hu)
  obtain ⟨v', w', hr, hg', hgr, hv⟩ := run_append_src (P := Tryz.prog) w1 0 32 32 32 22 i0 _ 1 24 Tryz.underlying32 hi0 hz0 hz1 hz2 rfl (by omega) v xs.length xs (h1.grow i hi) _ 1 [u] hsrc (by unfold maxLen; omega) (by omega) (Nat.zero_le _)
  refine ⟨v', w', hr, h1.turn i hi fun F hF hlt => ⟨fun x => v'.ownBlock = some x, ⟨by rw [List.length_append]; exact hg', fun x => Iff.rfl⟩, fun b hb => ?_, Dsk.Only.of_grown' hgr fun m hm => .inl ((hF.2 m).2 hm)⟩⟩
  have := (hg'.block b hb).2
  rcases hv with e | e
  · rw [e] at hb
    exact .inl ((hF.2 b).2 hb)
  · rw [e] at hb
    injection hb with hb
    subst hb
    exact .inr ⟨Nat.le_refl _, this⟩
theorem row_of_any {w : World} {A : Option Addr} {n c : Nat} {xs : List Value} (h : Grow w 0 1 (.slice A n c) n xs) : Row w w.heap.size A xs := by
  rcases h.form with ⟨e, e0⟩ | ⟨g', cap', e, h1, h2, h3, h4, h5, h6, h7⟩
  · intro k u hu
    have := (List.getElem?_eq_some_iff.1 hu).1
    have := h.len
    omega
  · injection e with e1 _ e3
    subst e1
    exact fun k u hu => ⟨_, 0, rfl, h2, by rw [Nat.zero_add]; exact h7 k u hu⟩
theorem stE_back {f : Fl} (ho : f.ok) : stE f.back = fun a b => stE f.next b a := by
  funext a b
  refine propext ⟨fun ⟨d, h, e⟩ => ⟨d, h, (Fl.back_iff ho).1 e⟩, fun ⟨d, h, e⟩ => ⟨d, h, (Fl.back_iff ho).2 e⟩⟩
/-- What lies in memory while parts are found. -/
abbrev PTX (g6 gf gp Bb : Nat) (vc bx : Array Value) (A : Option Addr) (c : Nat) (L : List Nat) (pv : Value) (xs : List Value) (qs : PartL) : List Thing :=
  BlkT g6 55 vc :: BlkT gf 24 bx :: BlkT gp 32 #[pv] :: RowT 1 pv xs.length xs :: RowV A (qvs L) :: BlkT Bb 22 #[.slice A L.length c] :: qs.map (fun q => RowT 1 q.1 q.2.length (qvs q.2))
structure PtI (E : Nat → Nat → Prop) (U : List Bool) (w W : World) (gu n g6 gf gp Bb : Nat) (vc bx : Array Value) (A : Option Addr) (c : Nat) (L : List Nat) (pre : List (NP n)) (O : List Bool) (pv : Value) (xs : List Value) (qs : PartL) : Prop where
  xe : xs = qs.map (·.1)
  sp : Sp w W (RowT 1 (slV gu n) n (bvs O) :: PTX g6 gf gp Bb vc bx A c L pv xs qs)
  len : O.length = n
  sub : ∀ x, opn O x → opn U x
  ql : qs.length ≤ pre.length
  ne : ∀ q ∈ qs, q.2 ≠ []
  pn : 0 < xs.length ∨ pv = .slice none 0 0
  bck : pre.map (·.1) <+: bkw L → Bck E U O L (L.length - pre.length) (qs.map (·.2))
theorem PtI.cells {E : Nat → Nat → Prop} {U : List Bool} {w W : World} {gu n g6 gf gp Bb : Nat} {vc bx : Array Value} {A : Option Addr} {c : Nat} {L : List Nat} {pre : List (NP n)} {O : List Bool} {pv : Value} {xs : List Value} {qs : PartL} (h : PtI E U w W gu n g6 gf gp Bb vc bx A c L pre O pv xs qs) (hn : 0 < n) :
    ∀ t ∈ (RowT 1 (slV gu n) n (bvs O) :: PTX g6 gf gp Bb vc bx A c L pv xs qs), CellsT t := by
  intro t ht
  simp only [List.mem_cons] at ht
  rcases ht with rfl | rfl | rfl | rfl | rfl | rfl | rfl | ht
  · exact cellsT_row _ _ _ (.inl hn)
  · exact cellsT_blk _ _ _
  · exact cellsT_blk _ _ _
  · exact cellsT_blk _ _ _
  · exact cellsT_row _ _ _ h.pn
  · exact cellsT_rowV _ _
  · exact cellsT_blk _ _ _
  · obtain ⟨q, hq, rfl⟩ := List.mem_map.1 ht
    exact cellsT_row _ _ _ (.inl (List.length_pos_iff.2 (h.ne q hq)))
theorem bkw_next {L : List Nat} {N : Nat} {pre : List (NP N)} {x : NP N} (h : (pre ++ [x]).map (·.1) <+: bkw L) : pre.map (·.1) <+: bkw L ∧ pre.length < L.length ∧ L[L.length - (pre.length + 1)]? = some x.1.2 := by
  obtain ⟨r, e⟩ := h
  rw [List.map_append, List.append_assoc] at e
  have hl := congrArg List.length e
  rw [bkw_len] at hl
  simp at hl
  have hlt : pre.length < L.length := by omega
  refine ⟨⟨_, e⟩, hlt, ?_⟩
  have h1 : (bkw L)[pre.length]? = some x.1 := by
    rw [← e, List.getElem?_append_right (by simp)]
    simp
  rw [bkw_at hlt] at h1
  injection h1 with h1
  rw [← h1, show L.length - (pre.length + 1) = L.length - 1 - pre.length from by omega, List.getElem?_eq_getElem (by omega)]
  simp only [List.getD_eq_getElem?_getD]
  rw [List.getElem?_eq_getElem (by omega)]
  rfl
theorem Sp.keptR {W w w' : World} {B : Nat} {a t : Thing} {X : List Thing} (h : Sp W w' (a :: t :: (X ++ [RestT w B]))) : KeepsFrom B w w' := Sp.kept h (X.length + 2) (by simp)
def PartsPost (f : Fl) (r : List Nat) (w : World) (e : Ending) (w' : World) : Prop :=
  ∃ (A : Option Addr) (c : Nat) (qs : PartL), e = .returned (.slice A qs.length c) ∧ IsParts (stE f.next) (opn (usL f r)) (qs.map (·.2)) ∧ Row w' w'.heap.size A (qs.map (·.1)) ∧ (∀ q ∈ qs, ∃ A' c', q.1 = .slice A' q.2.length c' ∧ Row w' w'.heap.size A' (qvs q.2)) ∧ Below w.heap.size w w'
set_option maxRecDepth 100000 in
set_option maxHeartbeats 8000000 in
theorem parts_any {f : Fl} (ho : f.ok) (p : Pl) (B : Option Addr) (cb : Nat) (r : List Nat) (w : World) (hv : VS w) (hvo : VO w) (hin : FlIn w f p) (hra : Row w w.heap.size B (qvs r)) (hla : r.length ≤ 1000000) :
    Calls Tryz.prog 23 #[f.val p, .slice B r.length cb] w (PartsPost f r w) := by
  have hn4 : f.Kind.length ≤ 4096 := by have := ho.kinds; have := ho.size; omega
  have hn0 : 0 < f.Kind.length := by
    have := ho.kinds
    have h1 := Int.mul_pos (Int.mul_pos (show 0 < f.W from by have := ho.w; omega) (show 0 < f.H from by have := ho.h; omega)) (show 0 < f.D from by have := ho.d; omega)
    omega
  have HUS := Lib.hid (fun w' (b : Below w.heap.size w w') => usable_l ho p B cb r w' (hin.lift b) (hra.lift b) hla)
  have HLF : Hid (∀ w', Below w.heap.size w w' → Calls Tryz.prog 45 #[f.val p, .slice B r.length cb] w' (LeftPost f r w')) := Lib.hid fun w' b => left_any ho p B cb r w' (hv.lift b) (hin.lift b) (hra.lift b) hla
  have HFR : Hid (∀ g (O1 : List Bool) (k : Nat) (w1 : World) (R : List Thing), O1.length = f.Kind.length → (∀ x, opn O1 x → opn (usL f r) x) → opn O1 k → Sp w w1 (RowT 1 (slV g f.Kind.length) f.Kind.length (bvs O1) :: RowT 1 (.slice none 0 0) 0 [] :: R) →
      Calls Tryz.prog 46 #[visV f p g 43, .int .i64 k, .slice none 0 0] w1 fun e w' => ∃ O' M lv, e = .returned lv ∧ Dfs (fun a b => stE f.next b a) (opn (usL f r)) O1 O' k M ∧ M.length ≤ 4096 ∧ Sp w w' (RowT 1 (slV g f.Kind.length) f.Kind.length (bvs O') :: RowT 1 lv M.length (qvs M) :: R)) := Lib.hid fun g O1 k w1 R h2 h3 h4 h5 => by
    have h1 : Fits O1 0 4096 := fun q hq hs => by have := Fits.start O1 q hq hs; omega
    refine (from_back ho p w f.back (opn (usL f r)) (fun w' b c d => back_any ho p c d w' (hv.lift b) (hvo.lift b) (hin.lift b)) (fun x d y h => ?_) g O1.length O1 [] (.slice none 0 0) k w1 R (Fits.start O1) (fun q hq hs => by have := h1 q hq hs; simp; omega) h2 h3 h4 h5).mono ?_
    · have hx := Fl.next_is ((Fl.back_iff ho).1 h)
      have hb := Fl.is_bounds hx.1
      exact ⟨y.toNat, by omega, by have := ho.kinds; omega⟩
    · rintro e w' ⟨O', M, lv, rfl, hd, hs⟩
      rw [stE_back ho] at hd
      exact ⟨O', M, lv, rfl, hd, by have := (h1.after hd).nil; omega, hs⟩
  have HEND : Hid (∀ (L : List Nat) (O' : List Bool) (A : Option Addr) (c : Nat) (qs qs' : PartL) w', Bck (stE f.next) (usL f r) O' L 0 (qs.map (·.2)) → (∀ x, opn (usL f r) x → x ∈ L) → qs'.Perm qs → qs'.Pairwise (fun q r => q.2.headD 0 ≤ r.2.headD 0) → Row w' w'.heap.size A (qs'.map (·.1)) → (∀ q ∈ qs, ∃ A' c', q.1 = .slice A' q.2.length c' ∧ Row w' w'.heap.size A' (qvs q.2)) → Below w.heap.size w w' → PartsPost f r w (.returned (.slice A qs'.length c)) w') := Lib.hid fun L O' A c qs qs' w' h1 h2 h3 h4 h5 h6 h7 =>
    ⟨A, c, qs', rfl, h1.parts h2 (h3.map _) (by rw [List.pairwise_map]; exact h4), h5, fun q hq => h6 q (h3.mem_iff.1 hq), h7⟩
  have HUL := Lib.hid (usL_len f r)
  have HST := Lib.hid (Bck.start (E := stE f.next) (usL f r))
  generalize hQQ : PartsPost f r w = QQ at *
  clear hQQ
  unfold LeftPost at HLF
  generalize hU : usL f r = U at *
  clear hU ho hv hvo hin hra hla
  obtain ⟨A1, c1, A2, c2⟩ := p
  obtain ⟨n, hn⟩ : ∃ n : Nat, n = f.Kind.length := ⟨_, rfl⟩
  have HVV : Hid (∀ g s, visV f ⟨A1, c1, A2, c2⟩ g s = .agg #[.int .i64 f.W, .int .i64 f.H, .int .i64 f.D, .slice A1 n c1, .slice A2 f.Out.length c2, slV g n, .func (.func s) #[] #[]]) := Lib.hid fun g s => by rw [hn]
  have HVL : Hid (f.val ⟨A1, c1, A2, c2⟩ = .agg #[.int .i64 f.W, .int .i64 f.H, .int .i64 f.D, .slice A1 n c1, .slice A2 f.Out.length c2]) := Lib.hid (by rw [hn])
  rw [HVL.out] at HUS HLF ⊢
  simp only [HVV.out] at HFR
  rw [← hn] at hn4 hn0 HUS HFR HUL
  clear HVV HVL hn
  generalize f.W = fW at *
  generalize f.H = fH at *
  generalize f.D = fD at *
  generalize f.Out.length = n2 at *
  generalize hE : stE f.next = E at *
  clear hE
  have HN := Lib.hid hn4
  have HN0 := Lib.hid hn0
  have H0 : Hid (Sp w ((w.alloc (.cells #[.int .i64 fW, .int .i64 fH, .int .i64 fD, .slice A1 n c1, .slice A2 n2 c2] 24)).alloc (.cells #[.slice none 0 0] 32)) [BlkT w.heap.size 24 (boxV fW fH fD A1 n c1 A2 n2 c2), BlkT (w.heap.size + 1) 32 #[.slice none 0 0]]) := Lib.hid (by
    have h1 := ((Sp.nil (Below.refl w.heap.size w)).local 24 (boxV fW fH fD A1 n c1 A2 n2 c2)).local 32 #[.slice none 0 0]
    rw [show (w.alloc (.cells (boxV fW fH fD A1 n c1 A2 n2 c2) 24)).heap.size = w.heap.size + 1 from by simp] at h1
    exact h1)
  have HB0 : Hid (∀ w' T, Sp w w' (BlkT w.heap.size 24 (boxV fW fH fD A1 n c1 A2 n2 c2) :: T) → ∀ w2, Below w'.heap.size w' w2 → BoxS w.heap.size fW fH fD A1 n c1 A2 n2 c2 w2) := Lib.hid fun w' T h w2 b => boxS ((h.blk 0 rfl).under b (h.blk 0 rfl).inside)
  clear hn4 hn0
  refine (callsIn_wide (n := 4)).1 ?_
  refine callsIn_of_wp_marks Tryz.func23 rfl trivial ?_ rfl
  simp only [Tryz.ntmps23, List.size_toArray, List.length_cons, List.length_nil, Nat.reduceAdd, Nat.reduceSub, Array.replicate_succ, Array.replicate_zero, List.push_toArray, List.append_toArray, List.nil_append, List.cons_append]
  gi_wp2
  generalize ((w.alloc (.cells #[.int .i64 fW, .int .i64 fH, .int .i64 fD, .slice A1 n c1, .slice A2 n2 c2] 24)).alloc (.cells #[.slice none 0 0] 32)) = w1 at *
  generalize hgp : w.heap.size + 1 = gp at H0 ⊢
  generalize hgf : w.heap.size = gf at H0 HB0 ⊢
  refine wpIn_wide.2 ?_
  refine Code.wp_mono (Q := fun e a' w' => ∃ g6 gu, e = .normal ∧ a' = { tmps := #[.agg #[.int .i64 fW, .int .i64 fH, .int .i64 fD, .slice A1 n c1, .slice A2 n2 c2], .slice B r.length cb, ptrV gf, undef, .slice none 0 0, ptrV gp, ptrV g6, undef, undef, undef, .agg #[.int .i64 fW, .int .i64 fH, .int .i64 fD, .slice A1 n c1, .slice A2 n2 c2], .agg #[.int .i64 fW, .int .i64 fH, .int .i64 fD, .slice A1 n c1, .slice A2 n2 c2], .slice B r.length cb, slV gu n, .agg #[.int .i64 fW, .int .i64 fH, .int .i64 fD, .slice A1 n c1, .slice A2 n2 c2, slV gu n, .func (.func 43) #[] #[]], undef, undef, undef, undef, undef, undef, undef, undef, undef, undef, undef, undef, undef, undef, undef, undef, undef, undef, undef, undef, undef, undef, undef], defers := [] } ∧ Sp w w' [RowT 1 (slV gu n) n (bvs U), BlkT g6 55 (visC fW fH fD A1 n c1 A2 n2 c2 gu 43), BlkT gf 24 (boxV fW fH fD A1 n c1 A2 n2 c2), BlkT gp 32 #[.slice none 0 0]]) ?mono ?reg
  case reg =>
    have HBD : Hid (Below w1.heap.size w1 w1.drew) := Lib.hid (Below.refl _ w1).drew
    have HKB : Hid (∀ w', Below w1.heap.size w1 w' → BoxS gf fW fH fD A1 n c1 A2 n2 c2 w') := Lib.hid fun w' b => HB0.out _ _ H0.out w' b
    have HUA := Lib.hid (HUS.out w1.drew (H0.out.below.trans ((Below.refl _ w1).drew.mono H0.out.below.size)))
    have HUB := Lib.hid (HUS.out (w1.alloc (.cells vis0 55)).drew (H0.out.below.trans (((Below.refl _ w1).alloc (Nat.le_refl _) (.cells vis0 55)).drew.mono H0.out.below.size)))
    have HBE : Hid (Below w1.heap.size w1 (w1.alloc (.cells vis0 55)).drew) := Lib.hid ((Below.refl _ w1).alloc (Nat.le_refl _) _).drew
    have HFA : Hid (∀ w3 gu, Sp w1.drew w3 [RowT 1 (slV gu n) n (bvs U)] → Below w1.heap.size w1 w3 ∧ (w3.alloc (.cells vis0 55)).there w3.heap.size 0 7 ∧ Sp w ((w3.alloc (.cells vis0 55)).setCells w3.heap.size 0 [.int .i64 fW, .int .i64 fH, .int .i64 fD, .slice A1 n c1, .slice A2 n2 c2, slV gu n, .func (.func 43) #[] #[]]) [RowT 1 (slV gu n) n (bvs U), BlkT w3.heap.size 55 (visC fW fH fD A1 n c1 A2 n2 c2 gu 43), BlkT gf 24 (boxV fW fH fD A1 n c1 A2 n2 c2), BlkT gp 32 #[.slice none 0 0]]) := Lib.hid fun w3 gu h3 => by
      have k1 := (join (H0.out.keep (Below.refl _ w1).drew) h3).local 55 vis0
      refine ⟨HBD.out.trans h3.below, seven_there k1 3 rfl, ?_⟩
      have k2 := poke7 (a := .int .i64 fW) (b := .int .i64 fH) (c := .int .i64 fD) (d := .slice A1 n c1) (e := .slice A2 n2 c2) (f := slV gu n) (k := .func (.func 43) #[] #[]) k1 3 rfl
      refine k2.pick (fun i => [2, 3, 0, 1].getD i 0) (fun i j hi hj h => ?_) (fun i t h => ?_)
      · have all3 : ∀ i, i < 4 → ∀ j, j < 4 → [2, 3, 0, 1].getD i 0 = [2, 3, 0, 1].getD j 0 → i = j := by decide
        exact all3 i hi j hj h
      · match i, h with
        | 0, h => exact h
        | 1, h => exact h
        | 2, h => exact h
        | 3, h => exact h
        | i + 4, h => simp at h
    have HFB : Hid (∀ w3 gu, Sp (w1.alloc (.cells vis0 55)).drew w3 [RowT 1 (slV gu n) n (bvs U)] → Below w1.heap.size w1 w3 ∧ w3.there w1.heap.size 0 7 ∧ Sp w (w3.setCells w1.heap.size 0 [.int .i64 fW, .int .i64 fH, .int .i64 fD, .slice A1 n c1, .slice A2 n2 c2, slV gu n, .func (.func 43) #[] #[]]) [RowT 1 (slV gu n) n (bvs U), BlkT w1.heap.size 55 (visC fW fH fD A1 n c1 A2 n2 c2 gu 43), BlkT gf 24 (boxV fW fH fD A1 n c1 A2 n2 c2), BlkT gp 32 #[.slice none 0 0]]) := Lib.hid fun w3 gu h3 => by
      have k1 := join ((H0.out.local 55 vis0).keep (Below.refl _ _).drew) h3
      refine ⟨HBE.out.trans (h3.below.mono HBE.out.size), seven_there k1 2 rfl, ?_⟩
      have k2 := poke7 (a := .int .i64 fW) (b := .int .i64 fH) (c := .int .i64 fD) (d := .slice A1 n c1) (e := .slice A2 n2 c2) (f := slV gu n) (k := .func (.func 43) #[] #[]) k1 2 rfl
      refine k2.pick (fun i => [3, 2, 0, 1].getD i 0) (fun i j hi hj h => ?_) (fun i t h => ?_)
      · have all3 : ∀ i, i < 4 → ∀ j, j < 4 → [3, 2, 0, 1].getD i 0 = [3, 2, 0, 1].getD j 0 → i = j := by decide
        exact all3 i hi j hj h
      · match i, h with
        | 0, h => exact h
        | 1, h => exact h
        | 2, h => exact h
        | 3, h => exact h
        | i + 4, h => simp at h
    refine Dsk.wp_region_any_order (fun w' => BoxS gf fW fH fD A1 n c1 A2 n2 c2 w') [0, 1, 2] [] 4 #[true, true, true, false, false, false, false] (by kernel_rfl) (by kernel_rfl) (by kernel_rfl) (by kernel_rfl) (by kernel_rfl) (HKB.out _ HBD.out) ?_
    repeat refine Dsk.RD.next rfl rfl (by intro w' hS; obtain ⟨s0, s1, s2, s3, s4⟩ := hS; go_simp; with_reducible rfl) ?_
    refine Dsk.RD.done ?_
    refine Dsk.anyW_all (l := [3, 5]) (by kernel_rfl) (by simp) fun i hi => ?_
    obtain rfl | rfl : i = 3 ∨ i = 5 := by simpa using hi
    · clear hi
      refine Dsk.Take.mk rfl rfl fun K hK => ?_
      go_simp
      refine HUA.out.mono ?_
      rintro e w3 ⟨gu, rfl, h3⟩
      obtain ⟨b3, ht, hfin⟩ := HFA.out w3 gu h3
      refine hK _ _ (.inr (HKB.out _ b3)) ?_
      clear hK
      refine Dsk.anyW_all (l := [4, 5]) (by kernel_rfl) (by simp) fun i hi => ?_
      obtain rfl | rfl : i = 4 ∨ i = 5 := by simpa using hi
      · clear hi
        refine Dsk.Take.mk rfl rfl fun K hK => ?_
        go_simp
        refine hK _ _ (.inr (HKB.out _ b3)) ?_
        clear hK
        refine Dsk.anyW_all (l := [5]) (by kernel_rfl) (by simp) fun i hi => ?_
        obtain rfl : i = 5 := by simpa using hi
        clear hi
        refine Dsk.Take.mk rfl rfl fun K hK => ?_
        go_simp
        refine hK _ _ (.inr (HKB.out _ (b3.alloc b3.size _))) ?_
        clear hK
        refine Dsk.anyW_all (l := [6]) (by kernel_rfl) (by simp) fun i hi => ?_
        obtain rfl : i = 6 := by simpa using hi
        clear hi
        refine Dsk.Take.mk rfl rfl fun K hK => ?_
        refine Dsk.wp_store_lie 55 _ _ rfl w3.heap.size 0 7 [.int .i64 fW, .int .i64 fH, .int .i64 fD, .slice A1 n c1, .slice A2 n2 c2, slV gu n, .func (.func 43) #[] #[]] rfl rfl rfl ht info_visit (fun v hv => by simp at hv; rcases hv with rfl | rfl | rfl | rfl | rfl | rfl | rfl <;> rfl) fun w4 e4 _ _ => ?_
        subst e4
        have HFIN := Lib.hid hfin
        generalize (w3.alloc (.cells vis0 55)).setCells w3.heap.size 0 [.int .i64 fW, .int .i64 fH, .int .i64 fD, .slice A1 n c1, .slice A2 n2 c2, slV gu n, .func (.func 43) #[] #[]] = w4 at *
        generalize w3.heap.size = g5 at *
        clear hfin ht h3 b3
        refine hK _ _ (.inr (boxS (HFIN.out.blk 2 rfl))) (Dsk.anyW_done (by kernel_rfl) (NoPanic.normal ?_))
        clear hK
        exact ⟨g5, gu, rfl, rfl, HFIN.out⟩
      · clear hi
        refine Dsk.Take.mk rfl rfl fun K hK => ?_
        go_simp
        refine hK _ _ (.inr (HKB.out _ (b3.alloc b3.size _))) ?_
        clear hK
        refine Dsk.anyW_all (l := [4]) (by kernel_rfl) (by simp) fun i hi => ?_
        obtain rfl : i = 4 := by simpa using hi
        clear hi
        refine Dsk.Take.mk rfl rfl fun K hK => ?_
        go_simp
        refine hK _ _ (.inr (HKB.out _ (b3.alloc b3.size _))) ?_
        clear hK
        refine Dsk.anyW_all (l := [6]) (by kernel_rfl) (by simp) fun i hi => ?_
        obtain rfl : i = 6 := by simpa using hi
        clear hi
        refine Dsk.Take.mk rfl rfl fun K hK => ?_
        refine Dsk.wp_store_lie 55 _ _ rfl w3.heap.size 0 7 [.int .i64 fW, .int .i64 fH, .int .i64 fD, .slice A1 n c1, .slice A2 n2 c2, slV gu n, .func (.func 43) #[] #[]] rfl rfl rfl ht info_visit (fun v hv => by simp at hv; rcases hv with rfl | rfl | rfl | rfl | rfl | rfl | rfl <;> rfl) fun w4 e4 _ _ => ?_
        subst e4
        have HFIN := Lib.hid hfin
        generalize (w3.alloc (.cells vis0 55)).setCells w3.heap.size 0 [.int .i64 fW, .int .i64 fH, .int .i64 fD, .slice A1 n c1, .slice A2 n2 c2, slV gu n, .func (.func 43) #[] #[]] = w4 at *
        generalize w3.heap.size = g5 at *
        clear hfin ht h3 b3
        refine hK _ _ (.inr (boxS (HFIN.out.blk 2 rfl))) (Dsk.anyW_done (by kernel_rfl) (NoPanic.normal ?_))
        clear hK
        exact ⟨g5, gu, rfl, rfl, HFIN.out⟩
    · clear hi
      refine Dsk.Take.mk rfl rfl fun K hK => ?_
      go_simp
      refine hK _ _ (.inr (HKB.out _ HBE.out)) ?_
      clear hK
      refine Dsk.anyW_all (l := [3]) (by kernel_rfl) (by simp) fun i hi => ?_
      obtain rfl : i = 3 := by simpa using hi
      clear hi
      refine Dsk.Take.mk rfl rfl fun K hK => ?_
      go_simp
      refine HUB.out.mono ?_
      rintro e w3 ⟨gu, rfl, h3⟩
      obtain ⟨b3, ht, hfin⟩ := HFB.out w3 gu h3
      refine hK _ _ (.inr (HKB.out _ b3)) ?_
      clear hK
      refine Dsk.anyW_all (l := [4]) (by kernel_rfl) (by simp) fun i hi => ?_
      obtain rfl : i = 4 := by simpa using hi
      clear hi
      refine Dsk.Take.mk rfl rfl fun K hK => ?_
      go_simp
      refine hK _ _ (.inr (HKB.out _ b3)) ?_
      clear hK
      refine Dsk.anyW_all (l := [6]) (by kernel_rfl) (by simp) fun i hi => ?_
      obtain rfl : i = 6 := by simpa using hi
      clear hi
      refine Dsk.Take.mk rfl rfl fun K hK => ?_
      refine Dsk.wp_store_lie 55 _ _ rfl w1.heap.size 0 7 [.int .i64 fW, .int .i64 fH, .int .i64 fD, .slice A1 n c1, .slice A2 n2 c2, slV gu n, .func (.func 43) #[] #[]] rfl rfl rfl ht info_visit (fun v hv => by simp at hv; rcases hv with rfl | rfl | rfl | rfl | rfl | rfl | rfl <;> rfl) fun w4 e4 _ _ => ?_
      subst e4
      have HFIN := Lib.hid hfin
      generalize w3.setCells w1.heap.size 0 [.int .i64 fW, .int .i64 fH, .int .i64 fD, .slice A1 n c1, .slice A2 n2 c2, slV gu n, .func (.func 43) #[] #[]] = w4 at *
      generalize w1.heap.size = g5 at *
      clear hfin ht h3 b3
      refine hK _ _ (.inr (boxS (HFIN.out.blk 2 rfl))) (Dsk.anyW_done (by kernel_rfl) (NoPanic.normal ?_))
      clear hK
      exact ⟨g5, gu, rfl, rfl, HFIN.out⟩
  case mono =>
    rintro e a' w' ⟨g6, gu, rfl, rfl, hsp⟩
    have HSP := Lib.hid hsp
    obtain ⟨m0, m1, m2, m3, m4⟩ := boxS (hsp.blk 2 rfl)
    clear H0 HB0 HUS hsp
    gi_wp2_with (first
      | (refine ⟨trivial, ?_⟩; gi_at_call 45; refine (callsIn_wide.2 (HLF.out _ HSP.out.below)).mono ?_; rintro e w5 ⟨L, hnd, hmem, hbk, hl4, lv, rfl, hs5⟩; obtain ⟨A, c, rfl⟩ := (hs5.grow 0 rfl).slice; have HS5 := Lib.hid hs5; have HBK := Lib.hid hbk; have HME := Lib.hid hmem; have HL4 := Lib.hid hl4; clear hs5 hbk hmem hl4 hnd)
      | (refine ⟨trivial, ?_⟩; gi_at_call 44; refine (callsIn_wide.2 (backward_any A L.length c _)).mono ?_; rintro e w6 ⟨rfl, rfl⟩))
    have k1 := (join HSP.out HS5.out).local 22 #[.slice A L.length c]
    have hbx : Go.Boxed (w5.alloc (.cells #[.slice A L.length c] 22)) w5.heap.size 22 (.slice A L.length c) := k1.blk 5 rfl
    have k2 : Sp w (w5.alloc (.cells #[.slice A L.length c] 22)) [RowT 1 (slV gu n) n (bvs U), BlkT g6 55 (visC fW fH fD A1 n c1 A2 n2 c2 gu 43), BlkT gf 24 (boxV fW fH fD A1 n c1 A2 n2 c2), BlkT gp 32 #[.slice none 0 0], RowV A (qvs L), BlkT w5.heap.size 22 #[.slice A L.length c]] := Sp.rowV k1 4 rfl
    have hrow := Sp.rowOf k2 4 rfl
    have hPT : Sp w (w5.alloc (.cells #[.slice A L.length c] 22)) (RowT 1 (slV gu n) n (bvs U) :: PTX g6 gf gp w5.heap.size (visC fW fH fD A1 n c1 A2 n2 c2 gu 43) (boxV fW fH fD A1 n c1 A2 n2 c2) A c L (.slice none 0 0) [] []) := by
      refine (k2.nil_row 1).pick (fun i => [0, 1, 2, 3, 6, 4, 5].getD i 0) (fun i j hi hj h => ?_) (fun i t h => ?_)
      · have all7 : ∀ i, i < 7 → ∀ j, j < 7 → [0, 1, 2, 3, 6, 4, 5].getD i 0 = [0, 1, 2, 3, 6, 4, 5].getD j 0 → i = j := by decide
        exact all7 i hi j hj h
      · match i, h with
        | 0, h => exact h
        | 1, h => exact h
        | 2, h => exact h
        | 3, h => exact h
        | 4, h => exact h
        | 5, h => exact h
        | 6, h => exact h
        | i + 7, h => simp at h
    have hLm : ∀ x ∈ L, x < n := fun x hx => by
      have := opn_lt ((HME.out x).1 hx)
      rw [HUL.out] at this
      exact this
    have HUL2 : Hid (∀ x, opn U x → x ∈ L) := Lib.hid fun x hx => (HME.out x).2 hx
    obtain ⟨VC, hVC⟩ : ∃ VC, VC = visC fW fH fD A1 n c1 A2 n2 c2 gu 43 := ⟨_, rfl⟩
    obtain ⟨BX, hBX⟩ : ∃ BX, BX = boxV fW fH fD A1 n c1 A2 n2 c2 := ⟨_, rfl⟩
    rw [← hVC, ← hBX] at hPT
    have HVC := Lib.hid hVC
    have HBX := Lib.hid hBX
    clear hVC hBX
    have hw0 : w.heap.size ≤ (w5.alloc (.cells #[.slice A L.length c] 22)).heap.size := k1.below.size
    clear k1 k2 HSP HS5 m0 m1 m2 m3 m4 HLF
    generalize hWW : w5.alloc (.cells #[.slice A L.length c] 22) = W0 at *
    generalize w5.heap.size = Bb at *
    clear hWW
    have HP0 : PtI E U w W0 gu n g6 gf gp Bb VC BX A c L [] U (.slice none 0 0) [] [] := ⟨rfl, hPT, HUL.out, fun x h => h, Nat.le_refl _, by simp, .inr rfl, fun _ => by simpa using HST.out L⟩
    refine wpIn_rangeFunc_ownH rfl (by omega) (gf := 64) (lb := #[.pointer (some ⟨Bb, 0, none⟩)]) rfl trivial (enters_of Tryz.func64 (by kernel_rfl) rfl)
      (back_stops 3 (by omega) Bb w.heap.size n A c L hLm (by have := HL4.out; omega) W0 hw0 hbx hrow) kpR_t (kpR_b hw0) (Below.refl _ _) (fun _ => rfl)
      (fun pre W => ∃ O qs xs pv, PtI E U w W gu n g6 gf gp Bb VC BX A c L pre O pv xs qs)
      (fun _ _ _ => False)
      (fun pre X Y row hs hg hr => by obtain ⟨O, qs, xs, pv, h⟩ := hs; exact ⟨O, qs, xs, pv, { h with sp := Sp.own h.sp (h.cells HN0.out) hg hw0 hr }⟩)
      (fun _ _ _ _ _ hs _ _ => hs)
      ⟨U, [], [], _, HP0⟩
      (fun x a' W => a' = { tmps := #[.agg #[.int .i64 fW, .int .i64 fH, .int .i64 fD, .slice A1 n c1, .slice A2 n2 c2], .slice B r.length cb, ptrV gf, undef, .slice none 0 0, ptrV gp, ptrV g6, undef, .int .i64 (x.1.2 : Nat), undef, .agg #[.int .i64 fW, .int .i64 fH, .int .i64 fD, .slice A1 n c1, .slice A2 n2 c2], .agg #[.int .i64 fW, .int .i64 fH, .int .i64 fD, .slice A1 n c1, .slice A2 n2 c2], .slice B r.length cb, slV gu n, .agg #[.int .i64 fW, .int .i64 fH, .int .i64 fD, .slice A1 n c1, .slice A2 n2 c2, slV gu n, .func (.func 43) #[] #[]], .agg #[.int .i64 fW, .int .i64 fH, .int .i64 fD, .slice A1 n c1, .slice A2 n2 c2], .slice B r.length cb, .slice A L.length c, .func (.func 64) #[] #[.pointer (some ⟨Bb, 0, none⟩)], .int .i64 (x.1.1 : Nat), .int .i64 (x.1.2 : Nat), undef, undef, undef, undef, undef, undef, undef, undef, undef, undef, undef, undef, undef, undef, undef, undef, undef], defers := [] })
      (fun x a' => ownFrom_pure _ _)
      ?assign ?body ?done ?stop
    case assign =>
      rintro l pre ⟨⟨i, k⟩, hk⟩ W K hi hK
      gi_wp2
      exact hK _ _ (KeepsFrom.refl _ _) (kpR_refl _ _ _ _ _ _) hi rfl
    case body =>
      rintro l pre ⟨⟨i, k⟩, hk⟩ a' W hl _ ⟨O, qs, xs, pv, hI⟩ rfl hlt
      simp only at hk
      have hcl := hI.cells HN0.out
      obtain ⟨Ap, cp, rfl⟩ := (hI.sp.grow 4 rfl).slice
      obtain ⟨x0, x1⟩ := Grow.cell (hI.sp.grow 0 rfl) (bvs_at (l := O) (k := k) (by rw [hI.len]; exact hk))
      have hb1 : Blk W g6 55 (visC fW fH fD A1 n c1 A2 n2 c2 gu 43) := HVC.out ▸ hI.sp.blk 1 rfl
      have v0 := hb1.at 0
      have v1 := hb1.at 1
      have v2 := hb1.at 2
      have v3 := hb1.at 3
      have v4 := hb1.at 4
      have v5 := hb1.at 5
      have v6 := hb1.at 6
      have hk9 : (k : Int) < 4096 := by have := HN.out; omega
      have HLE := Lib.hid (bkw_next (L := L) (pre := pre) (x := ⟨(i, k), hk⟩))
      have HI := Lib.hid hI
      cases hop : O.getD k false
      · rw [hop] at x0
        have HSK : Hid (PtI E U w W gu n g6 gf gp Bb VC BX A c L (pre ++ [⟨(i, k), hk⟩]) O (.slice Ap xs.length cp) xs qs) := Lib.hid { hI with
          ql := by rw [List.length_append]; have := hI.ql; omega
          bck := fun hp => by
            obtain ⟨p1, p2, p3⟩ := HLE.out hp
            have hb := hI.bck p1
            rw [show L.length - pre.length = (L.length - (pre.length + 1)) + 1 from by omega] at hb
            rw [List.length_append]
            exact hb.skip p3 (by unfold opn; rw [hop]; simp) }
        clear hI hb1 hop HFR HEND
        gi_wp2
        exact ⟨KeepsFrom.refl _ _, kpR_refl _ _ _ _ _ _, O, qs, xs, _, HSK.out⟩
      · rw [hop] at x0
        have hs2 : Sp w W (RowT 1 (slV gu n) n (bvs O) :: RowT 1 (.slice none 0 0) 0 [] :: (PTX g6 gf gp Bb VC BX A c L (.slice Ap xs.length cp) xs qs ++ [RestT W W0.heap.size])) := Sp.second (X := PTX g6 gf gp Bb VC BX A c L (.slice Ap xs.length cp) xs qs ++ [RestT W W0.heap.size]) ((Sp.rest hI.sp hcl hw0).nil_row 1)
        have HRC := Lib.hid (HFR.out gu O k W _ hI.len hI.sub hop hs2)
        have hql : xs.length ≤ 100000 := by rw [hI.xe, List.length_map]; have := hI.ql; have := HL4.out; omega
        have HQL := Lib.hid hql
        clear hs2 hI hb1 hql hcl HFR
        gi_wp2_with (first
          | (refine ⟨trivial, ?_⟩; gi_at_call 46; refine (CallsIn.inRound l (callsIn_wide.2 HRC.out)).mono ?_; rintro e w3 ⟨O2, M, lv, rfl, hd, hm4, hs3⟩; obtain ⟨Av, cv, rfl⟩ := (hs3.grow 1 rfl).slice; have HS3 := Lib.hid hs3; have HD3 := Lib.hid hd; have HM4 := Lib.hid hm4; clear hs3 hd hm4)
          | (refine ⟨trivial, ?_⟩; gi_at_call 47; refine (CallsIn.inRound l (callsIn_wide.2 (sort_any HS3.out 1 (.slice Av M.length cv) M rfl (by have := HM4.out; omega)))).mono ?_; rintro e w4 ⟨rfl, S, hps, hos, hs4⟩; have HS4 : Hid (Sp w w4 (RowT 1 (slV gu n) n (bvs O2) :: RowT 1 (.slice Av M.length cv) S.length (qvs S) :: (PTX g6 gf gp Bb VC BX A c L (.slice Ap xs.length cp) xs qs ++ [RestT W W0.heap.size]))) := Lib.hid hs4; have HPS := Lib.hid hps; have HOS := Lib.hid hos; have y4 := (HS4.out.blk 4 rfl).at 0; have HPU := Lib.hid (push_sl HS4.out 5 rfl (.slice Av M.length cv) rfl HQL.out 22); clear hs4 hps hos)
          | (gi_at_builtin; obtain ⟨v5, w5, r5, h5⟩ := HPU.out; obtain ⟨A5, c5, e5⟩ := (h5.grow 5 rfl).slice; subst e5; refine wpListIn_append_run rfl _ _ _ _ rfl (by simp [go_sem]) (by simp [go_sem]) r5 ?_; have h5' := h5; simp only [List.cons_append, List.set_cons_succ, List.set_cons_zero] at h5'; have n3 := (h5'.blk 4 rfl).at 0; have n3f := (h5'.blk 4 rfl).thaw 0; have H6 := Lib.hid (Sp.poke h5' 4 rfl 0 (.slice A5 (xs ++ [Value.slice Av M.length cv]).length c5)); (try clear h5'); (try clear h5); (try clear r5)))
        obtain ⟨LV, hLV⟩ : ∃ LV : Value, LV = .slice Av M.length cv := ⟨_, rfl⟩
        obtain ⟨V5, hV5⟩ : ∃ V5 : Value, V5 = .slice A5 (xs ++ [Value.slice Av M.length cv]).length c5 := ⟨_, rfl⟩
        have h6 := H6.out
        simp only [List.set_cons_succ, List.set_cons_zero] at h6
        rw [show (#[Value.slice Ap xs.length cp] : Array Value).setIfInBounds 0 (.slice A5 (xs ++ [Value.slice Av M.length cv]).length c5) = #[.slice A5 (xs ++ [Value.slice Av M.length cv]).length c5] from rfl] at h6
        have h7 : Sp w (w5.setCell ⟨gp, 0, none⟩ (.slice A5 (xs ++ [Value.slice Av M.length cv]).length c5)) (RowT 1 (slV gu n) n (bvs O2) :: RowT 1 (.slice Av M.length cv) S.length (qvs S) :: (PTX g6 gf gp Bb VC BX A c L (.slice A5 (xs ++ [Value.slice Av M.length cv]).length c5) (xs ++ [Value.slice Av M.length cv]) qs ++ [RestT W W0.heap.size])) := h6
        have hkf := Sp.keptR h7
        have h8 := Sp.lastly h7
        have hkM : k ∈ M := by
          obtain ⟨L0, e⟩ := HD3.out.last
          rw [e]
          simp
        have hSm : ∀ x, x ∈ S ↔ x ∈ M := fun x => HPS.out.mem_iff
        have hSa : S.Pairwise (· < ·) := by
          have h1 : S.Nodup := HPS.out.nodup_iff.2 HD3.out.nodup
          exact (HOS.out.and h1).imp fun ⟨u, v⟩ => by omega
        have hfin : PtI E U w (w5.setCell ⟨gp, 0, none⟩ (.slice A5 (xs ++ [Value.slice Av M.length cv]).length c5)) gu n g6 gf gp Bb VC BX A c L (pre ++ [⟨(i, k), hk⟩]) O2 (.slice A5 (xs ++ [Value.slice Av M.length cv]).length c5) (xs ++ [Value.slice Av M.length cv]) (qs ++ [(.slice Av M.length cv, S)]) :=
          { xe := by rw [HI.out.xe, List.map_append]; rfl
            sp := by
              have e : PTX g6 gf gp Bb VC BX A c L (.slice A5 (xs ++ [Value.slice Av M.length cv]).length c5) (xs ++ [Value.slice Av M.length cv]) (qs ++ [(.slice Av M.length cv, S)]) = PTX g6 gf gp Bb VC BX A c L (.slice A5 (xs ++ [Value.slice Av M.length cv]).length c5) (xs ++ [Value.slice Av M.length cv]) qs ++ [RowT 1 (.slice Av M.length cv) S.length (qvs S)] := by
                simp only [PTX, List.map_append, List.map_cons, List.map_nil, List.cons_append]
              rw [e]
              exact h8
            len := HD3.out.len.trans HI.out.len
            sub := fun x hx => HI.out.sub x (HD3.out.sub x hx)
            ql := by
              have := HI.out.ql
              simp only [List.length_append, List.length_singleton]
              omega
            ne := fun q hq => by
              rcases List.mem_append.1 hq with hq | hq
              · exact HI.out.ne q hq
              · rw [List.mem_singleton] at hq
                rw [hq]
                intro e
                have := (hSm k).2 hkM
                rw [show S = [] from e] at this
                simp at this
            pn := .inl (by simp)
            bck := fun hp => by
              obtain ⟨p1, p2, p3⟩ := HLE.out hp
              have hb := HI.out.bck p1
              rw [show L.length - pre.length = (L.length - (pre.length + 1)) + 1 from by omega] at hb
              rw [List.map_append, List.length_append]
              exact hb.visit p3 HBK.out HUL2.out HD3.out hSm hSa }
        have el : (xs ++ [Value.slice Av M.length cv]).length = xs.length + 1 := by simp
        rw [el] at hkf h7 h8 hfin
        exact ⟨hkf, ⟨Sp.between HI.out.sp h8 hkf.size, fun _ => h7.blk 7 rfl, fun _ => Sp.rowOf h7 6 rfl⟩, O2, _, _, _, hfin⟩
    case done =>
      rintro D ys W hD hys ⟨O, qs, xs, pv, hI⟩ hK
      have hyl : ys.length = L.length := by
        have := congrArg List.length hys
        rw [bkw_len, List.length_map] at this
        exact this
      have hB := hI.bck (by rw [hys]; exact List.prefix_refl _)
      rw [hyl, Nat.sub_self] at hB
      have hcl := hI.cells HN0.out
      obtain ⟨Ap, cp, rfl⟩ := (hI.sp.grow 4 rfl).slice
      have gpc := (hI.sp.blk 3 rfl).at 0
      have hxl : xs.length = qs.length := by rw [hI.xe, List.length_map]
      have hs2 := Sp.rest hI.sp hcl hw0
      have hhd : ∀ q ∈ qs, q.2.headD 0 ∈ q.2 := fun q hq => by
        have := hI.ne q hq
        cases hc : q.2 with
        | nil => exact absurd hc this
        | cons a b => simp
      have HSF := Lib.hid (sortParts_any hs2 4 (.slice Ap xs.length cp) qs (by
          show some (RowT 1 (Value.slice Ap xs.length cp) xs.length xs) = _
          rw [hxl, hI.xe])
        (fun q hq => by
          obtain ⟨j, hj, e⟩ := List.getElem_of_mem hq
          refine ⟨j + 7, by omega, ?_⟩
          show ((qs.map (fun q => RowT 1 q.1 q.2.length (qvs q.2))) ++ [RestT W W0.heap.size])[j]? = _
          rw [List.getElem?_append_left (by simpa using hj), List.getElem?_map, List.getElem?_eq_getElem hj, e]
          rfl)
        hI.ne
        (fun q hq => by
          have h1 := ((hB.cls q.2 (List.mem_map.2 ⟨q, hq, rfl⟩) _ (hhd q hq) _).1 (hhd q hq)).1
          have h2 := opn_lt h1
          have := HUL.out
          have := HN.out
          omega)
        (fun a b q r ha hb e => by
          refine Classical.byContradiction fun hab => ?_
          have hap := hB.apart
          rw [List.pairwise_map, List.pairwise_iff_getElem] at hap
          obtain ⟨la, ea⟩ := List.getElem?_eq_some_iff.1 ha
          obtain ⟨lb, eb⟩ := List.getElem?_eq_some_iff.1 hb
          have ma := hhd q (List.mem_of_getElem? ha)
          have mb := hhd r (List.mem_of_getElem? hb)
          rcases Nat.lt_or_gt_of_ne hab with h | h
          · have := hap a b la lb h
            rw [ea, eb] at this
            exact this _ ma (e ▸ mb)
          · have := hap b a lb la h
            rw [ea, eb] at this
            exact this _ mb (e ▸ ma))
        (by have := hI.ql; rw [hyl] at this; have := HL4.out; omega))
      have HEN := Lib.hid (fun qs' w' => HEND.out L O Ap cp qs qs' w' hB HUL2.out)
      have HI := Lib.hid hI
      have HXL := Lib.hid hxl
      clear hs2 hB hhd HEND HST hcl hI hxl
      gi_wp2_with (refine ⟨trivial, ?_⟩; gi_at_call 48; refine (callsIn_wide.2 HSF.out).mono ?_; rintro e w3 ⟨rfl, qs', hpp, hoo, hs3⟩; have HS3 := Lib.hid hs3; have HPP := Lib.hid hpp; have HOO := Lib.hid hoo; have y3 := (hs3.blk 3 rfl).at 0; clear hs3 hpp hoo)
      have h3 := HS3.out
      have hkf : KeepsFrom W0.heap.size W w3 := Sp.kept h3 (7 + qs.length) (by
        rw [List.getElem?_set, if_neg (by omega)]
        show ((RowT 1 (slV gu n) n (bvs O) :: PTX g6 gf gp Bb VC BX A c L (.slice Ap xs.length cp) xs qs) ++ [RestT W W0.heap.size])[7 + qs.length]? = _
        rw [List.getElem?_append_right (by simp; omega)]
        simp only [PTX, List.length_cons, List.length_map]
        rw [show 7 + qs.length - (qs.length + 1 + 1 + 1 + 1 + 1 + 1 + 1) = 0 from by omega]
        rfl)
      have hK3 := hkf.same D _ hD hK rfl
      refine ⟨by simp, .inl ⟨_, _, rfl, run_takeDeferred hK3, ?_⟩⟩
      have h4 : Sp w w3 (RowT 1 (slV gu n) n (bvs O) :: PTX g6 gf gp Bb VC BX A c L (.slice Ap xs.length cp) (qs'.map (·.1)) qs) := by
        have el : qs'.length = (qs'.map (·.1)).length := by rw [List.length_map]
        simp only [List.cons_append, List.set_cons_succ, List.set_cons_zero] at h3
        rw [el] at h3
        exact h3.pick id (fun i j _ _ h => h) (fun i t h => by
          have hl := (List.getElem?_eq_some_iff.1 h).1
          have e := (List.getElem?_append_left (l₂ := [RestT W W0.heap.size]) hl).trans h
          exact e)
      have hcl4 : ∀ t ∈ (RowT 1 (slV gu n) n (bvs O) :: PTX g6 gf gp Bb VC BX A c L (.slice Ap xs.length cp) (qs'.map (·.1)) qs), CellsT t := by
        intro t ht
        simp only [List.mem_cons] at ht
        rcases ht with rfl | rfl | rfl | rfl | rfl | rfl | rfl | ht
        · exact cellsT_row _ _ _ (.inl HN0.out)
        · exact cellsT_blk _ _ _
        · exact cellsT_blk _ _ _
        · exact cellsT_blk _ _ _
        · exact cellsT_row _ _ _ (by
            rw [List.length_map, HPP.out.length_eq, ← HXL.out]
            exact HI.out.pn)
        · exact cellsT_rowV _ _
        · exact cellsT_blk _ _ _
        · obtain ⟨q, hq, rfl⟩ := List.mem_map.1 ht
          exact cellsT_row _ _ _ (.inl (List.length_pos_iff.2 (HI.out.ne q hq)))
      have h5 := Sp.own h4 hcl4 (grownBy_putObj' _ D (.deferred none)) hw0 (fun r e => by cases e; exact ⟨hD, _, hK3, rfl⟩)
      have el : xs.length = qs'.length := by rw [HXL.out, HPP.out.length_eq]
      refine ⟨_, results_tmp rfl _ _ _, ?_⟩
      show QQ (.returned (.slice Ap xs.length cp)) _
      rw [el]
      rw [el] at h5
      refine HEN.out qs' _ HPP.out HOO.out ?_ ?_ h5.below
      · have hg := h5.grow 4 rfl
        rw [List.length_map] at hg
        exact row_of_any hg
      · intro q hq
        obtain ⟨j, hj, e⟩ := List.getElem_of_mem hq
        have hg := h5.grow (7 + j) (v := q.1) (n := q.2.length) (xs := qvs q.2) (by
          rw [show 7 + j = j + 7 from by omega]
          show (qs.map (fun q => RowT 1 q.1 q.2.length (qvs q.2)))[j]? = _
          rw [List.getElem?_map, List.getElem?_eq_getElem hj, e]
          rfl)
        obtain ⟨A', c', e'⟩ := hg.slice
        refine ⟨A', c', e', ?_⟩
        rw [e'] at hg
        exact row_of_any hg
    case stop =>
      rintro D c pre W _ _ h _
      exact h.elim
end Rgn
end Go.Proofs.YtgophgnfiboefaaGreatDoor

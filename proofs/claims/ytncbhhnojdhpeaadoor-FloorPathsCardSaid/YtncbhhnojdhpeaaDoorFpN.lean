/- The program's Path. -/
import Derived.Test.YtncbhhnojdhpeaaDoorFpL
namespace Go.Proofs.YtncbhhnojdhpeaaDoor
open Go.RowKit Wire
open Txt (Row)
open Own
open Dsk (Only nth)
set_option linter.unusedVariables false
set_option linter.unusedSimpArgs false
namespace Flo
/-- What Path returns, in memory. -/
def PathPost (f : Fl) (avoid : List Int) (a b : Int) (w : World) (e : Ending) (w' : World) : Prop :=
  ∃ A c l, e = .returned (.slice A (List.length l) c) ∧ PathIs f avoid a b l ∧ Row w' w'.heap.size A (ivs l) ∧ Below w.heap.size w w'
theorem pathIs_nocell {f : Fl} {avoid : List Int} {a b : Int} (ho : f.ok) (h : f.is b = false) : PathIs f avoid a b [] :=
  .inl ⟨rfl, fun a' b' _ hb k hto => by
    have h1 : Fw f avoid a' k b' := (fw_iff ho).2 hto
    have h2 := (walk_open ho h1).1
    have h3 := of_decide_eq_false h
    have h4 := ho.kinds
    omega⟩
theorem pathIs_noway {f : Fl} {avoid : List Int} {a : Int} {kb : Nat} {out : List Int} (ho : f.ok) (hb : kb < f.Kind.length) (hd : IsDist f.Kind.length (spSrc f [a] avoid) (spE f avoid false) out) (h : gt out kb = -1) : PathIs f avoid a kb [] :=
  .inl ⟨rfl, fun a' b' ha hb' k hto => by
    obtain rfl : kb = b' := by omega
    subst ha
    exact hd.none_ kb hb h k ((fw_iff ho).2 hto)⟩
/-- The way, and where it begins. -/
theorem Ex.path {f : Fl} {avoid : List Int} {a : Int} {kb k : Nat} {q : List Nat} {out bf : List Int} {s : Nat} {P D : Nat → Nat} (h : Ex f [a] avoid q out bf s q.length 0 P D) (ho : f.ok) (hb : kb < f.Kind.length) (hk : gt out kb = k) :
    PathIs f avoid a kb ((wayL bf kb k).map (fun c : Nat => (c : Int))) ∧ ∀ t, t ≤ k → anc bf kb t < f.Kind.length ∧ (t < k → gt bf (anc bf kb t) = anc bf kb (t + 1)) := by
  obtain ⟨x, _, hw, _⟩ := (h.dist (Nat.le_refl _)).some_ kb hb (by omega)
  have hsrc : ∀ {x c : Nat}, Walk (spSrc f [a] avoid) (spE f avoid false) x c → ∃ a' : Nat, spSrc f [a] avoid a' := by
    intro x c hw
    induction hw with
    | src h => exact ⟨_, h⟩
    | step _ _ ih => exact ih
  obtain ⟨a', ha'⟩ := hsrc hw
  have e : a = a' := by
    have := ha'.2.1
    simp at this
    exact this.symm
  subst e
  obtain ⟨_, h1, h2⟩ := spSrc_one.1 ha'
  have hD := h.done h1 h2
  refine ⟨.inr ⟨a', kb, _, rfl, rfl, rfl, hD.least ho hb hk⟩, fun t ht => ?_⟩
  obtain ⟨PP, DD, hO⟩ := hD.ord
  obtain ⟨⟨m1, _⟩, m2⟩ := hD.ahead hO hb hk t ht
  exact ⟨(hD.inq _ m1).1, fun h => (m2 h).1⟩
abbrev pthX (w : World) (fW fH fD : Int) (A1 : Option Addr) (n c1 : Nat) (A2 : Option Addr) (n2 c2 : Nat) (a : Int) (gd gb gS gc : Nat) (qv : Value) (out bf : List Int) : List Thing :=
  [BlkT w.heap.size 24 (boxV fW fH fD A1 n c1 A2 n2 c2), BlkT (w.heap.size + 1) 3 #[.int .i64 a], RowT 1 (slV gd n) n (ivs out), RowT 1 (slV gb n) n (ivs bf), BlkT gS 53 #[slV gc n, qv, slV gd n, slV gb n]]
/-- While the way is written down, from its end. -/
structure WayR (W : World) (X : List Thing) (gp k K1 : Nat) (bf : List Int) (kb : Nat) (bv iv : Value) (wr : World) (t : Nat) (ps : List Int) : Prop where
  iv : iv = .int .i64 t
  le : t ≤ K1
  bv : ∃ z : Int, bv = .int .i64 z ∧ (t ≤ k → z = anc bf kb t)
  sp : Sp W wr (X ++ [RowT 1 (slV gp K1) K1 (ivs ps)])
  len : ps.length = K1
  val : ∀ j : Nat, j < t → gt ps j = anc bf kb j
theorem way_rev {bf : List Int} {kb k : Nat} {ps : List Int} (hl : ps.length = k + 1) (hv : ∀ j : Nat, j < k + 1 → gt ps j = anc bf kb j) : ps.reverse = (wayL bf kb k).map (fun c : Nat => (c : Int)) := by
  refine List.ext_getElem? fun t => ?_
  by_cases ht : t ≤ k
  · rw [List.getElem?_map, wayL_at ht, List.getElem?_reverse (by omega), hl, gt_of (by omega), hv _ (by omega), show k + 1 - 1 - t = k - t from by omega]
    rfl
  · rw [List.getElem?_eq_none (by rw [List.length_reverse]; omega), List.getElem?_eq_none (by unfold wayL; simp; omega)]
set_option maxRecDepth 100000 in
set_option maxHeartbeats 8000000 in
theorem path_any {f : Fl} (ho : f.ok) (p : Pl) (a b : Int) (B : Option Addr) (cb : Nat) (avoid : List Int) (w : World) (hv : VS w) (hin : FlIn w f p) (ha : Row w w.heap.size B (ivs avoid)) (hla : avoid.length ≤ 1000000) :
    Calls Tryd.prog 27 #[f.val p, .int .i64 a, .int .i64 b, .slice B avoid.length cb] w (PathPost f avoid a b w) := by
  have HEX : Hid (∀ w', Below w.heap.size w w' → ∀ gx, w'.cell? ⟨gx, 0, none⟩ = some (.int .i64 a) → Calls Tryd.prog 40 #[f.val p, .slice (some ⟨gx, 0, none⟩) 1 1, .slice B avoid.length cb] w' (ExPost f [a] avoid w')) := Lib.hid fun w' b gx hx => explore_any ho p (some ⟨gx, 0, none⟩) B 1 cb [a] avoid w' (hv.lift b) (hin.lift b) (fun k u hu => by
    have hk := (List.getElem?_eq_some_iff.1 hu).1
    have hk' : k < 1 := hk
    obtain rfl : k = 0 := by omega
    have hu' : some (Value.int .i64 a) = some u := hu
    exact ⟨gx, 0, rfl, World.block_lt_of_cell? w' _ hx, by rw [Nat.zero_add, hx]; exact hu'⟩) (ha.lift b) (by show 1 ≤ 1000000; omega) hla
  have HIB := Lib.hid (fun w => isCell_any ho p b w)
  have hn4 : f.Kind.length ≤ 4096 := by have := ho.kinds; have := ho.size; omega
  have HN := Lib.hid hn4
  have HIS : Hid (f.is b = true ↔ (0 ≤ b ∧ b < (f.Kind.length : Int))) := Lib.hid (by
    unfold Fl.is
    rw [decide_eq_true_iff, ho.kinds])
  have HNO : Hid (f.is b = false → ∀ w', Below w.heap.size w w' → PathPost f avoid a b w (.returned (.slice none 0 0)) w') := Lib.hid fun h w' b => ⟨none, 0, [], rfl, pathIs_nocell ho h, fun k u hu => by simp at hu, b⟩
  have HHO := Lib.hid ho
  clear hv hin ha hla hn4 ho
  obtain ⟨n, hn⟩ : ∃ n : Nat, n = f.Kind.length := ⟨_, rfl⟩
  have HNF : Hid (n = f.Kind.length) := Lib.hid hn
  obtain ⟨A1, c1, A2, c2⟩ := p
  have HVAL : Hid (f.val ⟨A1, c1, A2, c2⟩ = .agg #[.int .i64 f.W, .int .i64 f.H, .int .i64 f.D, .slice A1 n c1, .slice A2 f.Out.length c2]) := Lib.hid (by rw [hn])
  rw [HVAL.out] at HEX HIB ⊢
  unfold ExPost at HEX
  rw [← hn] at HIS HN HEX
  clear hn HVAL
  have HQ : Hid (∀ e w', PathPost f avoid a b w e w' → PathPost f avoid a b w e w') := Lib.hid fun e w' h => h
  generalize hPQ : PathPost f avoid a b w = Q at *
  have HPQ := Lib.hid hPQ
  clear hPQ HQ
  generalize f.W = fW at *
  generalize f.H = fH at *
  generalize f.D = fD at *
  generalize f.Out.length = n2 at *
  have H0 : Hid (Sp w ((w.alloc (.cells (boxV fW fH fD A1 n c1 A2 n2 c2) 24)).alloc (.cells #[.int .i64 a] 3)) [BlkT w.heap.size 24 (boxV fW fH fD A1 n c1 A2 n2 c2), BlkT (w.heap.size + 1) 3 #[.int .i64 a]]) := Lib.hid (by
    have h1 := (Sp.nil (Below.refl w.heap.size w)).local 24 (boxV fW fH fD A1 n c1 A2 n2 c2)
    have h2 := h1.local 3 #[.int .i64 a]
    rw [show (w.alloc (.cells (boxV fW fH fD A1 n c1 A2 n2 c2) 24)).heap.size = w.heap.size + 1 from by simp] at h2
    exact h2)
  go_enter Tryd.func27, Tryd.ntmps27
  go_upto_region 2 with (go_at_call 40; refine (HEX.out _ H0.out.below (w.heap.size + 1) ((H0.out.blk 1 rfl).at 0)).mono ?_; rintro e w1 ⟨gc, gd, gb, Aq, cq, q, out, bf, s, P, D, rfl, h1, h2⟩; have HE := Lib.hid h1; have HS := Lib.hid h2; clear h1 h2)
  have hX := (join H0.out HS.out).local 53 #[slV gc n, .slice Aq q.length cq, slV gd n, slV gb n]
  have HX : Hid (Sp w (w1.alloc (.cells #[slV gc n, .slice Aq q.length cq, slV gd n, slV gb n] 53)) (pthX w fW fH fD A1 n c1 A2 n2 c2 a gd gb w1.heap.size gc (.slice Aq q.length cq) out bf)) := Lib.hid hX
  clear hX H0 HS
  generalize (w1.alloc (.cells #[slV gc n, .slice Aq q.length cq, slV gd n, slV gb n] 53)) = w2 at *
  generalize w1.heap.size = gS at *
  have HBX : Hid (∀ w' o b2 r, Sp w w' (pthX w fW fH fD A1 n c1 A2 n2 c2 a gd gb gS gc (.slice Aq q.length cq) o b2 ++ r) → ∀ w'', Below w'.heap.size w' w'' → BoxS w.heap.size fW fH fD A1 n c1 A2 n2 c2 w'') := Lib.hid fun w' o b2 r h w'' b => boxS ((h.blk 0 rfl).under b (h.blk 0 rfl).inside)
  have HSX : Hid (∀ w' r, Sp w w' (pthX w fW fH fD A1 n c1 A2 n2 c2 a gd gb gS gc (.slice Aq q.length cq) out bf ++ r) → w'.cell? ⟨gS, 2, none⟩ = some (slV gd n) ∧ w'.cell? ⟨gS, 3, none⟩ = some (slV gb n)) := Lib.hid fun w' r h => ⟨(h.blk 4 rfl).at 2, (h.blk 4 rfl).at 3⟩
  obtain ⟨m0, m1, m2, m3, m4⟩ := HBX.out w2 out bf [] (by rw [List.append_nil]; exact HX.out) _ (Below.refl _ _)
  cases hib : f.is b
  · have HR := Lib.hid (HNO.out hib)
    rw [hib] at HIB
    clear HNO hib HIS
    go_wp2_with (go_at_call 35; refine (HIB.out _).mono ?_; rintro e w5 ⟨rfl, b5⟩; have H5 := Lib.hid (HX.out.keep b5); clear b5)
    exact HR.out _ H5.out.below
  · obtain ⟨hb0, hb1⟩ := HIS.out.1 hib
    rw [hib] at HIB
    obtain ⟨kb, rfl⟩ : ∃ kb : Nat, b = kb := ⟨b.toNat, by omega⟩
    have hkb : kb < n := by omega
    have HKB := Lib.hid hkb
    have holen : out.length = n := by rw [HE.out.bfs.len]; exact HNF.out.symm
    have hblen : bf.length = n := by rw [HE.out.ord.blen]; exact HNF.out.symm
    have HOL := Lib.hid holen
    have HBL := Lib.hid hblen
    have HOC := Lib.hid (ivs_at (l := out) (k := kb) (by omega))
    clear HNO hib HIS holen hblen
    by_cases hneg : gt out kb < 0
    · have HR : Hid (∀ w', Below w.heap.size w w' → Q (.returned (.slice none 0 0)) w') := Lib.hid fun w' b => by
        rw [← HPQ.out]
        refine ⟨none, 0, [], rfl, pathIs_noway HHO.out (by rw [← HNF.out]; exact HKB.out) (HE.out.dist (Nat.le_refl _)) ?_, (fun k u hu => by simp at hu), b⟩
        apply Classical.byContradiction
        intro e
        obtain ⟨k, h5, _⟩ := (HE.out.dist (Nat.le_refl _)).some_ kb (by rw [← HNF.out]; exact HKB.out) e
        omega
      generalize gt out kb = oz at *
      go_wp2_with (go_at_call 35; refine (HIB.out _).mono ?_; rintro e w5 ⟨rfl, b5⟩; have H5 := Lib.hid (HX.out.keep b5); clear b5; obtain ⟨k2, k3⟩ := HSX.out _ [] (by rw [List.append_nil]; exact H5.out); obtain ⟨y0, y1⟩ := Grow.cell (H5.out.grow 2 rfl) HOC.out)
      exact HR.out _ H5.out.below
    · obtain ⟨k, hk⟩ : ∃ k : Nat, gt out kb = k := ⟨(gt out kb).toNat, by omega⟩
      obtain ⟨hpi, han⟩ := HE.out.path HHO.out (by rw [← HNF.out]; exact hkb) hk
      have hk4 : k < 4096 := by
        have h1 : kb ∈ q := Classical.byContradiction fun e => by have := HE.out.bfs.neg kb e; omega
        obtain ⟨j, hj⟩ := List.getElem?_of_mem h1
        have h2 := HE.out.bfs.idx j kb hj
        have h3 := (List.getElem?_eq_some_iff.1 hj).1
        have h4 := HE.out.bfs.len_le
        have := HNF.out
        have := HN.out
        omega
      have HPI := Lib.hid hpi
      have HAN : Hid (∀ t, t ≤ k → anc bf kb t < n ∧ (t < k → gt bf (anc bf kb t) = anc bf kb (t + 1))) := Lib.hid (by rw [HNF.out]; exact han)
      rw [hk] at HOC
      clear hneg hk hpi han hb0 hb1
      obtain ⟨K1, hK1⟩ : ∃ K1 : Nat, K1 = k + 1 := ⟨_, rfl⟩
      have hKZ : (k : Int) + 1 = (K1 : Int) := by omega
      have hK4 : K1 ≤ 4096 := by omega
      have HK1 := Lib.hid hK1
      obtain ⟨ii, hii, hii0, hii1, hii2⟩ := info_parts Dsk.info_int
      clear hK1
      go_upto_region 5 with (first
        | (go_at_call 35; refine (HIB.out _).mono ?_; rintro e w5 ⟨rfl, b5⟩; have H5 := Lib.hid (HX.out.keep b5); clear b5; obtain ⟨k2, k3⟩ := HSX.out _ [] (by rw [List.append_nil]; exact H5.out); obtain ⟨y0, y1⟩ := Grow.cell (H5.out.grow 2 rfl) HOC.out)
        | (refine wpList_make_row rfl _ _ 22 3 ii _ 8 rfl Tryd.underlying22 hii hii0 hii1 hii2 (by omega) rfl K1 (by omega) rfl rfl ?_; intro w6 g6 b6; have G6 := Lib.hid g6; have B6 := Lib.hid b6; clear g6 b6))
      have HW0 : Hid (WayR w (pthX w fW fH fD A1 n c1 A2 n2 c2 a gd gb gS gc (.slice Aq q.length cq) out bf) w5.heap.size k K1 bf kb (.int .i64 kb) (.int .i64 0) w6 0 (List.replicate K1 0)) := Lib.hid ⟨rfl, Nat.zero_le _, ⟨kb, rfl, fun _ => rfl⟩, by
        have := H5.out.new_row B6.out G6.out
        rwa [show List.replicate K1 (Value.int .i64 0) = ivs (List.replicate K1 0) from (List.map_replicate ..).symm] at this, List.length_replicate, fun j hj => by omega⟩
      generalize w5.heap.size = gp at *
      clear G6 B6 H5 HX y0 y1 k2 k3 m0 m1 m2 m3 m4 HOC HOL HIB HEX
      go_wp2_with fail
      go_loopw [2, 11, 38] (fun bv _ iv wr => ∃ t ps, WayR w (pthX w fW fH fD A1 n c1 A2 n2 c2 a gd gb gS gc (.slice Aq q.length cq) out bf) gp k K1 bf kb bv iv wr t ps) (fun _ _ iv _ => K1 - (intOf iv).toNat)
      case atStart => exact ⟨0, _, HW0.out⟩
      case round =>
        clear HW0
        obtain ⟨t, ps, hW⟩ := hrel
        obtain rfl := hW.iv
        obtain ⟨z, rfl, hz⟩ := hW.bv
        have hle := hW.le
        have HW := Lib.hid hW
        clear hW
        by_cases hlt : t < K1
        · have htk : t ≤ k := by have := HK1.out; omega
          obtain rfl := hz htk
          obtain ⟨ha1, ha2⟩ := HAN.out t htk
          obtain ⟨x0, x1⟩ := Grow.cell (HW.out.sp.grow 5 rfl) (ivs_at (l := ps) (k := t) (by rw [HW.out.len]; exact hlt))
          have h3 : Sp w (wr.setCell ⟨gp, t, none⟩ (.int .i64 (anc bf kb t : Int))) (pthX w fW fH fD A1 n c1 A2 n2 c2 a gd gb gS gc (.slice Aq q.length cq) out bf ++ [RowT 1 (slV gp K1) K1 (ivs (ps.set t (anc bf kb t : Int)))]) := by
            have := HW.out.sp.store 5 rfl t hlt (.int .i64 (anc bf kb t : Int))
            rw [ivs_set] at this
            exact this
          obtain ⟨k2, k3⟩ := HSX.out _ _ h3
          obtain ⟨y0, y1⟩ := Grow.cell (h3.grow 3 rfl) (ivs_at (l := bf) (k := anc bf kb t) (by rw [HBL.out]; exact ha1))
          have H3 := Lib.hid h3
          have HL2 : Hid ((ps.set t (anc bf kb t : Int)).length = K1) := Lib.hid (by rw [List.length_set]; exact HW.out.len)
          have HV2 : Hid (∀ j : Nat, j < t + 1 → gt (ps.set t (anc bf kb t : Int)) j = anc bf kb j) := Lib.hid fun j hj => by
            rw [gt_set (by rw [HW.out.len]; exact hlt)]
            by_cases e : j = t
            · rw [if_pos e, e]
            · rw [if_neg e]
              exact HW.out.val j (by omega)
          have HA2 : Hid (t + 1 ≤ k → gt bf (anc bf kb t) = anc bf kb (t + 1)) := Lib.hid fun h => ha2 (by omega)
          have ht4 : (t : Int) < 4096 := by omega
          have HA1 : ((anc bf kb t : Nat) : Int) < n := by omega
          have HN9 : (n : Int) ≤ 4096 := by have := HN.out; omega
          clear h3 ha2 ha1 hz
          generalize gt bf (anc bf kb t) = bz at *
          generalize hps : ps.set t (anc bf kb t : Int) = ps2 at *
          clear hps
          generalize anc bf kb t = an at *
          go_wp2_with fail
          go_roundw
          case rel => exact ⟨t + 1, ps2, by simp, hlt, ⟨bz, rfl, HA2.out⟩, H3.out, HL2.out, HV2.out⟩
          case measure => simp [intOf]; omega
        · obtain rfl : t = K1 := by omega
          have HRV := Lib.hid (reverse_any HW.out.sp 5 gp t ps rfl HW.out.len (by omega))
          have HRE : Hid (ps.reverse = (wayL bf kb k).map (fun c : Nat => (c : Int))) := Lib.hid (way_rev (by rw [HW.out.len]; exact HK1.out) (fun j hj => HW.out.val j (by have := HK1.out; omega)))
          have HLR : Hid (ps.reverse.length = t) := Lib.hid (by rw [List.length_reverse]; exact HW.out.len)
          generalize ps.reverse = rs at *
          have HFI : Hid (∀ w', Sp w w' ((pthX w fW fH fD A1 n c1 A2 n2 c2 a gd gb gS gc (.slice Aq q.length cq) out bf ++ [RowT 1 (slV gp t) t (ivs ps)]).set 5 (RowT 1 (slV gp t) t (ivs rs))) → Q (.returned (slV gp t)) w') := Lib.hid fun w' h => by
            rw [← HPQ.out]
            refine ⟨_, _, rs, by rw [HLR.out], by rw [HRE.out]; exact HPI.out, row_of_grow (h.grow 5 rfl), h.below⟩
          clear HPI HAN HRE HLR
          go_wp2_with (go_at_call 42; refine HRV.out.mono ?_; rintro e w8 ⟨rfl, h8⟩; have H8 := Lib.hid (HFI.out _ h8); clear h8)
          exact H8.out
end Flo
end Go.Proofs.YtncbhhnojdhpeaaDoor

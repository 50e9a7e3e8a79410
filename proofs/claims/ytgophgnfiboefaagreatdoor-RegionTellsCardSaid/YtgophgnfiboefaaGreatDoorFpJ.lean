/- The program's newSearch. -/
import Derived.Test.YtgophgnfiboefaaGreatDoorFpI
namespace Go.Proofs.YtgophgnfiboefaaGreatDoor
open Go.RowKit Wire
open Txt (Row)
open Own
open Dsk (Only nth)
set_option linter.unusedVariables false
set_option linter.unusedSimpArgs false
namespace Flo
/-- No thing yet. -/
def NoT : Thing where
  at_ w F := ∀ x, ¬ F x
  keep h _ _ := h
theorem Sp.fill {W w w' : World} {T : List Thing} {t : Thing} (h : Sp W w T) (i : Nat) (hi : T[i]? = some NoT) (b : Below w.heap.size w w') {F : Nat → Prop} (ht : t.at_ w' F) (hf : ∀ x, F x → w.heap.size ≤ x ∧ x < w'.heap.size) : Sp W w' (T.set i t) :=
  h.turn i hi fun G _ _ => ⟨F, ht, fun x hx => .inr (hf x hx), Only.of_below b⟩
theorem more {W w : World} {T : List Thing} (h : Sp W w T) : Sp W w (T ++ [NoT]) :=
  h.new (Below.refl _ w) (F := fun _ => False) (fun x hx => hx) fun x hx => hx.elim
abbrev zeroS : Array Value := #[.slice none 0 0, .slice none 0 0, .slice none 0 0, .slice none 0 0]
def vs (n : Nat) : ON → Value
  | none => undef
  | some g => slV g n
def v1 : ON → Value
  | none => undef
  | some g => .slice (some ⟨g, 0, none⟩) 1 1
def vp : ON → Value
  | none => undef
  | some g => ptrV g
def rowO (n : Nat) (xs : List Value) : ON → Thing
  | none => NoT
  | some g => RowT 1 (slV g n) n xs
def blkO (ty : TypeId) (cs : Array Value) : ON → Thing
  | none => NoT
  | some g => BlkT g ty cs
/-- The five blocks that newSearch makes, those that are made. -/
def NewR (W : World) (n : Nat) (X : List Thing) (o1 o2 o3 o4 o5 : ON) (w : World) : Prop :=
  Sp W w (rowO n (bvs (List.replicate n false)) o1 :: blkO 3 #[.int .i64 (-1)] o2 :: rowO n (ivs (List.replicate n (-1))) o3 :: rowO n (ivs (List.replicate n 0)) o4 :: blkO 78 zeroS o5 :: X)
theorem wp_make_row {P : Program} {w : World} {o : Oper} {a : Act} {K : Act → World → Prop} {Q : Exit → Act → World → Prop} (l c : Operand) (t e : TypeId) (i : TypeInfo) (z : Value) (bytes : Nat) (hop : o.op = Op.makeSlice t l c)
    (ht : P.underlying t = some (.slice e)) (hi : P.info? e = some i) (hiz : i.zero = some z) (hs : i.size = 1) (hby : i.bytes = bytes) (hb8 : bytes ≤ 64) (hz : z.cells = #[z]) (n : Nat) (hn : n ≤ 1000000000) (hl : a.eval l = .int .i64 n) (hc : a.eval c = .int .i64 n)
    (h : ∀ w', Grow w' w.heap.size 1 (.slice (some ⟨w.heap.size, 0, none⟩) n n) n (List.replicate n z) → Below w.heap.size w w' → K (a.put o.dst (.slice (some ⟨w.heap.size, 0, none⟩) n n)) w') :
    Oper.wp P o a w K Q := by
  subst hby
  have hrun := run_make (P := P) w t e i z ht hi hiz .i64 .i64 (n : Int) (n : Int) (by omega) (by omega) (by
    have : (i.bytes : Int) * (n : Int) ≤ 64 * 1000000000 := Int.mul_le_mul (by omega) (by omega) (by omega) (by omega)
    omega) (by omega)
  have e2 : ((n : Int)).toNat = n := by omega
  rw [e2, hs, Nat.mul_one] at hrun
  unfold Oper.wp
  simp [execOp, hop, hl, hc, hrun, Result.andThen]
  exact h _ (made_grow w e z hz n hn) ((Below.refl _ w).alloc (Nat.le_refl _) _)
/-- A struct of four cells stored where one lies. -/
theorem poke4 {W w : World} {T : List Thing} {g : Nat} {ty : TypeId} {a b c d a' b' c' d' : Value} (h : Sp W w T) (i : Nat) (hi : T[i]? = some (BlkT g ty #[a', b', c', d'])) : Sp W (w.setCells g 0 [a, b, c, d]) (T.set i (BlkT g ty #[a, b, c, d])) := by
  have hlt := (List.getElem?_eq_some_iff.1 hi).1
  have h1 := Sp.poke h i hi 0 a
  have h2 := Sp.poke h1 i (by rw [List.getElem?_set_self hlt]) 1 b
  have h3 := Sp.poke h2 i (by rw [List.getElem?_set_self (by rw [List.length_set]; exact hlt)]) 2 c
  have h4 := Sp.poke h3 i (by rw [List.getElem?_set_self (by rw [List.length_set, List.length_set]; exact hlt)]) 3 d
  rw [List.set_set, List.set_set, List.set_set] at h4
  exact h4
theorem four_there {W w : World} {T : List Thing} {g : Nat} {ty : TypeId} {a' b' c' d' : Value} (h : Sp W w T) (i : Nat) (hi : T[i]? = some (BlkT g ty #[a', b', c', d'])) : w.there g 0 4 := by
  have hb := h.blk i hi
  intro j hj
  rw [Nat.zero_add]
  refine ⟨?_, hb.thaw j⟩
  rw [hb.at]
  obtain rfl | rfl | rfl | rfl : j = 0 ∨ j = 1 ∨ j = 2 ∨ j = 3 := by omega
  all_goals rfl
theorem info_search : (Tryz.prog.info? 78).map (·.size) = some 4 := by kernel_rfl
theorem wpList_store4 {P : Program} {w : World} {ops : Array Oper} {rest : List Oper} {o : Oper} {ac : Act} {Q : Exit → Act → World → Prop} (hgd : o.guard = none) (ty : TypeId) (x y : Operand) (ho : o.op = .store ty x y) (g : Nat) (a b c d : Value)
    (hx : ac.eval x = .pointer (some ⟨g, 0, none⟩)) (hy : ac.eval y = .agg #[a, b, c, d]) (ht : w.there g 0 4) (hi : (P.info? ty).map (·.size) = some 4) (h1 : a.oneCell' = true) (h2 : b.oneCell' = true) (h3 : c.oneCell' = true) (h4 : d.oneCell' = true)
    (h : wpList P ops Q rest (ac.put o.dst undef) (w.setCells g 0 [a, b, c, d])) : wpList P ops Q (o :: rest) ac w :=
  wpList_plain hgd fun K hK => Dsk.wp_store_lie ty x y ho g 0 4 [a, b, c, d] hx hy rfl ht hi (fun v hv => by
    simp at hv
    rcases hv with rfl | rfl | rfl | rfl
    · exact h1
    · exact h2
    · exact h3
    · exact h4) fun w' e _ _ => by subst e; exact hK _ _ h
structure NsA (W : World) (X : List Thing) (g n : Nat) (KK : Int → Int) (iv : Value) (wr : World) (i : Nat) (bs : List Bool) : Prop where
  iv : iv = .int .i64 i
  le : i ≤ n
  sp : Sp W wr (RowT 1 (slV g n) n (bvs bs) :: X)
  len : bs.length = n
  val : ∀ c : Nat, c < n → bs.getD c false = (decide (c < i) && KK c == 0)
structure NsB (W : World) (X : List Thing) (g n : Nat) (KK : Int → Int) (avoid : List Int) (iv : Value) (wr : World) (i : Nat) (bs : List Bool) : Prop where
  iv : iv = .int .i64 i
  le : i ≤ avoid.length
  sp : Sp W wr (RowT 1 (slV g n) n (bvs bs) :: X)
  len : bs.length = n
  val : ∀ c : Nat, c < n → bs.getD c false = (decide ((c : Int) ∈ avoid.take i) || KK c == 0)
set_option maxRecDepth 100000 in
set_option maxHeartbeats 8000000 in
theorem newSearch_any {f : Fl} (ho : f.ok) (p : Pl) (B : Option Addr) (cb : Nat) (avoid : List Int) (w : World) (hin : FlIn w f p) (ha : Row w w.heap.size B (ivs avoid)) (hla : avoid.length ≤ 1000000) :
    Calls Tryz.prog 98 #[f.val p, .slice B avoid.length cb] w fun e w' => ∃ gc gd gb cl, e = .returned (.agg #[slV gc f.Kind.length, .slice none 0 0, slV gd f.Kind.length, slV gb f.Kind.length]) ∧ cl.length = f.Kind.length ∧ (∀ c : Nat, c < f.Kind.length → cl.getD c false = shutB f avoid c) ∧ Sp w w' [RowT 1 (slV gc f.Kind.length) f.Kind.length (bvs cl), RowT 1 (slV gd f.Kind.length) f.Kind.length (ivs (List.replicate f.Kind.length (-1))), RowT 1 (slV gb f.Kind.length) f.Kind.length (ivs (List.replicate f.Kind.length 0))] := by
  have HIC := Lib.hid (fun c w => isCell_any ho p c w)
  have hn4 : f.Kind.length ≤ 4096 := by have := ho.kinds; have := ho.size; omega
  obtain ⟨ib, hib, hib0, hib1, hib2⟩ := info_parts info_bool
  obtain ⟨ii, hii, hii0, hii1, hii2⟩ := info_parts Dsk.info_int
  have HSH : Hid (∀ c : Nat, shutB f avoid c = (decide ((c : Int) ∈ avoid) || f.kindAt c == 0)) := Lib.hid fun c => rfl
  have HIS : Hid (∀ c, f.is c = true ↔ (0 ≤ c ∧ c < (f.Kind.length : Int))) := Lib.hid fun c => by
    unfold Fl.is
    rw [decide_eq_true_iff, ho.kinds]
  have HKI : Hid (∀ k, k < f.Kind.length → ∃ b o, p.A1 = some ⟨b, o, none⟩ ∧ ∀ w', Below w.heap.size w w' → w'.cell? ⟨b, o + k, none⟩ = some (.int .i64 (f.kindAt k))) := Lib.hid fun k hk => by
    have := row_val hin.kind hk
    have e : f.kindAt k = f.Kind.getD k 0 := by unfold Fl.kindAt; simp
    rw [e]
    exact this
  have HAV : Hid (∀ k, k < avoid.length → ∃ b o, B = some ⟨b, o, none⟩ ∧ ∀ w', Below w.heap.size w w' → w'.cell? ⟨b, o + k, none⟩ = some (.int .i64 (avoid.getD k 0))) := Lib.hid fun k hk => row_val ha hk
  have HLA := Lib.hid hla
  clear ho hin ha hla
  generalize shutB f avoid = SH at *
  generalize f.is = isf at *
  generalize f.kindAt = KK at *
  obtain ⟨A1, c1, A2, c2⟩ := p
  obtain ⟨W, H, D, K, O⟩ := f
  dsimp only [Fl.val] at *
  generalize K.length = n at *
  generalize O.length = n2 at *
  have HN := Lib.hid hn4
  have H0 : Hid (Sp w ((w.alloc (.cells #[.int .i64 W, .int .i64 H, .int .i64 D, .slice A1 n c1, .slice A2 n2 c2] 24)).alloc (.cells zeroS 78)).drew [NoT, NoT, NoT, NoT, NoT, BlkT w.heap.size 24 (boxV W H D A1 n c1 A2 n2 c2), BlkT (w.heap.size + 1) 78 zeroS]) := Lib.hid (by
    have h1 := (Sp.nil (Below.refl w.heap.size w)).local 24 (boxV W H D A1 n c1 A2 n2 c2)
    have h2 := h1.local 78 zeroS
    rw [show (w.alloc (.cells (boxV W H D A1 n c1 A2 n2 c2) 24)).heap.size = w.heap.size + 1 from by simp] at h2
    have h3 := more (more (more (more (more (h2.keep (Below.refl _ _).drew)))))
    refine h3.pick (fun i => if i < 5 then i + 2 else i - 5) (fun i j hi hj h => ?_) (fun i t h => ?_)
    · simp at hi hj h
      split at h <;> split at h <;> omega
    · match i, h with
      | 0, h => exact h
      | 1, h => exact h
      | 2, h => exact h
      | 3, h => exact h
      | 4, h => exact h
      | 5, h => exact h
      | 6, h => exact h
      | i + 7, h => simp at h)
  clear hn4
  go_enter Tryz.func98, Tryz.ntmps98
  go_upto_region 2 with (fail)
  generalize ((w.alloc (.cells #[.int .i64 W, .int .i64 H, .int .i64 D, .slice A1 n c1, .slice A2 n2 c2] 24)).alloc (.cells zeroS 78)) = w1 at *
  go_cut [6] (fun v6 wx => ∃ g1 g2 g3 g4 g5, v6 = ptrV g5 ∧ Sp w wx [RowT 1 (slV g1 n) n (bvs (List.replicate n false)), BlkT g2 3 #[.int .i64 (-1)], RowT 1 (slV g3 n) n (ivs (List.replicate n (-1))), RowT 1 (slV g4 n) n (ivs (List.replicate n 0)), BlkT g5 78 #[slV g1 n, .slice none 0 0, slV g3 n, slV g4 n], BlkT w.heap.size 24 (boxV W H D A1 n c1 A2 n2 c2), BlkT (w.heap.size + 1) 78 zeroS])
  case first =>
    refine wp_region_free [0, 3, 5] 7 #[true, false, false, true, false, true, false, false, false, false] (by kernel_rfl) (by kernel_rfl) (by kernel_rfl) (by kernel_rfl) ?_
    repeat refine Dsk.RD.next rfl rfl (by intro w' hS; go_simp; with_reducible rfl) ?_
    refine Dsk.RD.done ?_
    refine five (fuel := 2) 1 2 4 6 8 (fun b1 b2 b3 b4 b5 => #[true, b1, b2, true, b3, true, b4, false, b5, false]) (fun o1 o2 o3 o4 o5 => ⟨#[.agg #[.int .i64 W, .int .i64 H, .int .i64 D, .slice A1 n c1, .slice A2 n2 c2], .slice B avoid.length cb, ptrV w.heap.size, undef, ptrV (w.heap.size + 1), .int .i64 n, vp o5, undef, undef, undef, undef, .pointer (some ⟨w.heap.size, 3, none⟩), .slice A1 n c1, .int .i64 n, .int .i64 n, vs n o1, v1 o2, .int .i64 n, vs n o3, .int .i64 n, vs n o4, undef, undef, undef, undef, undef, undef, undef, undef, undef, undef, undef, undef, undef, undef, undef, undef, undef, undef, undef, undef, undef, undef, undef, undef, undef, undef, undef, undef, undef, undef, undef], []⟩) (NewR w n [BlkT w.heap.size 24 (boxV W H D A1 n c1 A2 n2 c2), BlkT (w.heap.size + 1) 78 zeroS])
      (fun _ _ _ _ => rfl) (fun _ _ _ _ => rfl) (fun _ _ _ _ => rfl) (fun _ _ _ _ => rfl) (fun _ _ _ _ => rfl) (by decide +kernel) ?_ ?_ ?_ ?_ ?_ ?_ 5 none none none none none w1.drew rfl (fun e => by cases e) ?_
    · intro o2 o3 o4 o5 w2 hR K hK
      refine ⟨_, rfl, rfl, ?_⟩
      refine wp_make_row _ _ 38 4 ib _ 1 rfl Tryz.underlying38 hib hib0 hib1 hib2 (by omega) rfl n (by have := HN.out; omega) rfl rfl fun w3 g3 b3 => ?_
      have hz := (g3.block _ rfl).2
      refine hK w2.heap.size w3 (Sp.fill hR 0 rfl b3 (F := fun x => x = w2.heap.size) ⟨?_, fun x => ?_⟩ fun x hx => ?_)
      · rw [show bvs (List.replicate n false) = List.replicate n (Value.bool false) from List.map_replicate ..]
        exact g3.lower (Nat.zero_le _)
      · constructor
        · rintro rfl; rfl
        · intro e; injection e with e; exact e.symm
      · subst hx; exact ⟨Nat.le_refl _, hz⟩
    · intro o1 o3 o4 o5 w2 hR K hK
      refine ⟨_, rfl, rfl, ?_⟩
      go_simp
      refine hK w2.heap.size _ (Sp.fill hR 1 rfl ((Below.refl _ w2).alloc (Nat.le_refl _) _) (F := fun x => x = w2.heap.size) ⟨Blk.fresh w2 _ _, fun x => Iff.rfl⟩ fun x hx => ?_)
      subst hx; exact ⟨Nat.le_refl _, by simp⟩
    · intro o1 g2 o4 o5 w2 hR K hK
      refine ⟨_, rfl, rfl, ?_⟩
      have hx := (Own.Sp.blk hR 1 rfl).at 0
      have HRP := Lib.hid (repeatInt_any n HN.out g2 w2 hx)
      clear hx
      go_simp
      refine HRP.out.mono ?_
      rintro e w3 ⟨rfl, g3, b3⟩
      have hz := (g3.block _ rfl).2
      refine hK w2.heap.size w3 (Sp.fill hR 2 rfl b3 (F := fun x => x = w2.heap.size) ⟨g3.lower (Nat.zero_le _), fun x => ?_⟩ fun x hx => ?_)
      · constructor
        · rintro rfl; rfl
        · intro e; injection e with e; exact e.symm
      · subst hx; exact ⟨Nat.le_refl _, hz⟩
    · intro o1 o2 o3 o5 w2 hR K hK
      refine ⟨_, rfl, rfl, ?_⟩
      refine wp_make_row _ _ 22 3 ii _ 8 rfl Tryz.underlying22 hii hii0 hii1 hii2 (by omega) rfl n (by have := HN.out; omega) rfl rfl fun w3 g3 b3 => ?_
      have hz := (g3.block _ rfl).2
      refine hK w2.heap.size w3 (Sp.fill hR 3 rfl b3 (F := fun x => x = w2.heap.size) ⟨?_, fun x => ?_⟩ fun x hx => ?_)
      · rw [show ivs (List.replicate n 0) = List.replicate n (Value.int .i64 0) from List.map_replicate ..]
        exact g3.lower (Nat.zero_le _)
      · constructor
        · rintro rfl; rfl
        · intro e; injection e with e; exact e.symm
      · subst hx; exact ⟨Nat.le_refl _, hz⟩
    · intro o1 o2 o3 o4 w2 hR K hK
      refine ⟨_, rfl, rfl, ?_⟩
      go_simp
      refine hK w2.heap.size _ (Sp.fill hR 4 rfl ((Below.refl _ w2).alloc (Nat.le_refl _) _) (F := fun x => x = w2.heap.size) ⟨Blk.fresh w2 _ _, fun x => Iff.rfl⟩ fun x hx => ?_)
      subst hx; exact ⟨Nat.le_refl _, by simp⟩
    · intro g1 g2 g3 g4 o5 w2 hR
      rcases o5 with _ | g5
      · simp only [vs, v1, vp]
        refine any_all (l := [7, 8]) (by kernel_rfl) (by simp) fun i hi => ?_
        obtain rfl | rfl : i = 7 ∨ i = 8 := by simpa using hi
        · clear hi
          refine Take1.mk rfl rfl fun K hK => ?_
          go_simp
          refine hK _ _ ?_
          clear hK
          refine any_all (l := [8]) (by kernel_rfl) (by simp) fun i hi => ?_
          obtain rfl : i = 8 := by simpa using hi
          clear hi
          refine Take1.mk rfl rfl fun K hK => ?_
          go_simp
          refine hK _ _ ?_
          clear hK
          have hR' : NewR w n [BlkT w.heap.size 24 (boxV W H D A1 n c1 A2 n2 c2), BlkT (w.heap.size + 1) 78 zeroS] (some g1) (some g2) (some g3) (some g4) (some w2.heap.size) (w2.alloc (.cells zeroS 78)) := Sp.fill hR 4 rfl ((Below.refl _ w2).alloc (Nat.le_refl _) _) (F := fun x => x = w2.heap.size) ⟨Blk.fresh w2 _ _, fun x => Iff.rfl⟩ fun x hx => by subst hx; exact ⟨Nat.le_refl _, by simp⟩
          generalize (w2.alloc (.cells zeroS 78)) = w3 at *
          generalize w2.heap.size = g5 at *
          have hth := four_there hR' 4 rfl
          refine any_all (l := [9]) (by kernel_rfl) (by simp) fun i hi => ?_
          obtain rfl : i = 9 := by simpa using hi
          clear hi
          refine Take1.mk rfl rfl fun K hK => ?_
          refine Dsk.wp_store_lie 78 _ _ rfl g5 0 4 [slV g1 n, .slice none 0 0, slV g3 n, slV g4 n] rfl rfl rfl hth info_search (fun v hv => by simp at hv; rcases hv with rfl | rfl | rfl | rfl <;> rfl) fun w4 e4 _ _ => ?_
          subst e4
          have hfin := poke4 (a := slV g1 n) (b := .slice none 0 0) (c := slV g3 n) (d := slV g4 n) hR' 4 rfl
          generalize w3.setCells g5 0 [slV g1 n, .slice none 0 0, slV g3 n, slV g4 n] = w4 at *
          have HFIN := Lib.hid hfin
          clear hfin hth hR'
          refine hK _ _ (any_end (by kernel_rfl) (NoPanic.normal ?_))
          clear hK
          go_wp2_with fail
          go_meet
          case rel => exact ⟨g1, g2, g3, g4, g5, rfl, HFIN.out⟩
        · clear hi
          refine Take1.mk rfl rfl fun K hK => ?_
          go_simp
          refine hK _ _ ?_
          clear hK
          have hR' : NewR w n [BlkT w.heap.size 24 (boxV W H D A1 n c1 A2 n2 c2), BlkT (w.heap.size + 1) 78 zeroS] (some g1) (some g2) (some g3) (some g4) (some w2.heap.size) (w2.alloc (.cells zeroS 78)) := Sp.fill hR 4 rfl ((Below.refl _ w2).alloc (Nat.le_refl _) _) (F := fun x => x = w2.heap.size) ⟨Blk.fresh w2 _ _, fun x => Iff.rfl⟩ fun x hx => by subst hx; exact ⟨Nat.le_refl _, by simp⟩
          generalize (w2.alloc (.cells zeroS 78)) = w3 at *
          generalize w2.heap.size = g5 at *
          refine any_all (l := [7]) (by kernel_rfl) (by simp) fun i hi => ?_
          obtain rfl : i = 7 := by simpa using hi
          clear hi
          refine Take1.mk rfl rfl fun K hK => ?_
          go_simp
          refine hK _ _ ?_
          clear hK
          have hth := four_there hR' 4 rfl
          refine any_all (l := [9]) (by kernel_rfl) (by simp) fun i hi => ?_
          obtain rfl : i = 9 := by simpa using hi
          clear hi
          refine Take1.mk rfl rfl fun K hK => ?_
          refine Dsk.wp_store_lie 78 _ _ rfl g5 0 4 [slV g1 n, .slice none 0 0, slV g3 n, slV g4 n] rfl rfl rfl hth info_search (fun v hv => by simp at hv; rcases hv with rfl | rfl | rfl | rfl <;> rfl) fun w4 e4 _ _ => ?_
          subst e4
          have hfin := poke4 (a := slV g1 n) (b := .slice none 0 0) (c := slV g3 n) (d := slV g4 n) hR' 4 rfl
          generalize w3.setCells g5 0 [slV g1 n, .slice none 0 0, slV g3 n, slV g4 n] = w4 at *
          have HFIN := Lib.hid hfin
          clear hfin hth hR'
          refine hK _ _ (any_end (by kernel_rfl) (NoPanic.normal ?_))
          clear hK
          go_wp2_with fail
          go_meet
          case rel => exact ⟨g1, g2, g3, g4, g5, rfl, HFIN.out⟩
      · have hR' : NewR w n [BlkT w.heap.size 24 (boxV W H D A1 n c1 A2 n2 c2), BlkT (w.heap.size + 1) 78 zeroS] (some g1) (some g2) (some g3) (some g4) (some g5) w2 := hR
        generalize w2 = w3 at *
        clear hR
        simp only [vs, v1, vp]
        refine any_all (l := [7]) (by kernel_rfl) (by simp) fun i hi => ?_
        obtain rfl : i = 7 := by simpa using hi
        clear hi
        refine Take1.mk rfl rfl fun K hK => ?_
        go_simp
        refine hK _ _ ?_
        clear hK
        have hth := four_there hR' 4 rfl
        refine any_all (l := [9]) (by kernel_rfl) (by simp) fun i hi => ?_
        obtain rfl : i = 9 := by simpa using hi
        clear hi
        refine Take1.mk rfl rfl fun K hK => ?_
        refine Dsk.wp_store_lie 78 _ _ rfl g5 0 4 [slV g1 n, .slice none 0 0, slV g3 n, slV g4 n] rfl rfl rfl hth info_search (fun v hv => by simp at hv; rcases hv with rfl | rfl | rfl | rfl <;> rfl) fun w4 e4 _ _ => ?_
        subst e4
        have hfin := poke4 (a := slV g1 n) (b := .slice none 0 0) (c := slV g3 n) (d := slV g4 n) hR' 4 rfl
        generalize w3.setCells g5 0 [slV g1 n, .slice none 0 0, slV g3 n, slV g4 n] = w4 at *
        have HFIN := Lib.hid hfin
        clear hfin hth hR'
        refine hK _ _ (any_end (by kernel_rfl) (NoPanic.normal ?_))
        clear hK
        go_wp2_with fail
        go_meet
        case rel => exact ⟨g1, g2, g3, g4, g5, rfl, HFIN.out⟩
    · exact H0.out
  case rest =>
    obtain ⟨g1, g2, g3, g4, g5, rfl, hsp⟩ := hcut
    generalize hX : [BlkT g2 3 #[.int .i64 (-1)], RowT 1 (slV g3 n) n (ivs (List.replicate n (-1))), RowT 1 (slV g4 n) n (ivs (List.replicate n 0)), BlkT g5 78 #[slV g1 n, .slice none 0 0, slV g3 n, slV g4 n], BlkT w.heap.size 24 (boxV W H D A1 n c1 A2 n2 c2), BlkT (w.heap.size + 1) 78 zeroS] = X at *
    have HXX := Lib.hid hX
    have HG5 : Hid (∀ w' r, Sp w w' (r :: X) → w'.cell? ⟨g5, 0, none⟩ = some (slV g1 n) ∧ w'.cell? ⟨g5, 1, none⟩ = some (.slice none 0 0) ∧ w'.cell? ⟨g5, 2, none⟩ = some (slV g3 n) ∧ w'.cell? ⟨g5, 3, none⟩ = some (slV g4 n)) := Lib.hid fun w' r h => by
      have hb := h.blk 4 (by rw [← hX]; rfl)
      exact ⟨hb.at 0, hb.at 1, hb.at 2, hb.at 3⟩
    have HBX : Hid (∀ w' r, Sp w w' (r :: X) → BoxS w.heap.size W H D A1 n c1 A2 n2 c2 w') := Lib.hid fun w' r h => boxS (h.blk 5 (by rw [← hX]; rfl))
    have H2 := Lib.hid hsp
    obtain ⟨m0, m1, m2, m3, m4⟩ := HBX.out _ _ hsp
    clear hsp hX H0
    go_wp2_with fail
    clear m0 m1 m2 m3 m4
    go_loopw [7, 8, 25] (fun _ _ iv wr => ∃ i bs, NsA w X g1 n KK iv wr i bs) (fun _ _ iv _ => n - (intOf iv).toNat)
    case atStart => exact ⟨0, _, rfl, Nat.zero_le _, H2.out, List.length_replicate, fun c hc => by rw [List.getD_eq_getElem?_getD, List.getElem?_replicate, if_pos hc]; simp⟩
    case round =>
      clear H2
      obtain ⟨i, bs, ⟨rfl, hi, hsp, hlen, hval⟩⟩ := hrel
      by_cases hlt : i < n
      · obtain ⟨b, o, rfl, hc⟩ := HKI.out i hlt
        have z := hc _ hsp.below
        obtain ⟨k0, k1, k2, k3⟩ := HG5.out _ _ hsp
        obtain ⟨x0, x1⟩ := Grow.cell (hsp.grow 0 rfl) (bvs_at (l := bs) (k := i) (by omega))
        have H3 : Hid (Sp w (wr.setCell ⟨g1, i, none⟩ (.bool (KK i == 0))) (RowT 1 (slV g1 n) n (bvs (bs.set i (KK i == 0))) :: X)) := Lib.hid (by have := hsp.store 0 rfl i hlt (.bool (KK i == 0)); rw [bvs_set] at this; exact this)
        have HV2 : Hid (∀ c : Nat, c < n → (bs.set i (KK i == 0)).getD c false = (decide (c < i + 1) && KK c == 0)) := Lib.hid fun c hc => by
          rw [getD_set _ _ _ _ (by omega)]
          by_cases e : c = i
          · subst e
            rw [if_pos rfl, decide_eq_true (by omega), Bool.true_and]
          · rw [if_neg e, hval c hc]
            congr 1
            simp only [decide_eq_decide]
            omega
        have HL2 : Hid ((bs.set i (KK i == 0)).length = n) := Lib.hid (by rw [List.length_set]; exact hlen)
        have hi9 : (i : Int) < 4096 := by have := HN.out; omega
        clear hc hsp hlen hval
        generalize KK i = kv at *
        generalize bs.set i (kv == 0) = bs2 at *
        go_wp2_with fail
        go_roundw
        case rel => exact ⟨i + 1, bs2, by simp, hlt, H3.out, HL2.out, HV2.out⟩
        case measure => simp [intOf]; omega
      · obtain rfl : i = n := by omega
        have HSP := Lib.hid hsp
        have HLN := Lib.hid hlen
        have HVA : Hid (∀ c : Nat, c < i → bs.getD c false = (decide ((c : Int) ∈ avoid.take 0) || KK c == 0)) := Lib.hid fun c hc => by rw [hval c hc, decide_eq_true hc]; simp
        clear hsp hlen hval HKI
        go_wp2_with fail
        go_loopw [10, 39] (fun _ iv wr => ∃ j bs, NsB w X g1 i KK avoid iv wr j bs) (fun _ iv _ => avoid.length - (intOf iv).toNat)
        case atStart => exact ⟨0, bs, rfl, Nat.zero_le _, HSP.out, HLN.out, HVA.out⟩
        case round =>
          clear HSP HLN HVA bs
          obtain ⟨j, bs, ⟨rfl, hj, hsp, hlen, hval⟩⟩ := hrel
          by_cases hlt2 : j < avoid.length
          · obtain ⟨b, o, rfl, hc⟩ := HAV.out j hlt2
            have z := hc _ hsp.below
            obtain ⟨m0, m1, m2, m3, m4⟩ := HBX.out _ _ hsp
            have HMT := Lib.hid (fun c : Int => mem_take_next hlt2 c)
            have HSP := Lib.hid hsp
            have HLN := Lib.hid hlen
            have HVA := Lib.hid hval
            have hj9 : (j : Int) < 1000000 := by have := HLA.out; omega
            clear hc hsp hlen hval HAV
            generalize avoid.getD j 0 = v at *
            have HIV := Lib.hid (HIC.out v)
            have HI2 := Lib.hid (HIS.out v)
            cases hisv : isf v
            · rw [hisv] at HIV HI2
              have HNX : Hid (∀ c : Nat, c < i → bs.getD c false = (decide ((c : Int) ∈ avoid.take (j + 1)) || KK c == 0)) := Lib.hid fun c hc => by
                rw [HMT.out, HVA.out c hc]
                have : decide (v = (c : Int)) = false := decide_eq_false fun e => by
                  have := HI2.out.2 ⟨by omega, by omega⟩
                  cases this
                rw [this, Bool.or_false]
              clear HMT HVA HI2 hisv
              go_wp2_with (go_at_call 74; refine (HIV.out _).mono ?_; rintro e w5 ⟨rfl, b5⟩; have H5 := Lib.hid (HSP.out.keep b5); clear b5)
              go_roundw
              case rel => exact ⟨j + 1, bs, by simp, hlt2, H5.out, HLN.out, HNX.out⟩
              case measure => simp [intOf]; omega
            · rw [hisv] at HIV HI2
              obtain ⟨hv0, hv1⟩ := HI2.out.1 rfl
              obtain ⟨k, rfl⟩ : ∃ k : Nat, v = k := ⟨v.toNat, by omega⟩
              have hk : k < i := by omega
              have HNX : Hid (∀ c : Nat, c < i → (bs.set k true).getD c false = (decide ((c : Int) ∈ avoid.take (j + 1)) || KK c == 0)) := Lib.hid fun c hc => by
                rw [HMT.out, getD_set _ _ _ _ (by rw [HLN.out]; exact hk)]
                by_cases e : c = k
                · subst e
                  simp
                · rw [if_neg e, HVA.out c hc]
                  have : decide ((k : Int) = (c : Int)) = false := decide_eq_false (by omega)
                  rw [this, Bool.or_false]
              have HL2 : Hid ((bs.set k true).length = i) := Lib.hid (by rw [List.length_set]; exact HLN.out)
              have HBA := Lib.hid (bvs_at (l := bs) (k := k) (by rw [HLN.out]; exact hk))
              have HST : Hid (∀ w', Sp w w' (RowT 1 (slV g1 i) i (bvs bs) :: X) → Sp w (w'.setCell ⟨g1, k, none⟩ (.bool true)) (RowT 1 (slV g1 i) i (bvs (bs.set k true)) :: X)) := Lib.hid fun w' h => by have := h.store 0 rfl k hk (.bool true); rw [bvs_set] at this; exact this
              have HK9 : Hid ((k : Int) < 4096) := Lib.hid (by have := HN.out; omega)
              clear HMT HVA HI2 hisv HLN
              go_wp2_with (go_at_call 74; refine (HIV.out _).mono ?_; rintro e w5 ⟨rfl, b5⟩; have H5 := Lib.hid (HSP.out.keep b5); clear b5; obtain ⟨k0, k1, k2, k3⟩ := HG5.out _ _ H5.out; obtain ⟨x0, x1⟩ := Grow.cell (H5.out.grow 0 rfl) HBA.out; have H6 := Lib.hid (HST.out _ H5.out))
              go_roundw
              case rel => exact ⟨j + 1, _, by simp, hlt2, H6.out, HL2.out, HNX.out⟩
              case measure => simp [intOf]; omega
          · obtain rfl : j = avoid.length := by omega
            have HSP := Lib.hid hsp
            have HLN := Lib.hid hlen
            have HVA := Lib.hid hval
            obtain ⟨k0, k1, k2, k3⟩ := HG5.out _ _ hsp
            have H7 : Hid (Sp w (wr.setCells (w.heap.size + 1) 0 [slV g1 i, .slice none 0 0, slV g3 i, slV g4 i]) (RowT 1 (slV g1 i) i (bvs bs) :: X.set 5 (BlkT (w.heap.size + 1) 78 #[slV g1 i, .slice none 0 0, slV g3 i, slV g4 i]))) := Lib.hid (poke4 hsp 6 (by rw [← HXX.out]; rfl))
            have HTH := Lib.hid (four_there hsp 6 (by rw [← HXX.out]; rfl))
            clear hsp hlen hval
            have t0 := (H7.out.blk 6 (by rw [← HXX.out]; rfl)).at 0
            have t1 := (H7.out.blk 6 (by rw [← HXX.out]; rfl)).at 1
            have t2 := (H7.out.blk 6 (by rw [← HXX.out]; rfl)).at 2
            have t3 := (H7.out.blk 6 (by rw [← HXX.out]; rfl)).at 3
            have HPK : Hid (Sp w (wr.setCells (w.heap.size + 1) 0 [slV g1 i, .slice none 0 0, slV g3 i, slV g4 i]) [RowT 1 (slV g1 i) i (bvs bs), RowT 1 (slV g3 i) i (ivs (List.replicate i (-1))), RowT 1 (slV g4 i) i (ivs (List.replicate i 0))]) := Lib.hid (by
              refine H7.out.pick (fun k => if k = 0 then 0 else k + 1) (fun i j hi hj h => ?_) (fun i t h => ?_)
              · simp at hi hj h
                split at h <;> split at h <;> omega
              · rw [← HXX.out]
                match i, h with
                | 0, h => exact h
                | 1, h => exact h
                | 2, h => exact h
                | i + 3, h => simp at h)
            clear H7 HXX HSP HG5 HBX
            go_wp2_with (refine wpList_store4 rfl 78 _ _ rfl (w.heap.size + 1) (slV g1 i) (.slice none 0 0) (slV g3 i) (slV g4 i) rfl rfl HTH.out info_search rfl rfl rfl rfl ?_)
            generalize (wr.setCells (w.heap.size + 1) 0 [slV g1 i, .slice none 0 0, slV g3 i, slV g4 i]) = w9 at *
            refine bodyPost_ret (v := .agg #[slV g1 i, .slice none 0 0, slV g3 i, slV g4 i]) (by simp [results, Tryz.results98, go_sem, t0, t1, t2, t3]) rfl ⟨g1, g3, g4, bs, rfl, HLN.out, fun c hc => ?_, HPK.out⟩
            rw [HSH.out, HVA.out c hc, List.take_length]
end Flo
end Go.Proofs.YtgophgnfiboefaaGreatDoor

/- The program's usable and its visits. -/
import Derived.Test.YtgophgnfiboefaaGreatDoorRpD
namespace Go.Proofs.YtgophgnfiboefaaGreatDoor
open Go.RowKit Wire
open Txt (Row)
open Go.Proofs.YtgophgnfiboefaaGreatDoor.Own Flo
open Dsk (Only nth)
set_option linter.unusedVariables false
set_option linter.unusedSimpArgs false
namespace Rgn
def usB (f : Fl) (r : List Nat) (c : Nat) : Bool := decide (c ∈ r) && f.kindAt c != 0
structure UsI (w : World) (X : List Thing) (g n : Nat) (r : List Nat) (KK : Int → Int) (iv : Value) (wr : World) (i : Nat) (bs : List Bool) : Prop where
  iv : iv = .int .i64 i
  le : i ≤ r.length
  sp : Sp w wr (RowT 1 (slV g n) n (bvs bs) :: X)
  len : bs.length = n
  val : ∀ c : Nat, c < n → bs.getD c false = (decide (c ∈ r.take i) && KK c != 0)
theorem mem_take_nat {l : List Nat} {i : Nat} (h : i < l.length) (x : Nat) : decide (x ∈ l.take (i + 1)) = (decide (x ∈ l.take i) || decide (l.getD i 0 = x)) := by
  have e : l.take (i + 1) = l.take i ++ [l.getD i 0] := by
    rw [List.take_add_one, List.getD_eq_getElem?_getD, List.getElem?_eq_getElem h]
    rfl
  rw [e, Bool.eq_iff_iff, decide_eq_true_iff, List.mem_append, List.mem_singleton, Bool.or_eq_true, decide_eq_true_iff, decide_eq_true_iff]
  exact or_congr Iff.rfl eq_comm
def UsPost (f : Fl) (r : List Nat) (w : World) (e : Ending) (w' : World) : Prop := ∃ g bs, e = .returned (slV g f.Kind.length) ∧ bs.length = f.Kind.length ∧ (∀ c : Nat, c < f.Kind.length → bs.getD c false = usB f r c) ∧ Sp w w' [RowT 1 (slV g f.Kind.length) f.Kind.length (bvs bs)]
set_option maxRecDepth 100000 in
set_option maxHeartbeats 4000000 in
theorem usable_any {f : Fl} (ho : f.ok) (p : Pl) (B : Option Addr) (cb : Nat) (r : List Nat) (w : World) (hin : FlIn w f p) (hra : Row w w.heap.size B (qvs r)) (hla : r.length ≤ 1000000) :
    Calls Tryz.prog 42 #[f.val p, .slice B r.length cb] w (UsPost f r w) := by
  have hn4 : f.Kind.length ≤ 4096 := by have := ho.kinds; have := ho.size; omega
  obtain ⟨ib, hib, hib0, hib1, hib2⟩ := info_parts info_bool
  have HKI : Hid (∀ k, k < f.Kind.length → ∃ b o, p.A1 = some ⟨b, o, none⟩ ∧ ∀ w', Below w.heap.size w w' → w'.cell? ⟨b, o + k, none⟩ = some (.int .i64 (f.kindAt k))) := Lib.hid fun k hk => by
    have := row_val hin.kind hk
    have e : f.kindAt k = f.Kind.getD k 0 := by unfold Fl.kindAt; simp
    rw [e]
    exact this
  have HAV : Hid (∀ k, k < r.length → ∃ b o, B = some ⟨b, o, none⟩ ∧ ∀ w', Below w.heap.size w w' → w'.cell? ⟨b, o + k, none⟩ = some (.int .i64 (r.getD k 0 : Nat))) := Lib.hid fun k hk => row_valN hra hk
  have HMT : Hid (∀ i, i < r.length → ∀ c, decide (c ∈ r.take (i + 1)) = (decide (c ∈ r.take i) || decide (r.getD i 0 = c))) := Lib.hid fun i hi c => mem_take_nat hi c
  have HUP : Hid (∀ g bs w', bs.length = f.Kind.length → (∀ c : Nat, c < f.Kind.length → bs.getD c false = (decide (c ∈ r.take r.length) && f.kindAt c != 0)) → Sp w w' [RowT 1 (slV g f.Kind.length) f.Kind.length (bvs bs)] → UsPost f r w (.returned (slV g f.Kind.length)) w') := Lib.hid fun g bs w' h1 h2 h3 => ⟨g, bs, rfl, h1, fun c hc => by rw [h2 c hc, List.take_length]; rfl, h3⟩
  generalize UsPost f r w = QQ at *
  have HLA := Lib.hid hla
  clear ho hin hra hla
  generalize f.kindAt = KK at *
  obtain ⟨A1, c1, A2, c2⟩ := p
  obtain ⟨W, H, D, K, O⟩ := f
  dsimp only [Fl.val] at *
  generalize K.length = n at *
  generalize O.length = n2 at *
  have HN := Lib.hid hn4
  have H0 : Hid (Sp w (w.alloc (.cells #[.int .i64 W, .int .i64 H, .int .i64 D, .slice A1 n c1, .slice A2 n2 c2] 24)) [BlkT w.heap.size 24 (boxV W H D A1 n c1 A2 n2 c2)]) := Lib.hid ((Sp.nil (Below.refl w.heap.size w)).local 24 (boxV W H D A1 n c1 A2 n2 c2))
  clear hn4
  go_enter Tryz.func42, Tryz.ntmps42
  go_upto_region 2 with (refine wpList_make_row rfl _ _ 38 4 ib _ 1 rfl Tryz.underlying38 hib hib0 hib1 hib2 (by omega) rfl n (by have := HN.out; omega) rfl rfl ?_; intro w2 g2 b2)
  have H1 : Hid (Sp w w2 [RowT 1 (slV (w.alloc (.cells #[.int .i64 W, .int .i64 H, .int .i64 D, .slice A1 n c1, .slice A2 n2 c2] 24)).heap.size n) n (bvs (List.replicate n false)), BlkT w.heap.size 24 (boxV W H D A1 n c1 A2 n2 c2)]) := Lib.hid (by
    have h := H0.out.new_row b2 g2
    rw [show bvs (List.replicate n false) = List.replicate n (Value.bool false) from List.map_replicate ..]
    refine h.pick (fun i => 1 - i) (fun i j hi hj h => by simp at hi hj h; omega) (fun i t h => ?_)
    match i, h with
    | 0, h => exact h
    | 1, h => exact h
    | i + 2, h => simp at h)
  obtain ⟨g, hg⟩ : ∃ g, g = (w.alloc (.cells #[.int .i64 W, .int .i64 H, .int .i64 D, .slice A1 n c1, .slice A2 n2 c2] 24)).heap.size := ⟨_, rfl⟩
  have eg : (w.alloc (.cells #[.int .i64 W, .int .i64 H, .int .i64 D, .slice A1 n c1, .slice A2 n2 c2] 24)).heap.size = w.heap.size + 1 := by simp
  rw [← hg] at H1
  try rw [← hg]
  rw [eg] at hg
  try rw [← hg]
  clear g2 b2 H0 eg hg
  go_wp2_with fail
  go_loopw [7, 14] (fun _ iv wr => ∃ i bs, UsI w [BlkT w.heap.size 24 (boxV W H D A1 n c1 A2 n2 c2)] g n r KK iv wr i bs) (fun _ iv _ => r.length - (intOf iv).toNat)
  case atStart => exact ⟨0, _, rfl, Nat.zero_le _, H1.out, List.length_replicate, fun c hc => by rw [List.getD_eq_getElem?_getD, List.getElem?_replicate, if_pos hc]; simp⟩
  case round =>
    clear H1
    obtain ⟨i, bs, ⟨rfl, hi, hsp, hlen, hval⟩⟩ := hrel
    have HSP := Lib.hid hsp
    have HLN := Lib.hid hlen
    have HVA := Lib.hid hval
    obtain ⟨m0, m1, m2, m3, m4⟩ := boxS (hsp.blk 1 rfl)
    clear hsp hlen hval
    by_cases hlt : i < r.length
    · obtain ⟨b, o, rfl, hc⟩ := HAV.out i hlt
      have z := hc _ HSP.out.below
      have HMI := Lib.hid (HMT.out i hlt)
      have hi9 : (i : Int) < 1000000 := by have := HLA.out; omega
      clear hc
      generalize r.getD i 0 = k at *
      by_cases hk : k < n
      · obtain ⟨b', o', rfl, hc'⟩ := HKI.out k hk
        have z' := hc' _ HSP.out.below
        clear hc'
        obtain ⟨x0, x1⟩ := Grow.cell (HSP.out.grow 0 rfl) (bvs_at (l := bs) (k := k) (by rw [HLN.out]; exact hk))
        have H3 : Hid (Sp w (wr.setCell ⟨g, k, none⟩ (.bool (KK k != 0))) [RowT 1 (slV g n) n (bvs (bs.set k (KK k != 0))), BlkT w.heap.size 24 (boxV W H D (some ⟨b', o', none⟩) n c1 A2 n2 c2)]) := Lib.hid (by have := HSP.out.store 0 rfl k hk (.bool (KK k != 0)); rw [bvs_set] at this; exact this)
        have HV2 : Hid (∀ c : Nat, c < n → (bs.set k (KK k != 0)).getD c false = (decide (c ∈ r.take (i + 1)) && KK c != 0)) := Lib.hid fun c hc => by
          rw [HMI.out, getD_set _ _ _ _ (by rw [HLN.out]; exact hk)]
          by_cases e : c = k
          · subst e
            simp
          · rw [if_neg e, HVA.out c hc, decide_eq_false (p := k = c) (fun h => e h.symm), Bool.or_false]
        have HL2 : Hid ((bs.set k (KK k != 0)).length = n) := Lib.hid (by rw [List.length_set]; exact HLN.out)
        clear HMI HVA HLN HSP HKI HMT
        generalize KK k = kv at *
        generalize bs.set k (kv != 0) = bs2 at *
        go_wp2_with fail
        go_roundw
        case rel => exact ⟨i + 1, bs2, by simp, hlt, H3.out, HL2.out, HV2.out⟩
        case measure => simp [intOf]; omega
      · have HV2 : Hid (∀ c : Nat, c < n → bs.getD c false = (decide (c ∈ r.take (i + 1)) && KK c != 0)) := Lib.hid fun c hc => by
          rw [HMI.out, HVA.out c hc, decide_eq_false (p := k = c) (fun h => by omega), Bool.or_false]
        clear HMI HVA HKI HMT
        go_wp2_with fail
        go_roundw
        case rel => exact ⟨i + 1, bs, by simp, hlt, HSP.out, HLN.out, HV2.out⟩
        case measure => simp [intOf]; omega
    · obtain rfl : i = r.length := by omega
      have HX := Lib.hid (HUP.out g bs wr HLN.out HVA.out (by
        refine HSP.out.pick (fun _ => 0) (fun i j hi hj h => by simp at hi hj; omega) (fun i t h => ?_)
        match i, h with
        | 0, h => exact h
        | i + 1, h => simp at h))
      clear HMT HKI HAV HUP HVA
      go_wp2_with fail
      exact HX.out
abbrev visC (W H D : Int) (A1 : Option Addr) (n c1 : Nat) (A2 : Option Addr) (n2 c2 g s : Nat) : Array Value := #[.int .i64 W, .int .i64 H, .int .i64 D, .slice A1 n c1, .slice A2 n2 c2, slV g n, .func (.func s) #[] #[]]
abbrev visV (f : Fl) (p : Pl) (g s : Nat) : Value := .agg #[.int .i64 f.W, .int .i64 f.H, .int .i64 f.D, .slice p.A1 f.Kind.length p.c1, .slice p.A2 f.Out.length p.c2, slV g f.Kind.length, .func (.func s) #[] #[]]
/-- By a step. -/
def stE (st : Int → Int → Option Int) (x y : Nat) : Prop := ∃ d : Nat, d < 6 ∧ st x d = some (y : Int)
def FromPost (st : Int → Int → Option Int) (P : Nat → Prop) (W : World) (g n : Nat) (O : List Bool) (l : List Nat) (c : Nat) (R : List Thing) (e : Ending) (w' : World) : Prop :=
  ∃ O' M lv, e = .returned lv ∧ Dfs (stE st) P O O' c M ∧ Sp W w' (RowT 1 (slV g n) n (bvs O') :: RowT 1 lv (l ++ M).length (qvs (l ++ M)) :: R)
/-- Six directions, those below d being done. -/
structure FrI (st : Int → Int → Option Int) (P : Nat → Prop) (W : World) (g n : Nat) (O : List Bool) (l : List Nat) (c : Nat) (R : List Thing) (lv iv : Value) (wr : World) (d : Nat) (O1 : List Bool) (L : List Nat) : Prop where
  iv : iv = .int .i64 d
  le : d ≤ 6
  sp : Sp W wr (RowT 1 (slV g n) n (bvs O1) :: RowT 1 lv (l ++ L).length (qvs (l ++ L)) :: R)
  dfl : Dfl (stE st) P O O1 c L
  done : ∀ d' : Nat, d' < d → ∀ y : Nat, st c d' = some (y : Int) → ¬ opn O1 y
set_option maxRecDepth 100000 in
set_option maxHeartbeats 8000000 in
theorem from_next {f : Fl} (ho : f.ok) (p : Pl) (W : World) (st : Int → Int → Option Int) (P : Nat → Prop) (hst : ∀ w', Below W.heap.size W w' → ∀ c d : Int, Calls Tryz.prog 65 #[f.val p, .int .i64 c, .int .i64 d] w' fun e w'' => e = .returned (resN (st c d)) ∧ Below w'.heap.size w' w'')
    (hy : ∀ (x d : Nat) (y : Int), st x d = some y → ∃ k : Nat, y = k ∧ k < f.Kind.length) (g : Nat) :
    ∀ (m : Nat) (O : List Bool) (l : List Nat) (lv : Value) (c : Nat) (w : World) (R : List Thing), Fits O 0 m → Fits O l.length 90000 → O.length = f.Kind.length → (∀ x, opn O x → P x) → opn O c → Sp W w (RowT 1 (slV g f.Kind.length) f.Kind.length (bvs O) :: RowT 1 lv l.length (qvs l) :: R) →
      Calls Tryz.prog 46 #[visV f p g 65, .int .i64 c, lv] w (FromPost st P W g f.Kind.length O l c R) := by
  intro m
  induction m with
  | zero => intro O l lv c w R h1 _ _ _ hc; have := h1.one hc; omega
  | succ m ih =>
    intro O l lv c w R hm hB hO hP hc hsp
    have hcn : c < f.Kind.length := by rw [← hO]; exact opn_lt hc
    have hn4 : f.Kind.length ≤ 4096 := by have := ho.kinds; have := ho.size; omega
    have HST := Lib.hid hst
    have HY := Lib.hid hy
    have HIH : Hid (∀ (O1 : List Bool) (L : List Nat) (lv1 : Value) (k : Nat) (w1 : World) (R1 : List Thing), Dfl (stE st) P O O1 c L → opn O1 k → Sp W w1 (RowT 1 (slV g f.Kind.length) f.Kind.length (bvs O1) :: RowT 1 lv1 (l ++ L).length (qvs (l ++ L)) :: R1) →
        Calls Tryz.prog 46 #[visV f p g 65, .int .i64 k, lv1] w1 (FromPost st P W g f.Kind.length O1 (l ++ L) k R1)) := Lib.hid fun O1 L lv1 k w1 R1 hd hk hs =>
      ih O1 (l ++ L) lv1 k w1 R1 (fun q hq hqs => by have := (hm.sub hd) q hq hqs; omega) ((hB.sub hd).mono (by rw [List.length_append]; omega)) (by rw [hd.len, hO]) (fun x hx => hP x (hd.sub x hx)) hk hs
    have HLL : Hid (∀ O1 L, Dfl (stE st) P O O1 c L → (l ++ L).length ≤ 90000) := Lib.hid fun O1 L hd => by have := (hB.sub hd).nil; rw [List.length_append]; omega
    have HEND : Hid (∀ O1 L lv' w' w3 R3, Dfl (stE st) P O O1 c L → (∀ d' : Nat, d' < 6 → ∀ y : Nat, st c d' = some (y : Int) → ¬ opn O1 y) → Sp W w' (RowT 1 (slV g f.Kind.length) f.Kind.length (bvs O1) :: RowT 1 lv' (l ++ L ++ [c]).length (qvs (l ++ L ++ [c])) :: (R ++ [R3])) → w3 = w' → FromPost st P W g f.Kind.length O l c R (.returned lv') w3) := Lib.hid fun O1 L lv' w' w3 R3 hd hdn hs e => by
      subst e
      refine ⟨O1, L ++ [c], lv', rfl, hd.done hP fun y ⟨d, hd6, hdy⟩ => hdn d hd6 y hdy, ?_⟩
      rw [List.append_assoc] at hs
      exact hs.pick id (fun i j _ _ h => h) (fun i t h => by
        have hl := (List.getElem?_eq_some_iff.1 h).1
        rw [show RowT 1 (slV g f.Kind.length) f.Kind.length (bvs O1) :: RowT 1 lv' (l ++ (L ++ [c])).length (qvs (l ++ (L ++ [c]))) :: (R ++ [R3]) = (RowT 1 (slV g f.Kind.length) f.Kind.length (bvs O1) :: RowT 1 lv' (l ++ (L ++ [c])).length (qvs (l ++ (L ++ [c]))) :: R) ++ [R3] from rfl]
        exact (List.getElem?_append_left hl).trans h)
    have HSD := Lib.hid (Dfl.start (E := stE st) (P := P) hc)
    have HSP := Lib.hid hsp
    have HON := Lib.hid hO
    have HN := Lib.hid hn4
    have HLEN : Hid (∀ O1 L, Dfl (stE st) P O O1 c L → O1.length = f.Kind.length) := Lib.hid fun O1 L hd => by rw [hd.len, hO]
    clear ih hm hB hO hP hc hsp hst hy ho hn4
    generalize FromPost st P W g f.Kind.length O l c R = QQ at *
    unfold FromPost at HIH
    obtain ⟨A1, c1, A2, c2⟩ := p
    obtain ⟨fW, fH, fD, K, OO⟩ := f
    dsimp only [visV, Fl.val] at *
    generalize K.length = n at *
    generalize OO.length = n2 at *
    obtain ⟨Ak, ck, rfl⟩ := (HSP.out.grow 1 rfl).slice
    have H0 : Hid (Sp W (w.alloc (.cells #[.int .i64 fW, .int .i64 fH, .int .i64 fD, .slice A1 n c1, .slice A2 n2 c2, slV g n, .func (.func 65) #[] #[]] 55)) (RowT 1 (slV g n) n (bvs O) :: RowT 1 (.slice Ak l.length ck) l.length (qvs l) :: (R ++ [BlkT w.heap.size 55 (visC fW fH fD A1 n c1 A2 n2 c2 g 65)]))) := Lib.hid (HSP.out.local 55 (visC fW fH fD A1 n c1 A2 n2 c2 g 65))
    obtain ⟨x0, x1⟩ := Grow.cell (H0.out.grow 0 rfl) (bvs_at (l := O) (k := c) (by rw [HON.out]; exact hcn))
    have H1 := Lib.hid (H0.out.store 0 rfl c hcn (.bool false))
    rw [bvs_set] at H1
    dsimp only [List.set_cons_zero] at H1
    have HBX : Hid (∀ w' T, Sp W w' (T ++ [BlkT w.heap.size 55 (visC fW fH fD A1 n c1 A2 n2 c2 g 65)]) → Blk w' w.heap.size 55 (visC fW fH fD A1 n c1 A2 n2 c2 g 65)) := Lib.hid fun w' T h => h.blk T.length (by simp)
    have HBB : Hid (∀ w' O1 v q, Sp W w' (RowT 1 (slV g n) n (bvs O1) :: RowT 1 v q.length (qvs q) :: (R ++ [BlkT w.heap.size 55 (visC fW fH fD A1 n c1 A2 n2 c2 g 65)])) → w'.cell? ⟨w.heap.size, 0, none⟩ = some (.int .i64 fW) ∧ w'.cell? ⟨w.heap.size, 1, none⟩ = some (.int .i64 fH) ∧ w'.cell? ⟨w.heap.size, 2, none⟩ = some (.int .i64 fD) ∧ w'.cell? ⟨w.heap.size, 3, none⟩ = some (.slice A1 n c1) ∧ w'.cell? ⟨w.heap.size, 4, none⟩ = some (.slice A2 n2 c2) ∧ w'.cell? ⟨w.heap.size, 5, none⟩ = some (slV g n) ∧ w'.cell? ⟨w.heap.size, 6, none⟩ = some (.func (.func 65) #[] #[])) := Lib.hid fun w' O1 v q h => by
      have hb := HBX.out w' (RowT 1 (slV g n) n (bvs O1) :: RowT 1 v q.length (qvs q) :: R) h
      exact ⟨hb.at 0, hb.at 1, hb.at 2, hb.at 3, hb.at 4, hb.at 5, hb.at 6⟩
    clear HBX
    go_enter Tryz.func46, Tryz.ntmps46
    go_upto_region 2 with (fail)
    clear x0 x1
    generalize ((w.alloc (.cells #[.int .i64 fW, .int .i64 fH, .int .i64 fD, .slice A1 n c1, .slice A2 n2 c2, slV g n, .func (.func 65) #[] #[]] 55)).setCell ⟨g, c, none⟩ (.bool false)) = w1 at *
    clear H0 HSP
    generalize w.heap.size = gb at *
    generalize hXX : (R ++ [BlkT gb 55 (visC fW fH fD A1 n c1 A2 n2 c2 g 65)]) = X at *
    have HXX := Lib.hid hXX
    clear hXX
    go_wp2_with fail
    go_loopw [2, 7, 8, 9, 14] (fun lv _ _ _ iv wr => ∃ d O1 L, FrI st P W g n O l c X lv iv wr d O1 L) (fun _ _ _ _ iv _ => 6 - (intOf iv).toNat)
    case atStart => exact ⟨0, O.set c false, [], rfl, by omega, by rw [List.append_nil]; exact H1.out, HSD.out, fun d' h => by omega⟩
    case round =>
      clear H1
      obtain ⟨d, O1, L, ⟨rfl, hd6, hsp, hdf, hdn⟩⟩ := hrel
      obtain ⟨q, hq⟩ : ∃ q, q = l ++ L := ⟨_, rfl⟩
      have HLC := Lib.hid (HLL.out O1 L hdf)
      rw [← hq] at hsp HLC
      obtain ⟨Aq, cq, rfl⟩ := (hsp.grow 1 rfl).slice
      have HSP := Lib.hid hsp
      have HDF := Lib.hid hdf
      have HDN := Lib.hid hdn
      have HLE := Lib.hid (HLEN.out O1 L hdf)
      have HRC0 := Lib.hid (fun lv1 k w1 => HIH.out O1 L lv1 k w1 X hdf)
      rw [← hq] at HRC0
      have HQ := Lib.hid hq
      obtain ⟨m0, m1, m2, m3, m4, m5, m6⟩ := HBB.out _ _ _ _ hsp
      clear hdf hdn hq HIH
      by_cases hlt : d < 6
      · have HCA := Lib.hid (HST.out wr HSP.out.below c d)
        have hd9 : (d : Int) < 6 := by omega
        clear hsp
        cases hstd : st c d with
        | none =>
          rw [hstd] at HCA
          have HDX : Hid (∀ d' : Nat, d' < d + 1 → ∀ y : Nat, st c d' = some (y : Int) → ¬ opn O1 y) := Lib.hid fun d' h y e => by
            by_cases e' : d' = d
            · rw [e', hstd] at e
              cases e
            · exact HDN.out d' (by omega) y e
          clear hstd HDN HEND HST HY HRC0
          go_wp2_with (go_at_call 65; refine HCA.out.mono ?_; rintro e w5 ⟨rfl, b5⟩; have H5 := Lib.hid (HSP.out.keep b5); clear b5)
          go_roundw
          case rel => exact ⟨d + 1, O1, L, by simp, by omega, by rw [← HQ.out]; exact H5.out, HDF.out, HDX.out⟩
          case measure => simp [intOf]; omega
        | some y =>
          obtain ⟨k, rfl, hk⟩ := HY.out c d y hstd
          rw [hstd] at HCA
          have hk9 : (k : Int) < 4096 := by have := HN.out; omega
          have HBA := Lib.hid (bvs_at (l := O1) (k := k) (by rw [HLE.out]; exact hk))
          cases hop : O1.getD k false
          · rw [hop] at HBA
            have HDX : Hid (∀ d' : Nat, d' < d + 1 → ∀ y : Nat, st c d' = some (y : Int) → ¬ opn O1 y) := Lib.hid fun d' h y e => by
              by_cases e' : d' = d
              · rw [e', hstd] at e
                injection e with e
                have : k = y := by omega
                subst this
                unfold opn
                rw [hop]
                simp
              · exact HDN.out d' (by omega) y e
            clear hstd HDN HEND HST HY HRC0 hop
            go_wp2_with (go_at_call 65; refine HCA.out.mono ?_; rintro e w5 ⟨rfl, b5⟩; have H5 := Lib.hid (HSP.out.keep b5); clear b5; obtain ⟨n0, n1, n2, n3, n4, n5, n6⟩ := HBB.out _ _ _ _ H5.out; obtain ⟨x0, x1⟩ := Grow.cell (H5.out.grow 0 rfl) HBA.out)
            go_roundw
            case rel => exact ⟨d + 1, O1, L, by simp, by omega, by rw [← HQ.out]; exact H5.out, HDF.out, HDX.out⟩
            case measure => simp [intOf]; omega
          · rw [hop] at HBA
            have HSN : Hid (stE st c k) := Lib.hid ⟨d, hlt, hstd⟩
            have HRC := Lib.hid (fun w1 h => HRC0.out (.slice Aq q.length cq) k w1 hop h)
            have HDX : Hid (∀ O2 M, Dfs (stE st) P O1 O2 k M → ∀ d' : Nat, d' < d + 1 → ∀ y : Nat, st c d' = some (y : Int) → ¬ opn O2 y) := Lib.hid fun O2 M hd2 d' h y e => by
              by_cases e' : d' = d
              · rw [e', hstd] at e
                injection e with e
                have : k = y := by omega
                subst this
                obtain ⟨L0, e3⟩ := hd2.last
                exact ((hd2.mem k).1 (by rw [e3]; simp)).2
              · exact fun hy => HDN.out d' (by omega) y e (hd2.sub _ hy)
            clear hstd HDN HEND HST HY HRC0 hop
            go_wp2_with (first
              | (go_at_call 65; refine HCA.out.mono ?_; rintro e w5 ⟨rfl, b5⟩; have H5 := Lib.hid (HSP.out.keep b5); clear b5; obtain ⟨n0, n1, n2, n3, n4, n5, n6⟩ := HBB.out _ _ _ _ H5.out; obtain ⟨x0, x1⟩ := Grow.cell (H5.out.grow 0 rfl) HBA.out)
              | (go_at_call 46; refine (HRC.out _ H5.out).mono ?_; rintro e w7 ⟨O2, M, lv2, rfl, hd2, hs2⟩; have HD2 := Lib.hid hd2; have HS2 := Lib.hid hs2; clear hd2 hs2))
            go_roundw
            case rel => exact ⟨d + 1, O2, L ++ M, by simp, by omega, by have := HS2.out; rw [HQ.out, List.append_assoc] at this; exact this, HDF.out.visit HSN.out HD2.out, HDX.out O2 M HD2.out⟩
            case measure => simp [intOf]; omega
      · obtain rfl : d = 6 := by omega
        have HPU := Lib.hid (push_int (q := q) HSP.out 1 rfl c (by have := HLC.out; omega) 3)
        have HE2 : Hid (∀ v' w', Sp W w' (RowT 1 (slV g n) n (bvs O1) :: RowT 1 v' (q ++ [c]).length (qvs (q ++ [c])) :: X) → QQ (.returned v') w') := Lib.hid fun v' w' h => by
          rw [← HXX.out, HQ.out] at h
          exact HEND.out O1 L v' w' w' _ HDF.out HDN.out h rfl
        clear hsp HEND HRC0 HST HY
        go_wp2_with (at_builtin; obtain ⟨v7, w7, r7, h7⟩ := HPU.out; have H7 := Lib.hid (HE2.out v7 w7 h7); refine wpList_append_run rfl _ _ _ _ rfl (by simp [go_sem]) (by simp [go_sem]) r7 ?_; clear r7 h7)
        exact H7.out
set_option maxRecDepth 100000 in
set_option maxHeartbeats 8000000 in
theorem from_back {f : Fl} (ho : f.ok) (p : Pl) (W : World) (st : Int → Int → Option Int) (P : Nat → Prop) (hst : ∀ w', Below W.heap.size W w' → ∀ c d : Int, Calls Tryz.prog 43 #[f.val p, .int .i64 c, .int .i64 d] w' fun e w'' => e = .returned (resN (st c d)) ∧ Below w'.heap.size w' w'')
    (hy : ∀ (x d : Nat) (y : Int), st x d = some y → ∃ k : Nat, y = k ∧ k < f.Kind.length) (g : Nat) :
    ∀ (m : Nat) (O : List Bool) (l : List Nat) (lv : Value) (c : Nat) (w : World) (R : List Thing), Fits O 0 m → Fits O l.length 90000 → O.length = f.Kind.length → (∀ x, opn O x → P x) → opn O c → Sp W w (RowT 1 (slV g f.Kind.length) f.Kind.length (bvs O) :: RowT 1 lv l.length (qvs l) :: R) →
      Calls Tryz.prog 46 #[visV f p g 43, .int .i64 c, lv] w (FromPost st P W g f.Kind.length O l c R) := by
  intro m
  induction m with
  | zero => intro O l lv c w R h1 _ _ _ hc; have := h1.one hc; omega
  | succ m ih =>
    intro O l lv c w R hm hB hO hP hc hsp
    have hcn : c < f.Kind.length := by rw [← hO]; exact opn_lt hc
    have hn4 : f.Kind.length ≤ 4096 := by have := ho.kinds; have := ho.size; omega
    have HST := Lib.hid hst
    have HY := Lib.hid hy
    have HIH : Hid (∀ (O1 : List Bool) (L : List Nat) (lv1 : Value) (k : Nat) (w1 : World) (R1 : List Thing), Dfl (stE st) P O O1 c L → opn O1 k → Sp W w1 (RowT 1 (slV g f.Kind.length) f.Kind.length (bvs O1) :: RowT 1 lv1 (l ++ L).length (qvs (l ++ L)) :: R1) →
        Calls Tryz.prog 46 #[visV f p g 43, .int .i64 k, lv1] w1 (FromPost st P W g f.Kind.length O1 (l ++ L) k R1)) := Lib.hid fun O1 L lv1 k w1 R1 hd hk hs =>
      ih O1 (l ++ L) lv1 k w1 R1 (fun q hq hqs => by have := (hm.sub hd) q hq hqs; omega) ((hB.sub hd).mono (by rw [List.length_append]; omega)) (by rw [hd.len, hO]) (fun x hx => hP x (hd.sub x hx)) hk hs
    have HLL : Hid (∀ O1 L, Dfl (stE st) P O O1 c L → (l ++ L).length ≤ 90000) := Lib.hid fun O1 L hd => by have := (hB.sub hd).nil; rw [List.length_append]; omega
    have HEND : Hid (∀ O1 L lv' w' w3 R3, Dfl (stE st) P O O1 c L → (∀ d' : Nat, d' < 6 → ∀ y : Nat, st c d' = some (y : Int) → ¬ opn O1 y) → Sp W w' (RowT 1 (slV g f.Kind.length) f.Kind.length (bvs O1) :: RowT 1 lv' (l ++ L ++ [c]).length (qvs (l ++ L ++ [c])) :: (R ++ [R3])) → w3 = w' → FromPost st P W g f.Kind.length O l c R (.returned lv') w3) := Lib.hid fun O1 L lv' w' w3 R3 hd hdn hs e => by
      subst e
      refine ⟨O1, L ++ [c], lv', rfl, hd.done hP fun y ⟨d, hd6, hdy⟩ => hdn d hd6 y hdy, ?_⟩
      rw [List.append_assoc] at hs
      exact hs.pick id (fun i j _ _ h => h) (fun i t h => by
        have hl := (List.getElem?_eq_some_iff.1 h).1
        rw [show RowT 1 (slV g f.Kind.length) f.Kind.length (bvs O1) :: RowT 1 lv' (l ++ (L ++ [c])).length (qvs (l ++ (L ++ [c]))) :: (R ++ [R3]) = (RowT 1 (slV g f.Kind.length) f.Kind.length (bvs O1) :: RowT 1 lv' (l ++ (L ++ [c])).length (qvs (l ++ (L ++ [c]))) :: R) ++ [R3] from rfl]
        exact (List.getElem?_append_left hl).trans h)
    have HSD := Lib.hid (Dfl.start (E := stE st) (P := P) hc)
    have HSP := Lib.hid hsp
    have HON := Lib.hid hO
    have HN := Lib.hid hn4
    have HLEN : Hid (∀ O1 L, Dfl (stE st) P O O1 c L → O1.length = f.Kind.length) := Lib.hid fun O1 L hd => by rw [hd.len, hO]
    clear ih hm hB hO hP hc hsp hst hy ho hn4
    generalize FromPost st P W g f.Kind.length O l c R = QQ at *
    unfold FromPost at HIH
    obtain ⟨A1, c1, A2, c2⟩ := p
    obtain ⟨fW, fH, fD, K, OO⟩ := f
    dsimp only [visV, Fl.val] at *
    generalize K.length = n at *
    generalize OO.length = n2 at *
    obtain ⟨Ak, ck, rfl⟩ := (HSP.out.grow 1 rfl).slice
    have H0 : Hid (Sp W (w.alloc (.cells #[.int .i64 fW, .int .i64 fH, .int .i64 fD, .slice A1 n c1, .slice A2 n2 c2, slV g n, .func (.func 43) #[] #[]] 55)) (RowT 1 (slV g n) n (bvs O) :: RowT 1 (.slice Ak l.length ck) l.length (qvs l) :: (R ++ [BlkT w.heap.size 55 (visC fW fH fD A1 n c1 A2 n2 c2 g 43)]))) := Lib.hid (HSP.out.local 55 (visC fW fH fD A1 n c1 A2 n2 c2 g 43))
    obtain ⟨x0, x1⟩ := Grow.cell (H0.out.grow 0 rfl) (bvs_at (l := O) (k := c) (by rw [HON.out]; exact hcn))
    have H1 := Lib.hid (H0.out.store 0 rfl c hcn (.bool false))
    rw [bvs_set] at H1
    dsimp only [List.set_cons_zero] at H1
    have HBX : Hid (∀ w' T, Sp W w' (T ++ [BlkT w.heap.size 55 (visC fW fH fD A1 n c1 A2 n2 c2 g 43)]) → Blk w' w.heap.size 55 (visC fW fH fD A1 n c1 A2 n2 c2 g 43)) := Lib.hid fun w' T h => h.blk T.length (by simp)
    have HBB : Hid (∀ w' O1 v q, Sp W w' (RowT 1 (slV g n) n (bvs O1) :: RowT 1 v q.length (qvs q) :: (R ++ [BlkT w.heap.size 55 (visC fW fH fD A1 n c1 A2 n2 c2 g 43)])) → w'.cell? ⟨w.heap.size, 0, none⟩ = some (.int .i64 fW) ∧ w'.cell? ⟨w.heap.size, 1, none⟩ = some (.int .i64 fH) ∧ w'.cell? ⟨w.heap.size, 2, none⟩ = some (.int .i64 fD) ∧ w'.cell? ⟨w.heap.size, 3, none⟩ = some (.slice A1 n c1) ∧ w'.cell? ⟨w.heap.size, 4, none⟩ = some (.slice A2 n2 c2) ∧ w'.cell? ⟨w.heap.size, 5, none⟩ = some (slV g n) ∧ w'.cell? ⟨w.heap.size, 6, none⟩ = some (.func (.func 43) #[] #[])) := Lib.hid fun w' O1 v q h => by
      have hb := HBX.out w' (RowT 1 (slV g n) n (bvs O1) :: RowT 1 v q.length (qvs q) :: R) h
      exact ⟨hb.at 0, hb.at 1, hb.at 2, hb.at 3, hb.at 4, hb.at 5, hb.at 6⟩
    clear HBX
    go_enter Tryz.func46, Tryz.ntmps46
    go_upto_region 2 with (fail)
    clear x0 x1
    generalize ((w.alloc (.cells #[.int .i64 fW, .int .i64 fH, .int .i64 fD, .slice A1 n c1, .slice A2 n2 c2, slV g n, .func (.func 43) #[] #[]] 55)).setCell ⟨g, c, none⟩ (.bool false)) = w1 at *
    clear H0 HSP
    generalize w.heap.size = gb at *
    generalize hXX : (R ++ [BlkT gb 55 (visC fW fH fD A1 n c1 A2 n2 c2 g 43)]) = X at *
    have HXX := Lib.hid hXX
    clear hXX
    go_wp2_with fail
    go_loopw [2, 7, 8, 9, 14] (fun lv _ _ _ iv wr => ∃ d O1 L, FrI st P W g n O l c X lv iv wr d O1 L) (fun _ _ _ _ iv _ => 6 - (intOf iv).toNat)
    case atStart => exact ⟨0, O.set c false, [], rfl, by omega, by rw [List.append_nil]; exact H1.out, HSD.out, fun d' h => by omega⟩
    case round =>
      clear H1
      obtain ⟨d, O1, L, ⟨rfl, hd6, hsp, hdf, hdn⟩⟩ := hrel
      obtain ⟨q, hq⟩ : ∃ q, q = l ++ L := ⟨_, rfl⟩
      have HLC := Lib.hid (HLL.out O1 L hdf)
      rw [← hq] at hsp HLC
      obtain ⟨Aq, cq, rfl⟩ := (hsp.grow 1 rfl).slice
      have HSP := Lib.hid hsp
      have HDF := Lib.hid hdf
      have HDN := Lib.hid hdn
      have HLE := Lib.hid (HLEN.out O1 L hdf)
      have HRC0 := Lib.hid (fun lv1 k w1 => HIH.out O1 L lv1 k w1 X hdf)
      rw [← hq] at HRC0
      have HQ := Lib.hid hq
      obtain ⟨m0, m1, m2, m3, m4, m5, m6⟩ := HBB.out _ _ _ _ hsp
      clear hdf hdn hq HIH
      by_cases hlt : d < 6
      · have HCA := Lib.hid (HST.out wr HSP.out.below c d)
        have hd9 : (d : Int) < 6 := by omega
        clear hsp
        cases hstd : st c d with
        | none =>
          rw [hstd] at HCA
          have HDX : Hid (∀ d' : Nat, d' < d + 1 → ∀ y : Nat, st c d' = some (y : Int) → ¬ opn O1 y) := Lib.hid fun d' h y e => by
            by_cases e' : d' = d
            · rw [e', hstd] at e
              cases e
            · exact HDN.out d' (by omega) y e
          clear hstd HDN HEND HST HY HRC0
          go_wp2_with (go_at_call 43; refine HCA.out.mono ?_; rintro e w5 ⟨rfl, b5⟩; have H5 := Lib.hid (HSP.out.keep b5); clear b5)
          go_roundw
          case rel => exact ⟨d + 1, O1, L, by simp, by omega, by rw [← HQ.out]; exact H5.out, HDF.out, HDX.out⟩
          case measure => simp [intOf]; omega
        | some y =>
          obtain ⟨k, rfl, hk⟩ := HY.out c d y hstd
          rw [hstd] at HCA
          have hk9 : (k : Int) < 4096 := by have := HN.out; omega
          have HBA := Lib.hid (bvs_at (l := O1) (k := k) (by rw [HLE.out]; exact hk))
          cases hop : O1.getD k false
          · rw [hop] at HBA
            have HDX : Hid (∀ d' : Nat, d' < d + 1 → ∀ y : Nat, st c d' = some (y : Int) → ¬ opn O1 y) := Lib.hid fun d' h y e => by
              by_cases e' : d' = d
              · rw [e', hstd] at e
                injection e with e
                have : k = y := by omega
                subst this
                unfold opn
                rw [hop]
                simp
              · exact HDN.out d' (by omega) y e
            clear hstd HDN HEND HST HY HRC0 hop
            go_wp2_with (go_at_call 43; refine HCA.out.mono ?_; rintro e w5 ⟨rfl, b5⟩; have H5 := Lib.hid (HSP.out.keep b5); clear b5; obtain ⟨n0, n1, n2, n3, n4, n5, n6⟩ := HBB.out _ _ _ _ H5.out; obtain ⟨x0, x1⟩ := Grow.cell (H5.out.grow 0 rfl) HBA.out)
            go_roundw
            case rel => exact ⟨d + 1, O1, L, by simp, by omega, by rw [← HQ.out]; exact H5.out, HDF.out, HDX.out⟩
            case measure => simp [intOf]; omega
          · rw [hop] at HBA
            have HSN : Hid (stE st c k) := Lib.hid ⟨d, hlt, hstd⟩
            have HRC := Lib.hid (fun w1 h => HRC0.out (.slice Aq q.length cq) k w1 hop h)
            have HDX : Hid (∀ O2 M, Dfs (stE st) P O1 O2 k M → ∀ d' : Nat, d' < d + 1 → ∀ y : Nat, st c d' = some (y : Int) → ¬ opn O2 y) := Lib.hid fun O2 M hd2 d' h y e => by
              by_cases e' : d' = d
              · rw [e', hstd] at e
                injection e with e
                have : k = y := by omega
                subst this
                obtain ⟨L0, e3⟩ := hd2.last
                exact ((hd2.mem k).1 (by rw [e3]; simp)).2
              · exact fun hy => HDN.out d' (by omega) y e (hd2.sub _ hy)
            clear hstd HDN HEND HST HY HRC0 hop
            go_wp2_with (first
              | (go_at_call 43; refine HCA.out.mono ?_; rintro e w5 ⟨rfl, b5⟩; have H5 := Lib.hid (HSP.out.keep b5); clear b5; obtain ⟨n0, n1, n2, n3, n4, n5, n6⟩ := HBB.out _ _ _ _ H5.out; obtain ⟨x0, x1⟩ := Grow.cell (H5.out.grow 0 rfl) HBA.out)
              | (go_at_call 46; refine (HRC.out _ H5.out).mono ?_; rintro e w7 ⟨O2, M, lv2, rfl, hd2, hs2⟩; have HD2 := Lib.hid hd2; have HS2 := Lib.hid hs2; clear hd2 hs2))
            go_roundw
            case rel => exact ⟨d + 1, O2, L ++ M, by simp, by omega, by have := HS2.out; rw [HQ.out, List.append_assoc] at this; exact this, HDF.out.visit HSN.out HD2.out, HDX.out O2 M HD2.out⟩
            case measure => simp [intOf]; omega
      · obtain rfl : d = 6 := by omega
        have HPU := Lib.hid (push_int (q := q) HSP.out 1 rfl c (by have := HLC.out; omega) 3)
        have HE2 : Hid (∀ v' w', Sp W w' (RowT 1 (slV g n) n (bvs O1) :: RowT 1 v' (q ++ [c]).length (qvs (q ++ [c])) :: X) → QQ (.returned v') w') := Lib.hid fun v' w' h => by
          rw [← HXX.out, HQ.out] at h
          exact HEND.out O1 L v' w' w' _ HDF.out HDN.out h rfl
        clear hsp HEND HRC0 HST HY
        go_wp2_with (at_builtin; obtain ⟨v7, w7, r7, h7⟩ := HPU.out; have H7 := Lib.hid (HE2.out v7 w7 h7); refine wpList_append_run rfl _ _ _ _ rfl (by simp [go_sem]) (by simp [go_sem]) r7 ?_; clear r7 h7)
        exact H7.out
end Rgn
end Go.Proofs.YtgophgnfiboefaaGreatDoor

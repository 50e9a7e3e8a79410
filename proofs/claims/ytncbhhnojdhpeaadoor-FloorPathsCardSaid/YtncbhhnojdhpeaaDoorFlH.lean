/- The reference's spread: breadth first. -/
import Derived.Test.YtncbhhnojdhpeaaDoorFlL
import Derived.Test.YtncbhhnojdhpeaaDoorSepA
import Derived.Deep.DeepCutAuto
namespace Go.Proofs.YtncbhhnojdhpeaaDoor
open Go.RowKit Wire
open Txt (Row)
open Own
set_option linter.unusedVariables false
set_option linter.unusedSimpArgs false
namespace Flo
/-- Neither a wall nor avoided? -/
def shutB (f : Fl) (avoid : List Int) (c : Nat) : Bool := decide ((c : Int) ∈ avoid) || f.kindAt c == 0
def stp (f : Fl) (back : Bool) (c d : Int) : Option Int := if back then f.back c d else f.next c d
def spE (f : Fl) (avoid : List Int) (back : Bool) (c n : Nat) : Prop := ∃ d : Nat, d < 6 ∧ stp f back c d = some (n : Int) ∧ shutB f avoid n = false
def spSrc (f : Fl) (src avoid : List Int) (c : Nat) : Prop := c < f.Kind.length ∧ (c : Int) ∈ src ∧ shutB f avoid c = false
abbrev bvs (l : List Bool) : List Value := l.map Value.bool
abbrev ivs (l : List Int) : List Value := l.map (Value.int .i64)
abbrev qvs (l : List Nat) : List Value := l.map (fun c : Nat => Value.int .i64 (c : Int))
theorem bvs_set (l : List Bool) (k : Nat) (b : Bool) : (bvs l).set k (.bool b) = bvs (l.set k b) := by simp [bvs]
theorem ivs_set (l : List Int) (k : Nat) (z : Int) : (ivs l).set k (.int .i64 z) = ivs (l.set k z) := by simp [ivs]
theorem getD_set {α : Type} (l : List α) (k : Nat) (v dflt : α) (h : k < l.length) (c : Nat) : (l.set k v).getD c dflt = if c = k then v else l.getD c dflt := by
  rw [List.getD_eq_getElem?_getD, List.getD_eq_getElem?_getD, List.getElem?_set]
  by_cases e : k = c
  · rw [if_pos e, if_pos e.symm, if_pos (by omega)]
    rfl
  · rw [if_neg e, if_neg (Ne.symm e)]
theorem bvs_at {l : List Bool} {k : Nat} (h : k < l.length) : (bvs l)[k]? = some (.bool (l.getD k false)) := by
  rw [List.getElem?_map, List.getD_eq_getElem?_getD, List.getElem?_eq_getElem h]
  rfl
theorem ivs_at {l : List Int} {k : Nat} (h : k < l.length) : (ivs l)[k]? = some (.int .i64 (gt l k)) := by
  rw [List.getElem?_map, gt_of h]
  rfl
theorem mem_take_next {l : List Int} {i : Nat} (h : i < l.length) (c : Int) : decide (c ∈ l.take (i + 1)) = (decide (c ∈ l.take i) || decide (l.getD i 0 = c)) := by
  rw [List.take_succ_eq_append_getElem h, List.getD_eq_getElem?_getD, List.getElem?_eq_getElem h]
  simp only [List.mem_append, List.mem_singleton, Option.getD_some, Bool.decide_or]
  congr 1
  simp [eq_comm]
abbrev boxV (W H D : Int) (A1 : Option Addr) (n1 c1 : Nat) (A2 : Option Addr) (n2 c2 : Nat) : Array Value := #[.int .i64 W, .int .i64 H, .int .i64 D, .slice A1 n1 c1, .slice A2 n2 c2]
structure Sp1 (W : World) (g4 g9 n : Nat) (box : Array Value) (avoid : List Int) (iv : Value) (wr : World) (i : Nat) (bs : List Bool) : Prop where
  iv : iv = .int .i64 i
  le : i ≤ avoid.length
  sp : Sp W wr [BlkT g4 24 box, RowT 1 (.slice (some ⟨g9, 0, none⟩) n n) n (bvs bs)]
  len : bs.length = n
  val : ∀ c : Nat, c < n → bs.getD c false = decide ((c : Int) ∈ avoid.take i)
structure Sp2 (W : World) (f : Fl) (g4 g9 g11 n : Nat) (box : Array Value) (avoid : List Int) (iv : Value) (wr : World) (i : Nat) (bs : List Bool) (out : List Int) : Prop where
  iv : iv = .int .i64 i
  le : i ≤ n
  sp : Sp W wr [BlkT g4 24 box, RowT 1 (.slice (some ⟨g9, 0, none⟩) n n) n (bvs bs), RowT 1 (.slice (some ⟨g11, 0, none⟩) n n) n (ivs out)]
  len : bs.length = n
  lout : out.length = n
  val : ∀ c : Nat, c < n → bs.getD c false = if c < i then shutB f avoid c else decide ((c : Int) ∈ avoid)
  outs : ∀ c : Nat, c < i → gt out c = -1
structure Sp3 (W : World) (f : Fl) (g4 g9 g11 n : Nat) (box : Array Value) (src avoid : List Int) (bs : List Bool) (qv iv : Value) (wr : World) (i : Nat) (out : List Int) (q : List Nat) : Prop where
  iv : iv = .int .i64 i
  le : i ≤ src.length
  sp : Sp W wr [BlkT g4 24 box, RowT 1 (.slice (some ⟨g9, 0, none⟩) n n) n (bvs bs), RowT 1 (.slice (some ⟨g11, 0, none⟩) n n) n (ivs out), RowT 1 qv q.length (qvs q)]
  srcs : Srcs n (spSrc f src avoid) out q
  done : ∀ (j c : Nat), j < i → src.getD j 0 = c → spSrc f src avoid c → c ∈ q
structure Sp4 (W : World) (f : Fl) (g4 g9 g11 n : Nat) (box : Array Value) (src avoid : List Int) (back : Bool) (bs : List Bool) (qv iv : Value) (wr : World) (i : Nat) (out : List Int) (q : List Nat) : Prop where
  iv : iv = .int .i64 i
  le : i ≤ q.length
  sp : Sp W wr [BlkT g4 24 box, RowT 1 (.slice (some ⟨g9, 0, none⟩) n n) n (bvs bs), RowT 1 (.slice (some ⟨g11, 0, none⟩) n n) n (ivs out), RowT 1 qv q.length (qvs q)]
  bfs : Bfs n (spSrc f src avoid) (spE f avoid back) out q i
structure Sp5 (W : World) (f : Fl) (g4 g9 g11 n : Nat) (box : Array Value) (src avoid : List Int) (back : Bool) (bs : List Bool) (i c : Nat) (qv jv : Value) (wr : World) (j : Nat) (out : List Int) (q : List Nat) : Prop where
  jv : jv = .int .i64 j
  le : j ≤ 6
  sp : Sp W wr [BlkT g4 24 box, RowT 1 (.slice (some ⟨g9, 0, none⟩) n n) n (bvs bs), RowT 1 (.slice (some ⟨g11, 0, none⟩) n n) n (ivs out), RowT 1 qv q.length (qvs q)]
  bfs : Bfs n (spSrc f src avoid) (spE f avoid back) out q i
  at_ : q[i]? = some c
  seen : ∀ (d m : Nat), d < j → stp f back c d = some (m : Int) → shutB f avoid m = false → 0 ≤ gt out m
theorem done_next {src : List Int} {S : Nat → Prop} {i : Nat} {q q' : List Nat} (h : ∀ (j c : Nat), j < i → src.getD j 0 = c → S c → c ∈ q) (hq : ∀ c, c ∈ q → c ∈ q') (hi : ∀ c : Nat, src.getD i 0 = c → S c → c ∈ q') : ∀ (j c : Nat), j < i + 1 → src.getD j 0 = c → S c → c ∈ q' := by
  intro j c hj e hs
  by_cases e2 : j = i
  · subst e2
    exact hi c e hs
  · exact hq c (h j c (by omega) e hs)
/-- A number behind a row. -/
theorem push_int {W w : World} {T : List Thing} {v : Value} {q : List Nat} (h : Sp W w T) (i : Nat) (hi : T[i]? = some (RowT 1 v q.length (qvs q))) (c : Nat) (hl : q.length ≤ 100000) (tb : TypeId) :
    ∃ v' w', (Builtin.append_ #[22, 22] 22 #[v, .slice (some ⟨w.heap.size, 0, none⟩) 1 1]).run Tryd.prog (w.alloc (.cells #[.int .i64 (c : Int)] tb)) = .ok v' w' ∧ Sp W w' (T.set i (RowT 1 v' (q ++ [c]).length (qvs (q ++ [c])))) := by
  obtain ⟨i0, hi0, hz0, hz1, hz2⟩ := info_parts Dsk.info_int
  have h1 := h.keep ((Below.refl _ w).alloc (Nat.le_refl _) (.cells #[.int .i64 (c : Int)] tb))
  have hx : Blk (w.alloc (.cells #[.int .i64 (c : Int)] tb)) w.heap.size tb #[.int .i64 (c : Int)] := Blk.fresh w tb _
  generalize w.alloc (.cells #[.int .i64 (c : Int)] tb) = w1 at *
  have hsrc : Src Tryd.prog 1 22 (.slice (some ⟨w.heap.size, 0, none⟩) 1 1) 1 (qvs [c]) w1 := Src.ofSlice w1 Tryd.underlying22 ⟨w.heap.size, 0, none⟩ 1 1 (qvs [c]) rfl (fun j u hu => by
    rw [row_add', Nat.zero_add, hx.at]
    simpa using hu) (fun u hu => by simp at hu; rw [hu]; rfl)
  obtain ⟨v', w', hr, hg', hgr, hv⟩ := run_append_src (P := Tryd.prog) w1 0 22 22 22 3 i0 _ 1 8 Tryd.underlying22 hi0 hz0 hz1 hz2 rfl (by omega) v q.length (qvs q) (h1.grow i hi) _ 1 (qvs [c]) hsrc (by unfold maxLen; omega) (by omega) (Nat.zero_le _)
  rw [show qvs q ++ qvs [c] = qvs (q ++ [c]) from (List.map_append ..).symm] at hg'
  refine ⟨v', w', hr, h1.turn i hi fun F hF hlt => ⟨fun x => v'.ownBlock = some x, ⟨by rw [List.length_append]; exact hg', fun x => Iff.rfl⟩, fun b hb => ?_, Dsk.Only.of_grown' hgr fun m hm => .inl ((hF.2 m).2 hm)⟩⟩
  have := (hg'.block b hb).2
  rcases hv with e | e
  · exact .inl ((hF.2 b).2 (by rw [← e]; exact hb))
  · rw [e] at hb
    injection hb with hb
    exact .inr (by omega)
theorem wpList_append_run {P : Program} {ops : Array Oper} {rest : List Oper} {o : Oper} {a : Act} {w w' : World} {Q : Exit → Act → World → Prop} (hgd : o.guard = none) (s x : Operand) (t tx : TypeId) {v y v' : Value}
    (ho : o.op = .call { callee := .builtin .append, args := #[s, x], argTypes := #[t, tx] }) (hs : a.eval s = v) (hx : a.eval x = y) (hr : (Builtin.append_ #[t, tx] o.type #[v, y]).run P w = .ok v' w') (h : wpList P ops Q rest (a.put o.dst v') w') : wpList P ops Q (o :: rest) a w :=
  wpList_plain hgd fun K hK => by
    unfold Oper.wp execOp
    simp only [ho, resolve, invoke, builtin, Sem.run_bind, Sem.run_pure, Result.andThen_ok, List.map_toArray, List.map_cons, List.map_nil, hs, hx, hr]
    exact hK _ _ h
/-- What spread answers. -/
def SpreadPost (f : Fl) (src avoid : List Int) (back : Bool) (w : World) (e : Ending) (w' : World) : Prop :=
  ∃ A c l, e = .returned (.slice A f.Kind.length c) ∧ IsDist f.Kind.length (spSrc f src avoid) (spE f avoid back) l ∧ Row w' w'.heap.size A (ivs l) ∧ Below w.heap.size w w'
theorem info_bool : (Tryd.prog.info? 4).map (fun i => (i.zero, i.size, i.bytes)) = some (some (.bool false), 1, 1) := by kernel_rfl
set_option maxRecDepth 100000 in
set_option maxHeartbeats 8000000 in
theorem spread_any {f : Fl} (ho : f.ok) (p : Pl) (A B : Option Addr) (ca cb : Nat) (src avoid : List Int) (back : Bool) (w : World) (hin : FlIn w f p) (hs : Row w w.heap.size A (ivs src)) (ha : Row w w.heap.size B (ivs avoid)) (hls : src.length ≤ 1000000) (hla : avoid.length ≤ 1000000) :
    Calls Tryd.prog 41 #[f.val p, .slice A src.length ca, .slice B avoid.length cb, .bool back] w (SpreadPost f src avoid back w) := by
  have HSZ := Lib.hid (fun w => qSize_any ho p w)
  have HIS := Lib.hid (fun c w => qIs_any ho p c w)
  have HNX := Lib.hid (fun c d w' (b : Below w.heap.size w w') => qNext_any ho p c d w' (hin.lift b))
  have HBK := Lib.hid (fun c d w' (b : Below w.heap.size w w') => qBack_any ho p c d w' (hin.lift b))
  have HAV : Hid (∀ k, k < avoid.length → ∃ b o, B = some ⟨b, o, none⟩ ∧ ∀ w', Below w.heap.size w w' → w'.cell? ⟨b, o + k, none⟩ = some (.int .i64 (avoid.getD k 0))) := Lib.hid fun k hk => row_val ha hk
  have HSR : Hid (∀ k, k < src.length → ∃ b o, A = some ⟨b, o, none⟩ ∧ ∀ w', Below w.heap.size w w' → w'.cell? ⟨b, o + k, none⟩ = some (.int .i64 (src.getD k 0))) := Lib.hid fun k hk => row_val hs hk
  have HKI : Hid (∀ k, k < f.Kind.length → ∃ b o, p.A1 = some ⟨b, o, none⟩ ∧ ∀ w', Below w.heap.size w w' → w'.cell? ⟨b, o + k, none⟩ = some (.int .i64 (f.kindAt k))) := Lib.hid fun k hk => by
    have := row_val hin.kind hk
    have e : f.kindAt k = f.Kind.getD k 0 := by unfold Fl.kindAt; simp
    rw [e]
    exact this
  have hkn := ho.kinds
  have hn4 := ho.size
  have HIS2 : Hid (∀ c, f.is c = true ↔ (0 ≤ c ∧ c < f.Kind.length)) := Lib.hid fun c => by
    unfold Fl.is
    rw [decide_eq_true_iff, hkn]
  rw [← hkn] at HSZ
  have hn4' : f.Kind.length ≤ 4096 := by omega
  have HN4 := Lib.hid hn4'
  clear hkn hn4 hin hs ha
  obtain ⟨n, hn⟩ : ∃ n : Nat, n = f.Kind.length := ⟨_, rfl⟩
  have HPO : Hid (∀ w' cap l, Row w' w'.heap.size cap (ivs l) → IsDist n (spSrc f src avoid) (spE f avoid back) l → Below w.heap.size w w' → ∀ c, SpreadPost f src avoid back w (.returned (.slice cap n c)) w') := Lib.hid fun w' A l hr hd b c => ⟨A, c, l, by rw [hn], hn ▸ hd, hr, b⟩
  have HSP0 : Hid (Sp w w []) := Lib.hid (Sp.nil (Below.refl _ w))
  obtain ⟨ib, hib, hib0, hib1, hib2⟩ := info_parts info_bool
  obtain ⟨ii, hii, hii0, hii1, hii2⟩ := info_parts Dsk.info_int
  obtain ⟨A1, c1, A2, c2⟩ := p
  have HVAL : Hid (f.val ⟨A1, c1, A2, c2⟩ = .agg #[.int .i64 f.W, .int .i64 f.H, .int .i64 f.D, .slice A1 n c1, .slice A2 f.Out.length c2]) := Lib.hid (by rw [hn])
  rw [HVAL.out] at HSZ HIS HNX HBK ⊢
  rw [← hn] at HIS2 HSZ HKI HN4
  have HNF : Hid (n = f.Kind.length) := Lib.hid hn
  clear hn hn4' HVAL
  dsimp only at HKI
  generalize SpreadPost f src avoid back w = Q at *
  generalize f.W = fW at *
  generalize f.H = fH at *
  generalize f.D = fD at *
  generalize f.Out.length = n2 at *
  go_enter Tryd.func41, Tryd.ntmps41
  go_wp2_with (first
    | (go_at_call 43; refine (HSZ.out _).mono ?_; rintro e w1 ⟨rfl, b1⟩; have H1 : Hid (Sp w w1 [BlkT w.heap.size 24 (boxV fW fH fD A1 n c1 A2 n2 c2)]) := Lib.hid ((HSP0.out.local 24 (boxV fW fH fD A1 n c1 A2 n2 c2)).keep b1); clear b1)
    | (refine wpList_make_row rfl _ _ 51 4 ib _ 1 rfl Tryd.underlying51 hib hib0 hib1 hib2 (by omega) rfl n (by have := HN4.out; omega) rfl rfl ?_; intro w2 g2 b2; have H2 : Hid (Sp w w2 [BlkT w.heap.size 24 (boxV fW fH fD A1 n c1 A2 n2 c2), RowT 1 (.slice (some ⟨w1.heap.size, 0, none⟩) n n) n (bvs (List.replicate n false))]) := Lib.hid (by have := H1.out.new_row b2 g2; rwa [show bvs (List.replicate n false) = List.replicate n (Value.bool false) from List.map_replicate ..]); clear g2 b2))
  generalize hg9 : w1.heap.size = g9 at *
  have HG4 : Hid (∀ w' T, Sp w w' (BlkT w.heap.size 24 (boxV fW fH fD A1 n c1 A2 n2 c2) :: T) → ∀ w2, Below w'.heap.size w' w2 → BoxS w.heap.size fW fH fD A1 n c1 A2 n2 c2 w2) := Lib.hid fun w' T h w2 b => boxS ((h.blk 0 rfl).under b (h.blk 0 rfl).inside)
  clear hg9 H1 HSP0
  go_loopw [10] (fun iv wr => ∃ i bs, Sp1 w w.heap.size g9 n (boxV fW fH fD A1 n c1 A2 n2 c2) avoid iv wr i bs) (fun iv _ => avoid.length - (intOf iv).toNat)
  case atStart => exact ⟨0, _, rfl, Nat.zero_le _, H2.out, List.length_replicate, fun c hc => (by rw [List.getD_eq_getElem?_getD, List.getElem?_replicate, if_pos hc]; simp)⟩
  case round =>
    clear H2
    obtain ⟨i, bs, ⟨rfl, hi, hsp, hlen, hval⟩⟩ := hrel
    by_cases hlt : i < avoid.length
    · obtain ⟨b, o, rfl, hc⟩ := HAV.out i hlt
      have HC := Lib.hid hc
      have HSP := Lib.hid hsp
      have HLEN := Lib.hid hlen
      have HVA : Hid (∀ c : Nat, c < n → bs.getD c false = decide ((c : Int) ∈ avoid.take i)) := Lib.hid hval
      have HMT := Lib.hid (fun c : Int => mem_take_next hlt c)
      have hi3 : (i : Int) < 1000000 := by omega
      have HB0 : Hid (Below wr.heap.size wr wr.drew) := Lib.hid (Below.refl _ wr).drew
      clear hc hsp hlen hval HAV
      generalize avoid.getD i 0 = v at *
      have HKB : Hid (∀ w', Below wr.heap.size wr w' → BoxS w.heap.size fW fH fD A1 n c1 A2 n2 c2 w') := Lib.hid fun w' b => HG4.out _ _ HSP.out w' b
      have HKC : Hid (∀ w', Below wr.heap.size wr w' → w'.cell? ⟨b, o + i, none⟩ = some (.int .i64 v)) := Lib.hid fun w' bw => HC.out w' (next_below HSP.out.below bw)
      go_upto_region 5 with (fail)
      go_region_held3 (fun w' => w'.cell? ⟨b, o + i, none⟩ = some (.int .i64 v) ∧ BoxS w.heap.size fW fH fD A1 n c1 A2 n2 c2 w') (first | exact ⟨HKC.out _ HB0.out, HKB.out _ HB0.out⟩ | exact ⟨HKC.out _ b5, HKB.out _ b5⟩ | exact HKC.out _ HB0.out | exact HKC.out _ b5 | exact HKB.out _ HB0.out | exact HKB.out _ b5 | go_keep)
        (first | (go_at_call 36; refine (HIS.out _ _).mono ?_; rintro e w5 ⟨rfl, b5'⟩; have b5 := HB0.out.trans b5'))
      have HSP5 := Lib.hid (HSP.out.keep b5)
      have z5 := HKC.out _ b5
      clear b5 b5' HSP HKB HKC
      cases hisv : f.is v
      · have HNI : Hid (∀ c : Nat, c < n → ¬ v = c) := Lib.hid fun c hc e => by
          have := (HIS2.out v).2 ⟨by omega, by omega⟩
          rw [hisv] at this
          cases this
        go_wp2_with fail
        go_roundw
        case rel => exact ⟨i + 1, bs, by simp, hlt, HSP5.out, HLEN.out, fun c hc => (by rw [HMT.out, HVA.out c hc, decide_eq_false (HNI.out c hc), Bool.or_false])⟩
        case measure => simp [intOf]; omega
      · obtain ⟨hv0, hv1⟩ := (HIS2.out v).1 hisv
        obtain ⟨k, rfl⟩ : ∃ k : Nat, v = k := ⟨v.toNat, by omega⟩
        have hk : k < n := by omega
        obtain ⟨y0, y1⟩ := Grow.cell (HSP5.out.grow 1 rfl) (bvs_at (l := bs) (k := k) (by rw [HLEN.out]; exact hk))
        have HST : Hid (Sp w (w5.setCell ⟨g9, k, none⟩ (.bool true)) [BlkT w.heap.size 24 (boxV fW fH fD A1 n c1 A2 n2 c2), RowT 1 (.slice (some ⟨g9, 0, none⟩) n n) n (bvs (bs.set k true))]) := Lib.hid (by
          have := HSP5.out.store 1 rfl k hk (.bool true)
          rw [bvs_set] at this
          exact this)
        have HVN : Hid (∀ c : Nat, c < n → (bs.set k true).getD c false = decide ((c : Int) ∈ avoid.take (i + 1))) := Lib.hid fun c hc => by
          rw [HMT.out, getD_set _ _ _ _ (by rw [HLEN.out]; exact hk), HVA.out c hc]
          by_cases e : c = k
          · rw [if_pos e, e, decide_eq_true (rfl : (k : Int) = k), Bool.or_true]
          · rw [if_neg e, decide_eq_false (p := (k : Int) = c) (by omega), Bool.or_false]
        go_wp2_with fail
        go_roundw
        case rel => exact ⟨i + 1, bs.set k true, by simp, hlt, HST.out, by rw [List.length_set]; exact HLEN.out, HVN.out⟩
        case measure => simp [intOf]; omega
    · obtain rfl : avoid.length = i := by omega
      rw [List.take_length] at hval
      have HSP := Lib.hid hsp
      have HLEN := Lib.hid hlen
      have HVA : Hid (∀ c : Nat, c < n → bs.getD c false = decide ((c : Int) ∈ avoid)) := Lib.hid hval
      obtain ⟨k0, k1, k2, k3, k4⟩ := HG4.out _ _ HSP.out _ (Below.refl _ _)
      clear hsp hlen hval HAV
      go_wp2_with (first
        | (go_at_call 43; refine (HSZ.out _).mono ?_; rintro e w3 ⟨rfl, b3⟩; have H3 := Lib.hid (HSP.out.keep b3); clear b3)
        | (refine wpList_make_row rfl _ _ 22 3 ii _ 8 rfl Tryd.underlying22 hii hii0 hii1 hii2 (by omega) rfl n (by have := HN4.out; omega) rfl rfl ?_; intro w4 g4 b4; have H4 : Hid (Sp w w4 [BlkT w.heap.size 24 (boxV fW fH fD A1 n c1 A2 n2 c2), RowT 1 (.slice (some ⟨g9, 0, none⟩) n n) n (bvs bs), RowT 1 (.slice (some ⟨w3.heap.size, 0, none⟩) n n) n (ivs (List.replicate n 0))]) := Lib.hid (by have := H3.out.new_row b4 g4; rwa [show ivs (List.replicate n 0) = List.replicate n (Value.int .i64 0) from List.map_replicate ..]); clear g4 b4))
      generalize hg11 : w3.heap.size = g11 at *
      clear hg11 H3 HSP k0 k1 k2 k3 k4
      go_loopw [12] (fun iv wr => ∃ i bs out, Sp2 w f w.heap.size g9 g11 n (boxV fW fH fD A1 n c1 A2 n2 c2) avoid iv wr i bs out) (fun iv _ => n - (intOf iv).toNat)
      case atStart => exact ⟨0, bs, _, rfl, Nat.zero_le _, H4.out, HLEN.out, List.length_replicate, fun c hc => (by rw [if_neg (by omega)]; exact HVA.out c hc), fun c hc => by omega⟩
      case round =>
        clear H4 HLEN HVA
        obtain ⟨i, bs, out, ⟨rfl, hi, hsp, hlen, hlout, hval, houts⟩⟩ := hrel
        by_cases hlt : i < n
        · obtain ⟨b, o, rfl, hc⟩ := HKI.out i hlt
          have hi4 : (i : Int) < 4096 := by have := HN4.out; omega
          have hin : (i : Int) < n := by omega
          obtain ⟨y0, y1⟩ := Grow.cell (hsp.grow 2 rfl) (ivs_at (l := out) (k := i) (by rw [hlout]; exact hlt))
          have HS2 : Hid (Sp w (wr.setCell ⟨g11, i, none⟩ (.int .i64 (-1))) [BlkT w.heap.size 24 (boxV fW fH fD (some ⟨b, o, none⟩) n c1 A2 n2 c2), RowT 1 (.slice (some ⟨g9, 0, none⟩) n n) n (bvs bs), RowT 1 (.slice (some ⟨g11, 0, none⟩) n n) n (ivs (out.set i (-1)))]) := Lib.hid (by
            have := hsp.store 2 rfl i hlt (.int .i64 (-1))
            rw [ivs_set] at this
            exact this)
          have HC := Lib.hid hc
          have HLEN := Lib.hid hlen
          have HLO := Lib.hid hlout
          have HVA : Hid (∀ c : Nat, c < n → bs.getD c false = if c < i then shutB f avoid c else decide ((c : Int) ∈ avoid)) := Lib.hid hval
          have HOU : Hid (∀ c : Nat, c < i + 1 → gt (out.set i (-1)) c = -1) := Lib.hid fun c hc => by
            rw [gt_set (by rw [hlout]; exact hlt)]
            by_cases e : c = i
            · rw [if_pos e]
            · rw [if_neg e]; exact houts c (by omega)
          have HSB : Hid (∀ r, (bs.getD i false || f.kindAt i == 0) = r → ∀ c : Nat, c < n → (bs.set i r).getD c false = if c < i + 1 then shutB f avoid c else decide ((c : Int) ∈ avoid)) := Lib.hid fun r hr c hcn => by
            rw [getD_set _ _ _ _ (by rw [hlen]; exact hlt)]
            by_cases e : c = i
            · rw [if_pos e, if_pos (by omega), ← hr, hval i hlt, if_neg (by omega), e]
              rfl
            · rw [if_neg e, hval c hcn]
              by_cases e2 : c < i
              · rw [if_pos e2, if_pos (by omega)]
              · rw [if_neg e2, if_neg (by omega)]
          clear hc hsp hlen hlout hval houts HKI
          go_upto_region 12 with (fail)
          generalize wr.setCell ⟨g11, i, none⟩ (.int .i64 (-1)) = ws at *
          obtain ⟨k0, k1, k2, k3, k4⟩ := HG4.out _ _ HS2.out _ (Below.refl _ _)
          obtain ⟨x0, x1⟩ := Grow.cell (HS2.out.grow 1 rfl) (bvs_at (l := bs) (k := i) (by rw [HLEN.out]; exact hlt))
          have zk := HC.out _ HS2.out.below
          have HST : Hid (∀ r, Sp w (ws.setCell ⟨g9, i, none⟩ (.bool r)) [BlkT w.heap.size 24 (boxV fW fH fD (some ⟨b, o, none⟩) n c1 A2 n2 c2), RowT 1 (.slice (some ⟨g9, 0, none⟩) n n) n (bvs (bs.set i r)), RowT 1 (.slice (some ⟨g11, 0, none⟩) n n) n (ivs (out.set i (-1)))]) := Lib.hid fun r => by
            have := HS2.out.store 1 rfl i hlt (.bool r)
            rw [bvs_set] at this
            exact this
          clear HS2 HC y0 y1
          generalize f.kindAt i = kv at *
          cases hb : bs.getD i false
          · rw [hb] at x0 HSB
            go_wp2_with fail
            go_roundw
            case rel => exact ⟨i + 1, bs.set i (kv == 0), _, by simp, hlt, HST.out _, by rw [List.length_set]; exact HLEN.out, by rw [List.length_set]; exact HLO.out, HSB.out _ rfl, HOU.out⟩
            case measure => simp [intOf]; omega
          · rw [hb] at x0 HSB
            go_wp2_with fail
            go_roundw
            case rel => exact ⟨i + 1, bs.set i true, _, by simp, hlt, HST.out _, by rw [List.length_set]; exact HLEN.out, by rw [List.length_set]; exact HLO.out, HSB.out _ rfl, HOU.out⟩
            case measure => simp [intOf]; omega
        · obtain rfl : n = i := by omega
          have HVA : Hid (∀ c : Nat, c < n → bs.getD c false = shutB f avoid c) := Lib.hid fun c hc => by rw [hval c hc, if_pos hc]
          have hout : out = List.replicate n (-1) := by
            refine List.ext_getElem? fun c => ?_
            by_cases hc : c < n
            · rw [gt_of (by omega), houts c hc, List.getElem?_replicate, if_pos hc]
            · rw [List.getElem?_eq_none (by omega), List.getElem?_eq_none (by rw [List.length_replicate]; omega)]
          subst hout
          have HBL := Lib.hid hlen
          have H5 : Hid (Sp w wr [BlkT w.heap.size 24 (boxV fW fH fD A1 n c1 A2 n2 c2), RowT 1 (.slice (some ⟨g9, 0, none⟩) n n) n (bvs bs), RowT 1 (.slice (some ⟨g11, 0, none⟩) n n) n (ivs (List.replicate n (-1))), RowT 1 (.slice none 0 0) ([] : List Nat).length (qvs [])]) := Lib.hid (hsp.nil_row 1)
          clear hsp hlen hlout hval houts HKI
          go_wp2_with fail
          go_loopw [13, 14, 15] (fun qv iv _ wr => ∃ i out q, Sp3 w f w.heap.size g9 g11 n (boxV fW fH fD A1 n c1 A2 n2 c2) src avoid bs qv iv wr i out q) (fun _ iv _ _ => src.length - (intOf iv).toNat)
          case atStart => exact ⟨0, _, [], rfl, Nat.zero_le _, H5.out, Srcs.nil n, fun j c hj => by omega⟩
          case round =>
            clear H5
            obtain ⟨i, out, q, ⟨rfl, hi, hsp, hsrcs, hdone⟩⟩ := hrel
            by_cases hlt : i < src.length
            · obtain ⟨b, o, rfl, hc⟩ := HSR.out i hlt
              have z := hc _ hsp.below
              have HSP := Lib.hid hsp
              have HSS := Lib.hid hsrcs
              have HDN := Lib.hid (fun (q' : List Nat) (h1 : ∀ c, c ∈ q → c ∈ q') h2 => done_next (q' := q') hdone h1 h2)
              have HQL : Hid (q.length ≤ n) := Lib.hid (nodup_len hsrcs.nodup hsrcs.lt)
              have HOL := Lib.hid hsrcs.len
              skip
              obtain ⟨k0, k1, k2, k3, k4⟩ := HG4.out _ _ HSP.out _ (Below.refl _ _)
              have HMEM : Hid (src.getD i 0 ∈ src) := Lib.hid (by rw [List.getD_eq_getElem?_getD, List.getElem?_eq_getElem hlt]; exact List.getElem_mem hlt)
              clear hc hsp hsrcs hdone HSR
              generalize hv : src.getD i 0 = v at *
              clear hv
              have HISV := Lib.hid (fun w => HIS.out v w)
              cases hisv : f.is v
              · rw [hisv] at HISV
                have HD2 : Hid (∀ (j c : Nat), j < i + 1 → src.getD j 0 = c → spSrc f src avoid c → c ∈ q) := Lib.hid (HDN.out q (fun c h => h) (fun c e hs => by
                  have := (HIS2.out v).2 ⟨by omega, by have h1 := hs.1; have h2 := HNF.out; omega⟩
                  rw [hisv] at this
                  cases this))
                go_wp2_with (go_at_call 36; refine (HISV.out _).mono ?_; rintro e w5 ⟨rfl, b5⟩; have H5 := Lib.hid (HSP.out.keep b5); clear b5)
                go_roundw
                case rel => exact ⟨i + 1, out, q, by simp, hlt, H5.out, HSS.out, HD2.out⟩
                case measure => simp [intOf]; omega
              · rw [hisv] at HISV
                obtain ⟨hv0, hv1⟩ := (HIS2.out v).1 hisv
                obtain ⟨k, rfl⟩ : ∃ k : Nat, v = k := ⟨v.toNat, by omega⟩
                have hk : k < n := by omega
                have hkn1 : ¬ (n : Int) - 1 < k := by omega
                have hn4 : (n : Int) ≤ 4096 := by have := HN4.out; omega
                have HBA := Lib.hid (bvs_at (l := bs) (k := k) (by rw [HBL.out]; exact hk))
                have HOA := Lib.hid (ivs_at (l := out) (k := k) (by rw [HOL.out]; exact hk))
                have HSH : Hid (bs.getD k false = shutB f avoid k) := Lib.hid (HVA.out k hk)
                obtain hpos | rfl : 0 < k ∨ k = 0 := by omega
                · have hkn0 : 0 < (k : Int) := by omega
                  cases hb : bs.getD k false
                  · rw [hb] at HBA HSH
                    have HSK : Hid (spSrc f src avoid k) := Lib.hid ⟨HNF.out ▸ hk, HMEM.out, HSH.out.symm⟩
                    by_cases hneg : gt out k < 0
                    · have HADD := Lib.hid (HSS.out.add HSK.out hk hneg)
                      have HD2 : Hid (∀ (j c : Nat), j < i + 1 → src.getD j 0 = c → spSrc f src avoid c → c ∈ q ++ [k]) := Lib.hid (HDN.out _ (fun c h => List.mem_append_left _ h) (fun c e hs => List.mem_append_right _ (by have hkc : k = c := (by omega); simp [hkc])))
                      generalize gt out k = ov at *
                      go_upto_region 20 with ((go_at_call 36; refine (HISV.out _).mono ?_; rintro e w5 ⟨rfl, b5⟩; have H5 := Lib.hid (HSP.out.keep b5); clear b5; obtain ⟨x0, x1⟩ := Grow.cell (H5.out.grow 1 rfl) HBA.out; obtain ⟨y0, y1⟩ := Grow.cell (H5.out.grow 2 rfl) HOA.out; have H6 : Hid (Sp w (w5.setCell ⟨g11, k, none⟩ (.int .i64 0)) [BlkT w.heap.size 24 (boxV fW fH fD A1 n c1 A2 n2 c2), RowT 1 (.slice (some ⟨g9, 0, none⟩) n n) n (bvs bs), RowT 1 (.slice (some ⟨g11, 0, none⟩) n n) n (ivs (out.set k 0)), RowT 1 u13 q.length (qvs q)]) := Lib.hid (by have := H5.out.store 2 rfl k hk (.int .i64 0); rw [ivs_set] at this; exact this)))
                      go_wp2_with ((at_builtin; obtain ⟨v7, w7, r7, h7⟩ := push_int H6.out 3 rfl k (by have := HQL.out; have := HN4.out; omega) 3; have H7 := Lib.hid h7; refine wpList_append_run rfl _ _ _ _ rfl (by simp [go_sem]) (by simp [go_sem]) r7 ?_; clear r7 h7))
                      go_roundw
                      case rel => exact ⟨i + 1, out.set k 0, q ++ [k], by simp, hlt, H7.out, HADD.out, HD2.out⟩
                      case measure => simp [intOf]; omega
                    · have HD2 : Hid (∀ (j c : Nat), j < i + 1 → src.getD j 0 = c → spSrc f src avoid c → c ∈ q) := Lib.hid (HDN.out q (fun c h => h) (fun c e hs => by
                        have : k = c := by omega
                        subst this
                        exact HSS.out.has hneg))
                      generalize gt out k = ov at *
                      go_wp2_with (go_at_call 36; refine (HISV.out _).mono ?_; rintro e w5 ⟨rfl, b5⟩; have H5 := Lib.hid (HSP.out.keep b5); clear b5; obtain ⟨x0, x1⟩ := Grow.cell (H5.out.grow 1 rfl) HBA.out; obtain ⟨y0, y1⟩ := Grow.cell (H5.out.grow 2 rfl) HOA.out)
                      go_roundw
                      case rel => exact ⟨i + 1, out, q, by simp, hlt, H5.out, HSS.out, HD2.out⟩
                      case measure => simp [intOf]; omega
                  · rw [hb] at HBA HSH
                    have HD2 : Hid (∀ (j c : Nat), j < i + 1 → src.getD j 0 = c → spSrc f src avoid c → c ∈ q) := Lib.hid (HDN.out q (fun c h => h) (fun c e hs => by
                      have : k = c := by omega
                      subst this
                      have h3 := hs.2.2
                      rw [← HSH.out] at h3
                      cases h3))
                    generalize gt out k = ov at *
                    go_wp2_with (go_at_call 36; refine (HISV.out _).mono ?_; rintro e w5 ⟨rfl, b5⟩; have H5 := Lib.hid (HSP.out.keep b5); clear b5; obtain ⟨x0, x1⟩ := Grow.cell (H5.out.grow 1 rfl) HBA.out; obtain ⟨y0, y1⟩ := Grow.cell (H5.out.grow 2 rfl) HOA.out)
                    go_roundw
                    case rel => exact ⟨i + 1, out, q, by simp, hlt, H5.out, HSS.out, HD2.out⟩
                    case measure => simp [intOf]; omega
                · cases hb : bs.getD (0 : Nat) false
                  · rw [hb] at HBA HSH
                    have HSK : Hid (spSrc f src avoid (0 : Nat)) := Lib.hid ⟨HNF.out ▸ hk, HMEM.out, HSH.out.symm⟩
                    by_cases hneg : gt out (0 : Nat) < 0
                    · have HADD := Lib.hid (HSS.out.add HSK.out hk hneg)
                      have HD2 : Hid (∀ (j c : Nat), j < i + 1 → src.getD j 0 = c → spSrc f src avoid c → c ∈ q ++ [(0 : Nat)]) := Lib.hid (HDN.out _ (fun c h => List.mem_append_left _ h) (fun c e hs => List.mem_append_right _ (by have hkc : (0 : Nat) = c := (by omega); simp [hkc])))
                      generalize gt out (0 : Nat) = ov at *
                      go_upto_region 20 with ((go_at_call 36; refine (HISV.out _).mono ?_; rintro e w5 ⟨rfl, b5⟩; have H5 := Lib.hid (HSP.out.keep b5); clear b5; obtain ⟨x0, x1⟩ := Grow.cell (H5.out.grow 1 rfl) HBA.out; obtain ⟨y0, y1⟩ := Grow.cell (H5.out.grow 2 rfl) HOA.out; have H6 : Hid (Sp w (w5.setCell ⟨g11, (0 : Nat), none⟩ (.int .i64 0)) [BlkT w.heap.size 24 (boxV fW fH fD A1 n c1 A2 n2 c2), RowT 1 (.slice (some ⟨g9, 0, none⟩) n n) n (bvs bs), RowT 1 (.slice (some ⟨g11, 0, none⟩) n n) n (ivs (out.set (0 : Nat) 0)), RowT 1 u13 q.length (qvs q)]) := Lib.hid (by have := H5.out.store 2 rfl (0 : Nat) hk (.int .i64 0); rw [ivs_set] at this; exact this)))
                      go_wp2_with ((at_builtin; obtain ⟨v7, w7, r7, h7⟩ := push_int H6.out 3 rfl (0 : Nat) (by have := HQL.out; have := HN4.out; omega) 3; have H7 := Lib.hid h7; refine wpList_append_run rfl _ _ _ _ rfl (by simp [go_sem]) (by simp [go_sem]) r7 ?_; clear r7 h7))
                      go_roundw
                      case rel => exact ⟨i + 1, out.set (0 : Nat) 0, q ++ [(0 : Nat)], by simp, hlt, H7.out, HADD.out, HD2.out⟩
                      case measure => simp [intOf]; omega
                    · have HD2 : Hid (∀ (j c : Nat), j < i + 1 → src.getD j 0 = c → spSrc f src avoid c → c ∈ q) := Lib.hid (HDN.out q (fun c h => h) (fun c e hs => by
                        have : (0 : Nat) = c := by omega
                        subst this
                        exact HSS.out.has hneg))
                      generalize gt out (0 : Nat) = ov at *
                      go_wp2_with (go_at_call 36; refine (HISV.out _).mono ?_; rintro e w5 ⟨rfl, b5⟩; have H5 := Lib.hid (HSP.out.keep b5); clear b5; obtain ⟨x0, x1⟩ := Grow.cell (H5.out.grow 1 rfl) HBA.out; obtain ⟨y0, y1⟩ := Grow.cell (H5.out.grow 2 rfl) HOA.out)
                      go_roundw
                      case rel => exact ⟨i + 1, out, q, by simp, hlt, H5.out, HSS.out, HD2.out⟩
                      case measure => simp [intOf]; omega
                  · rw [hb] at HBA HSH
                    have HD2 : Hid (∀ (j c : Nat), j < i + 1 → src.getD j 0 = c → spSrc f src avoid c → c ∈ q) := Lib.hid (HDN.out q (fun c h => h) (fun c e hs => by
                      have : (0 : Nat) = c := by omega
                      subst this
                      have h3 := hs.2.2
                      rw [← HSH.out] at h3
                      cases h3))
                    generalize gt out (0 : Nat) = ov at *
                    go_wp2_with (go_at_call 36; refine (HISV.out _).mono ?_; rintro e w5 ⟨rfl, b5⟩; have H5 := Lib.hid (HSP.out.keep b5); clear b5; obtain ⟨x0, x1⟩ := Grow.cell (H5.out.grow 1 rfl) HBA.out; obtain ⟨y0, y1⟩ := Grow.cell (H5.out.grow 2 rfl) HOA.out)
                    go_roundw
                    case rel => exact ⟨i + 1, out, q, by simp, hlt, H5.out, HSS.out, HD2.out⟩
                    case measure => simp [intOf]; omega
            · obtain rfl : src.length = i := by omega
              have HALL : ∀ c, spSrc f src avoid c → c ∈ q := fun c hs => by
                obtain ⟨j, hj, e⟩ := List.getElem_of_mem hs.2.1
                exact hdone j c hj (by rw [List.getD_eq_getElem?_getD, List.getElem?_eq_getElem hj]; exact e) hs
              have HBF : Hid (Bfs n (spSrc f src avoid) (spE f avoid back) out q 0) := Lib.hid (hsrcs.start HALL)
              have HSP := Lib.hid hsp
              clear hsp hsrcs hdone HALL HSR
              go_wp2_with fail
              go_loopw [13, 16, 17, 18, 19, 20] (fun qv iv _ _ _ _ wr => ∃ i out q, Sp4 w f w.heap.size g9 g11 n (boxV fW fH fD A1 n c1 A2 n2 c2) src avoid back bs qv iv wr i out q) (fun _ iv _ _ _ _ _ => n - (intOf iv).toNat)
              case atStart => exact ⟨0, out, q, rfl, Nat.zero_le _, HSP.out, HBF.out⟩
              case round =>
                clear HSP HBF
                obtain ⟨i, out, q, ⟨rfl, hi, hsp, hbf⟩⟩ := hrel
                have hql := hbf.len_le
                by_cases hlt : i < q.length
                · have hcx : ∃ c, q[i]? = some c := ⟨_, List.getElem?_eq_getElem hlt⟩
                  obtain ⟨c, hc⟩ := hcx
                  obtain ⟨gq, cq, rfl, _⟩ := (hsp.grow 3 rfl).form.resolve_left (fun e => by omega)
                  obtain ⟨x0, _⟩ := Grow.cell (hsp.grow 3 rfl) (show (qvs q)[i]? = some (.int .i64 (c : Int)) from by simp [hc])
                  have HSP := Lib.hid hsp
                  have HBF := Lib.hid hbf
                  have HC := Lib.hid hc
                  have hdt : decide ((i : Int) < (q.length : Int)) = true := decide_eq_true (by omega)
                  have hn4 : (n : Int) ≤ 4096 := by have := HN4.out; omega
                  have hcn : c < n := hbf.lt c (List.mem_of_getElem? hc)
                  clear hsp hbf hc
                  have HLT := Lib.hid hlt
                  generalize hL : q.length = L at hdt hlt ⊢
                  have HL := Lib.hid hL
                  clear hL
                  go_wp2_with fail
                  clear x0 hdt hlt
                  obtain rfl := HL.out
                  go_loopw [13, 18, 19, 20] (fun qv jv _ _ wr => ∃ j out q, Sp5 w f w.heap.size g9 g11 n (boxV fW fH fD A1 n c1 A2 n2 c2) src avoid back bs i c qv jv wr j out q) (fun _ jv _ _ _ => 6 - (intOf jv).toNat)
                  case atStart => exact ⟨0, out, q, rfl, by omega, HSP.out, HBF.out, HC.out, fun d m hd => by omega⟩
                  case round =>
                    clear HSP HBF HC
                    obtain ⟨j, out, q, ⟨rfl, hj, hsp, hbf, hc, hseen⟩⟩ := hrel
                    have HSP := Lib.hid hsp
                    have HBF := Lib.hid hbf
                    have HC := Lib.hid hc
                    have HSE := Lib.hid hseen
                    clear hsp hbf hc hseen
                    by_cases hj6 : j < 6
                    · have HBB := Lib.hid (HG4.out _ _ HSP.out)
                      obtain ⟨k0, k1, k2, k3, k4⟩ := HBB.out _ (Below.refl _ _)
                      have HNXc := Lib.hid (HNX.out c j)
                      have HBKc := Lib.hid (HBK.out c j)
                      have HSN : Hid (∀ (out' : List Int), (∀ m, 0 ≤ gt out m → 0 ≤ gt out' m) → (∀ m : Nat, stp f back c j = some (m : Int) → shutB f avoid m = false → 0 ≤ gt out' m) → ∀ (d m : Nat), d < j + 1 → stp f back c d = some (m : Int) → shutB f avoid m = false → 0 ≤ gt out' m) := Lib.hid fun out' h1 h2 d m hd h3 h4 => by
                        by_cases e : d = j
                        · subst e
                          exact h2 m h3 h4
                        · exact h1 m (HSE.out d m (by omega) h3 h4)
                      have HSI : Hid (∀ m : Int, stp f back c j = some m → f.is m = true) := Lib.hid fun m h => by
                        unfold stp at h
                        split at h
                        · exact (Fl.next_is (Fl.back_some ho h)).1
                        · exact (Fl.next_is h).2.2.1
                      have HED : Hid (∀ m : Nat, stp f back c j = some (m : Int) → shutB f avoid m = false → spE f avoid back c m) := Lib.hid fun m h1 h2 => ⟨j, hj6, h1, h2⟩
                      have HCL := Lib.hid (ivs_at (l := out) (k := c) (by rw [HBF.out.len]; exact hcn))
                      have HC0 : Hid (0 ≤ gt out c ∧ gt out c ≤ 4096) := Lib.hid ⟨HBF.out.mem_iff.1 (List.mem_of_getElem? HC.out), by have h1 := HBF.out.idx i c HC.out; have h2 := (List.getElem?_eq_some_iff.1 HC.out).1; have h3 := HBF.out.len_le; have h4 := HN4.out; omega⟩
                      cases back
                      · have HSO : Hid (stp f false c j = f.next c j) := Lib.hid (by unfold stp; simp)
                        rw [HSO.out] at HSI HSN HED
                        clear HSO
                        generalize f.next c j = o at *
                        rcases o with _ | m
                        · have HS2 := Lib.hid (HSN.out out (fun m h => h) (fun m h => by cases h))
                          clear HSN HED HSI
                          dsimp only [resN, Option.getD, Option.isSome] at HNXc
                          go_wp2_with (go_at_call 17; refine (HNXc.out _ HSP.out.below).mono ?_; rintro e w5 ⟨rfl, b5⟩; have H5 := Lib.hid (HSP.out.keep b5); clear b5)
                          go_roundw
                          case rel => exact ⟨j + 1, out, q, by simp, by omega, H5.out, HBF.out, HC.out, HS2.out⟩
                          case measure => simp [intOf]; omega
                        · obtain ⟨hv0, hv1⟩ := (HIS2.out m).1 (HSI.out m rfl)
                          obtain ⟨k, rfl⟩ : ∃ k : Nat, m = k := ⟨m.toNat, by omega⟩
                          have hk : k < n := by omega
                          have HBA := Lib.hid (bvs_at (l := bs) (k := k) (by rw [HBL.out]; exact hk))
                          have HOA := Lib.hid (ivs_at (l := out) (k := k) (by rw [HBF.out.len]; exact hk))
                          have HSH : Hid (bs.getD k false = shutB f avoid k) := Lib.hid (HVA.out k hk)
                          dsimp only [resN, Option.getD, Option.isSome] at HNXc
                          cases hb : bs.getD k false
                          · rw [hb] at HBA HSH
                            by_cases hneg : gt out k < 0
                            · have HVI := Lib.hid (HBF.out.visit HC.out (HED.out k rfl HSH.out.symm) hk hneg)
                              have HS2 := Lib.hid (HSN.out (out.set k (gt out c + 1)) (fun m h => by
                                rw [gt_set (by rw [HBF.out.len]; exact hk)]
                                split
                                · have := HC0.out.1
                                  omega
                                · exact h) (fun m h _ => by
                                have e : m = k := by
                                  injection h with h
                                  omega
                                rw [e, HVI.out.2.1]
                                have := HC0.out.1
                                omega))
                              have HQL : Hid (q.length ≤ n) := Lib.hid HBF.out.len_le
                              have HC2 : Hid ((q ++ [k])[i]? = some c) := Lib.hid (by rw [List.getElem?_append_left (List.getElem?_eq_some_iff.1 HC.out).1]; exact HC.out)
                              obtain ⟨hc0, hc1⟩ := HC0.out
                              have HBV := Lib.hid HVI.out.1
                              clear HC0 HSN HED HSI HVI
                              generalize gt out k = ov at *
                              generalize gt out c = oc at *
                              go_upto_region 33 with (go_at_call 17; refine (HNXc.out _ HSP.out.below).mono ?_; rintro e w5 ⟨rfl, b5⟩; have H5 := Lib.hid (HSP.out.keep b5); clear b5; obtain ⟨x0, x1⟩ := Grow.cell (H5.out.grow 1 rfl) HBA.out; obtain ⟨y0, y1⟩ := Grow.cell (H5.out.grow 2 rfl) HOA.out; obtain ⟨z0, z1⟩ := Grow.cell (H5.out.grow 2 rfl) HCL.out; have H6 : Hid (Sp w (w5.setCell ⟨g11, k, none⟩ (.int .i64 (oc + 1))) [BlkT w.heap.size 24 (boxV fW fH fD A1 n c1 A2 n2 c2), RowT 1 (.slice (some ⟨g9, 0, none⟩) n n) n (bvs bs), RowT 1 (.slice (some ⟨g11, 0, none⟩) n n) n (ivs (out.set k (oc + 1))), RowT 1 u13 q.length (qvs q)]) := Lib.hid (by have := H5.out.store 2 rfl k hk (.int .i64 (oc + 1)); rw [ivs_set] at this; exact this))
                              go_wp2_with ((at_builtin; obtain ⟨v7, w7, r7, h7⟩ := push_int H6.out 3 rfl k (by have := HQL.out; have := HN4.out; omega) 3; have H7 := Lib.hid h7; refine wpList_append_run rfl _ _ _ _ rfl (by simp [go_sem]) (by simp [go_sem]) r7 ?_; clear r7 h7))
                              go_roundw
                              case rel => exact ⟨j + 1, out.set k (oc + 1), q ++ [k], by simp, by omega, H7.out, HBV.out, HC2.out, HS2.out⟩
                              case measure => simp [intOf]; omega
                            · have HS2 := Lib.hid (HSN.out out (fun m h => h) (fun m h _ => by
                                have e : m = k := by
                                  injection h with h
                                  omega
                                rw [e]
                                omega))
                              clear HC0 HSN HED HSI
                              generalize gt out k = ov at *
                              go_wp2_with (go_at_call 17; refine (HNXc.out _ HSP.out.below).mono ?_; rintro e w5 ⟨rfl, b5⟩; have H5 := Lib.hid (HSP.out.keep b5); clear b5; obtain ⟨x0, x1⟩ := Grow.cell (H5.out.grow 1 rfl) HBA.out; obtain ⟨y0, y1⟩ := Grow.cell (H5.out.grow 2 rfl) HOA.out)
                              go_roundw
                              case rel => exact ⟨j + 1, out, q, by simp, by omega, H5.out, HBF.out, HC.out, HS2.out⟩
                              case measure => simp [intOf]; omega
                          · rw [hb] at HBA HSH
                            have HS2 := Lib.hid (HSN.out out (fun m h => h) (fun m h h2 => by
                              have e : m = k := by
                                injection h with h
                                omega
                              rw [e, ← HSH.out] at h2
                              cases h2))
                            clear HC0 HSN HED HSI
                            generalize gt out k = ov at *
                            go_wp2_with (go_at_call 17; refine (HNXc.out _ HSP.out.below).mono ?_; rintro e w5 ⟨rfl, b5⟩; have H5 := Lib.hid (HSP.out.keep b5); clear b5; obtain ⟨x0, x1⟩ := Grow.cell (H5.out.grow 1 rfl) HBA.out)
                            go_roundw
                            case rel => exact ⟨j + 1, out, q, by simp, by omega, H5.out, HBF.out, HC.out, HS2.out⟩
                            case measure => simp [intOf]; omega
                      · have HSO : Hid (stp f true c j = f.back c j) := Lib.hid (by unfold stp; simp)
                        rw [HSO.out] at HSI HSN HED
                        clear HSO
                        generalize f.back c j = o at *
                        rcases o with _ | m
                        · have HS2 := Lib.hid (HSN.out out (fun m h => h) (fun m h => by cases h))
                          clear HSN HED HSI
                          dsimp only [resN, Option.getD, Option.isSome] at HBKc
                          go_wp2_with (first | (go_at_call 17; refine (HNXc.out _ HSP.out.below).mono ?_; rintro e w4 ⟨rfl, b4⟩; have H4 := Lib.hid (HSP.out.keep b4); obtain ⟨m0, m1, m2, m3, m4⟩ := HG4.out _ _ HSP.out _ b4; clear b4) | (go_at_call 19; refine (HBKc.out _ H4.out.below).mono ?_; rintro e w5 ⟨rfl, b5⟩; have H5 := Lib.hid (H4.out.keep b5); clear b5))
                          go_roundw
                          case rel => exact ⟨j + 1, out, q, by simp, by omega, H5.out, HBF.out, HC.out, HS2.out⟩
                          case measure => simp [intOf]; omega
                        · obtain ⟨hv0, hv1⟩ := (HIS2.out m).1 (HSI.out m rfl)
                          obtain ⟨k, rfl⟩ : ∃ k : Nat, m = k := ⟨m.toNat, by omega⟩
                          have hk : k < n := by omega
                          have HBA := Lib.hid (bvs_at (l := bs) (k := k) (by rw [HBL.out]; exact hk))
                          have HOA := Lib.hid (ivs_at (l := out) (k := k) (by rw [HBF.out.len]; exact hk))
                          have HSH : Hid (bs.getD k false = shutB f avoid k) := Lib.hid (HVA.out k hk)
                          dsimp only [resN, Option.getD, Option.isSome] at HBKc
                          cases hb : bs.getD k false
                          · rw [hb] at HBA HSH
                            by_cases hneg : gt out k < 0
                            · have HVI := Lib.hid (HBF.out.visit HC.out (HED.out k rfl HSH.out.symm) hk hneg)
                              have HS2 := Lib.hid (HSN.out (out.set k (gt out c + 1)) (fun m h => by
                                rw [gt_set (by rw [HBF.out.len]; exact hk)]
                                split
                                · have := HC0.out.1
                                  omega
                                · exact h) (fun m h _ => by
                                have e : m = k := by
                                  injection h with h
                                  omega
                                rw [e, HVI.out.2.1]
                                have := HC0.out.1
                                omega))
                              have HQL : Hid (q.length ≤ n) := Lib.hid HBF.out.len_le
                              have HC2 : Hid ((q ++ [k])[i]? = some c) := Lib.hid (by rw [List.getElem?_append_left (List.getElem?_eq_some_iff.1 HC.out).1]; exact HC.out)
                              obtain ⟨hc0, hc1⟩ := HC0.out
                              have HBV := Lib.hid HVI.out.1
                              clear HC0 HSN HED HSI HVI
                              generalize gt out k = ov at *
                              generalize gt out c = oc at *
                              go_upto_region 33 with (first | (go_at_call 17; refine (HNXc.out _ HSP.out.below).mono ?_; rintro e w4 ⟨rfl, b4⟩; have H4 := Lib.hid (HSP.out.keep b4); obtain ⟨m0, m1, m2, m3, m4⟩ := HG4.out _ _ HSP.out _ b4; clear b4) | (go_at_call 19; refine (HBKc.out _ H4.out.below).mono ?_; rintro e w5 ⟨rfl, b5⟩; have H5 := Lib.hid (H4.out.keep b5); clear b5; obtain ⟨x0, x1⟩ := Grow.cell (H5.out.grow 1 rfl) HBA.out; obtain ⟨y0, y1⟩ := Grow.cell (H5.out.grow 2 rfl) HOA.out; obtain ⟨z0, z1⟩ := Grow.cell (H5.out.grow 2 rfl) HCL.out; have H6 : Hid (Sp w (w5.setCell ⟨g11, k, none⟩ (.int .i64 (oc + 1))) [BlkT w.heap.size 24 (boxV fW fH fD A1 n c1 A2 n2 c2), RowT 1 (.slice (some ⟨g9, 0, none⟩) n n) n (bvs bs), RowT 1 (.slice (some ⟨g11, 0, none⟩) n n) n (ivs (out.set k (oc + 1))), RowT 1 u13 q.length (qvs q)]) := Lib.hid (by have := H5.out.store 2 rfl k hk (.int .i64 (oc + 1)); rw [ivs_set] at this; exact this)))
                              go_wp2_with ((at_builtin; obtain ⟨v7, w7, r7, h7⟩ := push_int H6.out 3 rfl k (by have := HQL.out; have := HN4.out; omega) 3; have H7 := Lib.hid h7; refine wpList_append_run rfl _ _ _ _ rfl (by simp [go_sem]) (by simp [go_sem]) r7 ?_; clear r7 h7))
                              go_roundw
                              case rel => exact ⟨j + 1, out.set k (oc + 1), q ++ [k], by simp, by omega, H7.out, HBV.out, HC2.out, HS2.out⟩
                              case measure => simp [intOf]; omega
                            · have HS2 := Lib.hid (HSN.out out (fun m h => h) (fun m h _ => by
                                have e : m = k := by
                                  injection h with h
                                  omega
                                rw [e]
                                omega))
                              clear HC0 HSN HED HSI
                              generalize gt out k = ov at *
                              go_wp2_with (first | (go_at_call 17; refine (HNXc.out _ HSP.out.below).mono ?_; rintro e w4 ⟨rfl, b4⟩; have H4 := Lib.hid (HSP.out.keep b4); obtain ⟨m0, m1, m2, m3, m4⟩ := HG4.out _ _ HSP.out _ b4; clear b4) | (go_at_call 19; refine (HBKc.out _ H4.out.below).mono ?_; rintro e w5 ⟨rfl, b5⟩; have H5 := Lib.hid (H4.out.keep b5); clear b5; obtain ⟨x0, x1⟩ := Grow.cell (H5.out.grow 1 rfl) HBA.out; obtain ⟨y0, y1⟩ := Grow.cell (H5.out.grow 2 rfl) HOA.out))
                              go_roundw
                              case rel => exact ⟨j + 1, out, q, by simp, by omega, H5.out, HBF.out, HC.out, HS2.out⟩
                              case measure => simp [intOf]; omega
                          · rw [hb] at HBA HSH
                            have HS2 := Lib.hid (HSN.out out (fun m h => h) (fun m h h2 => by
                              have e : m = k := by
                                injection h with h
                                omega
                              rw [e, ← HSH.out] at h2
                              cases h2))
                            clear HC0 HSN HED HSI
                            generalize gt out k = ov at *
                            go_wp2_with (first | (go_at_call 17; refine (HNXc.out _ HSP.out.below).mono ?_; rintro e w4 ⟨rfl, b4⟩; have H4 := Lib.hid (HSP.out.keep b4); obtain ⟨m0, m1, m2, m3, m4⟩ := HG4.out _ _ HSP.out _ b4; clear b4) | (go_at_call 19; refine (HBKc.out _ H4.out.below).mono ?_; rintro e w5 ⟨rfl, b5⟩; have H5 := Lib.hid (H4.out.keep b5); clear b5; obtain ⟨x0, x1⟩ := Grow.cell (H5.out.grow 1 rfl) HBA.out))
                            go_roundw
                            case rel => exact ⟨j + 1, out, q, by simp, by omega, H5.out, HBF.out, HC.out, HS2.out⟩
                            case measure => simp [intOf]; omega
                    · obtain rfl : j = 6 := by omega
                      have HBN := Lib.hid (HBF.out.next HC.out (fun m hm => by
                        obtain ⟨d, hd, h1, h2⟩ := hm
                        exact HSE.out d m hd h1 h2))
                      have HIL : Hid (i + 1 ≤ q.length) := Lib.hid (List.getElem?_eq_some_iff.1 HC.out).1
                      have HQN := Lib.hid HBF.out.len_le
                      have hi4 : (i : Int) < 4096 := by have := HIL.out; have := HQN.out; have := HN4.out; omega
                      go_wp2_with fail
                      go_roundw
                      case rel => exact ⟨i + 1, out, q, by simp, HIL.out, HSP.out, HBN.out⟩
                      case measure => have := HIL.out; have := HQN.out; simp [intOf]; omega
                · have HROW : Hid (Row wr wr.heap.size (some ⟨g11, 0, none⟩) (ivs out)) := Lib.hid (by
                    obtain ⟨g', cap', e, _, h2, _, _, _, _, h7⟩ := (hsp.grow 2 rfl).form.resolve_left (fun e => by cases e.1)
                    injection e with e
                    injection e with e
                    injection e with e
                    subst e
                    exact fun k u hu => ⟨_, 0, rfl, h2, by rw [Nat.zero_add]; exact h7 k u hu⟩)
                  have HD := Lib.hid (hbf.dist (by omega))
                  have HBW := Lib.hid hsp.below
                  have hqi : q.length = i := by omega
                  obtain ⟨ga, gc, rfl⟩ : ∃ g c, u13 = Value.slice g i c := by
                    rcases (hsp.grow 3 rfl).form with h | ⟨g, c, h, _⟩
                    · exact ⟨none, 0, by rw [h.1, ← hqi, h.2]⟩
                    · exact ⟨_, c, by rw [h, hqi]⟩
                  clear hsp hbf
                  go_wp2_with fail
                  exact HPO.out _ _ out HROW.out HD.out HBW.out _
end Flo
end Go.Proofs.YtncbhhnojdhpeaaDoor

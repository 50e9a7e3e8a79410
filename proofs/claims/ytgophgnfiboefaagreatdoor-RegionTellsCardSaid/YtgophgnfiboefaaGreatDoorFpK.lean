/- The program's explore. -/
import Derived.Test.YtgophgnfiboefaaGreatDoorFpJ
namespace Go.Proofs.YtgophgnfiboefaaGreatDoor
open Go.RowKit Wire
open Txt (Row)
open Own
open Dsk (Only nth)
set_option linter.unusedVariables false
set_option linter.unusedSimpArgs false
namespace Flo
/-- The search, plainly, at cell number i of the queue and direction j. -/
structure Ex (f : Fl) (src avoid : List Int) (q : List Nat) (out bf : List Int) (s i j : Nat) (P D : Nat → Nat) : Prop where
  bfs : Bfs f.Kind.length (spSrc f src avoid) (spE f avoid false) out q i
  ord : Ord f avoid s q out bf i j P D
  one : ∀ t c : Nat, t < s → q[t]? = some c → spSrc f src avoid c
  all : ∀ c : Nat, spSrc f src avoid c → ∃ t, t < s ∧ q[t]? = some c
  len : s ≤ q.length
section
variable {f : Fl} {src avoid : List Int} {q : List Nat} {out bf : List Int} {s i j c m : Nat} {P D : Nat → Nat}
theorem Ex.pass (h : Ex f src avoid q out bf s i j P D) (hc : q[i]? = some c) (hn : ∀ n : Nat, f.next c j = some (n : Int) → shutB f avoid n = false → n ∈ q) : Ex f src avoid q out bf s i (j + 1) P D :=
  ⟨h.bfs, h.ord.pass fun p n hp h1 h2 => by
    rw [hc] at hp
    obtain rfl := Option.some.inj hp
    exact hn n h1 h2, h.one, h.all, h.len⟩
theorem Ex.visit (h : Ex f src avoid q out bf s i j P D) (hc : q[i]? = some c) (hj : j < 6) (he : f.next c j = some (m : Int)) (hm : m < f.Kind.length) (hs : shutB f avoid m = false) (hq : m ∉ q) :
    Ex f src avoid (q ++ [m]) (out.set m (gt out c + 1)) (bf.set m (c : Int)) s i (j + 1) (up P q.length i) (up D q.length j) := by
  have hneg : gt out m < 0 := by rw [h.bfs.neg m hq]; decide
  obtain ⟨h1, h2, h3⟩ := h.bfs.visit hc (spE_fw.2 ⟨j, hj, he, hs⟩) hm hneg
  refine ⟨h1, h.ord.visit h.len hc hj he hm hq h3 h2, fun t x ht hx => ?_, fun x hx => ?_, by rw [List.length_append]; have := h.len; omega⟩
  · rw [List.getElem?_append_left (by have := h.len; omega)] at hx
    exact h.one t x ht hx
  · obtain ⟨t, ht, h5⟩ := h.all x hx
    exact ⟨t, ht, by rw [List.getElem?_append_left (by have := h.len; omega)]; exact h5⟩
theorem Ex.turn (h : Ex f src avoid q out bf s i 6 P D) (hc : q[i]? = some c) : Ex f src avoid q out bf s (i + 1) 0 P D := by
  refine ⟨h.bfs.next hc fun n hn => ?_, h.ord.turn, h.one, h.all, h.len⟩
  obtain ⟨d, h1, h2, h3⟩ := spE_fw.1 hn
  obtain ⟨t, ht, _⟩ := h.ord.first i d c n (.inr ⟨rfl, h1⟩) h1 hc h2 h3
  exact h.bfs.mem_iff.1 (List.mem_of_getElem? ht)
theorem Ex.start (hs : Srcs f.Kind.length (spSrc f src avoid) out q) (hall : ∀ c, spSrc f src avoid c → c ∈ q) (hb : bf.length = f.Kind.length) (hbf : ∀ t c : Nat, q[t]? = some c → gt bf c = c) : Ex f src avoid q out bf q.length 0 0 (fun _ => 0) (fun _ => 0) :=
  ⟨hs.start hall, Ord.start hb hbf, fun t c _ hc => hs.src c (List.mem_of_getElem? hc), fun c hc => by
    obtain ⟨t, ht⟩ := List.getElem?_of_mem (hall c hc)
    exact ⟨t, (List.getElem?_eq_some_iff.1 ht).1, ht⟩, Nat.le_refl _⟩
theorem Ex.dist (h : Ex f src avoid q out bf s i 0 P D) (hi : q.length ≤ i) : IsDist f.Kind.length (spSrc f src avoid) (spE f avoid false) out := h.bfs.dist hi
theorem Ex.done {a : Nat} (h : Ex f [(a : Int)] avoid q out bf s q.length 0 P D) (ha : a < f.Kind.length) (hs : shutB f avoid a = false) : Done1 f avoid a q out bf := by
  have hsa := spSrc_one.2 ⟨rfl, ha, hs⟩
  obtain ⟨t, ht, hq⟩ := h.all a hsa
  have one : ∀ t c : Nat, t < s → q[t]? = some c → c = a := fun t c ht hc => (spSrc_one.1 (h.one t c ht hc)).1
  have hlen := h.len
  have h0 : q[0]? = some a := by
    have : q[0]? = some q[0] := List.getElem?_eq_getElem (by omega)
    rw [this, one 0 _ (by omega) this]
  have hs1 : s = 1 := by
    apply Classical.byContradiction
    intro e
    have h1 : q[1]? = some q[1] := List.getElem?_eq_getElem (by omega)
    rw [one 1 _ (by omega) h1] at h1
    have := idx_eq h.bfs.nodup h0 h1
    omega
  subst hs1
  exact ⟨h.dist (Nat.le_refl _), h.bfs.nodup, ⟨P, D, h.ord⟩, h0, (h.bfs.srcs a hsa).2, fun c hc he => Classical.byContradiction fun e => he (h.bfs.neg c e), fun c hc => ⟨h.bfs.lt c hc, fun e => by
    have := h.bfs.mem_iff.1 hc
    omega⟩⟩
end
/-- Things that a call has made beside those that were there. -/
theorem join {W w w' : World} {T T' : List Thing} (h : Sp W w T) (h' : Sp w w' T') : Sp W w' (T ++ T') := by
  have hs := h.below.size
  have hb' := h'.below
  have hs' := hb'.size
  obtain ⟨hb, F, h1, h2, h3⟩ := h.keep hb'
  obtain ⟨_, G, g1, g2, g3⟩ := h'
  obtain ⟨_, F0, f1, f2, f3⟩ := h
  have k1 : ∀ i (t : Thing), T[i]? = some t → t.at_ w' (F0 i) := fun i t ht => t.keep (f1 i t ht) (fun b hb => hb'.block b (f2 i b hb).2) hs'
  refine ⟨hb, fun i b => (i < T.length ∧ F0 i b) ∨ (T.length ≤ i ∧ G (i - T.length) b), fun i t ht => ?_, fun i b hx => ?_, fun i j b hi hj => ?_⟩
  · rcases Nat.lt_or_ge i T.length with hi | hi
    · rw [List.getElem?_append_left hi] at ht
      have e : (fun b => (i < T.length ∧ F0 i b) ∨ (T.length ≤ i ∧ G (i - T.length) b)) = F0 i := by
        funext b
        apply propext
        constructor
        · rintro (⟨_, h6⟩ | ⟨h6, _⟩)
          · exact h6
          · omega
        · exact fun h6 => .inl ⟨hi, h6⟩
      show t.at_ w' (fun b => (i < T.length ∧ F0 i b) ∨ (T.length ≤ i ∧ G (i - T.length) b))
      rw [e]
      exact k1 i t ht
    · rw [List.getElem?_append_right hi] at ht
      have e : (fun b => (i < T.length ∧ F0 i b) ∨ (T.length ≤ i ∧ G (i - T.length) b)) = G (i - T.length) := by
        funext b
        apply propext
        constructor
        · rintro (⟨h6, _⟩ | ⟨_, h6⟩)
          · omega
          · exact h6
        · exact fun h6 => .inr ⟨hi, h6⟩
      show t.at_ w' (fun b => (i < T.length ∧ F0 i b) ∨ (T.length ≤ i ∧ G (i - T.length) b))
      rw [e]
      exact g1 _ t ht
  · rcases hx with ⟨_, h4⟩ | ⟨_, h4⟩
    · have := f2 i b h4; omega
    · have := g2 _ b h4; omega
  · rcases hi with ⟨h6, h4⟩ | ⟨h6, h4⟩ <;> rcases hj with ⟨h7, h5⟩ | ⟨h7, h5⟩
    · exact f3 i j b h4 h5
    · have := f2 i b h4; have := g2 _ b h5; omega
    · have := f2 j b h5; have := g2 _ b h4; omega
    · have := g3 _ _ b h4 h5; omega
/-- A number of a row of numbers. -/
theorem Grow.read {w : World} {v : Value} {n : Nat} {xs : List Value} (h : Grow w 0 1 v n xs) {k : Nat} {u : Value} (hk : xs[k]? = some u) : ∃ g cap, v = .slice (some ⟨g, 0, none⟩) n cap ∧ w.cell? ⟨g, k, none⟩ = some u := by
  have hlt := (List.getElem?_eq_some_iff.1 hk).1
  rcases h.form with ⟨e1, e2⟩ | ⟨g, cap, e, _⟩
  · rw [h.len, e2] at hlt
    omega
  · subst e
    exact ⟨g, cap, rfl, (Grow.cell h hk).1⟩
theorem qvs_at {q : List Nat} {k c : Nat} (h : q[k]? = some c) : (qvs q)[k]? = some (.int .i64 (c : Int)) := by
  rw [List.getElem?_map, h]
  rfl
abbrev exR (w : World) (W H D : Int) (A1 : Option Addr) (n c1 : Nat) (A2 : Option Addr) (n2 c2 : Nat) : List Thing := [BlkT w.heap.size 24 (boxV W H D A1 n c1 A2 n2 c2), BlkT (w.heap.size + 1) 78 zeroS]
/-- While the sources come in. -/
structure ExA (f : Fl) (src avoid : List Int) (W : World) (g gc gd gb n : Nat) (R : List Thing) (iv : Value) (wr : World) (i : Nat) (qv : Value) (cl : List Bool) (q : List Nat) (out bf : List Int) : Prop where
  iv : iv = .int .i64 i
  le : i ≤ src.length
  sp : Sp W wr (SchT g gc gd gb n qv cl q out bf R)
  clen : cl.length = n
  cls : ∀ c : Nat, c < n → cl.getD c false = (shutB f avoid c || decide (c ∈ q))
  srcs : Srcs n (spSrc f src avoid) out q
  blen : bf.length = n
  self : ∀ t c : Nat, q[t]? = some c → gt bf c = c
  done : ∀ (j c : Nat), j < i → src.getD j 0 = c → spSrc f src avoid c → c ∈ q
/-- While the queue is worked through. -/
structure ExB (f : Fl) (src avoid : List Int) (W : World) (g gc gd gb n : Nat) (R : List Thing) (i j : Nat) (wr : World) (qv : Value) (cl : List Bool) (q : List Nat) (out bf : List Int) (s : Nat) (P D : Nat → Nat) : Prop where
  sp : Sp W wr (SchT g gc gd gb n qv cl q out bf R)
  clen : cl.length = n
  cls : ∀ c : Nat, c < n → cl.getD c false = (shutB f avoid c || decide (c ∈ q))
  ex : Ex f src avoid q out bf s i j P D
/-- What explore returns. -/
def ExPost (f : Fl) (src avoid : List Int) (W : World) (e : Ending) (w' : World) : Prop :=
  ∃ gc gd gb Aq cq q out bf s P D, e = .returned (.agg #[slV gc f.Kind.length, .slice Aq (List.length q) cq, slV gd f.Kind.length, slV gb f.Kind.length]) ∧ Ex f src avoid q out bf s q.length 0 P D ∧
    Sp W w' [RowT 1 (slV gd f.Kind.length) f.Kind.length (ivs out), RowT 1 (slV gb f.Kind.length) f.Kind.length (ivs bf)]
set_option maxRecDepth 100000 in
set_option maxHeartbeats 8000000 in
theorem explore_any {f : Fl} (ho : f.ok) (p : Pl) (A B : Option Addr) (ca cb : Nat) (src avoid : List Int) (w : World) (hv : VS w) (hin : FlIn w f p) (hs : Row w w.heap.size A (ivs src)) (ha : Row w w.heap.size B (ivs avoid)) (hls : src.length ≤ 1000000) (hla : avoid.length ≤ 1000000) :
    Calls Tryz.prog 70 #[f.val p, .slice A src.length ca, .slice B avoid.length cb] w (ExPost f src avoid w) := by
  have HIC := Lib.hid (fun c w => isCell_any ho p c w)
  have HNX := Lib.hid (fun c d w' (b : Below w.heap.size w w') => next_any ho p c d w' (hv.lift b) (hin.lift b))
  have HNS := Lib.hid (fun w' (b : Below w.heap.size w w') => newSearch_any ho p B cb avoid w' (hin.lift b) (ha.lift b) hla)
  have HIS : Hid (∀ c, f.is c = true ↔ (0 ≤ c ∧ c < (f.Kind.length : Int))) := Lib.hid fun c => by
    unfold Fl.is
    rw [decide_eq_true_iff, ho.kinds]
  have HSR : Hid (∀ k, k < src.length → ∃ b o, A = some ⟨b, o, none⟩ ∧ ∀ w', Below w.heap.size w w' → w'.cell? ⟨b, o + k, none⟩ = some (.int .i64 (src.getD k 0))) := Lib.hid fun k hk => row_val hs hk
  have hn4 : f.Kind.length ≤ 4096 := by have := ho.kinds; have := ho.size; omega
  have HN := Lib.hid hn4
  have HLS := Lib.hid hls
  have HNL : Hid (∀ c d n : Nat, f.next c d = some (n : Int) → n < f.Kind.length) := Lib.hid fun c d n h => (next_lt ho h).1
  have HNI : Hid (∀ (c d : Nat) (n : Int), f.next c d = some n → ∃ m : Nat, n = m) := Lib.hid fun c d n h => ⟨n.toNat, by have := (Fl.next_is h).2.2.2.1; omega⟩
  clear hv hin hs ha hls hla hn4
  obtain ⟨n, hn⟩ : ∃ n : Nat, n = f.Kind.length := ⟨_, rfl⟩
  have HNF : Hid (n = f.Kind.length) := Lib.hid hn
  obtain ⟨A1, c1, A2, c2⟩ := p
  have HVAL : Hid (f.val ⟨A1, c1, A2, c2⟩ = .agg #[.int .i64 f.W, .int .i64 f.H, .int .i64 f.D, .slice A1 n c1, .slice A2 f.Out.length c2]) := Lib.hid (by rw [hn])
  rw [HVAL.out] at HIC HNX HNS ⊢
  rw [← hn] at HIS HN HNL HNS
  have HP0 : Hid (∀ gc gd gb Aq cq q out bf s P D w', Ex f src avoid q out bf s q.length 0 P D → Sp w w' [RowT 1 (slV gd n) n (ivs out), RowT 1 (slV gb n) n (ivs bf)] → ExPost f src avoid w (.returned (.agg #[slV gc n, .slice Aq q.length cq, slV gd n, slV gb n])) w') := Lib.hid fun gc gd gb Aq cq q out bf s P D w' h1 h2 => by
    rw [hn] at h2 ⊢
    exact ⟨gc, gd, gb, Aq, cq, q, out, bf, s, P, D, rfl, h1, h2⟩
  clear hn HVAL
  generalize ExPost f src avoid w = Q at *
  generalize f.W = fW at *
  generalize f.H = fH at *
  generalize f.D = fD at *
  generalize f.Out.length = n2 at *
  have H0 : Hid (Sp w ((w.alloc (.cells (boxV fW fH fD A1 n c1 A2 n2 c2) 24)).alloc (.cells zeroS 78)) (exR w fW fH fD A1 n c1 A2 n2 c2)) := Lib.hid (by
    have h1 := (Sp.nil (Below.refl w.heap.size w)).local 24 (boxV fW fH fD A1 n c1 A2 n2 c2)
    have h2 := h1.local 78 zeroS
    rw [show (w.alloc (.cells (boxV fW fH fD A1 n c1 A2 n2 c2) 24)).heap.size = w.heap.size + 1 from by simp] at h2
    exact h2)
  go_enter Tryz.func70, Tryz.ntmps70
  go_upto_region 2 with (go_at_call 98; refine (HNS.out _ H0.out.below).mono ?_; rintro e w1 ⟨gc, gd, gb, cl, rfl, hcl, hsh, h1⟩; have H1 := Lib.hid h1; have HCL := Lib.hid hcl; have HSH := Lib.hid hsh; clear h1 hcl hsh)
  have h2 : Sp w (w1.alloc (.cells #[slV gc n, .slice none 0 0, slV gd n, slV gb n] 78)) (SchT w1.heap.size gc gd gb n (.slice none 0 0) cl [] (List.replicate n (-1)) (List.replicate n 0) (exR w fW fH fD A1 n c1 A2 n2 c2)) := by
    have h3 := ((join H0.out H1.out).local 78 #[slV gc n, .slice none 0 0, slV gd n, slV gb n]).nil_row 1
    refine h3.pick (fun i => [5, 2, 6, 3, 4, 0, 1].getD i 0) (fun i j hi hj h => ?_) (fun i t h => ?_)
    · have all7 : ∀ i, i < 7 → ∀ j, j < 7 → [5, 2, 6, 3, 4, 0, 1].getD i 0 = [5, 2, 6, 3, 4, 0, 1].getD j 0 → i = j := by decide
      exact all7 i hi j hj h
    · match i, h with
      | 0, h => exact h
      | 1, h => exact h
      | 2, h => exact h
      | 3, h => exact h
      | 4, h => exact h
      | 5, h => exact h
      | 6, h => exact h
      | i + 7, h => simp at h
  have HA0 : Hid (ExA f src avoid w w1.heap.size gc gd gb n (exR w fW fH fD A1 n c1 A2 n2 c2) (.int .i64 0) (w1.alloc (.cells #[slV gc n, .slice none 0 0, slV gd n, slV gb n] 78)) 0 (.slice none 0 0) cl [] (List.replicate n (-1)) (List.replicate n 0)) := Lib.hid ⟨rfl, Nat.zero_le _, h2, HCL.out, fun c hc => by rw [HSH.out c hc]; simp, Srcs.nil n, List.length_replicate, fun t c h => by simp at h, fun j c h => by omega⟩
  generalize (w1.alloc (.cells #[slV gc n, .slice none 0 0, slV gd n, slV gb n] 78)) = w2 at *
  generalize w1.heap.size = g at *
  have HR : Hid (exR w fW fH fD A1 n c1 A2 n2 c2 = exR w fW fH fD A1 n c1 A2 n2 c2) := Lib.hid rfl
  have HBX : Hid (∀ w' qv cl q out bf, Sp w w' (SchT g gc gd gb n qv cl q out bf (exR w fW fH fD A1 n c1 A2 n2 c2)) → ∀ w'', Below w'.heap.size w' w'' → BoxS w.heap.size fW fH fD A1 n c1 A2 n2 c2 w'') := Lib.hid fun w' qv cl q out bf h w'' b => boxS ((h.blk 5 rfl).under b (h.blk 5 rfl).inside)
  clear H0 H1 HCL HSH h2 HNS HR
  go_wp2_with fail
  go_loopw [9, 20] (fun _ iv wr => ∃ i qv cl q out bf, ExA f src avoid w g gc gd gb n (exR w fW fH fD A1 n c1 A2 n2 c2) iv wr i qv cl q out bf) (fun _ iv _ => src.length - (intOf iv).toNat)
  case atStart => exact ⟨0, _, _, _, _, _, HA0.out⟩
  case round =>
    clear HA0
    obtain ⟨i, qv, cl, q, out, bf, hA⟩ := hrel
    obtain rfl := hA.iv
    have hi := hA.le
    have HA := Lib.hid hA
    clear hA
    by_cases hlt : i < src.length
    · obtain ⟨b, o, rfl, hc⟩ := HSR.out i hlt
      have z := hc _ HA.out.sp.below
      obtain ⟨m0, m1, m2, m3, m4⟩ := HBX.out _ _ _ _ _ _ HA.out.sp _ (Below.refl _ _)
      have hi9 : (i : Int) < 1000000 := by have := HLS.out; omega
      have HGD : Hid (src.getD i 0 = src.getD i 0) := Lib.hid rfl
      clear hc HSR
      generalize hv : src.getD i 0 = v at *
      have HV : Hid (src.getD i 0 = v) := Lib.hid hv
      have HIV := Lib.hid (HIC.out v)
      have HI2 := Lib.hid (HIS.out v)
      have HDN : Hid (∀ q' : List Nat, (∀ c, c ∈ q → c ∈ q') → (∀ c : Nat, v = c → spSrc f src avoid c → c ∈ q') → ∀ (j c : Nat), j < i + 1 → src.getD j 0 = c → spSrc f src avoid c → c ∈ q') := Lib.hid fun q' h1 h2 => done_next HA.out.done h1 (fun c e hs => h2 c (by rw [← HV.out]; exact e) hs)
      have HVG := HV
      clear hv HV HGD
      cases hisv : f.is v
      · rw [hisv] at HIV HI2
        have HD2 := Lib.hid (HDN.out q (fun c h => h) (fun c e hs => by
          have := HI2.out.2 ⟨by omega, by have := hs.1; have := HNF.out; omega⟩
          cases this))
        clear HDN HI2 hisv
        go_wp2_with (go_at_call 74; refine (HIV.out _).mono ?_; rintro e w5 ⟨rfl, b5⟩; have H5 := Lib.hid (HA.out.sp.keep b5); clear b5)
        go_roundw
        case rel => exact ⟨i + 1, qv, cl, q, out, bf, by simp, hlt, H5.out, HA.out.clen, HA.out.cls, HA.out.srcs, HA.out.blen, HA.out.self, HD2.out⟩
        case measure => simp [intOf]; omega
      · rw [hisv] at HIV HI2
        obtain ⟨hv0, hv1⟩ := HI2.out.1 rfl
        obtain ⟨k, rfl⟩ : ∃ k : Nat, v = k := ⟨v.toNat, by omega⟩
        have hk : k < n := by omega
        have HCK := Lib.hid (HA.out.cls k hk)
        clear HI2 hisv
        cases hb : cl.getD k false
        · rw [hb] at HCK
          have h9 := HCK.out.symm
          rw [Bool.or_eq_false_iff] at h9
          have hkq : k ∉ q := fun e => by rw [decide_eq_true e] at h9; cases h9.2
          have hks : spSrc f src avoid k := ⟨by have := HNF.out; omega, by
            have hlt' := hlt
            rw [← HVG.out, List.getD_eq_getElem?_getD, List.getElem?_eq_getElem hlt']
            exact List.getElem_mem hlt', h9.1⟩
          have hneg : gt out k < 0 := by rw [HA.out.srcs.neg k hkq]; decide
          have HS2 := Lib.hid (HA.out.srcs.add hks hk hneg)
          have HD2 := Lib.hid (HDN.out (q ++ [k]) (fun c h => List.mem_append_left _ h) (fun c e hs => by
            obtain rfl : k = c := by omega
            exact List.mem_append_right _ (by simp)))
          have hbs := gt_set (out := bf) (n := k) (by rw [HA.out.blen]; exact hk) (k : Int)
          have HSE : Hid (∀ t c : Nat, (q ++ [k])[t]? = some c → gt (bf.set k (k : Int)) c = c) := Lib.hid fun t c h => by
            rw [hbs]
            by_cases e : c = k
            · rw [if_pos e, e]
            · rw [if_neg e]
              rcases Nat.lt_or_ge t q.length with ht | ht
              · rw [List.getElem?_append_left ht] at h
                exact HA.out.self t c h
              · have hl := (List.getElem?_eq_some_iff.1 h).1
                simp at hl
                obtain rfl : t = q.length := by omega
                rw [List.getElem?_append_right (by omega)] at h
                simp at h
                exact absurd h.symm e
          have HCS : Hid (∀ c : Nat, c < n → (cl.set k true).getD c false = (shutB f avoid c || decide (c ∈ q ++ [k]))) := Lib.hid fun c hc => by
            rw [getD_set _ _ _ _ (by rw [HA.out.clen]; exact hk)]
            by_cases e : c = k
            · rw [if_pos e, decide_eq_true (by simp [e]), Bool.or_true]
            · rw [if_neg e, HA.out.cls c hc]
              congr 1
              rw [decide_eq_decide]
              simp [e]
          have HFN : Hid (∀ w', Sp w w' (SchT g gc gd gb n qv cl q out bf (exR w fW fH fD A1 n c1 A2 n2 c2)) → Calls Tryz.prog 99 #[ptrV g, .int .i64 k, .int .i64 k, .int .i64 0] w' fun e w2 => e = .returned (.tuple #[]) ∧ ∃ qv', Sp w w2 (SchT g gc gd gb n qv' (cl.set k true) (q ++ [k]) (out.set k 0) (bf.set k (k : Int)) (exR w fW fH fD A1 n c1 A2 n2 c2))) := Lib.hid fun w' h => find_new h HA.out.clen HA.out.srcs.len HA.out.blen hk HN.out (by have := nodup_len HA.out.srcs.nodup HA.out.srcs.lt; have := HN.out; omega) hb k 0
          have HLC : Hid ((cl.set k true).length = n) := Lib.hid (by rw [List.length_set]; exact HA.out.clen)
          have HLB : Hid ((bf.set k (k : Int)).length = n) := Lib.hid (by rw [List.length_set]; exact HA.out.blen)
          clear HDN HCK hb h9 hkq hks hneg hbs
          go_wp2_with (first
            | (go_at_call 74; refine (HIV.out _).mono ?_; rintro e w5 ⟨rfl, b5⟩; have H5 := Lib.hid (HA.out.sp.keep b5); clear b5)
            | (go_at_call 99; refine (HFN.out _ H5.out).mono ?_; rintro e w6 ⟨rfl, qv6, h6⟩; have H6 := Lib.hid h6; clear h6))
          go_roundw
          case rel => exact ⟨i + 1, qv6, _, _, _, _, by simp, hlt, H6.out, HLC.out, HCS.out, HS2.out, HLB.out, HSE.out, HD2.out⟩
          case measure => simp [intOf]; omega
        · rw [hb] at HCK
          have HD2 := Lib.hid (HDN.out q (fun c h => h) (fun c e hs => by
            obtain rfl : k = c := by omega
            have h9 := HCK.out
            rw [hs.2.2, Bool.false_or] at h9
            exact of_decide_eq_true h9.symm))
          have HFS : Hid (∀ w', Sp w w' (SchT g gc gd gb n qv cl q out bf (exR w fW fH fD A1 n c1 A2 n2 c2)) → Calls Tryz.prog 99 #[ptrV g, .int .i64 k, .int .i64 k, .int .i64 0] w' fun e w2 => e = .returned (.tuple #[]) ∧ w2 = w') := Lib.hid fun w' h => find_shut h HA.out.clen hk HN.out hb k 0
          clear HDN HCK hb
          go_wp2_with (first
            | (go_at_call 74; refine (HIV.out _).mono ?_; rintro e w5 ⟨rfl, b5⟩; have H5 := Lib.hid (HA.out.sp.keep b5); clear b5)
            | (go_at_call 99; refine (HFS.out _ H5.out).mono ?_; rintro e w6 ⟨rfl, rfl⟩))
          go_roundw
          case rel => exact ⟨i + 1, qv, cl, q, out, bf, by simp, hlt, H5.out, HA.out.clen, HA.out.cls, HA.out.srcs, HA.out.blen, HA.out.self, HD2.out⟩
          case measure => simp [intOf]; omega
    · obtain rfl : i = src.length := by omega
      have hB0 : ExB f src avoid w g gc gd gb n (exR w fW fH fD A1 n c1 A2 n2 c2) 0 0 wr qv cl q out bf q.length (fun _ => 0) (fun _ => 0) := ⟨HA.out.sp, HA.out.clen, HA.out.cls, Ex.start (by rw [← HNF.out]; exact HA.out.srcs) (fun c hc => by
        obtain ⟨j, hj, e⟩ := List.getElem_of_mem hc.2.1
        exact HA.out.done j c hj (by rw [List.getD_eq_getElem?_getD, List.getElem?_eq_getElem hj]; exact e) hc) (by rw [← HNF.out]; exact HA.out.blen) HA.out.self⟩
      have HB0 := Lib.hid hB0
      clear hB0 HA HIC HIS HSR
      go_wp2_with fail
      go_loopw [10] (fun iv wr => ∃ i qv cl q out bf s P D, iv = .int .i64 (i : Nat) ∧ i ≤ q.length ∧ ExB f src avoid w g gc gd gb n (exR w fW fH fD A1 n c1 A2 n2 c2) i 0 wr qv cl q out bf s P D) (fun iv _ => n - (intOf iv).toNat)
      case atStart => exact ⟨0, _, _, _, _, _, _, _, _, rfl, Nat.zero_le _, HB0.out⟩
      case round =>
        clear HB0 qv cl q out bf
        obtain ⟨i, qv, cl, q, out, bf, s, P, D, rfl, hi, hB⟩ := hrel
        obtain ⟨Aq, cq, rfl⟩ := (hB.sp.grow 2 rfl).slice
        have hqn : q.length ≤ n := by have := hB.ex.bfs.len_le; have := HNF.out; omega
        obtain ⟨k0, k1, k2, k3⟩ := SchT.cells hB.sp
        have HB := Lib.hid hB
        have HQN := Lib.hid hqn
        clear hB
        by_cases hlt : i < q.length
        · obtain ⟨c, hc⟩ : ∃ c, q[i]? = some c := ⟨_, List.getElem?_eq_getElem hlt⟩
          have HC := Lib.hid hc
          obtain ⟨gq, capq, eq, hcell⟩ := Grow.read (HB.out.sp.grow 2 rfl) (qvs_at hc)
          injection eq with eq1 _ eq3
          subst eq1 eq3
          have HLT := Lib.hid hlt
          have HCN : Hid (c < n) := Lib.hid (by have := HB.out.ex.bfs.lt c (List.mem_of_getElem? hc); have := HNF.out; omega)
          have HI4 : Hid ((i : Int) < 4096) := Lib.hid (by have := HN.out; omega)
          have HEX : Hid (∃ jv, jv = Value.int .i64 0 ∧ ∃ j qv cl q' out bf P D, jv = .int .i64 (j : Nat) ∧ j ≤ 6 ∧ q'[i]? = some c ∧ ExB f src avoid w g gc gd gb n (exR w fW fH fD A1 n c1 A2 n2 c2) i j wr qv cl q' out bf s P D) := Lib.hid ⟨_, rfl, 0, _, _, _, _, _, _, _, rfl, by omega, hc, HB.out⟩
          generalize hL : q.length = L at *
          clear hc hL
          go_wp2_with fail
          go_loopw [43] (fun jv wr => ∃ j qv cl q out bf P D, jv = .int .i64 (j : Nat) ∧ j ≤ 6 ∧ q[i]? = some c ∧ ExB f src avoid w g gc gd gb n (exR w fW fH fD A1 n c1 A2 n2 c2) i j wr qv cl q out bf s P D) (fun jv _ => 6 - (intOf jv).toNat)
          case atStart =>
            obtain ⟨_, rfl, h⟩ := HEX.out
            obtain ⟨j, qv, cl, q', out, bf, P, D, e, h1, h2, h3⟩ := h
            exact ⟨j, qv, cl, q', out, bf, P, D, e, h1, h2, h3⟩
          case round =>
            clear HB HC HQN HLT k0 k1 k2 k3 hcell HEX hlt hi
            clear cl q out bf P D
            obtain ⟨j, qv, cl, q, out, bf, P, D, rfl, hj, hc, hB⟩ := hrel
            have HB := Lib.hid hB
            have HC := Lib.hid hc
            clear hB hc
            by_cases hlt : j < 6
            · obtain ⟨m0, m1, m2, m3, m4⟩ := HBX.out _ _ _ _ _ _ HB.out.sp _ (Below.refl _ _)
              have HNXc := Lib.hid (fun w' b => HNX.out (c : Int) (j : Int) w' b)
              generalize hnx : f.next c j = o at *
              have HO := Lib.hid hnx
              clear hnx
              rcases o with _ | z
              · have HPS := Lib.hid (HB.out.ex.pass HC.out (fun m h _ => by rw [HO.out] at h; cases h))
                dsimp only [resN, Option.getD, Option.isSome] at HNXc
                clear HO
                go_wp2_with (go_at_call 65; refine (HNXc.out _ HB.out.sp.below).mono ?_; rintro e w5 ⟨rfl, b5⟩; have H5 := Lib.hid (HB.out.sp.keep b5); clear b5)
                go_roundw
                case rel => exact ⟨j + 1, qv, cl, q, out, bf, P, D, by simp, by omega, HC.out, H5.out, HB.out.clen, HB.out.cls, HPS.out⟩
                case measure => simp [intOf]; omega
              · obtain ⟨m, rfl⟩ := HNI.out c j z HO.out
                have hm : m < n := HNL.out c j m HO.out
                have HCM := Lib.hid (HB.out.cls m hm)
                have HOC := Lib.hid (ivs_at (l := out) (k := c) (by rw [HB.out.ex.bfs.len]; have := HNF.out; have := HCN.out; omega))
                have hoc : 0 ≤ gt out c ∧ gt out c < 4096 := by
                  have h1 := HB.out.ex.bfs.mem_iff.1 (List.mem_of_getElem? HC.out)
                  have h2 := HB.out.ex.bfs.idx i c HC.out
                  have := HI4.out
                  omega
                have HOUT : Hid (out.length = n) := Lib.hid (by rw [HB.out.ex.bfs.len]; exact HNF.out.symm)
                have HBL : Hid (bf.length = n) := Lib.hid (by rw [HB.out.ex.ord.blen]; exact HNF.out.symm)
                dsimp only [resN, Option.getD, Option.isSome] at HNXc
                cases hb : cl.getD m false
                · rw [hb] at HCM
                  have h9 := HCM.out.symm
                  rw [Bool.or_eq_false_iff] at h9
                  have hmq : m ∉ q := fun e => by rw [decide_eq_true e] at h9; cases h9.2
                  have HVI := Lib.hid (HB.out.ex.visit HC.out hlt HO.out (by rw [← HNF.out]; exact hm) h9.1 hmq)
                  have HC2 : Hid ((q ++ [m])[i]? = some c) := Lib.hid (by rw [List.getElem?_append_left (List.getElem?_eq_some_iff.1 HC.out).1]; exact HC.out)
                  have HCS : Hid (∀ x : Nat, x < n → (cl.set m true).getD x false = (shutB f avoid x || decide (x ∈ q ++ [m]))) := Lib.hid fun x hx => by
                    rw [getD_set _ _ _ _ (by rw [HB.out.clen]; exact hm)]
                    by_cases e : x = m
                    · rw [if_pos e, decide_eq_true (by simp [e]), Bool.or_true]
                    · rw [if_neg e, HB.out.cls x hx]
                      congr 1
                      rw [decide_eq_decide]
                      simp [e]
                  have HLC : Hid ((cl.set m true).length = n) := Lib.hid (by rw [List.length_set]; exact HB.out.clen)
                  have HFN : Hid (∀ w', Sp w w' (SchT g gc gd gb n qv cl q out bf (exR w fW fH fD A1 n c1 A2 n2 c2)) → Calls Tryz.prog 99 #[ptrV g, .int .i64 m, .int .i64 c, .int .i64 (gt out c + 1)] w' fun e w2 => e = .returned (.tuple #[]) ∧ ∃ qv', Sp w w2 (SchT g gc gd gb n qv' (cl.set m true) (q ++ [m]) (out.set m (gt out c + 1)) (bf.set m (c : Int)) (exR w fW fH fD A1 n c1 A2 n2 c2))) := Lib.hid fun w' h => find_new h HB.out.clen HOUT.out HBL.out hm HN.out (by have := HB.out.ex.bfs.len_le; have := HNF.out; have := HN.out; omega) hb c (gt out c + 1)
                  clear HCM hb h9 hmq HO
                  generalize gt out c = oc at *
                  obtain ⟨oc0, oc1⟩ := hoc
                  go_wp2_with (first
                    | (go_at_call 65; refine (HNXc.out _ HB.out.sp.below).mono ?_; rintro e w5 ⟨rfl, b5⟩; have H5 := Lib.hid (HB.out.sp.keep b5); clear b5; obtain ⟨k0, k1, k2, k3⟩ := SchT.cells H5.out; obtain ⟨y0, y1⟩ := Grow.cell (H5.out.grow 3 rfl) HOC.out)
                    | (go_at_call 99; refine (HFN.out _ H5.out).mono ?_; rintro e w6 ⟨rfl, qv6, h6⟩; have H6 := Lib.hid h6; clear h6))
                  go_roundw
                  case rel => exact ⟨j + 1, qv6, _, _, _, _, _, _, by simp, by omega, HC2.out, H6.out, HLC.out, HCS.out, HVI.out⟩
                  case measure => simp [intOf]; omega
                · rw [hb] at HCM
                  have HPS := Lib.hid (HB.out.ex.pass HC.out (fun x h hs => by
                    rw [HO.out] at h
                    have e := Option.some.inj h
                    obtain rfl : m = x := by omega
                    have h9 := HCM.out
                    rw [hs, Bool.false_or] at h9
                    exact of_decide_eq_true h9.symm))
                  have HFS : Hid (∀ w', Sp w w' (SchT g gc gd gb n qv cl q out bf (exR w fW fH fD A1 n c1 A2 n2 c2)) → Calls Tryz.prog 99 #[ptrV g, .int .i64 m, .int .i64 c, .int .i64 (gt out c + 1)] w' fun e w2 => e = .returned (.tuple #[]) ∧ w2 = w') := Lib.hid fun w' h => find_shut h HB.out.clen hm HN.out hb c (gt out c + 1)
                  clear HCM hb HO
                  generalize gt out c = oc at *
                  obtain ⟨oc0, oc1⟩ := hoc
                  go_wp2_with (first
                    | (go_at_call 65; refine (HNXc.out _ HB.out.sp.below).mono ?_; rintro e w5 ⟨rfl, b5⟩; have H5 := Lib.hid (HB.out.sp.keep b5); clear b5; obtain ⟨k0, k1, k2, k3⟩ := SchT.cells H5.out; obtain ⟨y0, y1⟩ := Grow.cell (H5.out.grow 3 rfl) HOC.out)
                    | (go_at_call 99; refine (HFS.out _ H5.out).mono ?_; rintro e w6 ⟨rfl, rfl⟩))
                  go_roundw
                  case rel => exact ⟨j + 1, qv, cl, q, out, bf, P, D, by simp, by omega, HC.out, H5.out, HB.out.clen, HB.out.cls, HPS.out⟩
                  case measure => simp [intOf]; omega
            · obtain rfl : j = 6 := by omega
              have HTU := Lib.hid (HB.out.ex.turn HC.out)
              have HIL : Hid (i + 1 ≤ q.length) := Lib.hid (List.getElem?_eq_some_iff.1 HC.out).1
              have HQ2 : Hid (q.length ≤ n) := Lib.hid (by have := HB.out.ex.bfs.len_le; have := HNF.out; omega)
              have hi4 := HI4.out
              go_wp2_with fail
              go_roundw
              case rel => exact ⟨i + 1, qv, cl, q, out, bf, s, P, D, by simp, HIL.out, HB.out.sp, HB.out.clen, HB.out.cls, HTU.out⟩
              case measure => have := HIL.out; have := HQ2.out; simp [intOf]; omega
        · obtain rfl : i = q.length := by omega
          have H7 : Hid (Sp w (wr.setCells (w.heap.size + 1) 0 [slV gc n, .slice Aq q.length cq, slV gd n, slV gb n]) _) := Lib.hid (poke4 HB.out.sp 6 rfl)
          have t0 := (H7.out.blk 6 rfl).at 0
          have t1 := (H7.out.blk 6 rfl).at 1
          have t2 := (H7.out.blk 6 rfl).at 2
          have t3 := (H7.out.blk 6 rfl).at 3
          have HTH := Lib.hid (four_there HB.out.sp 6 rfl)
          have HPK : Hid (Sp w (wr.setCells (w.heap.size + 1) 0 [slV gc n, .slice Aq q.length cq, slV gd n, slV gb n]) [RowT 1 (slV gd n) n (ivs out), RowT 1 (slV gb n) n (ivs bf)]) := Lib.hid (by
            refine H7.out.pick (fun k => k + 3) (fun i j hi hj h => by omega) (fun i t h => ?_)
            match i, h with
            | 0, h => exact h
            | 1, h => exact h
            | i + 2, h => simp at h)
          have HFI := Lib.hid (HP0.out gc gd gb Aq cq q out bf s P D _ HB.out.ex HPK.out)
          clear H7 HPK hqn
          generalize q.length = L at *
          go_wp2_with (refine wpList_store4 rfl 78 _ _ rfl (w.heap.size + 1) (slV gc n) (.slice Aq L cq) (slV gd n) (slV gb n) rfl rfl HTH.out info_search rfl rfl rfl rfl ?_)
          generalize (wr.setCells (w.heap.size + 1) 0 [slV gc n, .slice Aq L cq, slV gd n, slV gb n]) = w9 at *
          exact bodyPost_ret (v := .agg #[slV gc n, .slice Aq L cq, slV gd n, slV gb n]) (by simp [results, Tryz.results70, go_sem, t0, t1, t2, t3]) rfl HFI.out
end Flo
end Go.Proofs.YtgophgnfiboefaaGreatDoor

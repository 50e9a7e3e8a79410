/- The reference's Path. -/
import Derived.Test.YtncbhhnojdhpeaaDoorFpN
import Derived.Test.YtncbhhnojdhpeaaDoorFlI
namespace Go.Proofs.YtncbhhnojdhpeaaDoor
open Go.RowKit Wire
open Txt (Row)
open Own
open Dsk (Only nth)
set_option linter.unusedVariables false
set_option linter.unusedSimpArgs false
namespace Flo
/-- A part of the way, from its beginning, by the distances that are left. -/
structure Part (f : Fl) (left : List Int) (a K t : Nat) (l : List Nat) : Prop where
  len : l.length = t + 1
  head : l[0]? = some a
  at_ : ∀ i c : Nat, l[i]? = some c → gt left c = (K : Int) - i ∧ c < f.Kind.length
  step : ∀ i c n : Nat, l[i]? = some c → l[i + 1]? = some n → ∃ d : Nat, d < 6 ∧ f.next c d = some (n : Int) ∧ ∀ d' m : Nat, d' < d → f.next c d' = some (m : Int) → gt left m ≠ gt left c - 1
section
variable {f : Fl} {avoid : List Int} {a b c n K t : Nat} {left : List Int} {l : List Nat}
theorem Part.least (ho : f.ok) (hd : IsDist f.Kind.length (spSrc f [(b : Int)] avoid) (spE f avoid true) left) (h : Part f left a K K l) : Least f avoid a b l := by
  have hto : ∀ {c : Nat} {k : Int}, c < f.Kind.length → gt left c = k → 0 ≤ k → ∃ x : Nat, k = x ∧ To f avoid b x c ∧ ∀ j, j < x → ¬ To f avoid b j c := by
    intro c k hc e h0
    obtain ⟨x, h1, h2, h3⟩ := hd.some_ c hc (by omega)
    exact ⟨x, by omega, h2, h3⟩
  refine ⟨h.head, ?_, fun c hc => ?_, fun i c n hc hn => ?_, fun k hk => ?_⟩
  · obtain ⟨z, hl⟩ : ∃ z, l[l.length - 1]? = some z := ⟨_, List.getElem?_eq_getElem (by have := h.len; omega)⟩
    rw [hl]
    obtain ⟨e, hlt⟩ := h.at_ _ _ hl
    obtain ⟨x, h1, h2, _⟩ := hto hlt e (by have := h.len; omega)
    obtain rfl : x = 0 := by have := h.len; omega
    rw [To.zero h2]
  · obtain ⟨i, hi⟩ := List.getElem?_of_mem hc
    obtain ⟨e, hlt⟩ := h.at_ i c hi
    obtain ⟨x, _, h2, _⟩ := hto hlt e (by have := (List.getElem?_eq_some_iff.1 hi).1; have := h.len; omega)
    exact walk_open ho h2
  · obtain ⟨d, h1, h2, h3⟩ := h.step i c n hc hn
    refine ⟨d, h1, h2, fun d' m hd' hm hmo x hx hto' => h3 d' m hd' hm ?_⟩
    obtain ⟨e, hlt⟩ := h.at_ i c hc
    have hil := (List.getElem?_eq_some_iff.1 hn).1
    have hlen := h.len
    obtain ⟨y, g1, g2, g3⟩ := hto hlt e (by omega)
    have hml := (next_lt ho hm).1
    have hne : gt left m ≠ -1 := fun e2 => hd.none_ m hml e2 x hto'
    obtain ⟨z, k1, k2, k3⟩ := hd.some_ m hml hne
    have hzx : z ≤ x := Classical.byContradiction fun e2 => k3 x (by omega) hto'
    have hyz : y ≤ z + 1 := Classical.byContradiction fun e2 => g3 (z + 1) (by omega) (To.ahead ho k2 hm (walk_open ho g2).2)
    omega
  · obtain ⟨e, hlt⟩ := h.at_ 0 a h.head
    obtain ⟨x, g1, g2, g3⟩ := hto hlt e (by omega)
    have : x ≤ k := Classical.byContradiction fun e2 => g3 k (by omega) hk
    have := h.len
    omega
theorem Part.start (ha : a < f.Kind.length) (h : gt left a = K) : Part f left a K 0 [a] := by
  refine ⟨rfl, rfl, fun i c hc => ?_, fun i c n hc hn => ?_⟩
  · have hi := (List.getElem?_eq_some_iff.1 hc).1
    have hi' : i < 1 := hi
    obtain rfl : i = 0 := by omega
    have hc' : some a = some c := hc
    obtain rfl := Option.some.inj hc'
    exact ⟨by rw [h]; simp, ha⟩
  · have hi := (List.getElem?_eq_some_iff.1 hn).1
    have hi' : i + 1 < 1 := hi
    omega
theorem Part.add (h : Part f left a K t l) (hc : l[t]? = some c) (hn : n < f.Kind.length) {d : Nat} (hd : d < 6) (he : f.next c d = some (n : Int)) (hg : gt left n = gt left c - 1) (hno : ∀ d' m : Nat, d' < d → f.next c d' = some (m : Int) → gt left m ≠ gt left c - 1) : Part f left a K (t + 1) (l ++ [n]) := by
  have hlen := h.len
  have at2 : ∀ i x, (l ++ [n])[i]? = some x → (i ≤ t ∧ l[i]? = some x) ∨ (i = t + 1 ∧ x = n) := fun i x hx => by
    rcases Nat.lt_or_ge i l.length with hi | hi
    · rw [List.getElem?_append_left hi] at hx
      exact .inl ⟨by omega, hx⟩
    · have hlt := (List.getElem?_eq_some_iff.1 hx).1
      simp at hlt
      obtain rfl : i = l.length := by omega
      rw [List.getElem?_append_right (by omega)] at hx
      simp at hx
      exact .inr ⟨by omega, hx.symm⟩
  refine ⟨by simp; omega, by rw [List.getElem?_append_left (by omega)]; exact h.head, fun i x hx => ?_, fun i x y hx hy => ?_⟩
  · rcases at2 i x hx with ⟨_, h1⟩ | ⟨rfl, rfl⟩
    · exact h.at_ i x h1
    · obtain ⟨e, _⟩ := h.at_ t c hc
      exact ⟨by rw [hg, e]; push_cast; omega, hn⟩
  · rcases at2 (i + 1) y hy with ⟨h1, h2⟩ | ⟨h1, rfl⟩
    · rcases at2 i x hx with ⟨_, h3⟩ | ⟨h3, _⟩
      · exact h.step i x y h3 h2
      · omega
    · obtain rfl : i = t := by omega
      rcases at2 i x hx with ⟨_, h3⟩ | ⟨h3, _⟩
      · rw [hc] at h3
        obtain rfl := Option.some.inj h3
        exact ⟨d, hd, he, hno⟩
      · omega
theorem dist_step (ho : f.ok) (hd : IsDist f.Kind.length (spSrc f [(b : Int)] avoid) (spE f avoid true) left) {k : Nat} (hc : c < f.Kind.length) (h : gt left c = ((k + 1 : Nat) : Int)) : ∃ d n : Nat, d < 6 ∧ f.next c d = some (n : Int) ∧ gt left n = k := by
  obtain ⟨x, h1, h2, h3⟩ := hd.some_ c hc (by omega)
  obtain rfl : x = k + 1 := by omega
  obtain ⟨n, d, g1, g2, g3, g4⟩ := To.split ho h2
  have hn := (next_lt ho g2).1
  obtain ⟨y, k1, k2, k3⟩ := hd.some_ n hn (fun e => hd.none_ n hn e k g3)
  have a1 : y ≤ k := Classical.byContradiction fun e => k3 k (by omega) g3
  have a2 : k ≤ y := Classical.byContradiction fun e => h3 (y + 1) (by omega) (To.ahead ho k2 g2 g4)
  exact ⟨d, n, g1, g2, by omega⟩
end
theorem dist_list {f : Fl} {src avoid : List Int} {bk : Bool} {out : List Int} (ho : f.ok) (hd : IsDist f.Kind.length (spSrc f src avoid) (spE f avoid bk) out) : ∀ (k c : Nat), c < f.Kind.length → gt out c = k → ∃ l : List Nat, l.Nodup ∧ l.length = k + 1 ∧ ∀ x ∈ l, x < f.Kind.length ∧ gt out x ≤ k
  | 0, c, hc, h => ⟨[c], by simp, rfl, fun x hx => by
    rw [List.mem_singleton.1 hx]
    exact ⟨hc, by omega⟩⟩
  | k + 1, c, hc, h => by
    obtain ⟨x, h1, h2, h3⟩ := hd.some_ c hc (by omega)
    obtain rfl : x = k + 1 := by omega
    cases h2 with
    | @step _ p _ hw he =>
      have hp := (walk_open ho hw).1
      obtain ⟨y, k1, k2, k3⟩ := hd.some_ p hp (fun e => hd.none_ p hp e k hw)
      have a1 : y ≤ k := Classical.byContradiction fun e => k3 k (by omega) hw
      have a2 : k ≤ y := Classical.byContradiction fun e => h3 (y + 1) (by omega) (.step k2 he)
      obtain ⟨l, l1, l2, l3⟩ := dist_list ho hd k p hp (by omega)
      refine ⟨c :: l, List.nodup_cons.2 ⟨fun hm => by have := (l3 c hm).2; omega, l1⟩, by simp [l2], fun x hx => ?_⟩
      rcases List.mem_cons.1 hx with rfl | hx
      · exact ⟨hc, by omega⟩
      · have := l3 x hx
        exact ⟨this.1, by have := this.2; push_cast; omega⟩
theorem dist_lt {f : Fl} {src avoid : List Int} {bk : Bool} {out : List Int} (ho : f.ok) (hd : IsDist f.Kind.length (spSrc f src avoid) (spE f avoid bk) out) {k c : Nat} (hc : c < f.Kind.length) (h : gt out c = k) : k < f.Kind.length := by
  obtain ⟨l, h1, h2, h3⟩ := dist_list ho hd k c hc h
  have := nodup_len h1 (fun x hx => (h3 x hx).1)
  omega
theorem pathIs_nocell' {f : Fl} {avoid : List Int} {a b : Int} (ho : f.ok) (h : f.is a = false) : PathIs f avoid a b [] :=
  .inl ⟨rfl, fun a' b' ha _ k hto => by
    have h2 := (walk_open ho hto).1
    have h3 := of_decide_eq_false h
    have h4 := ho.kinds
    omega⟩
theorem row_of_any {w : World} {A : Option Addr} {n c : Nat} {xs : List Value} (h : Grow w 0 1 (.slice A n c) n xs) : Row w w.heap.size A xs := by
  rcases h.form with ⟨e, e2⟩ | ⟨g', cap', e, h1, h2, h3, h4, h5, h6, h7⟩
  · intro k u hu
    have := (List.getElem?_eq_some_iff.1 hu).1
    have := h.len
    omega
  · injection e with e1 _ e3
    subst e1
    exact fun k u hu => ⟨_, 0, rfl, h2, by rw [Nat.zero_add]; exact h7 k u hu⟩
/-- While the way goes on. -/
structure QwR (f : Fl) (left : List Int) (W : World) (a K : Nat) (ov cv : Value) (wr : World) (t : Nat) (l : List Nat) (c : Nat) : Prop where
  cv : cv = .int .i64 c
  le : t ≤ K
  last : l[t]? = some c
  part : Part f left a K t l
  sp : Sp W wr [RowT 1 ov l.length (qvs l)]
set_option maxRecDepth 100000 in
set_option maxHeartbeats 8000000 in
theorem qPath_any {f : Fl} (ho : f.ok) (p : Pl) (a b : Int) (B : Option Addr) (cb : Nat) (avoid : List Int) (w : World) (hin : FlIn w f p) (ha : Row w w.heap.size B (ivs avoid)) (hla : avoid.length ≤ 1000000) :
    Calls Tryd.prog 28 #[f.val p, .int .i64 a, .int .i64 b, .slice B avoid.length cb] w (PathPost f avoid a b w) := by
  have HSP : Hid (∀ w', Below w.heap.size w w' → ∀ gx, w'.cell? ⟨gx, 0, none⟩ = some (.int .i64 b) → Calls Tryd.prog 41 #[f.val p, .slice (some ⟨gx, 0, none⟩) 1 1, .slice B avoid.length cb, .bool true] w' (SpreadPost f [b] avoid true w')) := Lib.hid fun w' bb gx hx => spread_any ho p (some ⟨gx, 0, none⟩) B 1 cb [b] avoid true w' (hin.lift bb) (fun k u hu => by
    have hk := (List.getElem?_eq_some_iff.1 hu).1
    have hk' : k < 1 := hk
    obtain rfl : k = 0 := by omega
    have hu' : some (Value.int .i64 b) = some u := hu
    exact ⟨gx, 0, rfl, World.block_lt_of_cell? w' _ hx, by rw [Nat.zero_add, hx]; exact hu'⟩) (ha.lift bb) (by show 1 ≤ 1000000; omega) hla
  have HIB := Lib.hid (fun c w => qIs_any ho p c w)
  have HNX := Lib.hid (fun c d w' (b : Below w.heap.size w w') => qNext_any ho p c d w' (hin.lift b))
  have hn4 : f.Kind.length ≤ 4096 := by have := ho.kinds; have := ho.size; omega
  have HN := Lib.hid hn4
  have HIS : Hid (∀ c, f.is c = true ↔ (0 ≤ c ∧ c < (f.Kind.length : Int))) := Lib.hid fun c => by
    unfold Fl.is
    rw [decide_eq_true_iff, ho.kinds]
  have HNA : Hid (f.is a = false → ∀ w', Below w.heap.size w w' → PathPost f avoid a b w (.returned (.slice none 0 0)) w') := Lib.hid fun h w' b => ⟨none, 0, [], rfl, pathIs_nocell' ho h, fun k u hu => by simp at hu, b⟩
  have HNB : Hid (f.is b = false → ∀ w', Below w.heap.size w w' → PathPost f avoid a b w (.returned (.slice none 0 0)) w') := Lib.hid fun h w' b => ⟨none, 0, [], rfl, pathIs_nocell ho h, fun k u hu => by simp at hu, b⟩
  have HHO := Lib.hid ho
  have HNL : Hid (∀ (c d : Nat) (z : Int), f.next c d = some z → ∃ m : Nat, z = m ∧ m < f.Kind.length) := Lib.hid fun c d z h => by
    obtain ⟨m, rfl⟩ : ∃ m : Nat, z = m := ⟨z.toNat, by have := (Fl.next_is h).2.2.2.1; omega⟩
    exact ⟨m, rfl, (next_lt ho h).1⟩
  clear hin ha hla hn4 ho
  obtain ⟨n, hn⟩ : ∃ n : Nat, n = f.Kind.length := ⟨_, rfl⟩
  have HNF : Hid (n = f.Kind.length) := Lib.hid hn
  obtain ⟨A1, c1, A2, c2⟩ := p
  have HVAL : Hid (f.val ⟨A1, c1, A2, c2⟩ = .agg #[.int .i64 f.W, .int .i64 f.H, .int .i64 f.D, .slice A1 n c1, .slice A2 f.Out.length c2]) := Lib.hid (by rw [hn])
  rw [HVAL.out] at HSP HIB HNX ⊢
  unfold SpreadPost at HSP
  rw [← hn] at HIS HN HSP HNL
  clear hn HVAL
  generalize hPQ : PathPost f avoid a b w = Q at *
  have HPQ := Lib.hid hPQ
  clear hPQ
  generalize f.W = fW at *
  generalize f.H = fH at *
  generalize f.D = fD at *
  generalize f.Out.length = n2 at *
  have HB0 : Hid (∀ w', Below (w.alloc (.cells (boxV fW fH fD A1 n c1 A2 n2 c2) 24)).heap.size (w.alloc (.cells (boxV fW fH fD A1 n c1 A2 n2 c2) 24)) w' → BoxS w.heap.size fW fH fD A1 n c1 A2 n2 c2 w' ∧ Below w.heap.size w w') := Lib.hid fun w' b => ⟨boxS ((Blk.fresh w _ _).under b (by simp)), next_below ((Below.refl _ w).alloc (Nat.le_refl _) _) b⟩
  have HALW : Hid (Below w.heap.size w (w.alloc (.cells (boxV fW fH fD A1 n c1 A2 n2 c2) 24))) := Lib.hid ((Below.refl _ w).alloc (Nat.le_refl _) _)
  cases hia : f.is a
  · have HR := Lib.hid (HNA.out hia)
    have HIA := Lib.hid (HIB.out a)
    rw [hia] at HIA
    clear HNA HNB hia HIS
    go_enter Tryd.func28, Tryd.ntmps28
    go_wp2_with (go_at_call 36; refine (HIA.out _).mono ?_; rintro e w5 ⟨rfl, b5⟩; obtain ⟨hbox, hbw⟩ := HB0.out _ b5; have H5 := Lib.hid hbw; clear b5 hbox hbw)
    exact HR.out _ H5.out
  cases hib : f.is b
  · have HR := Lib.hid (HNB.out hib)
    have HIA := Lib.hid (HIB.out a)
    rw [hia] at HIA
    have HIBB := Lib.hid (HIB.out b)
    rw [hib] at HIBB
    clear HNA HNB hia hib HIS
    go_enter Tryd.func28, Tryd.ntmps28
    go_wp2_with (first
      | (go_at_call 36; (with_reducible refine (HIA.out _).mono ?_); rintro e w5 ⟨rfl, b5⟩; have B5 := Lib.hid b5; obtain ⟨hbox, hbw⟩ := HB0.out _ b5; have H5 := Lib.hid hbw; clear b5 hbw; obtain ⟨m0, m1, m2, m3, m4⟩ := hbox)
      | (go_at_call 36; (with_reducible refine (HIBB.out _).mono ?_); rintro e w6 ⟨rfl, b6⟩; have H6 := Lib.hid (next_below H5.out b6); clear b6))
    exact HR.out _ H6.out
  obtain ⟨ha0, ha1⟩ := (HIS.out a).1 hia
  obtain ⟨hb0, hb1⟩ := (HIS.out b).1 hib
  obtain ⟨ka, rfl⟩ : ∃ ka : Nat, a = ka := ⟨a.toNat, by omega⟩
  obtain ⟨kb, rfl⟩ : ∃ kb : Nat, b = kb := ⟨b.toNat, by omega⟩
  have HIA := Lib.hid (HIB.out ka)
  rw [hia] at HIA
  have HIBB := Lib.hid (HIB.out kb)
  rw [hib] at HIBB
  have HKA : Hid (ka < n) := Lib.hid (by omega)
  have HSP2 : Hid (∀ w6, Below w.heap.size w w6 → Calls Tryd.prog 41 #[.agg #[.int .i64 fW, .int .i64 fH, .int .i64 fD, .slice A1 n c1, .slice A2 n2 c2], .slice (some ⟨w6.heap.size, 0, none⟩) 1 1, .slice B avoid.length cb, .bool true] (w6.alloc (.cells #[.int .i64 kb] 3)) (fun e w1 => ∃ Al cl left, e = .returned (.slice Al n cl) ∧ IsDist n (spSrc f [(kb : Int)] avoid) (spE f avoid true) left ∧ Row w1 w1.heap.size Al (ivs left) ∧ Below w6.heap.size w6 w1)) := Lib.hid fun w6 b => (HSP.out _ (b.alloc b.size (.cells #[.int .i64 kb] 3)) w6.heap.size ((Blk.fresh w6 3 #[.int .i64 kb]).at 0)).mono fun e w1 ⟨Al, cl, left, he, h1, h2, h3⟩ => ⟨Al, cl, left, he, h1, h2, next_below ((Below.refl _ w6).alloc (Nat.le_refl _) _) h3⟩
  clear HNA HNB hia hib HIS HIB ha0 hb0 hb1 HSP
  go_enter Tryd.func28, Tryd.ntmps28
  go_upto_region 4 with (first
    | (go_at_call 36; (with_reducible refine (HIA.out _).mono ?_); rintro e w5 ⟨rfl, b5⟩; have B5 := Lib.hid b5; obtain ⟨hbox, hbw⟩ := HB0.out _ b5; have H5 := Lib.hid hbw; clear b5 hbw; obtain ⟨m0, m1, m2, m3, m4⟩ := hbox)
    | (go_at_call 36; (with_reducible refine (HIBB.out _).mono ?_); rintro e w6 ⟨rfl, b6⟩; have B6 := Lib.hid (B5.out.trans (b6.mono B5.out.size)); clear b6 m0 m1 m2 m3 m4; obtain ⟨hbox, hbw⟩ := HB0.out _ B6.out; have H6 := Lib.hid hbw; clear hbw; obtain ⟨m0, m1, m2, m3, m4⟩ := hbox)
    | (go_at_call 41; refine (HSP2.out _ H6.out).mono ?_; rintro e w1 ⟨Al, cl, left, rfl, h1, h2, h3⟩; have HD := Lib.hid h1; have HRW := Lib.hid h2; have B1 := Lib.hid (B6.out.trans (h3.mono B6.out.size)); clear h1 h2 h3))
  have HDF : Hid (IsDist f.Kind.length (spSrc f [(kb : Int)] avoid) (spE f avoid true) left) := Lib.hid (by rw [← HNF.out]; exact HD.out)
  have HLF : Hid (∀ k, k < n → ∃ b o, Al = some ⟨b, o, none⟩ ∧ ∀ w', Below w1.heap.size w1 w' → w'.cell? ⟨b, o + k, none⟩ = some (.int .i64 (gt left k))) := Lib.hid fun k hk => by
    obtain ⟨b, o, e, h⟩ := row_val HRW.out (k := k) (by rw [HD.out.len]; exact hk)
    refine ⟨b, o, e, fun w' bb => ?_⟩
    rw [h w' bb]
    congr 2
    unfold gt
    rw [List.getD_eq_getElem?_getD, List.getD_eq_getElem?_getD, List.getElem?_eq_getElem (by rw [HD.out.len]; exact hk)]
    rfl
  have HB1 : Hid (∀ w', Below w1.heap.size w1 w' → BoxS w.heap.size fW fH fD A1 n c1 A2 n2 c2 w' ∧ Below w.heap.size w w') := Lib.hid fun w' b => HB0.out _ (B1.out.trans (b.mono B1.out.size))
  clear HB0 B5 H5 B6 H6 m0 m1 m2 m3 m4 HIA HIBB HSP2 HALW
  obtain ⟨bl, ol, rfl, hlc⟩ := HLF.out ka HKA.out
  have zka := hlc _ (Below.refl _ _)
  have HLC : Hid (∀ k, k < n → ∀ w', Below w1.heap.size w1 w' → w'.cell? ⟨bl, ol + k, none⟩ = some (.int .i64 (gt left k))) := Lib.hid fun k hk w' b => by
    obtain ⟨b2, o2, e, h⟩ := HLF.out k hk
    injection e with e
    injection e with e1 e2 _
    subst e1 e2
    exact h w' b
  have hkn : (ka : Int) < n := by have := HKA.out; omega
  clear HLF hlc HRW HD
  by_cases hneg : gt left ka < 0
  · have HR : Hid (∀ w', Below w.heap.size w w' → Q (.returned (.slice none 0 0)) w') := Lib.hid fun w' b => by
      rw [← HPQ.out]
      refine ⟨none, 0, [], rfl, .inl ⟨rfl, fun a' b' ea eb k hto => ?_⟩, (fun k u hu => by simp at hu), b⟩
      obtain rfl : ka = a' := by omega
      obtain rfl : kb = b' := by omega
      obtain ⟨h1, _⟩ := walk_open HHO.out hto
      have h2 : gt left ka = -1 := Classical.byContradiction fun e => by
        obtain ⟨x, h5, _⟩ := HDF.out.some_ ka h1 e
        omega
      exact HDF.out.none_ ka h1 h2 k hto
    have HBW := Lib.hid (HB1.out _ (Below.refl _ _)).2
    generalize gt left ka = oz at *
    go_wp2_with fail
    exact HR.out _ HBW.out
  obtain ⟨K, hK⟩ : ∃ K : Nat, gt left ka = K := ⟨(gt left ka).toNat, by omega⟩
  have HKN : Hid (K < n) := Lib.hid (by rw [HNF.out]; exact dist_lt HHO.out HDF.out (by rw [← HNF.out]; exact HKA.out) hK)
  have hK4 : (K : Int) < 4096 := by have := HKN.out; have := HN.out; omega
  have HQ0 : Hid (∀ w', Blk w' w1.heap.size 3 #[.int .i64 ka] → Below w1.heap.size w1 w' → True) := Lib.hid fun _ _ _ => trivial
  have HW0 : Hid (QwR f left w1 ka K (.slice (some ⟨w1.heap.size, 0, none⟩) 1 1) (.int .i64 ka) (w1.alloc (.cells #[.int .i64 ka] 3)) 0 [ka] ka) := Lib.hid ⟨rfl, Nat.zero_le _, rfl, Part.start (by rw [← HNF.out]; exact HKA.out) hK, by
    have := (Sp.nil (Below.refl w1.heap.size w1)).new_row ((Below.refl _ w1).alloc (Nat.le_refl _) (.cells #[.int .i64 ka] 3)) (Grow.fresh w1 3 [Value.int .i64 (ka : Int)] (by show 1 ≤ _; omega))
    exact this⟩
  rw [hK] at zka
  clear hneg hK HQ0
  go_wp2_with fail
  go_loopw [10, 11, 12, 13, 14] (fun ov cv _ _ _ wr => ∃ t l c, QwR f left w1 ka K ov cv wr t l c) (fun _ cv _ _ _ _ => (gt left (intOf cv).toNat).toNat)
  case atStart => exact ⟨0, _, _, HW0.out⟩
  case round =>
    clear HW0 zka hkn
    obtain ⟨t, l, c, hW⟩ := hrel
    obtain rfl := hW.cv
    have hle := hW.le
    obtain ⟨hgc, hcn⟩ := hW.part.at_ t c hW.last
    have zc := HLC.out c (by rw [HNF.out]; exact hcn) _ hW.sp.below
    have hcn' : (c : Int) < n := by rw [HNF.out]; omega
    have HW := Lib.hid hW
    have HGC := Lib.hid hgc
    have HCN := Lib.hid hcn
    rw [hgc] at zc
    clear hW
    by_cases hlt : t < K
    · have hpos : (0 : Int) < (K : Int) - t := by omega
      obtain ⟨j, hj⟩ : ∃ j : Nat, (K : Int) - t = ((j + 1 : Nat) : Int) := ⟨K - t - 1, by omega⟩
      have HDS : Hid (∃ d n : Nat, d < 6 ∧ f.next c d = some (n : Int) ∧ gt left n = gt left c - 1) := Lib.hid (by
        obtain ⟨d, x, h1, h2, h3⟩ := dist_step HHO.out HDF.out hcn (k := j) (by rw [hgc, hj])
        exact ⟨d, x, h1, h2, by rw [h3, hgc, hj]; push_cast; omega⟩)
      obtain ⟨gc, hgcz⟩ : ∃ gc : Int, gc = (K : Int) - t := ⟨_, rfl⟩
      rw [← hgcz] at zc hpos hj
      have HGZ : Hid (gt left c = gc) := Lib.hid (by rw [hgc, hgcz])
      have hgc4 : gc < 4096 := by omega
      have HTK := Lib.hid hlt
      have HSP0 := Lib.hid HW.out.sp
      clear hgc hcn hgcz hj hlt
      have hd1 : decide ((0 : Int) < gc) = true := decide_eq_true hpos
      go_wp2_with fail
      go_loopw [11, 12, 13, 14] (fun cv dv _ _ wr => ∃ d, cv = .int .i64 c ∧ dv = .int .i64 (d : Nat) ∧ d ≤ 6 ∧ (∀ d' m : Nat, d' < d → f.next c d' = some (m : Int) → gt left m ≠ gt left c - 1) ∧ Sp w1 wr [RowT 1 u10 l.length (qvs l)]) (fun _ dv _ _ _ => 6 - (intOf dv).toNat)
      case atStart => exact ⟨0, rfl, rfl, by omega, fun d' m h => by omega, HSP0.out⟩
      case round =>
        clear HSP0 zc
        obtain ⟨d, rfl, rfl, hd6, hno, hsp⟩ := hrel
        have HNO := Lib.hid hno
        have HSP := Lib.hid hsp
        clear hno hsp
        by_cases hlt2 : d < 6
        · obtain ⟨⟨m0, m1, m2, m3, m4⟩, hbw⟩ := HB1.out _ HSP.out.below
          have HBW := Lib.hid hbw
          have HNXc := Lib.hid (fun w' b => HNX.out (c : Int) (d : Int) w' b)
          have HCB : Hid (∀ w', Below w1.heap.size w1 w' → w'.cell? ⟨bl, ol + c, none⟩ = some (.int .i64 gc)) := Lib.hid (by rw [← HGZ.out]; exact HLC.out c (by rw [HNF.out]; exact HCN.out))
          clear hbw
          generalize hnx : f.next c d = o at *
          have HO := Lib.hid hnx
          clear hnx
          rcases o with _ | z
          · have HNO2 : Hid (∀ d' m : Nat, d' < d + 1 → f.next c d' = some (m : Int) → gt left m ≠ gt left c - 1) := Lib.hid fun d' m h1 h2 => by
              by_cases e : d' = d
              · rw [e, HO.out] at h2
                cases h2
              · exact HNO.out d' m (by omega) h2
            dsimp only [resN, Option.getD, Option.isSome] at HNXc
            clear HO
            go_wp2_with (go_at_call 17; refine (HNXc.out _ HBW.out).mono ?_; rintro e w5 ⟨rfl, b5⟩; have H5 := Lib.hid (HSP.out.keep b5); clear b5)
            go_quiet (fail)
            go_wp2_with fail
            go_roundw
            case rel => exact ⟨d + 1, rfl, by simp, by omega, HNO2.out, by first | exact H5.out | exact H5.out.keep (Below.refl _ _).drew | exact H5.out.keep (below_any _ _)⟩
            case measure => simp [intOf]; omega
          · obtain ⟨m, rfl, hm⟩ := HNL.out c d z HO.out
            dsimp only [resN, Option.getD, Option.isSome] at HNXc
            have HMB := Lib.hid (HLC.out m hm)
            have hmn : (m : Int) < n := by omega
            have HM := Lib.hid hm
            clear hm
            by_cases hg : gt left m = gc - 1
            · have hgb : (gt left m == gc - 1) = true := beq_iff_eq.2 hg
              have HPA := Lib.hid (HW.out.part.add HW.out.last (by rw [← HNF.out]; exact HM.out) hlt2 HO.out (by rw [HGZ.out]; exact hg) HNO.out)
              have HLA : Hid ((l ++ [m])[t + 1]? = some m) := Lib.hid (by rw [List.getElem?_append_right (by rw [HW.out.part.len]; omega), HW.out.part.len]; simp)
              have HLL : Hid (l.length ≤ 100000) := Lib.hid (by rw [HW.out.part.len]; have := HTK.out; have := HKN.out; have := HN.out; omega)
              have HME : Hid ((gt left m).toNat < (gt left c).toNat) := Lib.hid (by rw [HGZ.out, hg]; omega)
              generalize hgm : gt left m = gm at *
              have HGM : Hid (gt left m = gm) := Lib.hid hgm
              clear hg HO hgm
              go_wp2_with (go_at_call 17; refine (HNXc.out _ HBW.out).mono ?_; rintro e w5 ⟨rfl, b5⟩; have H5 := Lib.hid (HSP.out.keep b5); clear b5; have zc := HCB.out _ H5.out.below; have zm := HMB.out _ H5.out.below)
              go_quiet (fail)
              have H6 := Lib.hid (H5.out.keep (below_any w5 nq))
              generalize w5.drewN nq = w7 at *
              clear H5 HNXc
              go_wp2_with ((at_builtin; obtain ⟨v8, w8, r8, h8⟩ := push_int H6.out 0 rfl m HLL.out 3; have H8 : Hid (Sp w1 w8 [RowT 1 v8 (l ++ [m]).length (qvs (l ++ [m]))]) := Lib.hid h8; refine wpList_append_run rfl _ _ _ _ rfl (by simp [go_sem]) (by simp [go_sem]) r8 ?_; clear r8 h8))
              go_roundw
              case rel => exact ⟨t + 1, l ++ [m], m, rfl, HTK.out, HLA.out, HPA.out, H8.out⟩
              case measure =>
                have h9 := HME.out
                rw [← HGM.out] at h9
                simpa [intOf] using h9
            · have hgb : (gt left m == gc - 1) = false := ne_b hg
              have HNO2 : Hid (∀ d' x : Nat, d' < d + 1 → f.next c d' = some (x : Int) → gt left x ≠ gt left c - 1) := Lib.hid fun d' x h1 h2 => by
                by_cases e : d' = d
                · rw [e, HO.out] at h2
                  have e2 := Option.some.inj h2
                  obtain rfl : m = x := by omega
                  rw [HGZ.out]
                  exact hg
                · exact HNO.out d' x (by omega) h2
              generalize gt left m = gm at *
              clear hg HO
              go_wp2_with (go_at_call 17; refine (HNXc.out _ HBW.out).mono ?_; rintro e w5 ⟨rfl, b5⟩; have H5 := Lib.hid (HSP.out.keep b5); clear b5; have zc := HCB.out _ H5.out.below; have zm := HMB.out _ H5.out.below)
              go_quiet (fail)
              have H6 := Lib.hid (H5.out.keep (below_any w5 nq))
              generalize w5.drewN nq = w7 at *
              clear H5 HNXc
              go_wp2_with fail
              go_roundw
              case rel => exact ⟨d + 1, rfl, by simp, by omega, HNO2.out, H6.out⟩
              case measure => simp [intOf]; omega
        · obtain ⟨d2, x, h1, h2, h3⟩ := HDS.out
          exact absurd h3 (HNO.out d2 x (by omega) h2)
    · obtain rfl : t = K := by omega
      have hz : (t : Int) - t = 0 := by omega
      have HPI : Hid (PathIs f avoid ka kb (l.map (fun c : Nat => (c : Int)))) := Lib.hid (.inr ⟨ka, kb, l, rfl, rfl, rfl, HW.out.part.least HHO.out HDF.out⟩)
      obtain ⟨Ao, co, rfl⟩ := (HW.out.sp.grow 0 rfl).slice
      have HRO := Lib.hid (row_of_any (HW.out.sp.grow 0 rfl))
      have HBW := Lib.hid (HB1.out _ HW.out.sp.below).2
      have HR : Hid (Q (.returned (.slice Ao l.length co)) wr) := Lib.hid (by
        rw [← HPQ.out]
        refine ⟨Ao, co, l.map (fun c : Nat => (c : Int)), by rw [List.length_map], HPI.out, ?_, HBW.out⟩
        rw [show ivs (l.map (fun c : Nat => (c : Int))) = qvs l from by simp]
        exact HRO.out)
      rw [hz] at zc
      clear hgc hcn
      generalize l.length = L at *
      go_wp2_with fail
      exact HR.out
end Flo
end Go.Proofs.YtncbhhnojdhpeaaDoor

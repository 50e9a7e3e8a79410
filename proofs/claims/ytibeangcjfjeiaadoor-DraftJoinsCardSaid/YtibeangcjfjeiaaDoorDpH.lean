/- The parser's item. -/
import Derived.Test.YtibeangcjfjeiaaDoorDpG
namespace Go.Proofs.YtibeangcjfjeiaaDoor
open Go.RowKit Txt Wire Lx
set_option linter.unusedVariables false
set_option maxRecDepth 100000
set_option linter.unusedSimpArgs false
namespace Drf

set_option maxHeartbeats 1000000 in
theorem item_full {W w : World} {b : Nat} {l : List Tk} {d : Df} {k : Int} (h : PS W w b l d) (hn : d.items.length = 5000) :
    Calls Tryd.prog 68 #[ptr b, .int .i64 k] w fun e w' => e = .returned (.int .i64 6) ∧ w' = w := by
  obtain ⟨h0, h1, dv, iv, hr, vs, us, lab, ho⟩ := h
  have hlt := hr.lt
  obtain ⟨A, c, hc, hb, hrow⟩ := hr
  obtain ⟨A1, c1, rfl⟩ := ho.items.slice
  rw [hn] at hb
  have k1 : w.cell? ⟨b, 2, none⟩ = some (.slice A1 5000 c1) := hb.at 2
  clear hb hrow ho
  go_enter Tryd.func68, Tryd.ntmps68
  go_wp2_with fail
  go_ret
  exact ⟨rfl, rfl⟩

theorem tk_line (t : Tk) (w : World) : Sem.run Tryd.prog (Instr.field 42 t.val 3) w = .ok (.int .i64 t.line) w := by kernel_rfl
theorem tk_text (t : Tk) (w : World) : Sem.run Tryd.prog (Instr.field 42 t.val 1) w = .ok (str t.text) w := by kernel_rfl
theorem tk_n (t : Tk) (w : World) : Sem.run Tryd.prog (Instr.field 42 t.val 2) w = .ok (.int .i64 t.n) w := by kernel_rfl
/-- Between two places. -/
structure ItR (w wr : World) (b x : Nat) (ps : List UInt8) (dv iv : Value) (R : Rd It) (N i : Nat) (y : It) (l : List Tk) : Prop where
  le : i ≤ ps.length
  iter : wr.heap[x + 1]? = some (.stringIter ⟨ps.toArray⟩ i)
  item : ItAt wr x (x + 2) y
  rd : RdAt wr b l dv iv
  chg : Chg (PF w b) w wr
  rest : placesR (ps.drop i) y l = R
  ends : Ends l
  few : y.n.length ≤ i
  short : l.length ≤ N
theorem ItR.size {w wr : World} {b x N i : Nat} {ps : List UInt8} {dv iv : Value} {R : Rd It} {y : It} {l : List Tk} (h : ItR w wr b x ps dv iv R N i y l) : x + 1 < wr.heap.size := (Array.getElem?_eq_some_iff.1 h.iter).1
theorem chg_iter {F : Nat → Prop} {w : World} {k : Nat} {S : ByteArray} {i : Nat} (hF : F k) : Chg F w (w.iterAt k S i) := ⟨rfl, rfl, rfl, by rw [Lib.iterAt_size]; exact Nat.le_refl _, fun j _ hj => Lib.iterAt_other w k j S i (fun e => hj (e ▸ hF))⟩
/-- A place further, ahead of what is done with it. -/
theorem ItR.next {w wr : World} {b x N i : Nat} {ps : List UInt8} {dv iv : Value} {R : Rd It} {y : It} {l : List Tk} (h : ItR w wr b x ps dv iv R N i y l) (hx : w.heap.size ≤ x) (hb : b < w.heap.size) :
    ItAt (wr.iterAt (x + 1) ⟨ps.toArray⟩ (i + 1)) x (x + 2) y ∧ RdAt (wr.iterAt (x + 1) ⟨ps.toArray⟩ (i + 1)) b l dv iv ∧ Chg (PF w b) w (wr.iterAt (x + 1) ⟨ps.toArray⟩ (i + 1)) ∧ (wr.iterAt (x + 1) ⟨ps.toArray⟩ (i + 1)).heap[x + 1]? = some (.stringIter ⟨ps.toArray⟩ (i + 1)) ∧ (wr.iterAt (x + 1) ⟨ps.toArray⟩ (i + 1)).heap.size = wr.heap.size := by
  have hc : Chg (fun k => k = x + 1) wr (wr.iterAt (x + 1) ⟨ps.toArray⟩ (i + 1)) := chg_iter rfl
  refine ⟨?_, h.rd.chg hc fun k hk => by omega, h.chg.trans (hc.wider fun k _ hk => .inr (by omega)), Lib.iterAt_heap wr (x + 1) _ i (i + 1) h.iter, Lib.iterAt_size _ _ _ _⟩
  obtain ⟨h0, u, h1, h2⟩ := h.item
  exact ⟨h0, u, hc.blk h1 (by omega), h2.keep hc.size fun g hg => hc.block g (h2.block g hg).2 (by have := (h2.block g hg).1; omega)⟩
theorem ItAt.over {w w' : World} {x K : Nat} {y : It} {F : Nat → Prop} (h : ItAt w x K y) (c : Chg F w w') (hF : ∀ k, F k → k < x) : ItAt w' x K y := by
  obtain ⟨h0, u, h1, h2⟩ := h
  exact ⟨h0, u, c.blk h1 (fun hf => by have := hF _ hf; omega), h2.keep c.size fun g hg => c.block g (h2.block g hg).2 fun hf => by have := hF _ hf; have := (h2.block g hg).1; omega⟩
theorem placeR_some {p : UInt8} {t : Tk} {y y' : It} (h : placeR p t y = some y') : t.kind ≤ 1 ∧ y'.n.length ≤ y.n.length + 1 := by
  unfold placeR at h
  by_cases h1 : p = 110 ∨ p = 99
  · rw [if_pos h1] at h
    by_cases hk : t.kind = 0
    · rw [if_pos hk] at h
      obtain rfl := Option.some.inj h
      exact ⟨by omega, Nat.le_succ _⟩
    · rw [if_neg hk] at h; cases h
  rw [if_neg h1] at h
  by_cases h2 : p = 111
  · rw [if_pos h2] at h
    by_cases hk : t.kind = 0
    · rw [if_pos hk] at h
      obtain rfl := Option.some.inj h
      exact ⟨by omega, Nat.le_succ _⟩
    · rw [if_neg hk] at h; cases h
  rw [if_neg h2] at h
  by_cases h3 : p = 49
  · rw [if_pos h3] at h
    by_cases hk : t.kind = 1
    · rw [if_pos hk] at h
      obtain rfl := Option.some.inj h
      exact ⟨by omega, by simp⟩
    · rw [if_neg hk] at h; cases h
  rw [if_neg h3] at h
  by_cases h4 : p = 100
  · rw [if_pos h4] at h
    cases hd : dirOf t.text with
    | none => rw [hd] at h; cases h
    | some d =>
      rw [hd] at h
      by_cases hk : t.kind = 0
      · simp only [if_pos hk] at h
        obtain rfl := Option.some.inj h
        exact ⟨by omega, by simp⟩
      · simp only [if_neg hk] at h; cases h
  · rw [if_neg h4] at h; cases h
theorem Own.remark {w : World} {H : Nat} {dv iv : Value} {d : Df} {vs us : List Value} {lab : Nat → Nat} (h : Own w H dv iv d vs us lab) {s k : Nat} (hs : w.heap.size ≤ s) : Own w H dv iv d vs us (mark lab s k) := by
  have old : ∀ {size n m : Nat} {v : Value} {xs : List Value}, Grow w H size v n xs → (∀ g, v.ownBlock = some g → lab g = m) → ∀ g, v.ownBlock = some g → mark lab s k g = m := fun g1 g2 g hg => by
    rw [mark_old (Nat.lt_of_lt_of_le (g1.block g hg).2 hs)]
    exact g2 g hg
  exact ⟨h.dlen, h.ilen, h.decks, old h.decks h.dlab, h.items, old h.items h.ilab, fun i v ts hv ht => ⟨(h.rows i v ts hv ht).1, old (h.rows i v ts hv ht).1 (h.rows i v ts hv ht).2⟩, fun i u x hu hx => ⟨(h.ints i u x hu hx).1, old (h.ints i u x hu hx).1 (h.ints i u x hu hx).2⟩⟩
/-- What the last statement of item reads. -/
structure ItemIn (w : World) (b x : Nat) (iv : Value) (y : It) (u : Value) : Prop where
  c2 : w.cell? ⟨b, 2, none⟩ = some iv
  x0 : w.cell? ⟨x, 0, none⟩ = some (.int .i64 y.kind)
  x1 : w.cell? ⟨x, 1, none⟩ = some (.int .i64 y.line)
  x2 : w.cell? ⟨x, 2, none⟩ = some (str y.name)
  x3 : w.cell? ⟨x, 3, none⟩ = some (str y.other)
  x4 : w.cell? ⟨x, 4, none⟩ = some u
theorem ItemIn.drew {w : World} {b x : Nat} {iv u : Value} {y : It} (h : ItemIn w b x iv y u) : ItemIn w.drew b x iv y u := ⟨h.c2, h.x0, h.x1, h.x2, h.x3, h.x4⟩
theorem ItemIn.of {w : World} {b x m c1 : Nat} {l : List Tk} {A1 : Option Addr} {dv u : Value} {y : It} (h : RdAt w b l dv (.slice A1 m c1)) (hb : Blk w x 34 #[.int .i64 y.kind, .int .i64 y.line, str y.name, str y.other, u]) : ItemIn w b x (.slice A1 m c1) y u := by
  obtain ⟨_, _, _, h1, _⟩ := h
  exact ⟨h1.at 2, hb.at 0, hb.at 1, hb.at 2, hb.at 3, hb.at 4⟩
theorem item_src (w : World) (y : It) (A : Option Addr) (n c : Nat) : Src Tryd.prog 5 23 (.slice (some ⟨w.heap.size, 0, none⟩) 1 1) 1 (itC y (.slice A n c)) (w.alloc (.cells #[.int .i64 y.kind, .int .i64 y.line, str y.name, str y.other, .slice A n c] 34)).drew :=
  Src.ofSlice _ Tryd.underlying23 ⟨w.heap.size, 0, none⟩ 1 1 (itC y (.slice A n c)) rfl (new_cells w _ (itC y (.slice A n c))) (by
    intro u hu
    simp only [itC, List.mem_cons, List.not_mem_nil, or_false] at hu
    rcases hu with rfl | rfl | rfl | rfl | rfl <;> rfl)
/-- The head of what is not read. -/
structure Hd (w : World) (b g o n c : Nat) (t : Tk) : Prop where
  c0 : w.cell? ⟨b, 0, none⟩ = some (.slice (some ⟨g, o, none⟩) n c)
  u0 : w.cell? ⟨g, o, none⟩ = some (.int .i64 t.kind)
  u1 : w.cell? ⟨g, o + 1, none⟩ = some (str t.text)
  u2 : w.cell? ⟨g, o + 2, none⟩ = some (.int .i64 t.n)
  u3 : w.cell? ⟨g, o + 3, none⟩ = some (.int .i64 t.line)
theorem RdAt.hd {w : World} {b : Nat} {t : Tk} {l : List Tk} {dv iv : Value} (h : RdAt w b (t :: l) dv iv) : ∃ g o c, g < b ∧ b < w.heap.size ∧ Hd w b g o (l.length + 1) c t := by
  have hlt := h.lt
  obtain ⟨A, c, hc, hb, hr⟩ := h
  obtain ⟨g, o, rfl, hg, k0, k1, k2, k3⟩ := row_tk hr (i := 0) (t := t) rfl
  rw [Nat.zero_mul, Nat.add_zero] at k0 k1 k2 k3
  exact ⟨g, o, c, hg, hlt, hb.at 0, k0, k1, k2, k3⟩
theorem ps_of {W w w' : World} {b : Nat} {l : List Tk} {d : Df} {dv iv : Value} {vs us : List Value} {lab : Nat → Nat} (h0 : b < W.heap.size) (h1 : W.grownBy w (some b)) (ho : Own w W.heap.size dv iv d vs us lab) (c : Chg (PF w b) w w') (r : RdAt w' b l dv iv) : PS W w' b l d :=
  ⟨h0, ps_grown h1 (c.wider fun k _ hk => by rcases hk with h | h; exact .inl h; exact .inr (by have := h1.size; omega)), dv, iv, r, vs, us, lab, ho.keep c.size fun g h2 h3 => c.block g h3 fun hf => by rcases hf with h | h <;> omega⟩
/-- What item says. -/
def IPost (W : World) (b : Nat) (d : Df) (R : Rd It) (e : Ending) (w' : World) : Prop := match R with
  | .bad L => e = .returned (.int .i64 11) ∧ ∃ t l, PS W w' b (t :: l) d ∧ t.line = L
  | .got x r => e = .returned (.int .i64 0) ∧ PS W w' b r { d with items := d.items ++ [x] }
theorem ipost_bad {W w : World} {b : Nat} {d : Df} {L : Nat} {t : Tk} {l : List Tk} {e : Ending} (he : e = .returned (.int .i64 11)) (h : PS W w b (t :: l) d) (ht : t.line = L) : IPost W b d (.bad L) e w := ⟨he, t, l, h, ht⟩
theorem ipost_got {W w : World} {b : Nat} {d : Df} {x : It} {r : List Tk} {e : Ending} (he : e = .returned (.int .i64 0)) (h : PS W w b r { d with items := d.items ++ [x] }) : IPost W b d (.got x r) e w := ⟨he, h⟩
set_option maxHeartbeats 4000000 in
theorem item_some {W w : World} {b : Nat} {t : Tk} {l : List Tk} {d : Df} {k : Nat} (h : PS W w b (t :: l) d) (hk : k < 6) (hn : d.items.length < 5000) (he : Ends l) (hll : l.length ≤ 900000000) (hv : VD w) (hf : VF w) (hgd : 1 < b) (hgf : 0 < b) :
    Calls Tryd.prog 68 #[ptr b, .int .i64 k] w (IPost W b d (itemR k t.line l)) := by
  have hps := places_item hk t.line l
  generalize itemR k t.line l = R at *
  obtain ⟨h0, h1, dv, iv, hr, vs, us, lab, ho⟩ := h
  have hlt := hr.lt
  have hl0 : 0 < l.length := List.length_pos_iff.2 he.ne
  have HT := Lib.hid (ptake_any hr hl0 (by omega))
  obtain ⟨A1, c1, rfl⟩ := ho.items.slice
  have k2 : w.cell? ⟨b, 2, none⟩ = some (.slice A1 d.items.length c1) := by
    obtain ⟨_, _, _, hb, _⟩ := hr
    exact hb.at 2
  obtain ⟨m, hm⟩ : ∃ m, m = d.items.length := ⟨_, rfl⟩
  have HM := Lib.hid hm
  rw [← hm] at k2 hn HT ho
  have hm5 : ¬ (m = 5000) := by omega
  have HO := Lib.hid ho
  have H0 := Lib.hid h0
  have H1 := Lib.hid h1
  have HP := Lib.hid hps
  have HE := Lib.hid he
  have HV := Lib.hid hv
  have HF := Lib.hid hf
  have HK := Lib.hid hk
  clear hr ho h1 hps he hv hf hm
  have hfl := tk_line t
  have hkk : (k : Int) < 6 := by omega
  go_enter Tryd.func68, Tryd.ntmps68
  go_wp2_with (go_at_call 69; go_must (
    refine HT.out.mono ?_; rintro e w1 ⟨rfl, r1, g1⟩
    have R1 := Lib.hid r1
    have G1 := Lib.hid g1
    have hf1 : VF w1 := HF.out.below (grown_below g1 (Nat.le_refl b) (by omega)) hgf
    have f0 := (hf1 k HK.out).2
    have HV1 : Hid (VD w1) := Lib.hid (HV.out.below (grown_below g1 (Nat.le_refl b) (by omega)) hgd)
    have hs1 := g1.size
    have hgw1 : 0 < w1.heap.size := by omega
    clear r1 g1 hf1))
  have hi0 : ItR w ((w1.alloc (.cells #[.int .i64 k, .int .i64 t.line, .string ⟨#[]⟩, .string ⟨#[]⟩, .slice none 0 0] 34)).iter ⟨(places k).toArray⟩ 0) b w1.heap.size (places k) dv (.slice A1 m c1) R 900000000 0 ⟨k, [], [], [], t.line⟩ l := by
    have hcw : Chg (fun _ => False) w1 ((w1.alloc (.cells #[.int .i64 k, .int .i64 t.line, .string ⟨#[]⟩, .string ⟨#[]⟩, .slice none 0 0] 34)).iter ⟨(places k).toArray⟩ 0) := (Chg.alloc _).trans (Chg.alloc _)
    refine ⟨Nat.zero_le _, ?_, ⟨by omega, _, (Blk.fresh w1 _ _).kept _, Grow.nil _ _ _⟩, R1.out.chg hcw (fun _ hk => hk.elim), (chg_b G1.out).trans (hcw.wider fun _ _ hk => hk.elim), HP.out, HE.out, Nat.zero_le _, hll⟩
    have := World.iter_heap (w1.alloc (.cells #[.int .i64 k, .int .i64 t.line, .string ⟨#[]⟩, .string ⟨#[]⟩, .slice none 0 0] 34)) ⟨(places k).toArray⟩ 0
    simpa using this
  generalize w1.heap.size = x at *
  generalize (w1.alloc (.cells #[.int .i64 k, .int .i64 t.line, .string ⟨#[]⟩, .string ⟨#[]⟩, .slice none 0 0] 34)).iter ⟨(places k).toArray⟩ 0 = wi at *
  have HI := Lib.hid hi0
  have HPA := Lib.hid (places_are k HK.out)
  have HCL := Lib.hid (class_last k HK.out)
  have hpf := places_few k HK.out
  have HX : Hid (w.heap.size ≤ x) := Lib.hid hs1
  clear hi0 HP HE f0 hgw1 hs1 R1 G1 HT
  generalize places k = ps at *
  go_loopw [7] (fun _ wr => ∃ i y l', ItR w wr b x ps dv (.slice A1 m c1) R 900000000 i y l') (fun _ wr => ps.length - wr.iterPos (x + 1))
  case atStart => exact ⟨0, _, _, HI.out⟩
  case round =>
    obtain ⟨i, y, l', hI⟩ := hrel
    have hsz := hI.size
    have hit := hI.iter
    have hmu : wr.iterPos (x + 1) = i := by simp [World.iterPos, hit]
    have hps8 : (⟨ps.toArray⟩ : ByteArray).size = ps.length := rfl
    by_cases hi : i < ps.length
    · obtain ⟨p, hp⟩ : ∃ p, ps[i]? = some p := ⟨_, List.getElem?_eq_getElem hi⟩
      have hpa := HPA.out p (List.mem_of_getElem? hp)
      have hS : ((⟨ps.toArray⟩ : ByteArray)[i]'(by rw [hps8]; exact hi)) = p := by
        have := (List.getElem?_eq_some_iff.1 hp).2
        exact this
      have hnext : ∀ ty, (Instr.next (.pointer (some ⟨x + 1, 0, none⟩)) true ty).run Tryd.prog wr = .ok (.tuple #[.bool true, .int .i64 i, .int .i32 p.toNat]) (wr.iterAt (x + 1) ⟨ps.toArray⟩ (i + 1)) := fun ty => by
        have := Lib.run_next_ascii_at (P := Tryd.prog) wr (x + 1) ⟨ps.toArray⟩ i ty hit (by rw [hps8]; exact hi) (by rw [hS]; rcases hpa with rfl | rfl | rfl | rfl | rfl <;> decide)
        rw [hS] at this
        exact this
      obtain ⟨hIt, hRd, hCh, hTr, hSz⟩ := hI.next HX.out hlt
      obtain ⟨t', r, rfl⟩ : ∃ t' r, l' = t' :: r := List.exists_cons_of_ne_nil hI.ends.ne
      have hrest := hI.rest
      rw [List.drop_eq_getElem_cons hi, (List.getElem?_eq_some_iff.1 hp).2] at hrest
      have hends := hI.ends
      have hfew := hI.few
      have hshort := hI.short
      rw [List.length_cons] at hshort
      generalize wr.iterAt (x + 1) ⟨ps.toArray⟩ (i + 1) = wn at *
      obtain ⟨g, o, c, hg, hbn, hh⟩ := hRd.hd
      obtain ⟨q0, q1, q2, q3, q4⟩ := hh
      have hgn : g < wn.heap.size := by omega
      have hr1 : (0 : Int) < (r.length : Int) + 1 := by omega
      have HIt := Lib.hid hIt
      have HRd := Lib.hid hRd
      have HCh := Lib.hid hCh
      have HTr := Lib.hid hTr
      have HEN := Lib.hid hends
      have HRS := Lib.hid hrest
      have HVN : Hid (VD wn) := Lib.hid (HV.out.below (hCh.below (B := b) (by omega) fun k hk => by rcases hk with h | h <;> omega) hgd)
      have HI2 := Lib.hid hI
      have HFW := Lib.hid (show y.n.length ≤ 100 by omega)
      have HI1 := Lib.hid (show i + 1 ≤ ps.length ∧ y.n.length ≤ i from ⟨hi, hfew⟩)
      clear hIt hRd hCh hTr hends hrest hI hit hS hps8 hfew
      by_cases h99 : p = 99 ∧ t'.kind ≠ 0
      · have hk0 : ((t'.kind : Int) != 0) = true := bne_iff_ne.2 (by have := h99.2; omega)
        have HRZ : Hid (R = .got y (t' :: r)) := Lib.hid (by rw [← HRS.out]; show (if p = 99 ∧ t'.kind ≠ 0 then _ else _) = _; rw [if_pos h99])
        have hP : (p.toNat : Int) = 99 := by rw [h99.1]; rfl
        rw [hP] at hnext
        have IT := HIt
        have RZ := HRd
        have CZ := HCh
        clear h99 hP hp hpa HIt HRd HCh hSz
        obtain ⟨hx0, u, hbx, hgu⟩ := IT.out
        obtain ⟨Au, cu, rfl⟩ := hgu.slice
        obtain ⟨i0, hi0, hi1, hi2, hi3⟩ := info_parts info_item
        have II := Lib.hid (ItemIn.of RZ.out hbx)
        have HBX := Lib.hid hbx
        have HGU := Lib.hid hgu
        have hoz : Own wn W.heap.size dv (.slice A1 m c1) d vs us (mark lab w.heap.size 2) := (HO.out.remark (Nat.le_refl _)).keep CZ.out.size fun g h2 h3 => CZ.out.block g h3 fun hf => by have := H0.out; rcases hf with h | h <;> omega
        have HOZ := Lib.hid hoz
        have HGI : Hid (Grow wn W.heap.size 5 (.slice A1 m c1) m (itsC d.items us)) := Lib.hid (by have := hoz.items; rwa [← HM.out] at this)
        have hbz := RZ.out.lt
        have hwz : W.heap.size ≤ wn.heap.size := Nat.le_trans H1.out.size CZ.out.size
        clear hx0 hbx hgu hoz
        go_upto_region 11 with (fail)
        refine Dsk.wp_region_late (fun w' => ItemIn w' b x (.slice A1 m c1) y (.slice Au y.n.length cu)) [0, 1, 2, 3, 4, 5, 6] [7, 8, 9, 10, 11] [12] (by kernel_rfl) (by decide +kernel) (by decide +kernel) ⟨II.out.c2, II.out.x0, II.out.x1, II.out.x2, II.out.x3, II.out.x4⟩ ?_
        repeat refine Dsk.RD.next rfl rfl (by intro w' ⟨c2, x0, x1, x2, x3, x4⟩; go_simp; with_reducible rfl) ?_
        refine Dsk.RD.done ?_
        refine Dsk.CHW.next rfl rfl fun Kc hK => ?_
        go_simp
        refine hK _ _ ((ItemIn.of (RZ.out.chg (F := fun _ => False) (Chg.alloc _) fun _ hk => hk.elim) (HBX.out.kept _)) : ItemIn (wn.alloc _) b x (.slice A1 m c1) y (.slice Au y.n.length cu)).drew ?_
        clear hK
        refine Dsk.CHW.next rfl rfl fun Kc hK => ?_
        refine wp_append_src _ _ _ _ _ rfl W.heap.size 34 i0 _ 5 72 Tryd.underlying23 hi0 hi1 hi2 hi3 rfl (by omega) _ m (itsC d.items us) rfl (HGI.out.alloc _).drew _ 1 (itC y (.slice Au y.n.length cu)) rfl (item_src wn y Au y.n.length cu) (by unfold maxLen; omega) (by omega) (by simp; omega) ?_
        intro v6 w6 hown6 hgr6 hnear
        obtain ⟨A6, cp6, rfl⟩ := hown6.slice
        have hgr : wn.grownBy w6 (Value.slice A1 m c1).ownBlock := grown_trans (below_none (Below.drew ((Below.refl _ wn).alloc (Nat.le_refl _) (.cells #[.int .i64 y.kind, .int .i64 y.line, str y.name, str y.other, .slice Au y.n.length cu] 34))) _) hgr6
        have hnr : Near wn (.slice A1 m c1) (.slice A6 (m + 1) cp6) := by
          rcases hnear with h | h
          · exact .inl h
          · exact .inr ⟨_, h, by show _ ≤ (wn.heap.push _).size; simp⟩
        have hul : ∀ g, (Value.slice Au y.n.length cu).ownBlock = some g → mark lab w.heap.size 2 g = 2 := fun g hg => mark_new (by have := (HGU.out.block g hg).1; have := HX.out; omega)
        have ho6 := Own.item HOZ.out (x := y) (u := .slice Au y.n.length cu) hgr (by rw [← HM.out]; exact hown6) hnr (HGU.out.lower (by have := HX.out; have := H1.out.size; omega)) hul
        have hcd : Chg (fun k => W.heap.size ≤ k) wn w6 := Chg.ofGrown hgr fun g e => (HGI.out.block g e).1
        have r6 : RdAt w6 b (t' :: r) dv (.slice A1 m c1) := RZ.out.chg hcd fun k hk => by have := H0.out; omega
        have hbx6 : Blk w6 x 34 #[.int .i64 y.kind, .int .i64 y.line, str y.name, str y.other, .slice Au y.n.length cu] := HBX.out.past hgr fun e => by
          have h1 := (HO.out.items.block x e.symm).2
          have := HX.out
          omega
        have i6 := ItemIn.of r6 hbx6
        have e6 := i6.c2
        have hb6 := r6
        obtain ⟨A7, c7, hc7, hb7, hr7⟩ := hb6
        have f6 := hb7.thaw 2
        refine hK _ _ i6 ?_
        clear hK
        have hcs : Chg (fun k => k = b) w6 (w6.setCell ⟨b, 2, none⟩ (.slice A6 (m + 1) cp6)) := Chg.set (F := fun k => k = b) (a := ⟨b, 2, none⟩) rfl _
        have HPS : Hid (PS W (w6.setCell ⟨b, 2, none⟩ (.slice A6 (m + 1) cp6)) b (t' :: r) { d with items := d.items ++ [y] }) := Lib.hid ⟨H0.out, ps_grown H1.out ((CZ.out.wider fun k _ hk => by rcases hk with h | h; exact .inl h; exact .inr (by have := H1.out.size; omega)).trans ((hcd.wider fun k _ h => .inr h).trans (hcs.wider fun k _ h => .inl h))), dv, .slice A6 (m + 1) cp6, ⟨A7, c7, hc7, hb7.put 2 _, hcs.row hr7 (fun k hk => by omega) (by have := hb7.inside; omega)⟩, _, _, _, ho6.keep hcs.size fun g h2 h3 => hcs.block g h3 fun hf => by have := H0.out; omega⟩
        clear hgr6 hnear hgr hnr hul ho6 hcd r6 hbx6 hown6 hcs hr7 hc7
        refine Dsk.CHW.next rfl rfl fun Kc hK => ?_
        go_simp
        refine hK _ _ i6 ?_
        clear hK
        refine Dsk.CHW.next rfl rfl fun Kc hK => ?_
        go_simp
        refine hK _ _ i6 ?_
        clear hK
        refine Dsk.CHW.next rfl rfl fun Kc hK => ?_
        go_simp
        refine hK _ _ i6 ?_
        clear hK
        refine Dsk.CHW.done ?_
        refine Dsk.CH.next rfl rfl fun Kc hK => ?_
        go_simp
        refine hK _ _ trivial ?_
        clear hK
        refine Dsk.CH.done (NoPanic.normal ?_)
        go_wp2_with fail
        go_ret
        rw [HRZ.out]
        exact ipost_got rfl HPS.out
      · have HRS2 : Hid ((match placeR p t' y with | none => Rd.bad t'.line | some y' => placesR (ps.drop (i + 1)) y' r) = R) := Lib.hid (by rw [← HRS.out]; show _ = (if p = 99 ∧ t'.kind ≠ 0 then _ else _); rw [if_neg h99]; rfl)
        have HFL := Lib.hid (fill_any (t := t') hpa HVN.out HIt.out (by omega) HFW.out)
        by_cases hp99 : p = 99
        · have h0 : t'.kind = 0 := Classical.byContradiction fun h2 => h99 ⟨hp99, h2⟩
          have hP : (p.toNat : Int) = 99 := by rw [hp99]; rfl
          rw [hP] at hnext HFL
          have hk0 : ((t'.kind : Int) != 0) = false := by rw [h0]; rfl
          clear h0 h99 hP hp99 hp hpa
          cases hpl : placeR p t' y with
          | none =>
            rw [hpl] at HFL HRS2
            have HRS3 := Lib.hid (show Rd.bad t'.line = R from HRS2.out)
            clear hpl HRS2
            go_wp2_with (go_at_call 84; go_must (
              refine HFL.out.mono ?_; rintro e w2 ⟨rfl, c2, h2⟩
              have C2 := Lib.hid c2
              clear c2 h2))
            go_ret
            rw [← HRS3.out]
            exact ipost_bad rfl (ps_of H0.out H1.out HO.out (HCh.out.trans (C2.out.wider fun k _ hk => by have := HX.out; rcases hk with h | h; exact .inr (by omega); exact .inr (by omega))) (HRd.out.chg C2.out fun k hk => by have := HX.out; rcases hk with h | h <;> omega)) rfl
          | some y' =>
            rw [hpl] at HFL HRS2
            have HRS3 := Lib.hid (show placesR (ps.drop (i + 1)) y' r = R from HRS2.out)
            have HPL := Lib.hid (placeR_some hpl)
            have HEN2 := Lib.hid (HEN.out.tail (by have := HPL.out.1; omega))
            have hr0 : 0 < r.length := List.length_pos_iff.2 HEN2.out.ne
            have hr9 : r.length ≤ 1000000000 := by omega
            have HL9 := Lib.hid hr9
            have HL0 := Lib.hid hr0
            clear hpl HRS2 hr9 hr0
            go_wp2_with (first
              | (go_at_call 84; go_must (
                 refine HFL.out.mono ?_; rintro e w2 ⟨rfl, c2, h2⟩
                 have C2 := Lib.hid c2
                 have I2 := Lib.hid (h2 y' rfl)
                 have HT2 := Lib.hid (ptake_any (HRd.out.chg c2 fun k hk => by have := HX.out; rcases hk with h | h <;> omega) HL0.out HL9.out)
                 clear c2 h2))
              | (go_at_call 69; go_must (
                 refine HT2.out.mono ?_; rintro e w3 ⟨rfl, r3, g3⟩
                 have C3 := Lib.hid (Chg.ofGrown (F := fun k => k = b) g3 fun k e => (Option.some.inj e).symm)
                 have R3 := Lib.hid r3
                 clear r3 g3)))
            have hi3 : w3.heap[x + 1]? = some (.stringIter ⟨ps.toArray⟩ (i + 1)) := by
              have hx := HX.out
              have h1 := C2.out.block (x + 1) (Array.getElem?_eq_some_iff.1 HTr.out).1 (by rintro (h | h) <;> omega)
              have h2 := h1.trans HTr.out
              exact (C3.out.block (x + 1) (Array.getElem?_eq_some_iff.1 h2).1 (by omega)).trans h2
            go_roundw
            case rel => exact ⟨i + 1, y', r, HI1.out.1, hi3, I2.out.over C3.out fun k hk => (by have := HX.out; omega), R3.out, (HCh.out.trans (C2.out.wider fun k _ hk => by have := HX.out; rcases hk with h | h; exact .inr (by omega); exact .inr (by omega))).trans (C3.out.wider fun k _ hk => .inl hk), HRS3.out, HEN2.out, (by have := HPL.out.2; have := HI1.out.2; omega), (by omega)⟩
            case measure =>
              have hmu3 : w3.iterPos (x + 1) = i + 1 := by simp [World.iterPos, hi3]
              rw [hmu, hmu3]
              omega
        · have hq99 : ((p.toNat : Int) == 99) = false := byte_ne (k := 99) (by omega) hp99
          clear h99 hp99 hp hpa
          cases hpl : placeR p t' y with
          | none =>
            rw [hpl] at HFL HRS2
            have HRS3 := Lib.hid (show Rd.bad t'.line = R from HRS2.out)
            clear hpl HRS2
            go_wp2_with (go_at_call 84; go_must (
              refine HFL.out.mono ?_; rintro e w2 ⟨rfl, c2, h2⟩
              have C2 := Lib.hid c2
              clear c2 h2))
            go_ret
            rw [← HRS3.out]
            exact ipost_bad rfl (ps_of H0.out H1.out HO.out (HCh.out.trans (C2.out.wider fun k _ hk => by have := HX.out; rcases hk with h | h; exact .inr (by omega); exact .inr (by omega))) (HRd.out.chg C2.out fun k hk => by have := HX.out; rcases hk with h | h <;> omega)) rfl
          | some y' =>
            rw [hpl] at HFL HRS2
            have HRS3 := Lib.hid (show placesR (ps.drop (i + 1)) y' r = R from HRS2.out)
            have HPL := Lib.hid (placeR_some hpl)
            have HEN2 := Lib.hid (HEN.out.tail (by have := HPL.out.1; omega))
            have hr0 : 0 < r.length := List.length_pos_iff.2 HEN2.out.ne
            have hr9 : r.length ≤ 1000000000 := by omega
            have HL9 := Lib.hid hr9
            have HL0 := Lib.hid hr0
            clear hpl HRS2 hr9 hr0
            go_wp2_with (first
              | (go_at_call 84; go_must (
                 refine HFL.out.mono ?_; rintro e w2 ⟨rfl, c2, h2⟩
                 have C2 := Lib.hid c2
                 have I2 := Lib.hid (h2 y' rfl)
                 have HT2 := Lib.hid (ptake_any (HRd.out.chg c2 fun k hk => by have := HX.out; rcases hk with h | h <;> omega) HL0.out HL9.out)
                 clear c2 h2))
              | (go_at_call 69; go_must (
                 refine HT2.out.mono ?_; rintro e w3 ⟨rfl, r3, g3⟩
                 have C3 := Lib.hid (Chg.ofGrown (F := fun k => k = b) g3 fun k e => (Option.some.inj e).symm)
                 have R3 := Lib.hid r3
                 clear r3 g3)))
            have hi3 : w3.heap[x + 1]? = some (.stringIter ⟨ps.toArray⟩ (i + 1)) := by
              have hx := HX.out
              have h1 := C2.out.block (x + 1) (Array.getElem?_eq_some_iff.1 HTr.out).1 (by rintro (h | h) <;> omega)
              have h2 := h1.trans HTr.out
              exact (C3.out.block (x + 1) (Array.getElem?_eq_some_iff.1 h2).1 (by omega)).trans h2
            go_roundw
            case rel => exact ⟨i + 1, y', r, HI1.out.1, hi3, I2.out.over C3.out fun k hk => (by have := HX.out; omega), R3.out, (HCh.out.trans (C2.out.wider fun k _ hk => by have := HX.out; rcases hk with h | h; exact .inr (by omega); exact .inr (by omega))).trans (C3.out.wider fun k _ hk => .inl hk), HRS3.out, HEN2.out, (by have := HPL.out.2; have := HI1.out.2; omega), (by omega)⟩
            case measure =>
              have hmu3 : w3.iterPos (x + 1) = i + 1 := by simp [World.iterPos, hi3]
              rw [hmu, hmu3]
              omega
    · have hie : i = ps.length := by have := hI.le; omega
      have HRZ : Hid (R = .got y l') := Lib.hid (by have := hI.rest; rw [List.drop_eq_nil_of_le (by omega)] at this; exact this.symm)
      have IT := Lib.hid hI.item
      have RZ := Lib.hid hI.rd
      have CZ := Lib.hid hI.chg
      have HFW := Lib.hid (show y.n.length ≤ 100 by have := hI.few; omega)
      have hnext : ∀ ty, (Instr.next (.pointer (some ⟨x + 1, 0, none⟩)) true ty).run Tryd.prog wr = .ok (.tuple #[.bool false]) wr := fun ty => Lib.run_next_end_at (P := Tryd.prog) wr (x + 1) ⟨ps.toArray⟩ i ty hit (by rw [hps8]; exact hi)
      clear hI hit hps8 hie hmu
      obtain ⟨hx0, u, hbx, hgu⟩ := IT.out
      obtain ⟨Au, cu, rfl⟩ := hgu.slice
      obtain ⟨i0, hi0, hi1, hi2, hi3⟩ := info_parts info_item
      have II := Lib.hid (ItemIn.of RZ.out hbx)
      have HBX := Lib.hid hbx
      have HGU := Lib.hid hgu
      have hoz : Own wr W.heap.size dv (.slice A1 m c1) d vs us (mark lab w.heap.size 2) := (HO.out.remark (Nat.le_refl _)).keep CZ.out.size fun g h2 h3 => CZ.out.block g h3 fun hf => by have := H0.out; rcases hf with h | h <;> omega
      have HOZ := Lib.hid hoz
      have HGI : Hid (Grow wr W.heap.size 5 (.slice A1 m c1) m (itsC d.items us)) := Lib.hid (by have := hoz.items; rwa [← HM.out] at this)
      have hbz := RZ.out.lt
      have hwz : W.heap.size ≤ wr.heap.size := Nat.le_trans H1.out.size CZ.out.size
      clear hx0 hbx hgu hoz
      go_upto_region 11 with (fail)
      refine Dsk.wp_region_late (fun w' => ItemIn w' b x (.slice A1 m c1) y (.slice Au y.n.length cu)) [0, 1, 2, 3, 4, 5, 6] [7, 8, 9, 10, 11] [12] (by kernel_rfl) (by decide +kernel) (by decide +kernel) ⟨II.out.c2, II.out.x0, II.out.x1, II.out.x2, II.out.x3, II.out.x4⟩ ?_
      repeat refine Dsk.RD.next rfl rfl (by intro w' ⟨c2, x0, x1, x2, x3, x4⟩; go_simp; with_reducible rfl) ?_
      refine Dsk.RD.done ?_
      refine Dsk.CHW.next rfl rfl fun Kc hK => ?_
      go_simp
      refine hK _ _ ((ItemIn.of (RZ.out.chg (F := fun _ => False) (Chg.alloc _) fun _ hk => hk.elim) (HBX.out.kept _)) : ItemIn (wr.alloc _) b x (.slice A1 m c1) y (.slice Au y.n.length cu)).drew ?_
      clear hK
      refine Dsk.CHW.next rfl rfl fun Kc hK => ?_
      refine wp_append_src _ _ _ _ _ rfl W.heap.size 34 i0 _ 5 72 Tryd.underlying23 hi0 hi1 hi2 hi3 rfl (by omega) _ m (itsC d.items us) rfl (HGI.out.alloc _).drew _ 1 (itC y (.slice Au y.n.length cu)) rfl (item_src wr y Au y.n.length cu) (by unfold maxLen; omega) (by omega) (by simp; omega) ?_
      intro v6 w6 hown6 hgr6 hnear
      obtain ⟨A6, cp6, rfl⟩ := hown6.slice
      have hgr : wr.grownBy w6 (Value.slice A1 m c1).ownBlock := grown_trans (below_none (Below.drew ((Below.refl _ wr).alloc (Nat.le_refl _) (.cells #[.int .i64 y.kind, .int .i64 y.line, str y.name, str y.other, .slice Au y.n.length cu] 34))) _) hgr6
      have hnr : Near wr (.slice A1 m c1) (.slice A6 (m + 1) cp6) := by
        rcases hnear with h | h
        · exact .inl h
        · exact .inr ⟨_, h, by show _ ≤ (wr.heap.push _).size; simp⟩
      have hul : ∀ g, (Value.slice Au y.n.length cu).ownBlock = some g → mark lab w.heap.size 2 g = 2 := fun g hg => mark_new (by have := (HGU.out.block g hg).1; have := HX.out; omega)
      have ho6 := Own.item HOZ.out (x := y) (u := .slice Au y.n.length cu) hgr (by rw [← HM.out]; exact hown6) hnr (HGU.out.lower (by have := HX.out; have := H1.out.size; omega)) hul
      have hcd : Chg (fun k => W.heap.size ≤ k) wr w6 := Chg.ofGrown hgr fun g e => (HGI.out.block g e).1
      have r6 : RdAt w6 b l' dv (.slice A1 m c1) := RZ.out.chg hcd fun k hk => by have := H0.out; omega
      have hbx6 : Blk w6 x 34 #[.int .i64 y.kind, .int .i64 y.line, str y.name, str y.other, .slice Au y.n.length cu] := HBX.out.past hgr fun e => by
        have h1 := (HO.out.items.block x e.symm).2
        have := HX.out
        omega
      have i6 := ItemIn.of r6 hbx6
      have e6 := i6.c2
      have hb6 := r6
      obtain ⟨A7, c7, hc7, hb7, hr7⟩ := hb6
      have f6 := hb7.thaw 2
      refine hK _ _ i6 ?_
      clear hK
      have hcs : Chg (fun k => k = b) w6 (w6.setCell ⟨b, 2, none⟩ (.slice A6 (m + 1) cp6)) := Chg.set (F := fun k => k = b) (a := ⟨b, 2, none⟩) rfl _
      have HPS : Hid (PS W (w6.setCell ⟨b, 2, none⟩ (.slice A6 (m + 1) cp6)) b l' { d with items := d.items ++ [y] }) := Lib.hid ⟨H0.out, ps_grown H1.out ((CZ.out.wider fun k _ hk => by rcases hk with h | h; exact .inl h; exact .inr (by have := H1.out.size; omega)).trans ((hcd.wider fun k _ h => .inr h).trans (hcs.wider fun k _ h => .inl h))), dv, .slice A6 (m + 1) cp6, ⟨A7, c7, hc7, hb7.put 2 _, hcs.row hr7 (fun k hk => by omega) (by have := hb7.inside; omega)⟩, _, _, _, ho6.keep hcs.size fun g h2 h3 => hcs.block g h3 fun hf => by have := H0.out; omega⟩
      clear hgr6 hnear hgr hnr hul ho6 hcd r6 hbx6 hown6 hcs hr7 hc7
      refine Dsk.CHW.next rfl rfl fun Kc hK => ?_
      go_simp
      refine hK _ _ i6 ?_
      clear hK
      refine Dsk.CHW.next rfl rfl fun Kc hK => ?_
      go_simp
      refine hK _ _ i6 ?_
      clear hK
      refine Dsk.CHW.next rfl rfl fun Kc hK => ?_
      go_simp
      refine hK _ _ i6 ?_
      clear hK
      refine Dsk.CHW.done ?_
      refine Dsk.CH.next rfl rfl fun Kc hK => ?_
      go_simp
      refine hK _ _ trivial ?_
      clear hK
      refine Dsk.CH.done (NoPanic.normal ?_)
      go_wp2_with fail
      go_ret
      rw [HRZ.out]
      exact ipost_got rfl HPS.out
end Drf
end Go.Proofs.YtibeangcjfjeiaaDoor

/- The parser's row. -/
import Derived.Test.YtibeangcjfjeiaaDoorMgM
import Derived.Test.YtibeangcjfjeiaaDoorLxO
import Derived.Deep.DeepCutAuto
namespace Go.Proofs.YtibeangcjfjeiaaDoor
open Go.RowKit Txt Wire Lx
set_option linter.unusedVariables false
set_option maxRecDepth 100000
set_option linter.unusedSimpArgs false
namespace Drf

/-- A draft that is not too large. -/
structure Sml (d : Df) : Prop where
  decks : d.decks.length ≤ 4
  rows : ∀ ts ∈ d.decks, ts.length ≤ 4096
  items : d.items.length ≤ 5000
theorem PS.new {W w w' : World} {b : Nat} {l : List Tk} {d : Df} (h : PS W w b l d) (c : Below w.heap.size w w') : PS W w' b l d := by
  obtain ⟨h0, h1, dv, iv, hr, hd⟩ := h
  have hlt := hr.lt
  have cc : Chg (fun k => False) w w' := Chg.new c
  exact ⟨h0, grown_trans h1 (below_none c _), dv, iv, hr.chg cc (fun k hk => hk.elim), hd.chg cc fun k hk => hk.elim⟩

set_option maxHeartbeats 1000000 in
theorem row_none {W w : World} {b : Nat} {l : List Tk} {d : Df} (h : PS W w b l d) (hn : d.decks = []) :
    Calls Tryd.prog 66 #[ptr b] w fun e w' => e = .returned (.int .i64 11) ∧ w' = w := by
  obtain ⟨h0, h1, dv, iv, hr, vs, us, lab, ho⟩ := h
  have hlt := hr.lt
  obtain ⟨A, c, hc, hb, hrow⟩ := hr
  obtain ⟨A1, c1, rfl⟩ := ho.decks.slice
  rw [hn] at hb
  have k1 : w.cell? ⟨b, 1, none⟩ = some (.slice A1 0 c1) := hb.at 1
  clear hb hrow ho
  go_enter Tryd.func66, Tryd.ntmps66
  go_wp2_with fail
  go_ret
  exact ⟨rfl, rfl⟩

/-- What the second statement of row reads. -/
structure RowIn (w : World) (b gd cd k n : Nat) (Ar : Option Addr) (m cr : Nat) (Al : Option Addr) (L cl g o : Nat) (u : Tk) : Prop where
  c0 : w.cell? ⟨b, 0, none⟩ = some (.slice (some ⟨g, o, none⟩) L cl)
  c1 : w.cell? ⟨b, 1, none⟩ = some (.slice (some ⟨gd, 0, none⟩) n cd)
  cr : w.cell? ⟨gd, k, none⟩ = some (.slice Ar m cr)
  u0 : w.cell? ⟨g, o + 4, none⟩ = some (.int .i64 u.kind)
  u1 : w.cell? ⟨g, o + 4 + 1, none⟩ = some (str u.text)
  u2 : w.cell? ⟨g, o + 4 + 2, none⟩ = some (.int .i64 u.n)
  u3 : w.cell? ⟨g, o + 4 + 3, none⟩ = some (.int .i64 u.line)
theorem row_in {W w : World} {b : Nat} {t u : Tk} {l : List Tk} {d : Df} (h : PS W w b (t :: u :: l) d) (hn : d.decks ≠ []) : ∃ dv iv vs us lab gd cd k Ar cr cl g o ts, RdAt w b (t :: u :: l) dv iv ∧ Own w W.heap.size dv iv d vs us lab ∧ dv = .slice (some ⟨gd, 0, none⟩) d.decks.length cd ∧ k + 1 = d.decks.length ∧ d.decks[k]? = some ts ∧ ts = d.decks.getLastD [] ∧
    vs[k]? = some (.slice Ar ts.length cr) ∧ RowIn w b gd cd k d.decks.length Ar ts.length cr none (l.length + 1 + 1) cl g o u ∧ g < b ∧ W.heap.size ≤ gd ∧ gd < w.heap.size := by
  obtain ⟨h0, h1, dv, iv, hr, vs, us, lab, ho⟩ := h
  have hr2 := hr
  obtain ⟨A, c, hc, hb, hrow⟩ := hr2
  have hl : 0 < d.decks.length := List.length_pos_iff.2 hn
  obtain ⟨gd, cd, rfl, hg1, hg2, hg3⟩ := Grow.some_of ho.decks hl
  obtain ⟨k, hk⟩ : ∃ k, k + 1 = d.decks.length := ⟨d.decks.length - 1, by omega⟩
  have hkv : k < vs.length := by rw [ho.dlen]; omega
  have hv := List.getElem?_eq_getElem hkv
  have ht := List.getElem?_eq_getElem (show k < d.decks.length by omega)
  obtain ⟨r1, r2⟩ := ho.rows k _ _ hv ht
  obtain ⟨Ar, cr, hs⟩ := r1.slice
  rw [hs] at hv
  obtain ⟨g, o, rfl, hgb, k0, k1, k2, k3⟩ := row_tk hrow (i := 1) (t := u) rfl
  refine ⟨_, iv, vs, us, lab, gd, cd, k, Ar, cr, c, g, o, _, ⟨_, c, hc, hb, hrow⟩, ho, rfl, hk, ht, ?_, hv, ⟨hb.at 0, hb.at 1, (Grow.get ho.decks hv).1, ?_, ?_, ?_, ?_⟩, hgb, hg1, hg2⟩
  · rw [List.getLastD_eq_getLast?, List.getLast?_eq_getElem?, show d.decks.length - 1 = k from by omega, ht]
    rfl
  · rwa [Nat.one_mul] at k0
  · rwa [Nat.one_mul] at k1
  · rwa [Nat.one_mul] at k2
  · rwa [Nat.one_mul] at k3
theorem RowIn.alloc {w : World} {b gd cd k n m cr L cl g o : Nat} {Ar Al : Option Addr} {u : Tk} (h : RowIn w b gd cd k n Ar m cr Al L cl g o u) (x : Obj) : RowIn (w.alloc x) b gd cd k n Ar m cr Al L cl g o u :=
  have f : ∀ (q i : Nat) (v : Value), w.cell? ⟨q, i, none⟩ = some v → (w.alloc x).cell? ⟨q, i, none⟩ = some v := fun q i v e => (((Below.refl _ w).alloc (Nat.le_refl _) x).cell (p := ⟨q, i, none⟩) (World.block_lt_of_cell? w _ e)).trans e
  ⟨f _ _ _ h.c0, f _ _ _ h.c1, f _ _ _ h.cr, f _ _ _ h.u0, f _ _ _ h.u1, f _ _ _ h.u2, f _ _ _ h.u3⟩
theorem RowIn.drew {w : World} {b gd cd k n m cr L cl g o : Nat} {Ar Al : Option Addr} {u : Tk} (h : RowIn w b gd cd k n Ar m cr Al L cl g o u) : RowIn w.drew b gd cd k n Ar m cr Al L cl g o u := ⟨h.c0, h.c1, h.cr, h.u0, h.u1, h.u2, h.u3⟩
/-- What row says. -/
def RowPost (W : World) (b : Nat) (t u : Tk) (l : List Tk) (d : Df) (e : Ending) (w' : World) : Prop :=
  if 4096 ≤ (d.decks.getLastD []).length ∨ (u.kind = 2 ∧ 4096 < u.text.length) then e = .returned (.int .i64 6) ∧ PS W w' b (t :: u :: l) d
  else if u.kind ≠ 2 then e = .returned (.int .i64 11) ∧ PS W w' b (u :: l) d
  else e = .returned (.int .i64 0) ∧ PS W w' b l (d.row u.text)
theorem rowPost_full {W w' : World} {b : Nat} {t u : Tk} {l : List Tk} {d : Df} {e : Ending} (h : 4096 ≤ (d.decks.getLastD []).length ∨ (u.kind = 2 ∧ 4096 < u.text.length)) (he : e = .returned (.int .i64 6)) (hp : PS W w' b (t :: u :: l) d) : RowPost W b t u l d e w' := by
  unfold RowPost
  rw [if_pos h]
  exact ⟨he, hp⟩
theorem rowPost_bad {W w' : World} {b : Nat} {t u : Tk} {l : List Tk} {d : Df} {e : Ending} (h : ¬ 4096 ≤ (d.decks.getLastD []).length) (h2 : u.kind ≠ 2) (he : e = .returned (.int .i64 11)) (hp : PS W w' b (u :: l) d) : RowPost W b t u l d e w' := by
  unfold RowPost
  rw [if_neg (by rintro (h' | ⟨h', _⟩); exact h h'; exact h2 h'), if_pos h2]
  exact ⟨he, hp⟩
theorem rowPost_more {W w' : World} {b : Nat} {t u : Tk} {l : List Tk} {d : Df} {e : Ending} (h : ¬ 4096 ≤ (d.decks.getLastD []).length) (h2 : u.kind = 2) (h3 : ¬ 4096 < u.text.length) (he : e = .returned (.int .i64 0)) (hp : PS W w' b l (d.row u.text)) : RowPost W b t u l d e w' := by
  unfold RowPost
  rw [if_neg (by rintro (h' | ⟨_, h'⟩); exact h h'; exact h3 h'), if_neg (fun h => h h2)]
  exact ⟨he, hp⟩
set_option maxHeartbeats 4000000 in
theorem row_some {W w : World} {b : Nat} {t u : Tk} {l : List Tk} {d : Df} (h : PS W w b (t :: u :: l) d) (hn : d.decks ≠ []) (hs : Sml d) (hl : u.kind ≠ 4 → 0 < l.length) (hll : l.length ≤ 900000000) :
    Calls Tryd.prog 66 #[ptr b] w (RowPost W b t u l d) := by
  obtain ⟨dv, iv, vs, us, lab, gd, cd, k, Ar, cr, cl, g, o, ts, hr, ho, rfl, hk, ht, hts, hv, hi, hgb, hg1, hg2⟩ := row_in h hn
  have hm : ts.length ≤ 4096 := hs.rows ts (List.mem_of_getElem? ht)
  have hk4 : k < 4 := by have := hs.decks; omega
  rw [← hk] at hi hr ho
  have hlt := hr.lt
  have HK := Lib.hid hk
  have HR := Lib.hid hr
  have HO := Lib.hid ho
  have HS := Lib.hid hs
  have HH := Lib.hid h
  have HN := Lib.hid hn
  have HV := Lib.hid hv
  have HT := Lib.hid ht
  have HTS := Lib.hid hts
  have HLL := Lib.hid hl
  clear hk hr ho hs h hn hv ht hts hl
  obtain ⟨c0, c1, cr0, u0, u1, u2, u3⟩ := hi
  have HI : Hid (RowIn w b gd cd k (k + 1) Ar ts.length cr none (l.length + 1 + 1) cl g o u) := Lib.hid ⟨c0, c1, cr0, u0, u1, u2, u3⟩
  clear u0 u1 u2 u3 cr0 c0
  have hkk : (k : Int) < k + 1 := by omega
  have hl1 : (1 : Int) < (l.length : Int) + 1 + 1 := by omega
  go_enter Tryd.func66, Tryd.ntmps66
  go_upto_region 4 with (fail)
  refine Dsk.wp_region_sorted (fun w' => RowIn w' b gd cd k (k + 1) Ar ts.length cr none (l.length + 1 + 1) cl g o u) [0, 1, 2, 3, 4, 5, 6, 7, 8, 9, 10, 11, 12, 13] [14, 15, 16] (by kernel_rfl) (by decide +kernel) HI.out.drew ?_
  repeat refine Dsk.RD.next rfl rfl (by intro w' ⟨c0, c1, cr0, u0, u1, u2, u3⟩; go_simp; with_reducible rfl) ?_
  refine Dsk.RD.done ?_
  refine Dsk.CH.next rfl rfl fun K hK => ?_
  go_simp
  refine hK _ _ ((HI.out.drew.alloc _ : RowIn (w.drew.alloc _) b gd cd k (k + 1) Ar ts.length cr none (l.length + 1 + 1) cl g o u)) ?_
  clear hK
  refine Dsk.CH.next rfl rfl fun K hK => ?_
  go_simp
  refine hK _ _ ((HI.out.drew.alloc _ : RowIn (w.drew.alloc _) b gd cd k (k + 1) Ar ts.length cr none (l.length + 1 + 1) cl g o u)) ?_
  clear hK
  refine Dsk.CH.next rfl rfl fun K hK => ?_
  go_simp
  refine hK _ _ (HI.out.alloc _).drew ?_
  clear hK
  refine Dsk.CH.done (NoPanic.normal ?_)
  have q : Blk (w.alloc (.cells #[.int .i64 u.kind, .string ⟨u.text.toArray⟩, .int .i64 u.n, .int .i64 u.line] 42)).drew w.heap.size 42 #[.int .i64 u.kind, .string ⟨u.text.toArray⟩, .int .i64 u.n, .int .i64 u.line] := Blk.fresh w _ _
  have hb2 : Below w.heap.size w (w.alloc (.cells #[.int .i64 u.kind, .string ⟨u.text.toArray⟩, .int .i64 u.n, .int .i64 u.line] 42)).drew := Below.drew ((Below.refl _ w).alloc (Nat.le_refl _) _)
  generalize (w.alloc (.cells #[.int .i64 u.kind, .string ⟨u.text.toArray⟩, .int .i64 u.n, .int .i64 u.line] 42)).drew = w2 at *
  have q0 : w2.cell? ⟨w.heap.size, 0, none⟩ = some (.int .i64 u.kind) := q.at 0
  have q1 : w2.cell? ⟨w.heap.size, 1, none⟩ = some (.string ⟨u.text.toArray⟩) := q.at 1
  have HQ := Lib.hid q
  have HB2 := Lib.hid hb2
  have hs2 := hb2.size
  clear q hb2 hl1 hkk
  by_cases h6 : ts.length = 4096
  · have HF : Hid (4096 ≤ (d.decks.getLastD []).length ∨ (u.kind = 2 ∧ 4096 < u.text.length)) := Lib.hid (.inl (by rw [← HTS.out]; omega))
    clear HV HT HTS hm
    rw [h6]
    clear h6
    go_wp2_with fail
    go_ret
    exact rowPost_full HF.out rfl (HH.out.new HB2.out)
  have h64 : ¬ 4096 ≤ ts.length := by omega
  by_cases h2 : u.kind = 2
  · by_cases h5 : 4096 < u.text.length
    · have HF : Hid (4096 ≤ (d.decks.getLastD []).length ∨ (u.kind = 2 ∧ 4096 < u.text.length)) := Lib.hid (.inr ⟨h2, h5⟩)
      rw [h2] at q0
      have h5' : (4096 : Int) < (⟨u.text.toArray⟩ : ByteArray).size := by show (4096 : Int) < (u.text.length : Nat); omega
      generalize (⟨u.text.toArray⟩ : ByteArray) = s at *
      clear h5 h2
      go_wp2_with fail
      go_ret
      exact rowPost_full HF.out rfl (HH.out.new HB2.out)
    · have HF : Hid (¬ 4096 ≤ (d.decks.getLastD []).length ∧ u.kind = 2 ∧ ¬ 4096 < u.text.length) := Lib.hid ⟨by rw [← HTS.out]; exact h64, h2, h5⟩
      rw [h2] at q0
      have h5' : ¬ ((4096 : Int) < (⟨u.text.toArray⟩ : ByteArray).size) := by show ¬ ((4096 : Int) < (u.text.length : Nat)); omega
      have hr2 : RdAt w2 b (t :: u :: l) (.slice (some ⟨gd, 0, none⟩) (k + 1) cd) iv := HR.out.chg (F := fun _ => False) (Chg.new HB2.out) fun _ hk => hk.elim
      have HTK := Lib.hid (ptake_any hr2 (by simp) (by simp; omega))
      have HL1 := Lib.hid (HLL.out (by omega))
      have hm96 : ts.length < 4096 := by omega
      obtain ⟨i0, hi0, hi1, hi2, hi3⟩ := info_parts info_str
      have HSU : Hid (str u.text = .string ⟨u.text.toArray⟩) := Lib.hid rfl
      have hval : u.val = .agg #[.int .i64 u.kind, .string ⟨u.text.toArray⟩, .int .i64 u.n, .int .i64 u.line] := rfl
      have HVL := Lib.hid hval
      generalize (⟨u.text.toArray⟩ : ByteArray) = s at *
      clear h5 h2 h64 hr2 hval
      go_upto_region 10 with (go_at_call 69; go_must (
        refine HTK.out.mono ?_; rintro e w3 ⟨rfl, r3, g3⟩
        have d0 : w3.cell? ⟨w.heap.size, 0, none⟩ = some (.int .i64 ((2 : Nat) : Int)) := by rw [← HF.out.2.1]; exact (HQ.out.past g3 (by have := hlt; intro e; cases e; omega)).at 0
        have R3 := Lib.hid r3
        have G3 := Lib.hid g3
        clear r3 g3))
      have s3 : w3.drew.cell? ⟨b, 1, none⟩ = some (.slice (some ⟨gd, 0, none⟩) (k + 1) cd) := by
        obtain ⟨_, _, _, hb3, _⟩ := R3.out
        exact hb3.at 1
      have hkk : (k : Int) < k + 1 := by omega
      have R3d : RdAt w3.drew b (u :: l) (.slice (some ⟨gd, 0, none⟩) (k + 1) cd) iv := R3.out.chg (F := fun _ => False) Chg.drew fun _ hk => hk.elim
      have HT2 := Lib.hid (ptake_any R3d HL1.out (by omega))
      have HC3 : Hid (Chg (fun x => x = b) w w3.drew) := Lib.hid (((Chg.new HB2.out).trans (Chg.ofGrown G3.out fun k e => (Option.some.inj e).symm)).trans Chg.drew)
      clear R3d
      refine Dsk.wp_region_sorted (fun w' => w'.cell? ⟨b, 1, none⟩ = some (.slice (some ⟨gd, 0, none⟩) (k + 1) cd)) [0, 1, 2, 3, 4, 5, 6, 7] [8, 9, 10, 11, 12, 13] (by kernel_rfl) (by decide +kernel) s3 ?_
      repeat refine Dsk.RD.next rfl rfl (by intro w' c1; go_simp; with_reducible rfl) ?_
      refine Dsk.RD.done ?_
      generalize w3.drew = wd at *
      refine Dsk.CH.next rfl rfl fun K hK => ?_
      go_simp
      refine HT2.out.mono ?_
      rintro e w4 ⟨rfl, r4, g4⟩
      simp only [Oper.upon]
      have s4 : w4.cell? ⟨b, 1, none⟩ = some (.slice (some ⟨gd, 0, none⟩) (k + 1) cd) := by
        obtain ⟨_, _, _, hb4, _⟩ := r4
        exact hb4.at 1
      have hc4 : Chg (fun x => x = b) w w4 := HC3.out.trans (Chg.ofGrown g4 fun k e => (Option.some.inj e).symm)
      have ho4 : Own w4 W.heap.size (.slice (some ⟨gd, 0, none⟩) (k + 1) cd) iv d vs us lab := HO.out.keep hc4.size fun x h1 h2 => hc4.block x h2 fun e => by have := HH.out.old; omega
      have hs4 : W.heap.size ≤ w4.heap.size := Nat.le_trans (Nat.le_trans HH.out.grown.size (Nat.le_refl _)) hc4.size
      have HC4 := Lib.hid hc4
      have HO4 := Lib.hid ho4
      have R4 := Lib.hid r4
      refine hK _ _ s4 ?_
      clear hK g4 r4 hc4 ho4 HT2 HTK s3
      refine Dsk.CH.next rfl rfl fun K hK => ?_
      rw [HVL.out]
      go_simp
      refine hK _ _ s4 ?_
      clear hK
      refine Dsk.CH.next rfl rfl fun K hK => ?_
      go_simp
      have s5 : (w4.alloc (.cells #[.string s] 9)).cell? ⟨b, 1, none⟩ = some (.slice (some ⟨gd, 0, none⟩) (k + 1) cd) := (((Below.refl _ w4).alloc (Nat.le_refl _) _).cell (p := ⟨b, 1, none⟩) (World.block_lt_of_cell? w4 _ s4)).trans s4
      refine hK _ _ s5 ?_
      clear hK
      refine Dsk.CH.next rfl rfl fun K hK => ?_
      have hg4 := (HO4.out.rows k _ _ HV.out HT.out).1
      refine wp_append_src _ _ _ _ _ rfl W.heap.size 9 i0 _ 1 16 Tryd.underlying45 hi0 hi1 hi2 hi3 rfl (by omega) _ ts.length (ts.map str) rfl (hg4.alloc _) _ 1 [.string s] rfl (src_new w4 _ _ Tryd.underlying45 1 _ rfl (by simp [Value.oneCell'])) (by unfold maxLen; omega) (by omega) (by simp; omega) ?_
      intro v6 w6 hown6 hgr6 hnear
      obtain ⟨A6, cp6, rfl⟩ := hown6.slice
      have hgr : w4.grownBy w6 (Value.slice Ar ts.length cr).ownBlock := grown_trans (below_none ((Below.refl _ _).alloc (Nat.le_refl _) _) _) hgr6
      have hnr : Near w4 (Value.slice Ar ts.length cr) (.slice A6 (ts.length + 1) cp6) := by
        rcases hnear with h | h
        · exact .inl h
        · exact .inr ⟨_, h, by simp⟩
      have hrl := (HO4.out.rows k _ _ HV.out HT.out).2
      have hcd : Chg (fun x => W.heap.size ≤ x) w4 w6 := Chg.ofGrown hgr fun x e => (hg4.block x e).1
      have hdk : Grow w6 W.heap.size 1 (.slice (some ⟨gd, 0, none⟩) (k + 1) cd) (k + 1) vs := by
        have h1 := HO4.out.decks
        rw [← HK.out] at h1
        exact kept_row h1 hgr fun x h2 e => by have h3 := hrl x e; have h4 := HO4.out.dlab x h2; omega
      obtain ⟨e6, f6⟩ := Grow.get hdk HV.out
      have r6 : RdAt w6 b l (.slice (some ⟨gd, 0, none⟩) (k + 1) cd) iv := R4.out.chg hcd fun x hx => by have := HH.out.old; omega
      have s6 : w6.cell? ⟨b, 1, none⟩ = some (.slice (some ⟨gd, 0, none⟩) (k + 1) cd) := by
        obtain ⟨_, _, _, hb6, _⟩ := r6
        exact hb6.at 1
      refine hK _ _ s6 ?_
      clear hK
      have HO7 : Hid (Own (w6.setCell ⟨gd, k, none⟩ (.slice A6 (ts.length + 1) cp6)) W.heap.size (.slice (some ⟨gd, 0, none⟩) (k + 1) cd) iv (d.row u.text) (vs.set k (.slice A6 (ts.length + 1) cp6)) us (mark lab w4.heap.size (k + 3))) := Lib.hid (Own.row HO4.out (by rw [HK.out]) HK.out HV.out HT.out hgr (by rw [List.map_append]; show Grow w6 W.heap.size 1 _ (ts.length + 1) (ts.map str ++ [str u.text]); rw [HSU.out]; exact hown6) hnr)
      have hc7 : Chg (PF W b) w4 (w6.setCell ⟨gd, k, none⟩ (.slice A6 (ts.length + 1) cp6)) := (hcd.wider fun x _ h => .inr h).trans (Chg.set (a := ⟨gd, k, none⟩) (.inr hg1) _)
      have HC7 := Lib.hid hc7
      have HR7 : Hid (RdAt (w6.setCell ⟨gd, k, none⟩ (.slice A6 (ts.length + 1) cp6)) b l (.slice (some ⟨gd, 0, none⟩) (k + 1) cd) iv) := Lib.hid (r6.chg (F := fun x => x = gd) (Chg.set (F := fun x => x = gd) (a := ⟨gd, k, none⟩) rfl _) fun x hx => by have := HH.out.old; omega)
      clear hgr6 hnear hgr hnr hrl hcd hdk r6 hown6 hg4 hc7
      refine Dsk.CH.next rfl rfl fun K hK => ?_
      go_simp
      refine hK _ _ s6 ?_
      clear hK
      refine Dsk.CH.next rfl rfl fun K hK => ?_
      go_simp
      have s7 : (w6.setCell ⟨gd, k, none⟩ (.slice A6 (ts.length + 1) cp6)).cell? ⟨b, 1, none⟩ = some (.slice (some ⟨gd, 0, none⟩) (k + 1) cd) := by
        obtain ⟨_, _, _, hb7, _⟩ := HR7.out
        exact hb7.at 1
      refine hK _ _ s7 ?_
      clear hK
      refine Dsk.CH.done (NoPanic.normal ?_)
      go_wp2_with fail
      go_ret
      exact rowPost_more HF.out.1 HF.out.2.1 HF.out.2.2 rfl ⟨HH.out.old, ps_grown HH.out.grown ((HC4.out.wider fun x _ h => .inl h).trans HC7.out), _, iv, HR7.out, _, _, _, HO7.out⟩
  · have HF : Hid (¬ 4096 ≤ (d.decks.getLastD []).length ∧ u.kind ≠ 2) := Lib.hid ⟨by rw [← HTS.out]; exact h64, h2⟩
    have hr2 : RdAt w2 b (t :: u :: l) (.slice (some ⟨gd, 0, none⟩) (k + 1) cd) iv := HR.out.chg (F := fun _ => False) (Chg.new HB2.out) fun _ hk => hk.elim
    have HTK := Lib.hid (ptake_any hr2 (by simp) (by simp; omega))
    go_wp2_with (go_at_call 69; go_must (
      refine HTK.out.mono ?_; rintro e w3 ⟨rfl, r3, g3⟩
      have d0 : w3.cell? ⟨w.heap.size, 0, none⟩ = some (.int .i64 u.kind) := (HQ.out.past g3 (by have := hlt; intro e; cases e; omega)).at 0
      have R3 := Lib.hid r3
      have G3 := Lib.hid g3
      clear r3 g3))
    go_ret
    have hd : Dr w2 W.heap.size (.slice (some ⟨gd, 0, none⟩) (k + 1) cd) iv d := Dr.chg (F := fun _ => False) ⟨vs, us, lab, HO.out⟩ (Chg.new HB2.out) fun _ hk => hk.elim
    exact rowPost_bad HF.out.1 HF.out.2 rfl ⟨HH.out.old, ps_grown HH.out.grown ((Chg.new HB2.out).trans (chg_b G3.out)), _, iv, R3.out, hd.chg (F := fun k => k = b) (Chg.ofGrown G3.out fun k e => (Option.some.inj e).symm) fun k hk => by rw [hk]; exact HH.out.old⟩
end Drf
end Go.Proofs.YtibeangcjfjeiaaDoor

/- The sectors of a file, taken out of a queue. -/
import Derived.Test.YtgaclibokapfaaaQcl
namespace Go.Proofs.Ytgaclibokapfaaa
open Go.RowKit Wire
set_option linter.unusedVariables false
set_option linter.unusedSimpArgs false
open Txt
namespace Dsk


theorem sec_get (l : List (Nat × Nat)) (k : Nat) (h : k < l.length) : (l.flatMap secL)[k * 2]? = some (.int .i64 l[k].1) ∧ (l.flatMap secL)[k * 2 + 1]? = some (.int .i64 l[k].2) := by
  induction l generalizing k with
  | nil => simp at h
  | cons p r ih =>
    cases k with
    | zero => simp [secL]
    | succ k =>
      have := ih k (by simpa using h)
      rw [List.flatMap_cons, show (k + 1) * 2 = k * 2 + 2 from by omega, show k * 2 + 2 + 1 = (k * 2 + 1) + 2 from by omega]
      simpa [secL] using this

/-- What the map says when the first k sectors were looked at. -/
def hasK (l : List (Nat × Nat)) (f k g n : Nat) : Option Value := if (g, n) ∈ l ∧ ¬ (g = f ∧ (g, n) ∈ l.take k) then some (.bool true) else none
theorem hasK_zero (l : List (Nat × Nat)) (f : Nat) : hasK l f 0 = hasL l := by
  funext g n
  unfold hasK hasL
  simp
theorem hasK_skip {l : List (Nat × Nat)} {f k : Nat} (hk : k < l.length) (h : l[k].1 ≠ f) : hasK l f (k + 1) = hasK l f k := by
  funext g n
  unfold hasK
  have e : (g = f ∧ (g, n) ∈ l.take (k + 1)) ↔ (g = f ∧ (g, n) ∈ l.take k) := by
    rw [List.take_succ_eq_append_getElem hk]
    constructor
    · rintro ⟨rfl, h2⟩
      rcases List.mem_append.1 h2 with h3 | h3
      · exact ⟨rfl, h3⟩
      · have : (g, n) = l[k] := by simpa using h3
        exact absurd (congrArg Prod.fst this).symm h
    · rintro ⟨rfl, h2⟩
      exact ⟨rfl, List.mem_append_left _ h2⟩
  simp only [e]
theorem hasK_take {l : List (Nat × Nat)} {f k : Nat} (hk : k < l.length) (h : l[k].1 = f) : del (hasK l f k) l[k].1 l[k].2 = hasK l f (k + 1) := by
  funext g n
  unfold del hasK
  rw [List.take_succ_eq_append_getElem hk]
  by_cases e : g = l[k].1 ∧ n = l[k].2
  · rw [if_pos e, if_neg]
    rintro ⟨_, h2⟩
    exact h2 ⟨e.1.trans h, List.mem_append_right _ (by obtain ⟨e1, e2⟩ := e; simp [e1, e2])⟩
  · rw [if_neg e]
    have e2 : ((g, n) ∈ l.take k ++ [l[k]]) ↔ (g, n) ∈ l.take k := by
      rw [List.mem_append]
      constructor
      · rintro (h1 | h1)
        · exact h1
        · have : (g, n) = l[k] := by simpa using h1
          exact absurd ⟨congrArg Prod.fst this, congrArg Prod.snd this⟩ e
      · exact .inl
    simp only [e2]
theorem hasK_end (l : List (Nat × Nat)) (f : Nat) : hasK l f l.length = hasL (l.filter (noF f)) := by
  funext g n
  unfold hasK hasL
  rw [List.take_length]
  congr 1
  rw [List.mem_filter]
  simp only [eq_iff_iff]
  constructor
  · rintro ⟨h1, h2⟩
    refine ⟨h1, ?_⟩
    simp
    exact fun e => h2 ⟨e, h1⟩
  · rintro ⟨h1, h2⟩
    refine ⟨h1, fun h3 => ?_⟩
    simp at h2
    exact h2 h3.1

theorem filt_yes {l : List (Nat × Nat)} {f k : Nat} (hk : k < l.length) (h : l[k].1 = f) : (l.take (k + 1)).filter (isF' f) = (l.take k).filter (isF' f) ++ [l[k]] ∧ (l.take (k + 1)).filter (noF f) = (l.take k).filter (noF f) := by
  rw [List.take_succ_eq_append_getElem hk, List.filter_append, List.filter_append]
  constructor
  · congr 1
    simp [h]
  · simp [h]
theorem filt_no {l : List (Nat × Nat)} {f k : Nat} (hk : k < l.length) (h : l[k].1 ≠ f) : (l.take (k + 1)).filter (isF' f) = (l.take k).filter (isF' f) ∧ (l.take (k + 1)).filter (noF f) = (l.take k).filter (noF f) ++ [l[k]] := by
  rw [List.take_succ_eq_append_getElem hk, List.filter_append, List.filter_append]
  constructor
  · simp [h]
  · congr 1
    simp [h]
theorem filt_len {l : List (Nat × Nat)} {k : Nat} (q : Nat × Nat → Bool) (hk : k ≤ l.length) : ((l.take k).filter q).length ≤ k := by
  have := List.length_filter_le q (l.take k)
  rw [List.length_take] at this
  omega

/-- 'delete(m, k)' as an operation. -/
theorem wp_delete_own {w : World} {o : Oper} {a : Act} {K : Act → World → Prop} {Q : Exit → Act → World → Prop} (d s : Operand) {t e : TypeId} (ho : o.op = .call { callee := .builtin .delete, args := #[d, s], argTypes := #[t, 76] })
    (ht : Try.prog.underlying t = some (.map 76 e)) {m f n : Nat} {look : Nat → Nat → Option Value} (hd : a.eval d = .map (some m)) (hx : a.eval s = keyV f n) (hf : f < 16) (hn : n ≤ 262144) (hm : IsMap w m look)
    (h : ∀ w', IsMap w' m (del look f n) → w.grownBy w' (some m) → K (a.put o.dst (.tuple #[])) w') : Oper.wp Try.prog o a w K Q := by
  obtain ⟨w', hr, h2, h3⟩ := hm.drop (ty := o.type) hf hn ht
  unfold Oper.wp execOp
  simp only [ho, resolve, invoke, builtin, Sem.run_bind, Sem.run_pure, Result.andThen_ok, List.map_toArray, List.map_cons, List.map_nil, hd, hx, hr]
  exact h w' h2 h3

abbrev Ltk (P g o mh f n : Nat) (w' : World) : Prop := w'.cell? ⟨g, o + 1, none⟩ = some (.map (some mh)) ∧ w'.cell? ⟨P, 0, none⟩ = some (.int .i64 f) ∧ w'.cell? ⟨P, 1, none⟩ = some (.int .i64 n)

/-- Which blocks a value owns: not one in common. -/
def Apart (a b : Value) : Prop := ∀ x, a.ownBlock = some x → b.ownBlock = some x → False

/-- The head of a round. -/
structure TakRel (W : World) (g o mh : Nat) (v : Value) (l : List (Nat × Nat)) (f : Nat) (tv nv iv : Value) (w : World) (k : Nat) : Prop where
  i : iv = .int .i64 k
  le : k ≤ l.length
  took : Grow w W.heap.size 2 tv ((l.take k).filter (isF' f)).length (((l.take k).filter (isF' f)).flatMap secL)
  left : Grow w W.heap.size 2 nv ((l.take k).filter (noF f)).length (((l.take k).filter (noF f)).flatMap secL)
  apart : Apart tv nv
  map : IsMap w mh (hasK l f k)
  only : Only (fun b => b = mh) W w

theorem Apart.symm {a b : Value} (h : Apart a b) : Apart b a := fun x h1 h2 => h x h2 h1
/-- One of two rows has grown. -/
theorem rows_step {W wr wa w4 : World} {mh s1 s2 n1 n2 : Nat} {tv nv v4 : Value} {x1 x2 : List Value} {look : Nat → Nat → Option Value} (hon : Only (fun b => b = mh) W wr) (ba : Below wr.heap.size wr wa) (hg4 : wa.grownBy w4 tv.ownBlock)
    (hv4 : v4.ownBlock = tv.ownBlock ∨ v4.ownBlock = some wa.heap.size) (h1 : Grow wr W.heap.size s1 tv n1 x1) (h2 : Grow wr W.heap.size s2 nv n2 x2) (hap : Apart tv nv) (hm : IsMap wr mh look) (hml : mh < W.heap.size) :
    Grow w4 W.heap.size s2 nv n2 x2 ∧ Apart v4 nv ∧ IsMap w4 mh look ∧ Only (fun b => b = mh) W w4 ∧ (∀ b, b < W.heap.size → w4.heap[b]? = wr.heap[b]?) ∧ (∀ b, wr.heap.size ≤ b → b < wa.heap.size → w4.heap[b]? = wa.heap[b]?) := by
  have hs := hon.size
  have e1 : ∀ b, b < W.heap.size → w4.heap[b]? = wr.heap[b]? := fun b hb => (hg4.block b (by have := ba.size; omega) (fun e => by have := (h1.block b e.symm).1; omega)).trans (ba.block b (by omega))
  refine ⟨(h2.below ba).grown hg4 ?_, fun x hx hy => ?_, hm.keep (e1 mh hml), ?_, e1, fun b hb hb2 => hg4.block b hb2 (fun e => by have := (h1.block b e.symm).2; omega)⟩
  · cases hn : nv.ownBlock with
    | none => exact .inl rfl
    | some y => exact .inr fun e => hap y e.symm hn
  · rcases hv4 with h | h
    · exact hap x (h ▸ hx) hy
    · rw [h] at hx
      injection hx with hx
      have := (h2.block x hy).2
      have := ba.size
      omega
  · exact (hon.trans (Only.of_below (F := fun b => b = mh) ba) fun x hx => .inl hx).trans (Only.of_grown' (F := fun b => W.heap.size ≤ b) hg4 fun x hx => .inl (h1.block x hx).1) fun x hx => .inr hx

structure TakPost (g o mh f : Nat) (l : List (Nat × Nat)) (tv : Value) (w w' : World) : Prop where
  took : Grow w' w.heap.size 2 tv (l.filter (isF' f)).length ((l.filter (isF' f)).flatMap secL)
  que : ∃ v', QueAt w' g o mh v' (l.filter (noF f)) ∧ (∀ b, v'.ownBlock = some b → w.heap.size ≤ b) ∧ Apart tv v'
  keep : Keeps w w' g o 2
  only : Only (fun b => b = g ∨ b = mh) w w'

set_option maxRecDepth 8000 in
set_option maxHeartbeats 2000000 in
theorem take_any (g o mh f : Nat) (v : Value) (l : List (Nat × Nat)) (w : World) (h : QueAt w g o mh v l) (hf : f < 16) (hl : l.length ≤ 1000000000) (hin : ∀ p ∈ l, p.1 < 16 ∧ p.2 ≤ 262144) (h1 : g ≠ mh) (h2 : v.ownBlock ≠ some g) (h3 : v.ownBlock ≠ some mh) :
    Calls Try.prog 63 #[.pointer (some ⟨g, o, none⟩), .int .i64 f] w fun e w' => ∃ tv, e = .returned tv ∧ TakPost g o mh f l tv w w' := by
  have hlt := h.lt
  have hml := h.map.lt
  have hp := h.ptr
  have HQ := Lib.hid h
  have HIN := Lib.hid hin
  have hrow := h.row
  obtain ⟨A0, c0, rfl⟩ := h.row.slice
  have HCELL : Hid (∀ k (hk : k < l.length), ∃ b, A0 = some ⟨b, 0, none⟩ ∧ b < w.heap.size ∧ b ≠ mh ∧ w.cell? ⟨b, k * 2, none⟩ = some (.int .i64 l[k].1) ∧ w.cell? ⟨b, k * 2 + 1, none⟩ = some (.int .i64 l[k].2)) := Lib.hid (by
    intro k hk
    rcases hrow.form with ⟨e, h0⟩ | ⟨b, cap, e, _, hb, _, _, _, _, h7⟩
    · omega
    · have ea : A0 = some ⟨b, 0, none⟩ := by injection e
      subst ea
      exact ⟨b, rfl, hb, fun e2 => h3 (by rw [← e2]; rfl), h7 _ _ (sec_get l k hk).1, h7 _ _ (sec_get l k hk).2⟩)
  clear hrow h hin
  go_enter Try.func63, Try.ntmps63
  go_wp2_with fail
  go_loopw [5, 6, 14] (fun tv nv iv wr => ∃ k, TakRel w g o mh (.slice A0 l.length c0) l f tv nv iv wr k) (fun _ _ iv _ => l.length - (intOf iv).toNat)
  case atStart => exact ⟨0, rfl, Nat.zero_le _, Grow.nil _ _ _, Grow.nil _ _ _, (fun _ h => by cases h), (by rw [hasK_zero]; exact HQ.out.map), Only.refl _ _⟩
  case round =>
    obtain ⟨k, ⟨rfl, hk, htook, hleft, hap, hmap, hon⟩⟩ := hrel
    by_cases hlt : k < l.length
    · obtain ⟨b, rfl, hb, hbm, hc1, hc2⟩ := HCELL.out k hlt
      have hbl : wr.heap[b]? = w.heap[b]? := hon.block b hb hbm
      have hd1 : wr.cell? ⟨b, k * 2, none⟩ = some (.int .i64 l[k].1) := (World.cell?_of_block (a := ⟨b, k * 2, none⟩) hbl).trans hc1
      have hd2 : wr.cell? ⟨b, k * 2 + 1, none⟩ = some (.int .i64 l[k].2) := (World.cell?_of_block (a := ⟨b, k * 2 + 1, none⟩) hbl).trans hc2
      have hbz : b < wr.heap.size := Nat.lt_of_lt_of_le hb hon.size
      have hkin := HIN.out l[k] (List.getElem_mem hlt)
      have HM := Lib.hid hmap
      have HO := Lib.hid hon
      have HTK := Lib.hid htook
      have HLF := Lib.hid hleft
      have HAP := Lib.hid hap
      have hgp : wr.cell? ⟨g, o + 1, none⟩ = some (.map (some mh)) := (World.cell?_of_block (a := ⟨g, o + 1, none⟩) (hon.block g (by omega) h1)).trans HQ.out.has
      have hgl : g < wr.heap.size := by have := hon.size; omega
      have htl := filt_len (isF' f) hk
      have hnl := filt_len (noF f) hk
      have hwz := hon.size
      clear hmap hon htook hleft hap hbl
      by_cases hfe : l[k].1 = f
      · have HF := Lib.hid (filt_yes hlt hfe)
        have HDK := Lib.hid (hasK_take hlt hfe)
        have HFE := Lib.hid hfe
        rw [hfe] at hd1 hc1
        clear hfe
        obtain ⟨i0, hi, hz0, hz1, hz2⟩ := info_parts info_sector
        have hnew : ∀ q, ∀ j u, (secL (f, q))[j]? = some u → ((wr.alloc (.cells #[.int .i64 f, .int .i64 q] 76)).alloc (.cells #[.int .i64 f, .int .i64 q] 76)).cell? ((⟨wr.heap.size + 1, 0, none⟩ : Addr).add j) = some u := fun q => by
          have := new_cells (wr.alloc (.cells #[.int .i64 f, .int .i64 q] 76)) 76 (secL (f, q))
          rw [show (wr.alloc (.cells #[.int .i64 f, .int .i64 q] 76)).heap.size = wr.heap.size + 1 from by simp] at this
          exact this
        have hone : ∀ q, ∀ u ∈ secL (f, q), u.oneCell' = true := fun q u hu => one_secs [(f, q)] u (by simpa using hu)
        have HNW := Lib.hid hnew
        clear hnew
        go_upto_region 7 with (first
          | (at_builtin; refine wpList_append_src _ rfl (.tmp 22) (.tmp 24) _ _ rfl w.heap.size 76 i0 _ 2 16 Try.underlying57 hi hz0 hz1 hz2 rfl (by omega) _ _ _ rfl ((HTK.out.alloc _).alloc _) _ 1 (secL (f, l[k].2)) rfl (Src.ofSlice _ (size := 2) Try.underlying57 ⟨wr.heap.size + 1, 0, none⟩ 1 1 (secL (f, l[k].2)) rfl (HNW.out _) (hone _)) (small_max (by omega)) (by omega) (Nat.le_trans hwz (by simp; omega)) ?_; intro v4 w4 hown4 hg4 hv4))
        have ba : Below wr.heap.size wr ((wr.alloc (.cells #[.int .i64 f, .int .i64 l[k].2] 76)).alloc (.cells #[.int .i64 f, .int .i64 l[k].2] 76)) := ((Below.refl _ wr).alloc (Nat.le_refl _) _).alloc (by simp) _
        obtain ⟨hleft4, hap4, hm4, hon4, he4, hn4⟩ := rows_step HO.out ba hg4 hv4 HTK.out HLF.out HAP.out HM.out hml
        have hx4 : Blk w4 wr.heap.size 76 #[.int .i64 f, .int .i64 l[k].2] := (hn4 wr.heap.size (Nat.le_refl _) (by simp; omega)).trans ((Blk.fresh wr _ _).kept _)
        have hgp4 : w4.cell? ⟨g, o + 1, none⟩ = some (.map (some mh)) := (World.cell?_of_block (a := ⟨g, o + 1, none⟩) (he4 g (by omega))).trans hgp
        have HS : Hid (Ltk wr.heap.size g o mh f l[k].2 w4.drew) := Lib.hid ⟨hgp4, by rw [World.cell?_drew, hx4.at]; rfl, by rw [World.cell?_drew, hx4.at]; rfl⟩
        have HM4 := Lib.hid hm4
        have HR4 := Lib.hid hown4
        have HL4 := Lib.hid hleft4
        have HO4 := Lib.hid hon4
        have HA4 := Lib.hid hap4
        clear hm4 hown4 hleft4 hon4 hap4 he4 hn4 hx4 hgp4 ba hg4 hv4 hgp hd1 hd2 hc1 hc2
        refine wp_region_sorted (Ltk wr.heap.size g o mh f l[k].2) [0, 1, 2, 3, 4] [5] (by kernel_rfl) (by kernel_rfl) HS.out ?_
        repeat refine RD.next rfl rfl (by intro w' hS; simp only [Ltk] at hS; go_simp; with_reducible rfl) ?_
        refine RD.done ?_
        refine CH.next rfl rfl fun K hK => ?_
        refine wp_delete_own (m := mh) (f := f) (n := l[k].2) _ _ rfl Try.underlying58 (by go_simp) (by unfold keyV; go_simp) hf hkin.2 (HM4.out.keep rfl) ?_
        intro w5 hm5 hg5
        have eg5 : w5.heap[g]? = w4.drew.heap[g]? := hg5.block g (by have := HO4.out.size; simp; omega) (by intro e; injection e with e; exact h1 e)
        have ep5 : w5.heap[wr.heap.size]? = w4.drew.heap[wr.heap.size]? := hg5.block _ (World.block_lt_of_cell? w4.drew ⟨wr.heap.size, 0, none⟩ HS.out.2.1) (by intro e; injection e with e; omega)
        have hS5 : Ltk wr.heap.size g o mh f l[k].2 w5 := ⟨(World.cell?_of_block (a := ⟨g, o + 1, none⟩) eg5).trans HS.out.1, (World.cell?_of_block (a := ⟨wr.heap.size, 0, none⟩) ep5).trans HS.out.2.1, (World.cell?_of_block (a := ⟨wr.heap.size, 1, none⟩) ep5).trans HS.out.2.2⟩
        have HN : Hid (TakRel w g o mh (.slice (some ⟨b, 0, none⟩) l.length c0) l f v4 u6 (.int .i64 ((k + 1 : Nat) : Int)) w5 (k + 1)) := Lib.hid (by
          have hg5' : w4.grownBy w5 (some mh) := ⟨hg5.os, hg5.tape, hg5.output, hg5.size, hg5.block⟩
          refine ⟨rfl, hlt, ?_, ?_, HA4.out, ?_, ?_⟩
          · rw [HF.out.1, List.length_append, List.flatMap_append, show [l[k]].flatMap secL = secL (f, l[k].2) from by rw [← HFE.out]; simp]
            exact HR4.out.grown hg5' (.inr fun e => by have := (HR4.out.block mh e).1; omega)
          · rw [HF.out.2]
            exact HL4.out.grown hg5' (.inr fun e => by have := (HL4.out.block mh e).1; omega)
          · have := HDK.out
            rw [HFE.out] at this
            rw [← this]
            exact hm5
          · exact HO4.out.same (Only.of_grown hg5' (.inl rfl)))
        refine hK _ _ hS5 ?_
        clear hK hg5 hm5 eg5 ep5 hS5
        refine CH.done (NoPanic.normal ?_)
        try go_frame
        go_wp2_with fail
        go_roundw
        case rel => exact ⟨k + 1, HN.out⟩
        case measure => simp [intOf]; omega
      · have HF := Lib.hid (filt_no hlt hfe)
        have HDK := Lib.hid (hasK_skip hlt hfe)
        have hfe2 : ((l[k].1 : Int) == (f : Int)) = false := beq_eq_false_iff_ne.2 fun e => hfe (by omega)
        clear hfe
        obtain ⟨i0, hi, hz0, hz1, hz2⟩ := info_parts info_sector
        have hnew : ∀ p q : Nat, ∀ j u, (secL (p, q))[j]? = some u → ((wr.alloc (.cells #[.int .i64 p, .int .i64 q] 76)).alloc (.cells #[.int .i64 p, .int .i64 q] 76)).cell? ((⟨wr.heap.size + 1, 0, none⟩ : Addr).add j) = some u := fun p q => by
          have := new_cells (wr.alloc (.cells #[.int .i64 p, .int .i64 q] 76)) 76 (secL (p, q))
          rw [show (wr.alloc (.cells #[.int .i64 p, .int .i64 q] 76)).heap.size = wr.heap.size + 1 from by simp] at this
          exact this
        have hone : ∀ p q : Nat, ∀ u ∈ secL (p, q), u.oneCell' = true := fun p q u hu => one_secs [(p, q)] u (by simpa using hu)
        have HNW := Lib.hid hnew
        clear hnew
        have HSL : Hid (secL (l[k].1, l[k].2) = secL l[k]) := Lib.hid rfl
        generalize l[k].1 = p1 at *
        generalize l[k].2 = p2 at *
        go_wp2_with (first
          | (at_builtin; refine wpList_append_src _ rfl (.tmp 31) (.tmp 33) _ _ rfl w.heap.size 76 i0 _ 2 16 Try.underlying57 hi hz0 hz1 hz2 rfl (by omega) _ _ _ rfl ((HLF.out.alloc _).alloc _) _ 1 (secL (p1, p2)) rfl (Src.ofSlice _ (size := 2) Try.underlying57 ⟨wr.heap.size + 1, 0, none⟩ 1 1 (secL (p1, p2)) rfl (HNW.out _ _) (hone _ _)) (small_max (by omega)) (by omega) (Nat.le_trans hwz (by simp; omega)) ?_; intro v4 w4 hown4 hg4 hv4))
        have ba : Below wr.heap.size wr ((wr.alloc (.cells #[.int .i64 p1, .int .i64 p2] 76)).alloc (.cells #[.int .i64 p1, .int .i64 p2] 76)) := ((Below.refl _ wr).alloc (Nat.le_refl _) _).alloc (by simp) _
        obtain ⟨htook4, hap4, hm4, hon4, he4, hn4⟩ := rows_step HO.out ba hg4 hv4 HLF.out HTK.out HAP.out.symm HM.out hml
        have HN : Hid (TakRel w g o mh (.slice (some ⟨b, 0, none⟩) l.length c0) l f u5 v4 (.int .i64 ((k + 1 : Nat) : Int)) w4 (k + 1)) := Lib.hid (by
          refine ⟨rfl, hlt, ?_, ?_, hap4.symm, ?_, hon4⟩
          · rw [HF.out.1]
            exact htook4
          · rw [HF.out.2, List.length_append, List.flatMap_append, show [l[k]].flatMap secL = secL (p1, p2) from by rw [HSL.out]; simp]
            exact hown4
          · rw [HDK.out]
            exact hm4)
        clear htook4 hap4 hm4 hon4 he4 hn4 hg4 hv4 hown4
        go_wp2_with fail
        go_roundw
        case rel => exact ⟨k + 1, HN.out⟩
        case measure => simp [intOf]; omega
    · have hkl : k = l.length := by omega
      rw [hkl, List.take_length] at htook hleft
      rw [hkl, hasK_end] at hmap
      obtain ⟨A2, c2, e2⟩ := hleft.slice
      subst e2
      have hgl : g < wr.heap.size := by have := hon.size; omega
      have egr : wr.heap[g]? = w.heap[g]? := hon.block g (by omega) h1
      have hth := there_keep HQ.out.there egr
      have hfz : wr.frozen? ⟨g, o, none⟩ = false := (hth 0 (by omega)).2
      have hcc : wr.cell? ⟨g, o, none⟩ = some (.slice A0 l.length c0) := (World.cell?_of_block (a := ⟨g, o, none⟩) egr).trans hp
      have HP : Hid (TakPost g o mh f l u5 w (wr.setCell ⟨g, o, none⟩ (.slice A2 (l.filter (noF f)).length c2))) := Lib.hid (by
        have hst : ∀ b, b ≠ g → (wr.setCell ⟨g, o, none⟩ (.slice A2 (l.filter (noF f)).length c2)).heap[b]? = wr.heap[b]? := fun b hb => Below.heap_setCell _ _ _ _ hb
        have hz : wr.heap.size ≤ (wr.setCell ⟨g, o, none⟩ (.slice A2 (l.filter (noF f)).length c2)).heap.size := by simp [World.setCell]
        refine ⟨htook.keep hz fun b hb => hst b (by have := (htook.block b hb).1; omega), ⟨.slice A2 (l.filter (noF f)).length c2, ⟨?_, ?_, there_put hth _ _, ?_, hmap.keep (hst mh (fun e => h1 e.symm))⟩, fun b hb => (hleft.block b hb).1, hap⟩, (Keeps.block egr).trans (Keeps.put _ (Nat.le_refl _) (by omega)), ?_⟩
        · exact World.cell?_setCell_same' _ _ _ (by rw [hcc]; rfl)
        · rw [World.cell?_setCell_other _ _ _ _ (by intro e; simp at e)]
          exact (World.cell?_of_block (a := ⟨g, o + 1, none⟩) egr).trans HQ.out.has
        · exact (hleft.lower (Nat.zero_le _)).keep hz fun b hb => hst b (by have := (hleft.block b hb).1; omega)
        · exact (hon.mono fun x hx => .inl (.inr hx)).same (Only.set _ _ _ _ (.inl rfl)))
      clear htook hleft hap hmap hon egr hkl hth
      go_wp2_with fail
      go_ret
      exact ⟨_, rfl, HP.out⟩
end Dsk
end Go.Proofs.Ytgaclibokapfaaa

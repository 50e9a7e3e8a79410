/- The reference's Drop, Deliver, Double, Send, Copy; Same. -/
import Derived.Test.YtmhnifcohkamaaaNtI
namespace Go.Proofs.Ytmhnifcohkamaaa
open Go.RowKit Wire
open Txt (Row)
open Dsk (Only below_of_grown Grow.bare)
set_option linter.unusedVariables false
set_option linter.unusedSimpArgs false
namespace Ntw
theorem size_alloc1 (w : World) (o : Obj) : (w.alloc o).heap.size = w.heap.size + 1 := Array.size_push ..
theorem none_two {S : Nt} {i : Int} (hi : S.has i = false) : i < 0 ∨ (0 ≤ i ∧ (S.L.length : Int) ≤ i) := by
  have := of_decide_eq_false hi
  omega
set_option maxHeartbeats 1000000 in
theorem qDrop_none {w : World} {p : Nat} {S : Nt} {F : Nat → Prop} (h : NetAt 29 w p S F) (i : Int) (hi : S.has i = false) :
    Calls Try.prog 27 #[ptr p, .int .i64 i] w fun e w' => e = .returned (.int .i64 4) ∧ w = w' := by
  obtain ⟨v, hV⟩ := h.pieces
  have c0 := hV.cell
  obtain ⟨A, c, rfl⟩ := hV.row.slice
  have hn := none_two hi
  clear h hi hV
  generalize S.L.length = n at *
  rcases hn with hn | ⟨hn, hm⟩
  · go_enter Try.func27, Try.ntmps27
    go_wp2_with fail
    go_ret
    exact ⟨rfl, rfl⟩
  · go_enter Try.func27, Try.ntmps27
    go_wp2_with fail
    go_ret
    exact ⟨rfl, rfl⟩
set_option maxHeartbeats 1000000 in
theorem qDrop_some {w : World} {p : Nat} {S : Nt} {F : Nat → Prop} (h : NetAt 29 w p S F) (i : Nat) (hi : i < S.L.length) :
    Calls Try.prog 27 #[ptr p, .int .i64 i] w fun e w' => e = .returned (.int .i64 0) ∧ NPost 29 p { S with L := S.L.eraseIdx i } F w w' := by
  obtain ⟨v, hV⟩ := h.pieces
  have c0 := hV.cell
  obtain ⟨A, c, rfl⟩ := hV.row.slice
  have HR := Lib.hid (qremove_any h i hi)
  have hi2 : ¬ (S.L.length : Int) ≤ i := by omega
  clear h hV hi
  generalize S.L.length = n at *
  go_enter Try.func27, Try.ntmps27
  go_wp2_with (go_at_call 39; refine HR.out.mono ?_; rintro e w1 ⟨rfl, h1⟩; have H1 := Lib.hid h1; clear h1)
  go_ret
  exact ⟨rfl, H1.out⟩
set_option maxHeartbeats 1000000 in
theorem qDeliver_none {w : World} {p : Nat} {S : Nt} {F : Nat → Prop} (h : NetAt 29 w p S F) (i : Int) (hi : S.has i = false) :
    Calls Try.prog 26 #[ptr p, .int .i64 i] w fun e w' => e = .returned (.tuple #[Pk.zero.val, .int .i64 4]) ∧ Below w.heap.size w w' := by
  obtain ⟨v, hV⟩ := h.pieces
  have b : ∀ o, Below w.heap.size w (w.alloc o) := fun o => (Below.refl _ w).alloc (Nat.le_refl _) o
  have c0 : ∀ o, (w.alloc o).cell? ⟨p, 0, none⟩ = some v := fun o => (hV.below (b o)).cell
  obtain ⟨A, c, rfl⟩ := hV.row.slice
  have hn := none_two hi
  have HB := Lib.hid b
  clear h hi hV b
  generalize S.L.length = n at *
  rcases hn with hn | ⟨hn, hm⟩
  · go_enter Try.func26, Try.ntmps26
    go_wp2_with fail
    exact bodyPost_ret (v := .tuple #[.agg #[.int .i64 0, .int .i64 0, .string ⟨#[]⟩], .int .i64 4]) (by simp [results, Try.results26, go_sem]) rfl ⟨rfl, HB.out _⟩
  · go_enter Try.func26, Try.ntmps26
    go_wp2_with fail
    exact bodyPost_ret (v := .tuple #[.agg #[.int .i64 0, .int .i64 0, .string ⟨#[]⟩], .int .i64 4]) (by simp [results, Try.results26, go_sem]) rfl ⟨rfl, HB.out _⟩
set_option maxHeartbeats 1000000 in
theorem qDeliver_some {w : World} {p : Nat} {S : Nt} {F : Nat → Prop} (h : NetAt 29 w p S F) (i : Nat) (q : Pk) (hq : S.L[i]? = some q) :
    Calls Try.prog 26 #[ptr p, .int .i64 i] w fun e w' => e = .returned (.tuple #[((S.deliver i).1.getD Pk.zero).val, .int .i64 (S.deliver i).2.1]) ∧ NPost 29 p (S.deliver i).2.2 F w w' := by
  obtain ⟨v, hV⟩ := h.pieces
  have b : ∀ o, Below w.heap.size w (w.alloc o) := fun o => (Below.refl _ w).alloc (Nat.le_refl _) o
  have c0 : ∀ o, (w.alloc o).cell? ⟨p, 0, none⟩ = some v := fun o => (hV.below (b o)).cell
  have hlt := (List.getElem?_eq_some_iff.1 hq).1
  have hF := h.lt
  have hhas : S.has i = true := decide_eq_true (by omega)
  obtain ⟨A, c, rfl, hr⟩ := Grow.row hV.row
  obtain ⟨g, o, rfl, hg, hc⟩ := row_pk hr (Below.refl _ _) hq
  have k0 := fun ob => (hc _ (b ob)).1
  have k1 := fun ob => (hc _ (b ob)).2.1
  have k2 := fun ob => (hc _ (b ob)).2.2
  have hi2 : ¬ (S.L.length : Int) ≤ i := by omega
  have hi3 : (i : Int) < S.L.length := by omega
  have HB : Hid (∀ o o', Below w.heap.size w ((w.alloc o).alloc o')) := Lib.hid fun o o' => (b o).alloc (by simp) o'
  have HD := Lib.hid (fun o o' => qremove_any (h.below (HB.out o o')) i hlt)
  have HK : Hid (∀ w2 (o o' : Obj), NPost 29 p { S with L := S.L.eraseIdx i } F ((w.alloc o).alloc o') w2 → ∀ g t q, w.heap.size ≤ g → Blk ((w.alloc o).alloc o') g t q → Blk w2 g t q) := Lib.hid fun w2 o o' ⟨F', _, _, h4⟩ g t q hge hb => by
    have hin := hb.inside
    unfold Blk at hb ⊢
    rw [h4.block g hin (fun e => by have := hF _ e; omega)]
    exact hb
  have HH : Hid (∀ w1 w2, NPost 29 p { S with L := S.L.eraseIdx i } F w1 w2 → Calls Try.prog 16 #[ptr p, .int .i64 q.src, .int .i64 q.dst] w2 fun e w' => e = .returned (.bool (S.hear q.src q.dst)) ∧ w2 = w') := Lib.hid fun w1 w2 ⟨F', h1, _, _⟩ => qHear_any h1 q.src q.dst
  have HP : Hid (∀ w1 w2 w3, Below w.heap.size w w1 → NPost 29 p { S with L := S.L.eraseIdx i } F w1 w2 → w.heap.size < w1.heap.size → Only (fun x => x = w.heap.size) w2 w3 → NPost 29 p { S with L := S.L.eraseIdx i } F w w3) := Lib.hid (fun w1 w2 w3 b h h1 o => NPost.poke b hF h (Nat.le_refl _) h1 o)
  unfold Nt.deliver
  rw [if_neg (by simp [hhas])]
  have e2 : (i : Int).toNat = i := by simp
  simp only [e2, hq]
  clear h hV hq hlt hhas hF b e2 hr hc
  generalize S.L.length = n at *
  cases hH : S.hear q.src q.dst
  · rw [hH] at HH
    simp only [Bool.false_eq_true, if_false, Option.getD_none]
    clear hH
    go_enter Try.func26, Try.ntmps26
    go_wp2_with (first
      | (go_at_call 39; refine (HD.out _ _).mono ?_; rintro e w2 ⟨rfl, h2⟩; have H2 := Lib.hid h2; have Q2 := Lib.hid (pk_facts (HK.out _ _ _ h2 _ _ _ (by simp) (Blk.fresh _ _ _))); have R2 := Lib.hid (HK.out _ _ _ h2 _ _ _ (Nat.le_refl _) ((Blk.fresh w _ _).kept _)); clear h2; rw [size_alloc1] at Q2; obtain ⟨z0, z1, z2, _⟩ := Q2.out; have t0 := R2.out.at 0; have t1 := R2.out.at 1; have t2 := R2.out.at 2; have f0 := R2.out.thaw 0; have f1 := R2.out.thaw 1; have f2 := R2.out.thaw 2)
      | (go_at_call 16; refine (HH.out _ _ H2.out).mono ?_; rintro e w3 ⟨rfl, rfl⟩))
    exact bodyPost_ret (v := .tuple #[.agg #[.int .i64 0, .int .i64 0, .string ⟨#[]⟩], .int .i64 10]) (by simp [results, Try.results26, go_sem, t0, t1, t2]) rfl ⟨rfl, HP.out _ _ _ (HB.out _ _) H2.out (by rw [size_alloc1, size_alloc1]; omega) (set3 _ _ _ _ _)⟩
  · rw [hH] at HH
    simp only [if_true, Option.getD_some]
    clear hH
    go_enter Try.func26, Try.ntmps26
    go_wp2_with (first
      | (go_at_call 39; refine (HD.out _ _).mono ?_; rintro e w2 ⟨rfl, h2⟩; have H2 := Lib.hid h2; have Q2 := Lib.hid (pk_facts (HK.out _ _ _ h2 _ _ _ (by simp) (Blk.fresh _ _ _))); have R2 := Lib.hid (HK.out _ _ _ h2 _ _ _ (Nat.le_refl _) ((Blk.fresh w _ _).kept _)); clear h2; rw [size_alloc1] at Q2; obtain ⟨z0, z1, z2, _⟩ := Q2.out; have t0 := R2.out.at 0; have t1 := R2.out.at 1; have t2 := R2.out.at 2; have f0 := R2.out.thaw 0; have f1 := R2.out.thaw 1; have f2 := R2.out.thaw 2)
      | (go_at_call 16; refine (HH.out _ _ H2.out).mono ?_; rintro e w3 ⟨rfl, rfl⟩))
    exact bodyPost_ret (v := .tuple #[.agg #[.int .i64 q.src, .int .i64 q.dst, .string q.body], .int .i64 0]) (by simp [results, Try.results26, go_sem, t0, t1, t2]) rfl ⟨rfl, HP.out _ _ _ (HB.out _ _) H2.out (by rw [size_alloc1, size_alloc1]; omega) (set3 _ _ _ _ _)⟩
theorem copy_run {ty : TypeId} {w w3 : World} {p : Nat} {S : Nt} {F : Nat → Prop} {A : Option Addr} {c : Nat} (h : NetV ty w p S F (.slice A S.L.length c)) (b : Below w.heap.size w w3) {v0 : Value} (h0 : Grow w3 w.heap.size 3 v0 0 []) :
    ∃ v1 w1, (Builtin.append_ #[27, 27] 27 #[v0, .slice A S.L.length c]).run Try.prog w3 = .ok v1 w1 ∧ Below w.heap.size w w1 ∧ Grow w1 w.heap.size 3 v1 S.L.length (pks S.L) ∧ w3.grownBy w1 v0.ownBlock := by
  have hr : Row w w.heap.size A (pks S.L) := by
    obtain ⟨A', c', e, hrow⟩ := Grow.row h.row
    injection e with e1 e2 e3
    rw [e1]
    exact hrow
  have hle := h.ok.len
  obtain ⟨v1, w1, r1, g1, gr1, b1⟩ := app_run (X := []) h0 b.size (src_row (c := c) (hr.lift b)) (by omega)
  exact ⟨v1, w1, r1, b.trans b1, by simpa using g1, gr1⟩
set_option maxRecDepth 8000 in
set_option maxHeartbeats 2000000 in
theorem qCopy_any {w : World} {p : Nat} {S : Nt} {F : Nat → Prop} (h : NetAt 29 w p S F) :
    Calls Try.prog 11 #[ptr p] w (Made 29 S w) := by
  have ho := h.ok
  obtain ⟨v, hV⟩ := h.pieces
  have HS : Hid (∀ w', Below w.heap.size w w' → w'.cell? ⟨p, 0, none⟩ = some v ∧ w'.cell? ⟨p, 1, none⟩ = some (.int .i64 S.m)) := Lib.hid (fun w' b => ⟨(hV.below b).blk.at 0, (hV.below b).blk.at 1⟩)
  obtain ⟨A, c, rfl⟩ := hV.row.slice
  generalize hW3 : (w.alloc (.cells #[] 33)).drew = w3
  have b3 : Below w.heap.size w w3 := hW3 ▸ ((Below.refl _ w).alloc (Nat.le_refl _) _).drew
  have g0 : Grow w3 w.heap.size 3 (.slice (some ⟨w.heap.size, 0, none⟩) 0 0) 0 [] := hW3 ▸ (Grow.bare w 33 3).drew
  obtain ⟨v1, w1, r1, b1, g1, _⟩ := copy_run hV b3 g0
  have HM := Lib.hid (made_of (ty := 29) ho b1 g1)
  have HB4 : Hid (Below w.heap.size w (w1.alloc (.cells #[v1, .int .i64 S.m] 29))) := Lib.hid (b1.alloc b1.size _)
  obtain ⟨A1, c1, rfl⟩ := g1.slice
  have HB : Hid (Below w.heap.size w w.drew) := Lib.hid (Below.refl _ w).drew
  have HB3 := Lib.hid b3
  have HB1 := Lib.hid b1
  have HW3 := Lib.hid hW3
  have R1 := Lib.hid r1
  clear h hV hW3 r1 b3 b1 g0 g1 ho
  generalize S.L.length = n at *
  go_enter Try.func11, Try.ntmps11
  go_upto_region 1 with (fail)
  try go_frame
  refine Dsk.wp_region_sorted (fun w' => Below w.heap.size w w') [1, 2, 3, 4, 6, 7, 8, 9] [0, 5, 10, 11, 12] (by kernel_rfl) (by kernel_rfl) HB.out ?_
  repeat refine Dsk.RD.next rfl rfl (by intro w' hS; obtain ⟨s0, s1⟩ := HS.out w' hS; go_simp; with_reducible rfl) ?_
  refine Dsk.RD.done ?_
  refine Dsk.CH.next rfl rfl fun K hK => ?_
  go_simp
  rw [HW3.out]
  refine hK _ _ HB3.out ?_
  clear hK
  refine Dsk.CH.next rfl rfl fun K hK => ?_
  refine wp_append_run _ _ _ _ rfl (by simp [go_sem]) (by simp [go_sem]) R1.out ?_
  refine hK _ _ HB1.out ?_
  clear hK
  iterate 3
    refine Dsk.CH.next rfl rfl fun K hK => ?_
    go_simp
    refine hK _ _ (by first | exact HB1.out | exact HB4.out) ?_
    clear hK
  refine Dsk.CH.done (NoPanic.normal ?_)
  try go_frame
  go_wp2_with fail
  go_ret
  exact HM.out
set_option maxRecDepth 8000 in
set_option maxHeartbeats 2000000 in
theorem qSend_any {w : World} {p : Nat} {S : Nt} {F : Nat → Prop} (h : NetAt 29 w p S F) (a b : Int) (s : ByteArray) :
    Calls Try.prog 30 #[ptr p, .int .i64 a, .int .i64 b, .string s] w fun e w' => e = .returned (.int .i64 (S.send a b s).1) ∧ NPost 29 p (S.send a b s).2 F w w' := by
  have HQ : Hid (NPost 29 p S F w w) := Lib.hid (NPost.below h (Below.refl _ _))
  have sA : isEnd a = true → 0 ≤ a ∧ a ≤ 15 := isEnd_lt
  have sA' : isEnd a = false → a < 0 ∨ (0 ≤ a ∧ 15 < a) := fun e => by have := of_decide_eq_false e; omega
  have sB : isEnd b = true → 0 ≤ b ∧ b ≤ 15 := isEnd_lt
  have sB' : isEnd b = false → b < 0 ∨ (0 ≤ b ∧ 15 < b) := fun e => by have := of_decide_eq_false e; omega
  obtain ⟨v, hV⟩ := h.pieces
  have HHEAR := Lib.hid (qHear_any h a b)
  have H0 : Hid (NetAt 29 w p S F) := Lib.hid h
  obtain ⟨A, c, rfl⟩ := hV.row.slice
  have c0 := hV.cell
  unfold Nt.send
  cases hA : isEnd a
  · rw [if_pos (.inl (by rfl))]
    have := sA' hA
    clear sA sA' sB sB' hA h hV
    generalize S.L.length = n at *
    rcases this with h0 | ⟨h0, h1⟩
    · go_enter Try.func30, Try.ntmps30
      go_wp2_with fail
      go_ret
      exact ⟨rfl, HQ.out⟩
    · go_enter Try.func30, Try.ntmps30
      go_wp2_with fail
      go_ret
      exact ⟨rfl, HQ.out⟩
  · obtain ⟨g0, g1⟩ := sA hA
    have g1' : ¬ (15 < a) := by omega
    cases hB : isEnd b
    · rw [if_pos (.inl (by rfl))]
      have := sB' hB
      clear sA sA' sB sB' hA hB h hV
      generalize S.L.length = n at *
      rcases this with h0 | ⟨h0, h1⟩
      · go_enter Try.func30, Try.ntmps30
        go_wp2_with fail
        go_ret
        exact ⟨rfl, HQ.out⟩
      · go_enter Try.func30, Try.ntmps30
        go_wp2_with fail
        go_ret
        exact ⟨rfl, HQ.out⟩
    · obtain ⟨k0, k1⟩ := sB hB
      have k1' : ¬ (15 < b) := by omega
      by_cases hab : a = b
      · rw [if_pos (.inr hab)]
        clear sA sA' sB sB' hA hB h hV
        generalize S.L.length = n at *
        have hab2 : (a == b) = true := by simp [hab]
        clear hab
        go_enter Try.func30, Try.ntmps30
        go_wp2_with fail
        go_ret
        exact ⟨rfl, HQ.out⟩
      · have hab2 : (a == b) = false := by simp [hab]
        rw [if_neg (by rintro (e | e); cases e; exact hab e)]
        cases hH : S.hear a b
        · rw [hH] at HHEAR
          rw [if_pos rfl]
          clear sA sA' sB sB' hA hB h hV hH hab
          generalize S.L.length = n at *
          go_enter Try.func30, Try.ntmps30
          go_wp2_with (go_at_call 16; refine HHEAR.out.mono ?_; rintro e w1 ⟨rfl, rfl⟩)
          go_ret
          exact ⟨rfl, HQ.out⟩
        · rw [hH] at HHEAR
          rw [if_neg (by simp)]
          by_cases hl : 500 ≤ S.L.length
          · rw [if_pos hl]
            have hl2 : (500 : Int) ≤ S.L.length := by omega
            clear sA sA' sB sB' hA hB h hV hH hab hl
            generalize S.L.length = n at *
            go_enter Try.func30, Try.ntmps30
            go_wp2_with (go_at_call 16; refine HHEAR.out.mono ?_; rintro e w1 ⟨rfl, rfl⟩)
            go_ret
            exact ⟨rfl, HQ.out⟩
          · rw [if_neg hl]
            have hl2 : ¬ (500 : Int) ≤ S.L.length := by omega
            generalize hW3 : w.alloc (.cells #[.int .i64 a, .int .i64 b, .string s] 33) = w3
            have b3 : Below w.heap.size w w3 := hW3 ▸ (Below.refl _ w).alloc (Nat.le_refl _) _
            have hx : Blk w3 w.heap.size 33 #[.int .i64 a, .int .i64 b, .string s] := by rw [← hW3]; exact Blk.fresh w _ _
            obtain ⟨v', w', hr, hgr, ⟨A', m', c', rfl⟩, hpost⟩ := push_run hV ⟨a, b, s⟩ (by omega) ⟨hA, hB, hab⟩ b3 hx
            have hb3 := hV.blk.under b3 hV.blk.inside
            have hb4 := hb3.past hgr (fun e => hV.apart e.symm)
            have s0 : w'.cell? ⟨p, 0, none⟩ = some (.slice A S.L.length c) := hb4.at 0
            have s1 : w'.frozen? ⟨p, 0, none⟩ = false := hb4.thaw 0
            have HR := Lib.hid hr
            have HP := Lib.hid hpost
            have HW3 := Lib.hid hW3
            clear sA sA' sB sB' hA hB h hV hH hab hl hr hpost hW3 b3 hx hgr hb3 hb4
            generalize S.L.length = n at *
            go_enter Try.func30, Try.ntmps30
            go_wp2_with (first
              | (go_at_call 16; refine HHEAR.out.mono ?_; rintro e w1 ⟨rfl, rfl⟩)
              | (at_builtin; rw [HW3.out]; refine wpList_append_run rfl _ _ _ _ rfl rfl rfl HR.out ?_))
            go_ret
            exact ⟨rfl, HP.out⟩
end Ntw
end Go.Proofs.Ytmhnifcohkamaaa

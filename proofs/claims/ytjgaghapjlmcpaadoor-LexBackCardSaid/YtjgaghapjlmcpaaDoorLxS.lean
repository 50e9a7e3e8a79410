/- Package lex: the reader's wordOrNumber. -/
import Derived.Test.YtjgaghapjlmcpaaDoorLxR
import Derived.Test.YtjgaghapjlmcpaaDoorLxO
import Derived.Test.YtjgaghapjlmcpaaDoorIntw
import Derived.Deep.DeepCutAuto
namespace Go.Proofs.YtjgaghapjlmcpaaDoor
open Go.RowKit Wire Txt
set_option linter.unusedVariables false
set_option linter.unusedSimpArgs false
namespace Lx

theorem take_while (p : UInt8 → Bool) (l : List UInt8) : l.take (l.length - (l.dropWhile p).length) = l.takeWhile p ∧ l.drop (l.length - (l.dropWhile p).length) = l.dropWhile p := by
  have h := List.takeWhile_append_dropWhile (p := p) (l := l)
  have hl : l.length - (l.dropWhile p).length = (l.takeWhile p).length := by
    have := congrArg List.length h
    rw [List.length_append] at this
    omega
  rw [hl]
  have h1 := List.take_left (l₁ := l.takeWhile p) (l₂ := l.dropWhile p)
  have h2 := List.drop_left (l₁ := l.takeWhile p) (l₂ := l.dropWhile p)
  rw [h] at h1 h2
  exact ⟨h1, h2⟩
theorem all_empty (p : UInt8 → Bool) (l : List UInt8) : (l.dropWhile p).isEmpty = l.all p := by
  induction l with
  | nil => rfl
  | cons c r ih =>
    cases hc : p c with
    | true => rw [List.dropWhile_cons_of_pos hc, List.all_cons, hc, ih]; rfl
    | false => rw [List.dropWhile_cons_of_neg (by rw [hc]; decide), List.all_cons, hc]; rfl
theorem tok_won {c : UInt8} {r : List UInt8} (hc : (isL c || isD c) = true) : tok c r = wordT ((c :: r).takeWhile isP) ((c :: r).dropWhile isP) := by
  have h := isL_not hc
  unfold tok
  rw [if_neg h.2.2.1, if_neg h.2.2.2, if_pos hc]

theorem rout_got {w w' : World} {b L : Nat} {T : Tr} {k : Nat} {x rest : List UInt8} {n : Int} (hT : T = .got k x n rest) (g : w.grownBy w' (some b)) (r : RD w' b rest (nxt k L)) : ROut w b L T (.returned (.tuple #[Tk.val ⟨k, x, n, L⟩, .int .i64 0])) w' := by
  subst hT
  exact ⟨g, rfl, r⟩
theorem rout_bad {w w' : World} {b L : Nat} {T : Tr} {er : Nat} {l : List UInt8} (hT : T = .bad er) (g : w.grownBy w' (some b)) (r : RD w' b l L) : ROut w b L T (.returned (.tuple #[zeroTk, .int .i64 er])) w' := by
  subst hT
  exact ⟨g, rfl, l, r⟩

set_option maxHeartbeats 1000000 in
theorem wordOrNumber_any {w : World} {b : Nat} {c : UInt8} {r : List UInt8} {L : Nat} (h : RD w b (c :: r) L) (hc : (isL c || isD c) = true) (hl : r.length ≤ 900000000) :
    Calls Tryd.prog 23 #[ptr b] w (ROut w b L (tok c r)) := by
  rw [tok_won hc]
  obtain ⟨s, hs⟩ := mk_bl (c :: r)
  have hsz : s.size = r.length + 1 := by rw [← bl_len, hs]; rfl
  have hlt := rd_lt h
  have c0 : w.cell? ⟨b, 0, none⟩ = some (.string s) := by have := h.at 0; rw [← hs] at this; exact this
  obtain ⟨d, hd⟩ := mk_bl ((c :: r).dropWhile isP)
  have hdl : d.size ≤ s.size := by rw [← bl_len, ← bl_len, hd, hs]; exact drop_len _ _
  obtain ⟨n, hn⟩ : ∃ n, n = s.size - d.size := ⟨_, rfl⟩
  have htw := take_while isP (c :: r)
  have hlen : (c :: r).length = s.size := by rw [← hs, bl_len]
  have hdlen : ((c :: r).dropWhile isP).length = d.size := by rw [← hd, bl_len]
  rw [hlen, hdlen, ← hn] at htw
  obtain ⟨x, hx⟩ := mk_bl ((c :: r).takeWhile isP)
  have hx0 : bl x = c :: r.takeWhile isP := by rw [hx, List.takeWhile_cons_of_pos (isP_of hc)]
  have hxl : x.size ≤ s.size := by rw [← bl_len, hx, ← htw.1, List.length_take, hlen]; omega
  have hxp : 0 < x.size := by rw [← bl_len, hx0]; simp
  have hxc : x[0] = c := get_of hx0 0 c rfl hxp
  have HR : Hid (∀ o, RD (w.alloc o) b (c :: r) L) := Lib.hid fun o => rd_alloc h o
  have HTR := Lib.hid (fun w => trimLater_any s w)
  rw [hs, ← hd, str_bl] at HTR
  have HT : Hid (∀ w1, RD w1 b (c :: r) L → Calls Tryd.prog 35 #[ptr b, .int .i64 n] w1 fun e w' => e = .returned (.string x) ∧ RD w' b (bl d) L ∧ w1.grownBy w' (some b)) := Lib.hid fun w1 h1 => by
    have := take_any h1 (n := n) (by rw [hlen]; omega) (by simp only [List.length_cons]; omega)
    rw [htw.1, htw.2, ← hx, ← hd] at this
    exact this
  have HW := Lib.hid (fun w => word_any x w (by omega))
  have HI : Hid (∀ w, Calls Tryd.prog 38 #[.string x] w fun e w' => e = .returned (.tuple #[.int .i64 (intV (bl x)), .bool (intB (bl x))]) ∧ Below w.heap.size w w') := Lib.hid (fun w => int_any x (by omega) w)
  have HD := Lib.hid (fun w => trimDigit_any x w)
  rw [← hx, ← hd]
  have hall := all_empty isD (bl x)
  have hhead : ((bl x).head? != some 48) = (c != 48) := by rw [hx0]; rfl
  have hwt : wordT (bl x) (bl d) = if word (bl x) = true then .got 0 (bl x) 0 (bl d) else if intB (bl x) = true then .got 1 (bl x) (intV (bl x)) (bl d) else if (c != 48) && (bl x).all isD then .bad 3 else .bad 11 := by
    rw [← hhead]
    rfl
  rw [hwt]
  obtain ⟨y, hy⟩ := mk_bl ((bl x).dropWhile isD)
  have he : y.toList.isEmpty = (bl x).all isD := by rw [ByteArray.toList_eq, ← hall]; exact congrArg List.isEmpty hy
  rw [← hy, str_bl] at HD
  rw [← he]
  have HXC := Lib.hid hxc
  have HLT := Lib.hid hlt
  have hne : d.size ≤ s.size := hdl
  have HH := Lib.hid h
  have HXS : Hid (str (bl x) = .string x) := Lib.hid rfl
  have HSS : Hid (Value.string s = str (c :: r)) := Lib.hid (by rw [← hs])
  generalize word (bl x) = bw at HW ⊢
  generalize intB (bl x) = bi at HI ⊢
  generalize intV (bl x) = zi at HI ⊢
  generalize bl x = lx at HXS ⊢
  generalize hrest : bl d = rest at HT ⊢
  clear hs hrest hd htw hlen hdlen hx hx0 hxl hxc hall hhead hwt hy he hdl h
  have hn2 : IntKind.i64.wrap ((s.size : Int) - (d.size : Int)) = (n : Int) := by rw [IntWalk.i64_in _ (by omega)]; omega
  have hs3 : s.size ≤ 900000001 := by omega
  clear hn hsz
  generalize hT : (if bw = true then Tr.got 0 lx 0 rest else if bi = true then Tr.got 1 lx zi rest else if (c != 48 && y.toList.isEmpty) = true then Tr.bad 3 else Tr.bad 11) = T
  have HTT := Lib.hid hT
  clear hT
  go_enter Tryd.func23, Tryd.ntmps23
  go_upto_region 1 with (fail)
  have s0 : (w.alloc (.cells #[.int .i64 0, .string ⟨#[]⟩, .int .i64 0, .int .i64 0] 31)).drew.cell? ⟨b, 0, none⟩ = some (.string s) := by rw [HSS.out]; exact (HR.out _).at 0
  refine Dsk.wp_region_behind (fun w' => w'.cell? ⟨b, 0, none⟩ = some (.string s)) 15 [0, 1, 2, 3, 4, 5, 6, 7, 8, 9] [10, 11, 12] [13, 14] (by kernel_rfl) (by kernel_rfl) (by kernel_rfl) s0 ?_
  repeat refine Dsk.RD.next rfl rfl (by intro w' hS; go_simp; with_reducible rfl) ?_
  refine Dsk.RD.done ?_
  refine Dsk.CHW.next rfl rfl fun K hK => ?_
  go_simp
  refine (HTR.out _).mono ?_
  rintro e w2 ⟨rfl, b2⟩
  simp only [Oper.upon]
  have B2 : Hid (Below (w.alloc (.cells #[.int .i64 0, .string ⟨#[]⟩, .int .i64 0, .int .i64 0] 31)).heap.size (w.alloc (.cells #[.int .i64 0, .string ⟨#[]⟩, .int .i64 0, .int .i64 0] 31)) w2) := Lib.hid (Below.trans ((Below.refl _ _).drew) b2)
  have R2 : Hid (RD w2 b (c :: r) L) := Lib.hid (rd_below (HR.out _) B2.out)
  have s2 : w2.cell? ⟨b, 0, none⟩ = some (.string s) := by rw [HSS.out]; exact R2.out.at 0
  refine hK _ _ s2 ?_
  clear hK b2
  refine Dsk.CHW.next rfl rfl fun K hK => ?_
  go_simp
  refine hK _ _ s2 ?_
  clear hK
  refine Dsk.CHW.next rfl rfl fun K hK => ?_
  go_simp
  refine hK _ _ s2 ?_
  clear hK
  refine Dsk.CHW.done ?_
  refine Dsk.CH.next rfl rfl fun K hK => ?_
  go_simp
  refine (HT.out _ R2.out).mono ?_
  rintro e w3 ⟨rfl, h3, g3⟩
  simp only [Oper.upon]
  have H3 := Lib.hid h3
  have G3 := Lib.hid (grown_trans (ch_below (ch_alloc (ch_refl w (some b)) _) B2.out) g3)
  have q2 : TB w2 w.heap.size #[.int .i64 0, .string ⟨#[]⟩, .int .i64 0, .int .i64 0] := (Blk.fresh w _ _).under B2.out (by simp)
  have Q3 := Lib.hid (tb_past q2 g3 (by omega))
  clear h3 g3 q2 s2 s0 R2 B2
  refine hK _ _ trivial ?_
  clear hK
  refine Dsk.CH.next rfl rfl fun K hK => ?_
  go_simp
  refine hK _ _ trivial ?_
  clear hK
  refine Dsk.CH.done (NoPanic.normal ?_)
  have HXC2 : Hid (x[0] = c) := HXC
  clear HTR HT HR HH HSS
  cases bw with
  | true =>
    have HWT : Hid (T = Tr.got 0 lx 0 rest) := Lib.hid (by rw [← HTT.out]; rfl)
    clear HTT
    go_wp2_with (first
      | (go_at_call 14; refine (HW.out _).mono ?_; rintro e w4 ⟨rfl, b4⟩
         have H4 := Lib.hid (rd_below H3.out b4)
         have G4 := Lib.hid (ch_below G3.out b4)
         have r4 := Q3.out.under b4 Q3.out.inside
         have d1 := H4.out.at 1
         have t0 := r4.at 0
         have t1 := r4.at 1
         have t2 := r4.at 2
         have t3 := r4.at 3
         have f0 := r4.thaw 0
         have f1 := r4.thaw 1
         have f2 := r4.thaw 2
         have f3 := r4.thaw 3
         clear b4 r4))
    exact bodyPost_ret (v := .tuple #[Tk.val ⟨0, lx, 0, L⟩, .int .i64 0]) (by rw [← HXS.out] at *; simp [results, Tryd.results23, go_sem, t0, t1, t2, t3]) rfl (rout_got HWT.out (ch_poke4 G4.out (Nat.le_refl _) _ _ _ _) (rd_poke4 H4.out (by have := HLT.out; omega) _ _ _ _))
  | false =>
    cases bi with
    | true =>
      have HWT : Hid (T = Tr.got 1 lx zi rest) := Lib.hid (by rw [← HTT.out]; rfl)
      clear HTT
      go_wp2_with (first
        | (go_at_call 14; refine (HW.out _).mono ?_; rintro e w4 ⟨rfl, b4⟩
           have H4 := Lib.hid (rd_below H3.out b4)
           have G4 := Lib.hid (ch_below G3.out b4)
           have R4 := Lib.hid (Q3.out.under b4 Q3.out.inside)
           clear b4)
        | (go_at_call 38; refine (HI.out _).mono ?_; rintro e w5 ⟨rfl, b5⟩
           have H5 := Lib.hid (rd_below H4.out b5)
           have G5 := Lib.hid (ch_below G4.out b5)
           have R5 := Lib.hid (R4.out.under b5 R4.out.inside)
           have d1 := H5.out.at 1
           have t0 := R5.out.at 0
           have t1 := R5.out.at 1
           have t2 := R5.out.at 2
           have t3 := R5.out.at 3
           have f0 := R5.out.thaw 0
           have f1 := R5.out.thaw 1
           have f2 := R5.out.thaw 2
           have f3 := R5.out.thaw 3
           clear b5))
      exact bodyPost_ret (v := .tuple #[Tk.val ⟨1, lx, zi, L⟩, .int .i64 0]) (by rw [← HXS.out] at *; simp [results, Tryd.results23, go_sem, t0, t1, t2, t3, zeroTk]) rfl (rout_got HWT.out (ch_poke4 G5.out (Nat.le_refl _) _ _ _ _) (rd_poke4 H5.out (by have := HLT.out; omega) _ _ _ _))
    | false =>
      by_cases h48 : c = 48
      · have t48 : ((x[0].toNat : Int) != 48) = false := by have : ((x[0].toNat : Int) == 48) = true := byte_eq (c := x[0]) (k := 48) (by omega) (by rw [HXC.out, h48]; rfl); simp only [bne]; rw [this]; rfl
        have HWT : Hid (T = Tr.bad 11) := Lib.hid (by rw [← HTT.out, h48]; rfl)
        clear HTT h48
        go_wp2_with (first
          | (go_at_call 14; refine (HW.out _).mono ?_; rintro e w4 ⟨rfl, b4⟩
             have H4 := Lib.hid (rd_below H3.out b4)
             have G4 := Lib.hid (ch_below G3.out b4)
             have R4 := Lib.hid (Q3.out.under b4 Q3.out.inside)
             clear b4)
          | (go_at_call 38; refine (HI.out _).mono ?_; rintro e w5 ⟨rfl, b5⟩
             have H5 := Lib.hid (rd_below H4.out b5)
             have G5 := Lib.hid (ch_below G4.out b5)
             have R5 := Lib.hid (R4.out.under b5 R4.out.inside)
             have d1 := H5.out.at 1
             have t0 := R5.out.at 0
             have t1 := R5.out.at 1
             have t2 := R5.out.at 2
             have t3 := R5.out.at 3
             have f0 := R5.out.thaw 0
             have f1 := R5.out.thaw 1
             have f2 := R5.out.thaw 2
             have f3 := R5.out.thaw 3
             clear b5))
        exact bodyPost_ret (v := .tuple #[zeroTk, .int .i64 11]) (by simp [results, Tryd.results23, go_sem, t0, t1, t2, t3, zeroTk]) rfl (rout_bad HWT.out (ch_poke4 G5.out (Nat.le_refl _) _ _ _ _) (rd_poke4 H5.out (by have := HLT.out; omega) _ _ _ _))
      · have t48 : ((x[0].toNat : Int) != 48) = true := by have : ((x[0].toNat : Int) == 48) = false := byte_ne (c := x[0]) (k := 48) (by omega) (by rw [HXC.out]; exact h48); simp only [bne]; rw [this]; rfl
        have HTU : Hid ((if y.toList.isEmpty = true then Tr.bad 3 else Tr.bad 11) = T) := Lib.hid (by rw [← HTT.out]; simp [h48])
        clear HTT h48
        cases hy : y.toList.isEmpty with
        | true =>
          have HWT : Hid (T = Tr.bad 3) := Lib.hid (by rw [← HTU.out, hy]; rfl)
          clear HTU
          go_wp2_with (first
            | (go_at_call 14; refine (HW.out _).mono ?_; rintro e w4 ⟨rfl, b4⟩
               have H4 := Lib.hid (rd_below H3.out b4)
               have G4 := Lib.hid (ch_below G3.out b4)
               have R4 := Lib.hid (Q3.out.under b4 Q3.out.inside)
               clear b4)
            | (go_at_call 38; refine (HI.out _).mono ?_; rintro e w5 ⟨rfl, b5⟩
               have H5 := Lib.hid (rd_below H4.out b5)
               have G5 := Lib.hid (ch_below G4.out b5)
               have R5 := Lib.hid (R4.out.under b5 R4.out.inside)
               clear b5)
            | (go_at_call 29; refine (HD.out _).mono ?_; rintro e w6 ⟨rfl, b6⟩
               have H6 := Lib.hid (rd_below H5.out b6)
               have G6 := Lib.hid (ch_below G5.out b6)
               have R6 := Lib.hid (R5.out.under b6 R5.out.inside)
               have d1 := H6.out.at 1
               have t0 := R6.out.at 0
               have t1 := R6.out.at 1
               have t2 := R6.out.at 2
               have t3 := R6.out.at 3
               have f0 := R6.out.thaw 0
               have f1 := R6.out.thaw 1
               have f2 := R6.out.thaw 2
               have f3 := R6.out.thaw 3
               clear b6))
          exact bodyPost_ret (v := .tuple #[zeroTk, .int .i64 3]) (by simp [results, Tryd.results23, go_sem, t0, t1, t2, t3, zeroTk]) rfl (rout_bad HWT.out (ch_poke4 G6.out (Nat.le_refl _) _ _ _ _) (rd_poke4 H6.out (by have := HLT.out; omega) _ _ _ _))
        | false =>
          have HWT : Hid (T = Tr.bad 11) := Lib.hid (by rw [← HTU.out, hy]; rfl)
          clear HTU
          go_wp2_with (first
            | (go_at_call 14; refine (HW.out _).mono ?_; rintro e w4 ⟨rfl, b4⟩
               have H4 := Lib.hid (rd_below H3.out b4)
               have G4 := Lib.hid (ch_below G3.out b4)
               have R4 := Lib.hid (Q3.out.under b4 Q3.out.inside)
               clear b4)
            | (go_at_call 38; refine (HI.out _).mono ?_; rintro e w5 ⟨rfl, b5⟩
               have H5 := Lib.hid (rd_below H4.out b5)
               have G5 := Lib.hid (ch_below G4.out b5)
               have R5 := Lib.hid (R4.out.under b5 R4.out.inside)
               clear b5)
            | (go_at_call 29; refine (HD.out _).mono ?_; rintro e w6 ⟨rfl, b6⟩
               have H6 := Lib.hid (rd_below H5.out b6)
               have G6 := Lib.hid (ch_below G5.out b6)
               have R6 := Lib.hid (R5.out.under b6 R5.out.inside)
               have d1 := H6.out.at 1
               have t0 := R6.out.at 0
               have t1 := R6.out.at 1
               have t2 := R6.out.at 2
               have t3 := R6.out.at 3
               have f0 := R6.out.thaw 0
               have f1 := R6.out.thaw 1
               have f2 := R6.out.thaw 2
               have f3 := R6.out.thaw 3
               clear b6))
          exact bodyPost_ret (v := .tuple #[zeroTk, .int .i64 11]) (by simp [results, Tryd.results23, go_sem, t0, t1, t2, t3, zeroTk]) rfl (rout_bad HWT.out (ch_poke4 G6.out (Nat.le_refl _) _ _ _ _) (rd_poke4 H6.out (by have := HLT.out; omega) _ _ _ _))
end Lx
end Go.Proofs.YtjgaghapjlmcpaaDoor

/- A crash. -/
import Derived.Test.YtgaclibokapfaaaStl
namespace Go.Proofs.Ytgaclibokapfaaa
open Go.RowKit Wire
set_option linter.unusedVariables false
set_option linter.unusedSimpArgs false
open Txt
namespace Dsk

section
variable {w w' : World} {D : Own} {S : St}
theorem set_keeps {g o n : Nat} {cs : List Value} (hn : cs.length = n) : Keeps w (w.setCells g o cs) g o n := fun j hj =>
  ⟨World.cell?_setCells_out g cs o w ⟨g, j, none⟩ (fun _ _ => by show j < o ∨ _ ≤ j; omega), World.frozen?_setCells _ _ _ _ _⟩

/-- The files are replaced as a whole. -/
theorem DiskAt.new_now {C : Con} {m' : Nat} (h : DiskAt w D S) (hm : MapC w m' C) (hn : ¬ D.has m') : DiskAt (w.setCells D.p 0 (conL m' C)) { D with m1 := m' } { S with now := C } := by
  have hg := grown_cells D.p (conL m' C) 0 w
  have e : ∀ b, b ≠ D.p → b < w.heap.size → (w.setCells D.p 0 (conL m' C)).heap[b]? = w.heap[b]? := fun b h1 h2 => hg.block b h2 (by intro e; injection e with e; exact h1 e)
  have hk : Keeps w (w.setCells D.p 0 (conL m' C)) D.p 0 17 := set_keeps (conL_len m' C)
  have c : ∀ j, 34 ≤ j → (w.setCells D.p 0 (conL m' C)).cell? ⟨D.p, j, none⟩ = w.cell? ⟨D.p, j, none⟩ := fun j hj => (hk j (by omega)).1
  have hne : ∀ b, D.has b → b ≠ m' := fun b hb e => hn (e ▸ hb)
  have hl := Lie.all (w := w) (g := D.p) (o := 0) (cs := conL m' C) (n := 17) (fun j hj => h.there j (by omega)) (conL_len m' C)
  refine ⟨⟨hl.cells, by have := hl.there; rwa [conL_len] at this, hm.keep (e m' (fun e => hn (.inl e)) hm.lt)⟩, con_keeps h.last hk (by omega) (e _ (fun e => h.sep.p2 e.symm) h.last.map.lt), que_keeps h.que hk (by omega) hg.size (e _ (fun e => h.sep.ph e.symm) h.que.map.lt) (fun b hb => e b (h.sep.q b hb).1 (h.que.row.block b hb).2),
    (c 36 (by omega)).trans h.down, (c 37 (by omega)).trans h.lost, (c 38 (by omega)).trans h.calls, (c 39 (by omega)).trans h.keep, h.kept.keep hg.size (fun b hb => e b (h.sep.k b hb).1 (h.kept.block b hb).2), there_set h.there,
    ⟨hne _ (.inl rfl), h.sep.p2, h.sep.ph, fun e => hne _ (.inr (.inr (.inl rfl))) e.symm, fun e => hne _ (.inr (.inr (.inr (.inl rfl)))) e.symm, h.sep.m2h,
      fun b hb => ⟨(h.sep.q b hb).1, hne b (.inr (.inr (.inr (.inr (.inl hb))))), (h.sep.q b hb).2.2⟩, fun b hb => ⟨(h.sep.k b hb).1, hne b (.inr (.inr (.inr (.inr (.inr hb))))), (h.sep.k b hb).2.2⟩, h.sep.qk⟩⟩

/-- The queue is replaced by an empty one. -/
theorem DiskAt.new_que {m' : Nat} (h : DiskAt w D S) (hm : IsMap w m' (fun _ _ => none)) (hn : ¬ D.has m') : DiskAt (w.setCells D.p 34 [.slice none 0 0, .map (some m')]) { D with mh := m', qv := .slice none 0 0 } { S with queue := [] } := by
  have hg := grown_cells D.p [.slice none 0 0, .map (some m')] 34 w
  have e : ∀ b, b ≠ D.p → b < w.heap.size → (w.setCells D.p 34 [.slice none 0 0, .map (some m')]).heap[b]? = w.heap[b]? := fun b h1 h2 => hg.block b h2 (by intro e; injection e with e; exact h1 e)
  have hk : Keeps w (w.setCells D.p 34 [.slice none 0 0, .map (some m')]) D.p 34 2 := set_keeps rfl
  have c : ∀ j, 36 ≤ j → (w.setCells D.p 34 [.slice none 0 0, .map (some m')]).cell? ⟨D.p, j, none⟩ = w.cell? ⟨D.p, j, none⟩ := fun j hj => (hk j (by omega)).1
  have hne : ∀ b, D.has b → b ≠ m' := fun b hb e => hn (e ▸ hb)
  have hl := Lie.all (w := w) (g := D.p) (o := 34) (cs := [.slice none 0 0, .map (some m')]) (n := 2) (fun j hj => by have := h.there (34 + j) (by omega); rwa [Nat.zero_add] at this) rfl
  have hmap : (fun _ _ => none : Nat → Nat → Option Value) = hasL [] := by funext f n; unfold hasL; simp
  refine ⟨con_keeps h.now hk (by omega) (e _ (fun e => h.sep.p1 e.symm) h.now.map.lt), con_keeps h.last hk (by omega) (e _ (fun e => h.sep.p2 e.symm) h.last.map.lt), ⟨hl.cells 0 _ rfl, hl.cells 1 _ rfl, hl.there, Grow.nil _ _ _, by rw [← hmap]; exact hm.keep (e m' (fun e => hn (.inl e)) hm.lt)⟩,
    (c 36 (by omega)).trans h.down, (c 37 (by omega)).trans h.lost, (c 38 (by omega)).trans h.calls, (c 39 (by omega)).trans h.keep, h.kept.keep hg.size (fun b hb => e b (h.sep.k b hb).1 (h.kept.block b hb).2), there_set h.there,
    ⟨h.sep.p1, h.sep.p2, hne _ (.inl rfl), h.sep.m12, hne _ (.inr (.inl rfl)), hne _ (.inr (.inr (.inl rfl))), (fun b hb => by cases hb), fun b hb => ⟨(h.sep.k b hb).1, (h.sep.k b hb).2.1, (h.sep.k b hb).2.2.1, hne b (.inr (.inr (.inr (.inr (.inr hb)))))⟩, (fun x hx => by cases hx)⟩⟩
end

/-- A whole row stored. -/
theorem wpList_store_cells {w : World} {ops : Array Oper} {rest : List Oper} {o : Oper} {a : Act} {Q : Exit → Act → World → Prop} (hgd : o.guard = none) (ty : TypeId) (x y : Operand) (ho : o.op = .store ty x y) (g off n : Nat) (cs : List Value)
    (hx : a.eval x = .pointer (some ⟨g, off, none⟩)) (hy : a.eval y = .agg cs.toArray) (hn : cs.length = n) (ht : w.there g off n) (hi : (Try.prog.info? ty).map (·.size) = some n) (h1 : ∀ v ∈ cs, v.oneCell' = true)
    (h : ∀ w', w' = w.setCells g off cs → wpList Try.prog ops Q rest (a.put o.dst undef) w') : wpList Try.prog ops Q (o :: rest) a w :=
  wpList_plain hgd fun K hK => wp_store_lie ty x y ho g off n cs hx hy hn ht hi h1 fun w' e _ _ => hK _ _ (h w' e)

theorem has_m1 {D : Own} {m n : Nat} (hm : n ≤ m) : ∀ b, ({ D with m1 := m } : Own).has b → D.has b ∨ n ≤ b := by
  rintro b (e | e | e | e | e | e)
  · exact .inl (.inl e)
  · exact .inr (by simp only at e; omega)
  · exact .inl (.inr (.inr (.inl e)))
  · exact .inl (.inr (.inr (.inr (.inl e))))
  · exact .inl (.inr (.inr (.inr (.inr (.inl e)))))
  · exact .inl (.inr (.inr (.inr (.inr (.inr e)))))
theorem has_mh {D : Own} {m n : Nat} (hm : n ≤ m) : ∀ b, ({ D with mh := m, qv := .slice none 0 0 } : Own).has b → D.has b ∨ n ≤ b := by
  rintro b (e | e | e | e | e | e)
  · exact .inl (.inl e)
  · exact .inl (.inr (.inl e))
  · exact .inl (.inr (.inr (.inl e)))
  · exact .inr (by simp only at e; omega)
  · cases e
  · exact .inl (.inr (.inr (.inr (.inr (.inr e)))))

structure CrsRel (W : World) (D : Own) (S : St) (ks : List Int) (iv : Value) (w : World) (k : Nat) : Prop where
  i : iv = .int .i64 k
  le : k ≤ S.queue.length
  disk : DiskAt w D { S with last := hardK S.now (fun i => surv i ks) S.queue S.last k }
  only : Only (fun b => b = D.p ∨ b = D.m2) W w

set_option maxRecDepth 8000 in
set_option maxHeartbeats 1000000 in
theorem crash_any (w : World) (D : Own) (S : St) (v : Value) (ks : List Int) (h : DiskAt w D S) (hk : S.ok) (hv : Ints w v ks) (hc : Clear v (fun b => b = D.p ∨ b = D.m2)) (hks : ks.length ≤ 1000000000) :
    Calls Try.prog 25 #[.pointer (some ⟨D.p, 0, none⟩), v] w fun e w' => e = .returned (.tuple #[]) ∧ Post D (S.crash ks) w w' := by
  have hdn := h.down
  cases hd : S.down with
  | true =>
    have e : S.crash ks = S := by unfold St.crash; rw [if_pos hd]
    rw [e]
    rw [hd] at hdn
    have HP := Lib.hid (Post.refl h)
    clear h hv hc hd
    go_enter Try.func25, Try.ntmps25
    go_wp2_with fail
    go_returns
    exact ⟨rfl, HP.out⟩
  | false =>
    have e : S.crash ks = ⟨S.dead ks, S.dead ks, [], true, S.lost, 0, []⟩ := by unfold St.crash; rw [if_neg (by rw [hd]; simp)]
    rw [e]
    rw [hd] at hdn
    obtain ⟨A0, c0, eq⟩ := h.que.row.slice
    have hql := hk.qlen
    have hp34 := h.que.ptr
    rw [eq] at hp34
    have EQ := Lib.hid eq
    have H := Lib.hid h
    have HK := Lib.hid hk
    have HV := Lib.hid hv
    have HC := Lib.hid hc
    have HDN := Lib.hid hd
    clear h hk hv hc eq e hd
    go_enter Try.func25, Try.ntmps25
    go_wp2_with fail
    go_loopw [16] (fun iv wr => ∃ k, CrsRel w D S ks iv wr k) (fun iv _ => S.queue.length - (intOf iv).toNat)
    case atStart => exact ⟨0, rfl, Nat.zero_le _, H.out, Only.refl _ _⟩
    case round =>
      obtain ⟨k, ⟨rfl, hkl, hdk, hon⟩⟩ := hrel
      by_cases hlt : k < S.queue.length
      · have hin := HK.out.inq S.queue[k] (List.getElem_mem hlt)
        have hrow := hdk.que.row
        rw [EQ.out] at hrow
        obtain ⟨b, cap, eA, hb0, hb1, _, _, _, _, h7⟩ := hrow.form.resolve_left (by rintro ⟨_, h⟩; simp only at h; omega)
        have hc1 := h7 _ _ (sec_get S.queue k hlt).1
        have hc2 := h7 _ _ (sec_get S.queue k hlt).2
        have ea : A0 = some ⟨b, 0, none⟩ := by injection eA
        subst ea
        clear eA h7 hrow
        have ho1 : Only (fun b => b = D.p ∨ b = D.m2) wr (wr.alloc (.cells #[.int .i64 S.queue[k].1, .int .i64 S.queue[k].2] 76)) := Only.of_below ((Below.refl _ wr).alloc (Nat.le_refl _) _)
        have HSV := Lib.hid (survives_any k (by omega) v ks (wr.alloc (.cells #[.int .i64 S.queue[k].1, .int .i64 S.queue[k].2] 76)) (HV.out.only HC.out (hon.same ho1)) (small_max (by omega)))
        have HH := Lib.hid (harden_any (wr.alloc (.cells #[.int .i64 S.queue[k].1, .int .i64 S.queue[k].2] 76)) D _ S.queue[k].1 S.queue[k].2 (hdk.below ((Below.refl _ wr).alloc (Nat.le_refl _) _)) HK.out.now hin.1 hin.2)
        have hgd : S.queue.getD k (0, 0) = (S.queue[k].1, S.queue[k].2) := by rw [List.getD_eq_getElem?_getD, List.getElem?_eq_getElem hlt]; rfl
        have HDK := Lib.hid hdk
        have HO := Lib.hid hon
        cases hsv : surv k ks with
        | true =>
          have HE : Hid (hardK S.now (fun i => surv i ks) S.queue S.last (k + 1) = hard S.now (S.queue[k].1, S.queue[k].2) (hardK S.now (fun i => surv i ks) S.queue S.last k)) := Lib.hid (by
            conv => lhs; unfold hardK
            rw [if_pos hsv, hgd])
          rw [hsv] at HSV
          clear hdk hon hin ho1 hgd hsv
          generalize S.queue[k].1 = q1 at *
          generalize S.queue[k].2 = q2 at *
          go_wp2_with (first
            | (go_at_call 50; refine HSV.out.mono ?_; rintro e w' ⟨rfl, rfl⟩)
            | (go_at_call 51; refine HH.out.mono ?_; rintro e w2 ⟨rfl, hd2, ho2⟩))
          have HN : Hid (CrsRel w D S ks (.int .i64 ((k + 1 : Nat) : Int)) w2 (k + 1)) := Lib.hid (by
            refine ⟨rfl, hlt, ?_, (HO.out.same (Only.of_below ((Below.refl _ wr).alloc (Nat.le_refl _) _))).same ho2⟩
            rw [HE.out]
            exact hd2)
          clear hd2 ho2
          go_wp2_with fail
          go_roundw
          case rel => exact ⟨k + 1, HN.out⟩
          case measure => simp [intOf]; omega
        | false =>
          have HE : Hid (hardK S.now (fun i => surv i ks) S.queue S.last (k + 1) = hardK S.now (fun i => surv i ks) S.queue S.last k) := Lib.hid (by
            conv => lhs; unfold hardK
            rw [if_neg (by rw [hsv]; simp)])
          rw [hsv] at HSV
          have HN : Hid (CrsRel w D S ks (.int .i64 ((k + 1 : Nat) : Int)) (wr.alloc (.cells #[.int .i64 S.queue[k].1, .int .i64 S.queue[k].2] 76)) (k + 1)) := Lib.hid (by
            refine ⟨rfl, hlt, ?_, hon.same ho1⟩
            rw [HE.out]
            exact hdk.below ((Below.refl _ wr).alloc (Nat.le_refl _) _))
          clear hdk hon hin ho1 hgd hsv HH
          generalize S.queue[k].1 = q1 at *
          generalize S.queue[k].2 = q2 at *
          go_wp2_with (first
            | (go_at_call 50; refine HSV.out.mono ?_; rintro e w' ⟨rfl, rfl⟩))
          go_roundw
          case rel => exact ⟨k + 1, HN.out⟩
          case measure => simp [intOf]; omega
      · have hkl2 : k = S.queue.length := by omega
        have hdead : hardK S.now (fun i => surv i ks) S.queue S.last k = S.dead ks := by rw [hkl2]; rfl
        rw [hdead] at hdk
        have HD := Lib.hid hdk
        have HO := Lib.hid hon
        clear hdk hon hkl2 hdead
        go_wp2_with fail
        refine (ccl_any D.p 17 D.m2 (S.dead ks) wr HD.out.last).mono ?_
        rintro e w2 ⟨m', rfl, hm', hb2, hge2⟩
        have hd2 := HD.out.below hb2
        have hin2 := HD.out.inside
        have hn2 : ¬ D.has m' := fun e => by have := hin2 m' e; omega
        have HD3 := Lib.hid (hd2.new_now hm' hn2)
        have ht3 : w2.there D.p 0 17 := fun j hj => hd2.there j (by omega)
        have HB2 := Lib.hid hb2
        have HG3 := Lib.hid (grown_cells D.p (conL m' (S.dead ks)) 0 w2)
        have hs2 := hb2.size
        clear hd2 hb2 hm' hin2 hn2
        go_wp2_with ((refine wpList_store_cells rfl 55 _ _ rfl D.p 0 17 (conL m' (S.dead ks)) rfl rfl (conL_len _ _) ht3 (by kernel_rfl) (conL_one _ _) ?_; intro w3 hw3; rw [← hw3] at HD3 HG3; clear hw3 ht3))
        refine (newQueue_any w3).mono ?_
        rintro e w4 ⟨m4, rfl, hm4, hb4, hge4⟩
        have hd4 := HD3.out.below hb4
        have hin4 := HD3.out.inside
        have hn4 : ¬ ({ D with m1 := m' } : Own).has m4 := fun e => by have := hin4 m4 e; omega
        have HD5 := Lib.hid (hd4.new_que hm4 hn4)
        have ht5 : w4.there D.p 34 2 := fun j hj => by have := hd4.there (34 + j) (by omega); rwa [Nat.zero_add] at this
        have HB4 := Lib.hid hb4
        have hs3 := HG3.out.size
        have hs4 := hb4.size
        have HG5 := Lib.hid (grown_cells D.p [.slice none 0 0, .map (some m4)] 34 w4)
        clear hd4 hb4 hm4 hin4 hn4
        go_wp2_with ((refine wpList_store_cells rfl 60 _ _ rfl D.p 34 2 [.slice none 0 0, .map (some m4)] rfl rfl rfl ht5 (by kernel_rfl) (by simp [Value.oneCell']) ?_; intro w5 hw5; rw [← hw5] at HD5 HG5; clear hw5 ht5))
        refine (arm_any HD5.out 0 (.slice none 0 0) [] ⟨none, 0, rfl, fun k x h => by simp at h⟩ (Clear.nil _) (by simp)).mono ?_
        rintro e w6 ⟨rfl, hp6⟩
        obtain ⟨⟨D6, hd6, hp6, hh6⟩, ho6⟩ := hp6
        simp only at hp6
        have hdc := hd6.down
        have hfz := hd6.free (j := 36) (by omega)
        rw [hp6] at hdc hfz
        have HP : Hid (Post D ⟨S.dead ks, S.dead ks, [], true, S.lost, 0, []⟩ w (w6.setCell ⟨D.p, 36, none⟩ (.bool true))) := Lib.hid (by
          have o2 : Only D.has wr w2 := Only.of_below HB2.out
          have o3 : Only D.has w2 w3 := Only.of_grown HG3.out (.inl (.inl rfl))
          have o4 : Only D.has w3 w4 := Only.of_below HB4.out
          have o5 : Only D.has w4 w5 := Only.of_grown HG5.out (.inl (.inl rfl))
          have o0 : Only D.has w wr := HO.out.mono fun x hx => .inl (by rcases hx with e | e; exact .inl e; exact .inr (.inr (.inl e)))
          have hsz := o0.size
          have o25 := ((((o0.same o2).same o3).same o4).same o5)
          have hh5 : ∀ b, ({ ({ D with m1 := m' } : Own) with mh := m4, qv := .slice none 0 0 } : Own).has b → D.has b ∨ w.heap.size ≤ b := fun b hb => by
            rcases has_mh (n := w.heap.size) (by omega) b hb with e | e
            · exact has_m1 (n := w.heap.size) (by omega) b e
            · exact .inr e
          have o6 := o25.trans ho6 hh5
          refine ⟨⟨D6, ?_, hp6, fun b hb => ?_⟩, o6.same (Only.set _ _ _ _ (.inl rfl))⟩
          · have := hd6.set_down true
            rw [hp6] at this
            exact this
          · rcases hh6 b hb with e | e
            · exact hh5 b e
            · exact .inr (Nat.le_trans o25.size e))
        clear hd6 hp6 hh6 ho6
        go_wp2_with fail
        go_returns
        exact ⟨rfl, HP.out⟩
end Dsk
end Go.Proofs.Ytgaclibokapfaaa

/- Package disk: settle, crash, count, write; the calls; disks of a statement's own. -/
import Derived.Test.YtpogoalbnbekaaaDoorDskC
import Derived.Test.YtpogoalbnbekaaaDoorPlA

/-! Sectors made durable: harden, settle. -/
namespace Go.Proofs.YtpogoalbnbekaaaDoor
open Go.RowKit Wire
set_option linter.unusedVariables false
set_option linter.unusedSimpArgs false
open Txt
namespace Dsk

/-- A disk lies there, and a sector in a block of its own. -/
structure Boxed (w : World) (D : Own) (S : St) (A f n : Nat) : Prop where
  disk : DiskAt w D S
  box : Blk w A 88 #[.int .i64 f, .int .i64 n]
  apart : ¬ D.has A
abbrev Lh (w0 : World) (A : Nat) (f n : Nat) (w' : World) : Prop := w'.cell? ⟨A, 0, none⟩ = some (.int .i64 f) ∧ w'.cell? ⟨A, 1, none⟩ = some (.int .i64 n)

set_option maxRecDepth 8000 in
set_option maxHeartbeats 1000000 in
theorem harden_any (w : World) (D : Own) (S : St) (f n : Nat) (h : DiskAt w D S) (hS : S.now.ok) (hf : f < 16) (hn : 64 * n < S.now.size f) :
    Calls Tryd.prog 44 #[.pointer (some ⟨D.p, 0, none⟩), .agg #[.int .i64 f, .int .i64 n]] w fun e w' => e = .returned (.tuple #[]) ∧ DiskAt w' D { S with last := hard S.now (f, n) S.last } ∧ Only (fun b => b = D.p ∨ b = D.m2) w w' := by
  have hroom := hS.room f
  have b0 : Below w.heap.size w (w.alloc (.cells #[.int .i64 f, .int .i64 n] 88)).drew := below_new _
  have hx0 : Blk (w.alloc (.cells #[.int .i64 f, .int .i64 n] 88)).drew w.heap.size 88 #[.int .i64 f, .int .i64 n] := Blk.fresh w _ _
  have HX : Hid (Lh w w.heap.size f n (w.alloc (.cells #[.int .i64 f, .int .i64 n] 88)).drew) := Lib.hid ⟨by rw [hx0.at]; rfl, by rw [hx0.at]; rfl⟩
  have hd1 := h.below b0
  have HD1 := Lib.hid hd1
  have HB0 := Lib.hid b0
  have HX0 := Lib.hid hx0
  have hz : (w.alloc (.cells #[.int .i64 f, .int .i64 n] 88)).drew.heap.size = w.heap.size + 1 := by simp
  have HZ := Lib.hid hz
  have H := Lib.hid h
  have hni : (0 : Int) ≤ n ∧ (n : Int) * 64 ≤ 16777216 := by omega
  have hw64 : IntKind.i64.wrap ((n : Int) * 64) = (n : Int) * 64 := IntWalk.i64_in _ (by omega)
  clear h hx0 hd1 b0 hz
  go_enter Tryd.func44, Tryd.ntmps44
  go_wp2_with fail
  refine wp_region_sorted (Lh w w.heap.size f n) [0, 1, 2, 3, 4, 5, 6, 7, 8, 9, 10, 11] [12, 13] (by kernel_rfl) (by kernel_rfl) HX.out ?_
  repeat refine RD.next rfl rfl (by intro w' hS; simp only [Lh] at hS; go_simp; with_reducible rfl) ?_
  refine RD.done ?_
  clear hw64
  generalize (w.alloc (.cells #[.int .i64 f, .int .i64 n] 88)).drew = w1 at *
  refine CH.next rfl rfl fun K hK => ?_
  go_simp
  have hrd := read_any D.p 0 D.m1 f (64 * n) 64 S.now w1 HD1.out.now hroom hf (by omega) (by omega)
  rw [show ((64 * n : Nat) : Int) = (n : Int) * 64 from by omega] at hrd
  refine hrd.mono ?_
  rintro e w2 ⟨rfl, hb2⟩
  have HD2 := Lib.hid (HD1.out.below hb2)
  have HX2 : Hid (Blk w2 w.heap.size 88 #[.int .i64 f, .int .i64 n]) := Lib.hid (HX0.out.under hb2 HX0.out.inside)
  have HB2 := Lib.hid (HB0.out.trans (hb2.mono (by have := HZ.out; omega)))
  simp only [Oper.upon]
  refine hK _ _ ⟨by rw [HX2.out.at]; rfl, by rw [HX2.out.at]; rfl⟩ ?_
  clear hK hb2 hrd
  refine CH.next rfl rfl fun K hK => ?_
  go_simp
  have hlen : (S.now.read f (64 * n) 64).length = min 64 (S.now.size f - 64 * n) := Con.read_len _ _ _ _
  have hpt := put_any D.p 17 D.m2 f n 0 S.last ⟨(S.now.read f (64 * n) 64).toArray⟩ w2 HD2.out.last hf (by omega) (by omega) (by rw [bytes_size]; omega) (by rw [bytes_size]; exact small_max (by omega)) HD2.out.sep.p2
  refine hpt.mono ?_
  rintro e w3 ⟨k, rfl, hk, hpp⟩
  rw [bytes_size] at hk
  have hke : k = (S.now.read f (64 * n) 64).length := by omega
  have hpe : PutPost D.p 17 D.m2 (hard S.now (f, n) S.last) w2 w3 := by
    unfold hard
    rw [hke, bl_mk, List.take_length] at hpp
    exact hpp
  have HP : Hid (DiskAt w3 D { S with last := hard S.now (f, n) S.last } ∧ Only (fun b => b = D.p ∨ b = D.m2) w w3) := Lib.hid ⟨HD2.out.put_last hpe, (Only.of_below HB2.out).same hpe.only⟩
  have hA : w3.heap[w.heap.size]? = w2.heap[w.heap.size]? := hpe.only.block _ HX2.out.inside (by have := H.out.lt; have := H.out.last.map.lt; rintro (e | e) <;> omega)
  have HX3 : Blk w3 w.heap.size 88 #[.int .i64 f, .int .i64 n] := hA.trans HX2.out
  simp only [Oper.upon]
  refine hK _ _ ⟨by rw [HX3.at]; rfl, by rw [HX3.at]; rfl⟩ ?_
  clear hK hpe hpp hk hke HX3 hA
  refine CH.done (NoPanic.normal ?_)
  try go_frame
  go_wp2_with fail
  go_returns
  exact ⟨rfl, HP.out⟩

theorem DiskAt.put_que {w w' : World} {D : Own} {S : St} {l : List (Nat × Nat)} {v' : Value} (h : DiskAt w D S) (hq : QueAt w' D.p 34 D.mh v' l) (hk : Keeps w w' D.p 34 2) (ho : Only (fun b => b = D.p ∨ b = D.mh ∨ D.qv.ownBlock = some b) w w') (hv : v'.ownBlock = D.qv.ownBlock ∨ ∀ b, v'.ownBlock = some b → w.heap.size ≤ b) :
    DiskAt w' { D with qv := v' } { S with queue := l } := by
  have e : ∀ b, b ≠ D.p → b ≠ D.mh → D.qv.ownBlock ≠ some b → b < w.heap.size → w'.heap[b]? = w.heap[b]? := fun b h1 h2 h3 h4 => ho.block b h4 fun e => by rcases e with e | e | e; exact h1 e; exact h2 e; exact h3 e
  have c : ∀ j, 36 ≤ j → w'.cell? ⟨D.p, j, none⟩ = w.cell? ⟨D.p, j, none⟩ := fun j hj => (hk j (by omega)).1
  have hvs : ∀ b, v'.ownBlock = some b → b ≠ D.p ∧ b ≠ D.m1 ∧ b ≠ D.m2 ∧ b ≠ D.mh := fun b hb => by
    rcases hv with h1 | h1
    · exact h.sep.q b (h1 ▸ hb)
    · have := h1 b hb
      have := h.lt
      have := h.now.map.lt
      have := h.last.map.lt
      have := h.que.map.lt
      omega
  refine ⟨con_keeps h.now hk (by omega) (e _ (fun e => h.sep.p1 e.symm) h.sep.m1h (fun e => (h.sep.q _ e).2.1 rfl) h.now.map.lt), con_keeps h.last hk (by omega) (e _ (fun e => h.sep.p2 e.symm) h.sep.m2h (fun e => (h.sep.q _ e).2.2.1 rfl) h.last.map.lt), hq,
    (c 36 (by omega)).trans h.down, (c 37 (by omega)).trans h.lost, (c 38 (by omega)).trans h.calls, (c 39 (by omega)).trans h.keep, h.kept.keep ho.size (fun b hb => e b (h.sep.k b hb).1 (h.sep.k b hb).2.2.2 (fun e => h.sep.qk b e hb) (h.kept.block b hb).2), fun j hj => ?_,
    ⟨h.sep.p1, h.sep.p2, h.sep.ph, h.sep.m12, h.sep.m1h, h.sep.m2h, hvs, h.sep.k, fun x hx hy => ?_⟩⟩
  · rw [Nat.zero_add]
    by_cases hj2 : j < 34 ∨ 36 ≤ j
    · have := h.there j hj
      rw [Nat.zero_add, ← (hk j (by omega)).1, ← (hk j (by omega)).2] at this
      exact this
    · have := hq.there (j - 34) (by omega)
      rw [show 34 + (j - 34) = j from by omega] at this
      exact this
  · rcases hv with h1 | h1
    · exact h.sep.qk x (h1 ▸ hx) hy
    · have := h1 x hx
      have := (h.kept.block x hy).2
      omega
theorem has_qv {D : Own} {v' : Value} {n : Nat} (hv : v'.ownBlock = D.qv.ownBlock ∨ ∀ b, v'.ownBlock = some b → n ≤ b) : ∀ b, ({ D with qv := v' } : Own).has b → D.has b ∨ n ≤ b := by
  rintro b (e | e | e | e | e | e)
  · exact .inl (.inl e)
  · exact .inl (.inr (.inl e))
  · exact .inl (.inr (.inr (.inl e)))
  · exact .inl (.inr (.inr (.inr (.inl e))))
  · rcases hv with h | h
    · exact .inl (.inr (.inr (.inr (.inr (.inl (h ▸ e))))))
    · exact .inr (h b e)
  · exact .inl (.inr (.inr (.inr (.inr (.inr e)))))

/-- The head of a round of settle. -/
structure StlRel (W : World) (D D1 : Own) (S : St) (f : Nat) (tv : Value) (T : List (Nat × Nat)) (iv : Value) (w : World) (k : Nat) : Prop where
  i : iv = .int .i64 k
  le : k ≤ T.length
  disk : DiskAt w D1 { S with last := hardK S.now (fun _ => true) T S.last k, queue := S.queue.filter (noF f) }
  row : Grow w W.heap.size 2 tv T.length (T.flatMap secL)
  only : Only D.has W w

set_option maxRecDepth 8000 in
set_option maxHeartbeats 1000000 in
theorem settle_any (w : World) (D : Own) (S : St) (f : Nat) (h : DiskAt w D S) (hk : S.ok) (hf : f < 16) :
    Calls Tryd.prog 69 #[.pointer (some ⟨D.p, 0, none⟩), .int .i64 f] w fun e w' => e = .returned (.tuple #[]) ∧ Post D (S.settle f) w w' := by
  have hql := hk.qlen
  have hsec := hk.sec
  have HTK := Lib.hid (take_any D.p 34 D.mh f D.qv S.queue w h.que hf (by omega) (fun p hp => by have := hsec p hp; omega) h.sep.ph (fun e => (h.sep.q _ e).1 rfl) (fun e => (h.sep.q _ e).2.2.2 rfl))
  have H := Lib.hid h
  have HKK := Lib.hid hk
  obtain ⟨T, hT⟩ : ∃ T, T = S.queue.filter (isF' f) := ⟨_, rfl⟩
  have hTl : T.length ≤ 16777216 := by rw [hT]; exact Nat.le_trans (List.length_filter_le _ _) hql
  have HTin : Hid (∀ p ∈ T, p.1 = f ∧ 64 * p.2 < S.now.size f) := Lib.hid (fun p hp => by
    rw [hT] at hp
    obtain ⟨h1, h2⟩ := List.mem_filter.1 hp
    have h3 := hk.inq p h1
    have h4 : p.1 = f := by simpa using h2
    rw [h4] at h3
    exact ⟨h4, h3.2⟩)
  have HT := Lib.hid hT
  have HSE : Hid (S.settle f = { S with last := hardK S.now (fun _ => true) T S.last T.length, queue := S.queue.filter (noF f) }) := Lib.hid (by rw [hT]; rfl)
  clear h hk hsec hql hT
  go_enter Tryd.func69, Tryd.ntmps69
  go_wp2_with fail
  refine HTK.out.mono ?_
  rintro e w1 ⟨tv, rfl, hp⟩
  obtain ⟨v', hq', hv', hap'⟩ := hp.que
  have hown1 : Only (fun b => b = D.p ∨ b = D.mh ∨ D.qv.ownBlock = some b) w w1 := hp.only.mono fun x hx => .inl (by rcases hx with e | e; exact .inl e; exact .inr (.inl e))
  have HD1 := Lib.hid (H.out.put_que hq' hp.keep hown1 (.inr hv'))
  have HO1 : Hid (Only D.has w w1) := Lib.hid (hp.only.mono fun x hx => .inl (by rcases hx with e | e; exact .inl e; exact .inr (.inr (.inr (.inl e)))))
  have HHAS := Lib.hid (has_qv (D := D) (v' := v') (n := w.heap.size) (.inr hv'))
  have hrow := hp.took
  rw [← HT.out] at hrow
  have HNT : Hid (∀ b, tv.ownBlock = some b → ¬ ({ D with qv := v' } : Own).has b) := Lib.hid (fun b hb hh => by
    have hge := (hrow.block b hb).1
    rcases hh with e | e | e | e | e | e
    · have := H.out.lt; simp only at e; omega
    · have := H.out.now.map.lt; simp only at e; omega
    · have := H.out.last.map.lt; simp only at e; omega
    · have := H.out.que.map.lt; simp only at e; omega
    · exact hap' b hb e
    · have := (H.out.kept.block b e).2; omega)
  obtain ⟨A0, c0, rfl⟩ := hrow.slice
  have HROW := Lib.hid hrow
  clear hp hq' hv' hap' hown1 hrow
  go_wp2_with fail
  go_loopw [12] (fun iv wr => ∃ k, StlRel w D { D with qv := v' } S f (.slice A0 T.length c0) T iv wr k) (fun iv _ => T.length - (intOf iv).toNat)
  case atStart => exact ⟨0, rfl, Nat.zero_le _, HD1.out, HROW.out, HO1.out⟩
  case round =>
    obtain ⟨k, ⟨rfl, hkl, hdk, hrow, hon⟩⟩ := hrel
    by_cases hlt : k < T.length
    · have hin := HTin.out T[k] (List.getElem_mem hlt)
      obtain ⟨b, cap, eA, hb0, hb1, _, _, _, _, h7⟩ := hrow.form.resolve_left (by rintro ⟨_, h⟩; omega)
      have hc1 := h7 _ _ (sec_get T k hlt).1
      have hc2 := h7 _ _ (sec_get T k hlt).2
      have ea : A0 = some ⟨b, 0, none⟩ := by injection eA
      subst ea
      clear eA
      have HDK := Lib.hid hdk
      have HR := Lib.hid hrow
      have HO := Lib.hid hon
      have HK1 : Hid (hardK S.now (fun _ => true) T S.last (k + 1) = hard S.now T[k] (hardK S.now (fun _ => true) T S.last k)) := Lib.hid (by
        conv => lhs; unfold hardK
        rw [if_pos rfl, List.getD_eq_getElem?_getD, List.getElem?_eq_getElem hlt]
        rfl)
      clear hdk hrow hon h7
      rw [hin.1] at hc1
      have HH := Lib.hid (harden_any (wr.alloc (.cells #[.int .i64 f, .int .i64 T[k].2] 88)) { D with qv := v' } _ f T[k].2 (HDK.out.below ((Below.refl _ wr).alloc (Nat.le_refl _) _)) HKK.out.now hf hin.2)
      have HE : Hid (hard S.now (f, T[k].2) (hardK S.now (fun _ => true) T S.last k) = hardK S.now (fun _ => true) T S.last (k + 1)) := Lib.hid (by rw [HK1.out, ← hin.1])
      clear hin HK1
      generalize T[k].2 = q at *
      go_wp2_with ((go_at_call 44; refine HH.out.mono ?_; rintro e w2 ⟨rfl, hd2, ho2⟩))
      have HN : Hid (StlRel w D { D with qv := v' } S f (.slice (some ⟨b, 0, none⟩) T.length c0) T (.int .i64 ((k + 1 : Nat) : Int)) w2 (k + 1)) := Lib.hid (by
        have o1 : Only (fun b => b = D.p ∨ b = D.m2) wr w2 := (Only.of_below ((Below.refl _ wr).alloc (Nat.le_refl _) _)).same ho2
        refine ⟨rfl, hlt, ?_, ?_, ?_⟩
        · rw [HE.out] at hd2
          exact hd2
        · refine HR.out.keep o1.size fun x hx => o1.block x (HR.out.block x hx).2 ?_
          have hnh := HNT.out x hx
          rintro (e | e)
          · exact hnh (.inl e)
          · exact hnh (.inr (.inr (.inl e)))
        · exact HO.out.same (o1.mono fun x hx => .inl (by rcases hx with e | e; exact .inl e; exact .inr (.inr (.inl e)))))
      clear hd2 ho2
      go_wp2_with fail
      go_roundw
      case rel => exact ⟨k + 1, HN.out⟩
      case measure => simp [intOf]; omega
    · have hkl2 : k = T.length := by omega
      have HP : Hid (Post D (S.settle f) w wr) := Lib.hid (by
        rw [HSE.out, ← hkl2]
        exact ⟨⟨_, hdk, rfl, HHAS.out⟩, hon⟩)
      clear hdk hrow hon hkl2
      go_wp2_with fail
      go_returns
      exact ⟨rfl, HP.out⟩
end Dsk
end Go.Proofs.YtpogoalbnbekaaaDoor

/-! A crash. -/
namespace Go.Proofs.YtpogoalbnbekaaaDoor
open Go.RowKit Wire
set_option linter.unusedVariables false
set_option linter.unusedSimpArgs false
open Txt
namespace Dsk

section
variable {w w' : World} {D : Own} {S : St}
theorem set_keeps {g o n : Nat} {cs : List Value} (hn : cs.length = n) : Keeps w (w.setCells g o cs) g o n := fun j hj =>
  ⟨World.cell?_setCells_out g cs o w ⟨g, j, none⟩ (fun _ _ => by show j < o ∨ _ ≤ j; omega), World.frozen?_setCells _ _ _ _ _⟩

/-- The files are replaced as a whole. -/
theorem DiskAt.new_now {C : Con} {m' : Nat} (h : DiskAt w D S) (hm : MapC w m' C) (hn : ¬ D.has m') : DiskAt (w.setCells D.p 0 (conL m' C)) { D with m1 := m' } { S with now := C } := by
  have hg := grown_cells D.p (conL m' C) 0 w
  have e : ∀ b, b ≠ D.p → b < w.heap.size → (w.setCells D.p 0 (conL m' C)).heap[b]? = w.heap[b]? := fun b h1 h2 => hg.block b h2 (by intro e; injection e with e; exact h1 e)
  have hk : Keeps w (w.setCells D.p 0 (conL m' C)) D.p 0 17 := set_keeps (conL_len m' C)
  have c : ∀ j, 34 ≤ j → (w.setCells D.p 0 (conL m' C)).cell? ⟨D.p, j, none⟩ = w.cell? ⟨D.p, j, none⟩ := fun j hj => (hk j (by omega)).1
  have hne : ∀ b, D.has b → b ≠ m' := fun b hb e => hn (e ▸ hb)
  have hl := Lie.all (w := w) (g := D.p) (o := 0) (cs := conL m' C) (n := 17) (fun j hj => h.there j (by omega)) (conL_len m' C)
  refine ⟨⟨hl.cells, by have := hl.there; rwa [conL_len] at this, hm.keep (e m' (fun e => hn (.inl e)) hm.lt)⟩, con_keeps h.last hk (by omega) (e _ (fun e => h.sep.p2 e.symm) h.last.map.lt), que_keeps h.que hk (by omega) hg.size (e _ (fun e => h.sep.ph e.symm) h.que.map.lt) (fun b hb => e b (h.sep.q b hb).1 (h.que.row.block b hb).2),
    (c 36 (by omega)).trans h.down, (c 37 (by omega)).trans h.lost, (c 38 (by omega)).trans h.calls, (c 39 (by omega)).trans h.keep, h.kept.keep hg.size (fun b hb => e b (h.sep.k b hb).1 (h.kept.block b hb).2), there_set h.there,
    ⟨hne _ (.inl rfl), h.sep.p2, h.sep.ph, fun e => hne _ (.inr (.inr (.inl rfl))) e.symm, fun e => hne _ (.inr (.inr (.inr (.inl rfl)))) e.symm, h.sep.m2h,
      fun b hb => ⟨(h.sep.q b hb).1, hne b (.inr (.inr (.inr (.inr (.inl hb))))), (h.sep.q b hb).2.2⟩, fun b hb => ⟨(h.sep.k b hb).1, hne b (.inr (.inr (.inr (.inr (.inr hb))))), (h.sep.k b hb).2.2⟩, h.sep.qk⟩⟩

/-- The queue is replaced by an empty one. -/
theorem DiskAt.new_que {m' : Nat} (h : DiskAt w D S) (hm : IsMap w m' (fun _ _ => none)) (hn : ¬ D.has m') : DiskAt (w.setCells D.p 34 [.slice none 0 0, .map (some m')]) { D with mh := m', qv := .slice none 0 0 } { S with queue := [] } := by
  have hg := grown_cells D.p [.slice none 0 0, .map (some m')] 34 w
  have e : ∀ b, b ≠ D.p → b < w.heap.size → (w.setCells D.p 34 [.slice none 0 0, .map (some m')]).heap[b]? = w.heap[b]? := fun b h1 h2 => hg.block b h2 (by intro e; injection e with e; exact h1 e)
  have hk : Keeps w (w.setCells D.p 34 [.slice none 0 0, .map (some m')]) D.p 34 2 := set_keeps rfl
  have c : ∀ j, 36 ≤ j → (w.setCells D.p 34 [.slice none 0 0, .map (some m')]).cell? ⟨D.p, j, none⟩ = w.cell? ⟨D.p, j, none⟩ := fun j hj => (hk j (by omega)).1
  have hne : ∀ b, D.has b → b ≠ m' := fun b hb e => hn (e ▸ hb)
  have hl := Lie.all (w := w) (g := D.p) (o := 34) (cs := [.slice none 0 0, .map (some m')]) (n := 2) (fun j hj => by have := h.there (34 + j) (by omega); rwa [Nat.zero_add] at this) rfl
  have hmap : (fun _ _ => none : Nat → Nat → Option Value) = hasL [] := by funext f n; unfold hasL; simp
  refine ⟨con_keeps h.now hk (by omega) (e _ (fun e => h.sep.p1 e.symm) h.now.map.lt), con_keeps h.last hk (by omega) (e _ (fun e => h.sep.p2 e.symm) h.last.map.lt), ⟨hl.cells 0 _ rfl, hl.cells 1 _ rfl, hl.there, Grow.nil _ _ _, by rw [← hmap]; exact hm.keep (e m' (fun e => hn (.inl e)) hm.lt)⟩,
    (c 36 (by omega)).trans h.down, (c 37 (by omega)).trans h.lost, (c 38 (by omega)).trans h.calls, (c 39 (by omega)).trans h.keep, h.kept.keep hg.size (fun b hb => e b (h.sep.k b hb).1 (h.kept.block b hb).2), there_set h.there,
    ⟨h.sep.p1, h.sep.p2, hne _ (.inl rfl), h.sep.m12, hne _ (.inr (.inl rfl)), hne _ (.inr (.inr (.inl rfl))), (fun b hb => by cases hb), fun b hb => ⟨(h.sep.k b hb).1, (h.sep.k b hb).2.1, (h.sep.k b hb).2.2.1, hne b (.inr (.inr (.inr (.inr (.inr hb)))))⟩, (fun x hx => by cases hx)⟩⟩
end

/-- A whole row stored. -/
theorem wpList_store_cells {w : World} {ops : Array Oper} {rest : List Oper} {o : Oper} {a : Act} {Q : Exit → Act → World → Prop} (hgd : o.guard = none) (ty : TypeId) (x y : Operand) (ho : o.op = .store ty x y) (g off n : Nat) (cs : List Value)
    (hx : a.eval x = .pointer (some ⟨g, off, none⟩)) (hy : a.eval y = .agg cs.toArray) (hn : cs.length = n) (ht : w.there g off n) (hi : (Tryd.prog.info? ty).map (·.size) = some n) (h1 : ∀ v ∈ cs, v.oneCell' = true)
    (h : ∀ w', w' = w.setCells g off cs → wpList Tryd.prog ops Q rest (a.put o.dst undef) w') : wpList Tryd.prog ops Q (o :: rest) a w :=
  wpList_plain hgd fun K hK => wp_store_lie ty x y ho g off n cs hx hy hn ht hi h1 fun w' e _ _ => hK _ _ (h w' e)

theorem has_m1 {D : Own} {m n : Nat} (hm : n ≤ m) : ∀ b, ({ D with m1 := m } : Own).has b → D.has b ∨ n ≤ b := by
  rintro b (e | e | e | e | e | e)
  · exact .inl (.inl e)
  · exact .inr (by simp only at e; omega)
  · exact .inl (.inr (.inr (.inl e)))
  · exact .inl (.inr (.inr (.inr (.inl e))))
  · exact .inl (.inr (.inr (.inr (.inr (.inl e)))))
  · exact .inl (.inr (.inr (.inr (.inr (.inr e)))))
theorem has_mh {D : Own} {m n : Nat} (hm : n ≤ m) : ∀ b, ({ D with mh := m, qv := .slice none 0 0 } : Own).has b → D.has b ∨ n ≤ b := by
  rintro b (e | e | e | e | e | e)
  · exact .inl (.inl e)
  · exact .inl (.inr (.inl e))
  · exact .inl (.inr (.inr (.inl e)))
  · exact .inr (by simp only at e; omega)
  · cases e
  · exact .inl (.inr (.inr (.inr (.inr (.inr e)))))

structure CrsRel (W : World) (D : Own) (S : St) (ks : List Int) (iv : Value) (w : World) (k : Nat) : Prop where
  i : iv = .int .i64 k
  le : k ≤ S.queue.length
  disk : DiskAt w D { S with last := hardK S.now (fun i => surv i ks) S.queue S.last k }
  only : Only (fun b => b = D.p ∨ b = D.m2) W w

set_option maxRecDepth 8000 in
set_option maxHeartbeats 1000000 in
theorem crash_any (w : World) (D : Own) (S : St) (v : Value) (ks : List Int) (h : DiskAt w D S) (hk : S.ok) (hv : Ints w v ks) (hc : Clear v (fun b => b = D.p ∨ b = D.m2)) (hks : ks.length ≤ 1000000000) :
    Calls Tryd.prog 19 #[.pointer (some ⟨D.p, 0, none⟩), v] w fun e w' => e = .returned (.tuple #[]) ∧ Post D (S.crash ks) w w' := by
  have hdn := h.down
  cases hd : S.down with
  | true =>
    have e : S.crash ks = S := by unfold St.crash; rw [if_pos hd]
    rw [e]
    rw [hd] at hdn
    have HP := Lib.hid (Post.refl h)
    clear h hv hc hd
    go_enter Tryd.func19, Tryd.ntmps19
    go_wp2_with fail
    go_returns
    exact ⟨rfl, HP.out⟩
  | false =>
    have e : S.crash ks = ⟨S.dead ks, S.dead ks, [], true, S.lost, 0, []⟩ := by unfold St.crash; rw [if_neg (by rw [hd]; simp)]
    rw [e]
    rw [hd] at hdn
    obtain ⟨A0, c0, eq⟩ := h.que.row.slice
    have hql := hk.qlen
    have hp34 := h.que.ptr
    rw [eq] at hp34
    have EQ := Lib.hid eq
    have H := Lib.hid h
    have HK := Lib.hid hk
    have HV := Lib.hid hv
    have HC := Lib.hid hc
    have HDN := Lib.hid hd
    clear h hk hv hc eq e hd
    go_enter Tryd.func19, Tryd.ntmps19
    go_wp2_with fail
    go_loopw [16] (fun iv wr => ∃ k, CrsRel w D S ks iv wr k) (fun iv _ => S.queue.length - (intOf iv).toNat)
    case atStart => exact ⟨0, rfl, Nat.zero_le _, H.out, Only.refl _ _⟩
    case round =>
      obtain ⟨k, ⟨rfl, hkl, hdk, hon⟩⟩ := hrel
      by_cases hlt : k < S.queue.length
      · have hin := HK.out.inq S.queue[k] (List.getElem_mem hlt)
        have hrow := hdk.que.row
        rw [EQ.out] at hrow
        obtain ⟨b, cap, eA, hb0, hb1, _, _, _, _, h7⟩ := hrow.form.resolve_left (by rintro ⟨_, h⟩; simp only at h; omega)
        have hc1 := h7 _ _ (sec_get S.queue k hlt).1
        have hc2 := h7 _ _ (sec_get S.queue k hlt).2
        have ea : A0 = some ⟨b, 0, none⟩ := by injection eA
        subst ea
        clear eA h7 hrow
        have ho1 : Only (fun b => b = D.p ∨ b = D.m2) wr (wr.alloc (.cells #[.int .i64 S.queue[k].1, .int .i64 S.queue[k].2] 88)) := Only.of_below ((Below.refl _ wr).alloc (Nat.le_refl _) _)
        have HSV := Lib.hid (survives_any k (by omega) v ks (wr.alloc (.cells #[.int .i64 S.queue[k].1, .int .i64 S.queue[k].2] 88)) (HV.out.only HC.out (hon.same ho1)) (small_max (by omega)))
        have HH := Lib.hid (harden_any (wr.alloc (.cells #[.int .i64 S.queue[k].1, .int .i64 S.queue[k].2] 88)) D _ S.queue[k].1 S.queue[k].2 (hdk.below ((Below.refl _ wr).alloc (Nat.le_refl _) _)) HK.out.now hin.1 hin.2)
        have hgd : S.queue.getD k (0, 0) = (S.queue[k].1, S.queue[k].2) := by rw [List.getD_eq_getElem?_getD, List.getElem?_eq_getElem hlt]; rfl
        have HDK := Lib.hid hdk
        have HO := Lib.hid hon
        cases hsv : surv k ks with
        | true =>
          have HE : Hid (hardK S.now (fun i => surv i ks) S.queue S.last (k + 1) = hard S.now (S.queue[k].1, S.queue[k].2) (hardK S.now (fun i => surv i ks) S.queue S.last k)) := Lib.hid (by
            conv => lhs; unfold hardK
            rw [if_pos hsv, hgd])
          rw [hsv] at HSV
          clear hdk hon hin ho1 hgd hsv
          generalize S.queue[k].1 = q1 at *
          generalize S.queue[k].2 = q2 at *
          go_wp2_with (first
            | (go_at_call 43; refine HSV.out.mono ?_; rintro e w' ⟨rfl, rfl⟩)
            | (go_at_call 44; refine HH.out.mono ?_; rintro e w2 ⟨rfl, hd2, ho2⟩))
          have HN : Hid (CrsRel w D S ks (.int .i64 ((k + 1 : Nat) : Int)) w2 (k + 1)) := Lib.hid (by
            refine ⟨rfl, hlt, ?_, (HO.out.same (Only.of_below ((Below.refl _ wr).alloc (Nat.le_refl _) _))).same ho2⟩
            rw [HE.out]
            exact hd2)
          clear hd2 ho2
          go_wp2_with fail
          go_roundw
          case rel => exact ⟨k + 1, HN.out⟩
          case measure => simp [intOf]; omega
        | false =>
          have HE : Hid (hardK S.now (fun i => surv i ks) S.queue S.last (k + 1) = hardK S.now (fun i => surv i ks) S.queue S.last k) := Lib.hid (by
            conv => lhs; unfold hardK
            rw [if_neg (by rw [hsv]; simp)])
          rw [hsv] at HSV
          have HN : Hid (CrsRel w D S ks (.int .i64 ((k + 1 : Nat) : Int)) (wr.alloc (.cells #[.int .i64 S.queue[k].1, .int .i64 S.queue[k].2] 88)) (k + 1)) := Lib.hid (by
            refine ⟨rfl, hlt, ?_, hon.same ho1⟩
            rw [HE.out]
            exact hdk.below ((Below.refl _ wr).alloc (Nat.le_refl _) _))
          clear hdk hon hin ho1 hgd hsv HH
          generalize S.queue[k].1 = q1 at *
          generalize S.queue[k].2 = q2 at *
          go_wp2_with (first
            | (go_at_call 43; refine HSV.out.mono ?_; rintro e w' ⟨rfl, rfl⟩))
          go_roundw
          case rel => exact ⟨k + 1, HN.out⟩
          case measure => simp [intOf]; omega
      · have hkl2 : k = S.queue.length := by omega
        have hdead : hardK S.now (fun i => surv i ks) S.queue S.last k = S.dead ks := by rw [hkl2]; rfl
        rw [hdead] at hdk
        have HD := Lib.hid hdk
        have HO := Lib.hid hon
        clear hdk hon hkl2 hdead
        go_wp2_with fail
        refine (ccl_any D.p 17 D.m2 (S.dead ks) wr HD.out.last).mono ?_
        rintro e w2 ⟨m', rfl, hm', hb2, hge2⟩
        have hd2 := HD.out.below hb2
        have hin2 := HD.out.inside
        have hn2 : ¬ D.has m' := fun e => by have := hin2 m' e; omega
        have HD3 := Lib.hid (hd2.new_now hm' hn2)
        have ht3 : w2.there D.p 0 17 := fun j hj => hd2.there j (by omega)
        have HB2 := Lib.hid hb2
        have HG3 := Lib.hid (grown_cells D.p (conL m' (S.dead ks)) 0 w2)
        have hs2 := hb2.size
        clear hd2 hb2 hm' hin2 hn2
        go_wp2_with ((refine wpList_store_cells rfl 59 _ _ rfl D.p 0 17 (conL m' (S.dead ks)) rfl rfl (conL_len _ _) ht3 (by kernel_rfl) (conL_one _ _) ?_; intro w3 hw3; rw [← hw3] at HD3 HG3; clear hw3 ht3))
        refine (newQueue_any w3).mono ?_
        rintro e w4 ⟨m4, rfl, hm4, hb4, hge4⟩
        have hd4 := HD3.out.below hb4
        have hin4 := HD3.out.inside
        have hn4 : ¬ ({ D with m1 := m' } : Own).has m4 := fun e => by have := hin4 m4 e; omega
        have HD5 := Lib.hid (hd4.new_que hm4 hn4)
        have ht5 : w4.there D.p 34 2 := fun j hj => by have := hd4.there (34 + j) (by omega); rwa [Nat.zero_add] at this
        have HB4 := Lib.hid hb4
        have hs3 := HG3.out.size
        have hs4 := hb4.size
        have HG5 := Lib.hid (grown_cells D.p [.slice none 0 0, .map (some m4)] 34 w4)
        clear hd4 hb4 hm4 hin4 hn4
        go_wp2_with ((refine wpList_store_cells rfl 64 _ _ rfl D.p 34 2 [.slice none 0 0, .map (some m4)] rfl rfl rfl ht5 (by kernel_rfl) (by simp [Value.oneCell']) ?_; intro w5 hw5; rw [← hw5] at HD5 HG5; clear hw5 ht5))
        refine (arm_any HD5.out 0 (.slice none 0 0) [] ⟨none, 0, rfl, fun k x h => by simp at h⟩ (Clear.nil _) (by simp)).mono ?_
        rintro e w6 ⟨rfl, hp6⟩
        obtain ⟨⟨D6, hd6, hp6, hh6⟩, ho6⟩ := hp6
        simp only at hp6
        have hdc := hd6.down
        have hfz := hd6.free (j := 36) (by omega)
        rw [hp6] at hdc hfz
        have HP : Hid (Post D ⟨S.dead ks, S.dead ks, [], true, S.lost, 0, []⟩ w (w6.setCell ⟨D.p, 36, none⟩ (.bool true))) := Lib.hid (by
          have o2 : Only D.has wr w2 := Only.of_below HB2.out
          have o3 : Only D.has w2 w3 := Only.of_grown HG3.out (.inl (.inl rfl))
          have o4 : Only D.has w3 w4 := Only.of_below HB4.out
          have o5 : Only D.has w4 w5 := Only.of_grown HG5.out (.inl (.inl rfl))
          have o0 : Only D.has w wr := HO.out.mono fun x hx => .inl (by rcases hx with e | e; exact .inl e; exact .inr (.inr (.inl e)))
          have hsz := o0.size
          have o25 := ((((o0.same o2).same o3).same o4).same o5)
          have hh5 : ∀ b, ({ ({ D with m1 := m' } : Own) with mh := m4, qv := .slice none 0 0 } : Own).has b → D.has b ∨ w.heap.size ≤ b := fun b hb => by
            rcases has_mh (n := w.heap.size) (by omega) b hb with e | e
            · exact has_m1 (n := w.heap.size) (by omega) b e
            · exact .inr e
          have o6 := o25.trans ho6 hh5
          refine ⟨⟨D6, ?_, hp6, fun b hb => ?_⟩, o6.same (Only.set _ _ _ _ (.inl rfl))⟩
          · have := hd6.set_down true
            rw [hp6] at this
            exact this
          · rcases hh6 b hb with e | e
            · exact hh5 b e
            · exact .inr (Nat.le_trans o25.size e))
        clear hd6 hp6 hh6 ho6
        go_wp2_with fail
        go_returns
        exact ⟨rfl, HP.out⟩
end Dsk
end Go.Proofs.YtpogoalbnbekaaaDoor

/-! Counted calls. -/
namespace Go.Proofs.YtpogoalbnbekaaaDoor
open Go.RowKit Wire
set_option linter.unusedVariables false
set_option linter.unusedSimpArgs false
open Txt
namespace Dsk

theorem St.ok.calls0 {S : St} (h : S.ok) {c : Int} (hc : 0 ≤ c ∧ c ≤ 9223372036854775807) : ({ S with calls := c } : St).ok := ⟨h.now, h.last, h.inq, h.nodup, h.same, h.tail, h.lost, hc, h.keep⟩

theorem kv_ints {w : World} {D : Own} {S : St} (h : DiskAt w D S) : Ints w D.kv S.keep ∧ Clear D.kv (fun b => b = D.p ∨ b = D.m2) :=
  ⟨Ints.of_grow h.kept, fun b o n c hb _ hF => by
    have : D.kv.ownBlock = some b := by
      have hk := h.kept.form
      rcases hk with ⟨e, _⟩ | ⟨g, cap, e, _⟩
      · rw [e] at hb; cases hb
      · rw [e] at hb
        injection hb with hb _ _
        injection hb with hb
        injection hb with hb _ _
        rw [e, ← hb]
        rfl
    have := h.sep.k b this
    rcases hF with e | e
    · exact this.1 e
    · exact this.2.2.1 e⟩

set_option maxHeartbeats 1000000 in
theorem count_any (w : World) (D : Own) (S : St) (h : DiskAt w D S) (hk : S.ok) :
    Calls Tryd.prog 50 #[.pointer (some ⟨D.p, 0, none⟩)] w fun e w' => e = .returned (.tuple #[]) ∧ Post D S.count w w' := by
  have hdn := h.down
  have hcl := h.calls
  have hcb := hk.calls
  cases hd : S.down with
  | true =>
    have e : S.count = S := by unfold St.count; rw [hd]; rfl
    rw [e]
    rw [hd] at hdn
    have HP := Lib.hid (Post.refl h)
    clear h hd e
    go_enter Tryd.func50, Tryd.ntmps50
    go_wp2_with fail
    go_returns
    exact ⟨rfl, HP.out⟩
  | false =>
    rw [hd] at hdn
    by_cases h0 : S.calls = 0
    · have e : S.count = S := by unfold St.count; rw [hd, h0]; rfl
      rw [e]
      have HP := Lib.hid (Post.refl h)
      rw [h0] at hcl
      clear h hd e h0 hcb
      go_enter Tryd.func50, Tryd.ntmps50
      go_wp2_with fail
      go_returns
      exact ⟨rfl, HP.out⟩
    · have hf := h.free (j := 38) (by omega)
      have hi := h.isSome (j := 38) (by omega)
      have hw1 : IntKind.i64.wrap (S.calls - 1) = S.calls - 1 := IntWalk.i64_in _ (by omega)
      by_cases h1 : S.calls = 1
      · have e : S.count = St.crash { S with calls := 0 } S.keep := by unfold St.count; rw [hd, h1]; rfl
        rw [e]
        have h2 := h.set_calls 0
        obtain ⟨k1, k2⟩ := kv_ints h2
        have HC := Lib.hid (crash_any _ D { S with calls := 0 } D.kv S.keep h2 (hk.calls0 ⟨by omega, by omega⟩) k1 k2 hk.keep)
        rw [h1] at hcl
        have hkp : (w.setCell ⟨D.p, 38, none⟩ (.int .i64 0)).cell? ⟨D.p, 39, none⟩ = some D.kv := h2.keep
        have hkp0 := h.keep
        have HO : Hid (Only D.has w (w.setCell ⟨D.p, 38, none⟩ (.int .i64 0))) := Lib.hid (Only.set _ _ _ _ (.inl rfl))
        clear h hd e h1 h0 h2 k1 k2 hcb hw1
        go_enter Tryd.func50, Tryd.ntmps50
        go_wp2_with ((go_at_call 19; refine HC.out.mono ?_; rintro e w2 ⟨rfl, hp⟩))
        go_returns
        exact ⟨rfl, Post.next HO.out rfl (fun b hb => .inl hb) hp⟩
      · have e : S.count = { S with calls := S.calls - 1 } := by
          unfold St.count
          rw [hd, if_neg (by simp [h0]), if_neg (by simp; omega)]
        rw [e]
        have HP : Hid (Post D { S with calls := S.calls - 1 } w (w.setCell ⟨D.p, 38, none⟩ (.int .i64 (S.calls - 1)))) := Lib.hid ⟨⟨D, h.set_calls _, rfl, fun _ h => .inl h⟩, Only.set _ _ _ _ (.inl rfl)⟩
        have hq1 : (S.calls == 0) = false := by simp [h0]
        have hq2 : (S.calls - 1 == 0) = false := beq_eq_false_iff_ne.2 (by omega)
        clear h hd e
        go_enter Tryd.func50, Tryd.ntmps50
        go_wp2_with fail
        go_returns
        exact ⟨rfl, HP.out⟩
end Dsk
end Go.Proofs.YtpogoalbnbekaaaDoor

/-! Bytes written into a file, sector by sector. -/
namespace Go.Proofs.YtpogoalbnbekaaaDoor
open Go.RowKit Wire
set_option linter.unusedVariables false
set_option linter.unusedSimpArgs false
open Txt
namespace Dsk

theorem slice_end (s : ByteArray) (k : Nat) (h : k ≤ s.size) : (s.extract k s.size).size = s.size - k := by rw [ByteArray.size_extract]; omega
theorem bl_drop (s : ByteArray) (k : Nat) : bl (s.extract k s.size) = (bl s).drop k := by
  obtain ⟨⟨l⟩⟩ := s
  show bl (ByteArray.extract ⟨l.toArray⟩ k _) = _
  rw [bytes_extract, bl_mk]
  show List.drop k (List.take l.length l) = List.drop k l
  rw [List.take_length]

theorem addL_in {l : List (Nat × Nat)} {p : Nat × Nat} (h : ∀ q ∈ l, q.1 < 16 ∧ q.2 ≤ 262144) (hp : p.1 < 16 ∧ p.2 ≤ 262144) : ∀ q ∈ addL l p, q.1 < 16 ∧ q.2 ≤ 262144 := by
  intro q hq
  unfold addL at hq
  split at hq
  · exact h q hq
  · rcases List.mem_append.1 hq with h1 | h1
    · exact h q h1
    · have : q = p := by simpa using h1
      rw [this]
      exact hp
theorem addL_nodup {l : List (Nat × Nat)} {p : Nat × Nat} (h : l.Nodup) : (addL l p).Nodup := by
  unfold addL
  split
  · exact h
  · rename_i hn
    rw [List.nodup_append]
    refine ⟨h, by simp, fun a ha b hb e => ?_⟩
    have : b = p := by simpa using hb
    exact hn (this ▸ e ▸ ha)

/-- The head of a round: s is still to be written at a. -/
structure WrtRel (W : World) (D : Own) (F : St) (f : Nat) (av sv : Value) (w : World) (j : Nat) : Prop where
  here : ∃ (a : Nat) (s : ByteArray) (S1 : St) (D1 : Own), av = .int .i64 a ∧ sv = .string s ∧ S1.writeF j f a (bl s) = F ∧ s.size ≤ j ∧ a + s.size ≤ 16777216 ∧ DiskAt w D1 S1 ∧ D1.p = D.p ∧ (∀ b, D1.has b → D.has b ∨ W.heap.size ≤ b) ∧
    S1.queue.Nodup ∧ (∀ q ∈ S1.queue, q.1 < 16 ∧ q.2 ≤ 262144)
  only : Only D.has W w

abbrev Lw (A : Nat) (f n : Int) (w' : World) : Prop := w'.cell? ⟨A, 0, none⟩ = some (.int .i64 f) ∧ w'.cell? ⟨A, 1, none⟩ = some (.int .i64 n)

theorem writeF_step {j f a k : Nat} {S : St} {l : List UInt8} (hl : 0 < l.length) (hj : l.length ≤ j) (hk : k = min l.length (64 - a % 64)) :
    S.writeF j f a l = St.writeF (j - 1) { S with now := S.now.put f a (l.take k), queue := addL S.queue (f, a / 64) } f (a + k) (l.drop k) := by
  obtain ⟨i, rfl⟩ : ∃ i, j = i + 1 := ⟨j - 1, by omega⟩
  have hne : l ≠ [] := fun e => by rw [e] at hl; simp at hl
  have e1 : l.take (64 - a % 64) = l.take k := by
    rw [hk]
    by_cases h : l.length ≤ 64 - a % 64
    · rw [List.take_of_length_le h, List.take_of_length_le (by omega)]
    · rw [Nat.min_eq_right (by omega)]
  have e2 : l.drop (64 - a % 64) = l.drop k := by
    rw [hk]
    by_cases h : l.length ≤ 64 - a % 64
    · rw [List.drop_of_length_le h, List.drop_of_length_le (by omega)]
    · rw [Nat.min_eq_right (by omega)]
  have e3 : (l.take k).length = k := by rw [List.length_take]; omega
  conv => lhs; unfold St.writeF
  rw [if_neg hne, e1, e2, e3]
  rfl

set_option maxRecDepth 8000 in
set_option maxHeartbeats 2000000 in
theorem write_any (w : World) (D : Own) (S : St) (f a : Nat) (s : ByteArray) (h : DiskAt w D S) (hk : S.ok) (hf : f < 16) (hs : a + s.size ≤ 16777216) :
    Calls Tryd.prog 49 #[.pointer (some ⟨D.p, 0, none⟩), .int .i64 f, .int .i64 a, .string s] w fun e w' => e = .returned (.tuple #[]) ∧ Post D (S.write f a (bl s)) w w' := by
  have HR : Hid (WrtRel w D (S.write f a (bl s)) f (.int .i64 a) (.string s) w s.size) := Lib.hid ⟨⟨a, s, S, D, rfl, rfl, by unfold St.write; rw [bl_len], Nat.le_refl _, hs, h, rfl, fun _ h => .inl h, hk.nodup, fun q hq => by have := hk.sec q hq; omega⟩, Only.refl _ _⟩
  generalize S.write f a (bl s) = F at *
  clear h hk
  go_enter Tryd.func49, Tryd.ntmps49
  go_wp2_with fail
  go_loopg [2, 3] s.size (fun j av sv wr => WrtRel w D F f av sv wr j)
  case atStart => exact HR.out
  case round =>
    obtain ⟨⟨a1, s1, S1, D1, rfl, rfl, hF, hj, ha, hd, hp, hh, hn, hq⟩, hon⟩ := hrel
    clear hs HR
    by_cases h0 : 0 < s1.size
    · have ne1 := not_empty h0
      have ne2 := not_empty2 h0
      have hql := queue_len hn hq
      have HNE1 := Lib.hid ne1
      have hai : (0 : Int) ≤ a1 ∧ (a1 : Int) ≤ 16777216 := by omega
      obtain ⟨k, hk⟩ : ∃ k, k = min s1.size (64 - a1 % 64) := ⟨_, rfl⟩
      have hkb : 0 < k ∧ k ≤ s1.size ∧ k ≤ 64 := by omega
      have HK := Lib.hid hk
      clear hk
      go_upto_region 2 with (fail)
      have b0 : Below wr.heap.size wr (wr.alloc (.cells #[.int .i64 f, .int .i64 ((a1 : Int) / 64)] 88)).drew := below_new _
      have hx0 : Blk (wr.alloc (.cells #[.int .i64 f, .int .i64 ((a1 : Int) / 64)] 88)).drew wr.heap.size 88 #[.int .i64 f, .int .i64 ((a1 : Int) / 64)] := Blk.fresh wr _ _
      have HD1 := Lib.hid (hd.below b0)
      have HX : Hid (Lw wr.heap.size f ((a1 : Int) / 64) (wr.alloc (.cells #[.int .i64 f, .int .i64 ((a1 : Int) / 64)] 88)).drew) := Lib.hid ⟨by rw [hx0.at]; rfl, by rw [hx0.at]; rfl⟩
      have HX0 := Lib.hid hx0
      have HO1 : Hid (Only D.has w (wr.alloc (.cells #[.int .i64 f, .int .i64 ((a1 : Int) / 64)] 88)).drew) := Lib.hid (hon.same (Only.of_below b0))
      have HIN := Lib.hid hd.inside
      clear b0 hx0 hd hon
      try go_frame
      refine wp_region_sorted (Lw wr.heap.size f ((a1 : Int) / 64)) [0, 1, 2, 3, 4, 5, 6] [7, 8] (by kernel_rfl) (by kernel_rfl) HX.out ?_
      repeat refine RD.next rfl rfl (by intro w' hS; simp only [Lw] at hS; go_simp; with_reducible rfl) ?_
      refine RD.done ?_
      generalize (wr.alloc (.cells #[.int .i64 f, .int .i64 ((a1 : Int) / 64)] 88)).drew = w1 at *
      refine CH.next rfl rfl fun K hK => ?_
      go_simp
      have hpt := put_any D1.p 0 D1.m1 f (a1 / 64) (a1 % 64) S1.now s1 w1 HD1.out.now hf (by omega) (by omega) h0 (small_max (by omega)) HD1.out.sep.p1
      rw [hp, show ((a1 / 64 : Nat) : Int) = (a1 : Int) / 64 from by omega, show ((a1 % 64 : Nat) : Int) = (a1 : Int).tmod 64 from by rw [Int.tmod_eq_emod_of_nonneg (by omega)]; omega] at hpt
      refine hpt.mono ?_
      rintro e w2 ⟨k2, rfl, hk2, hpp⟩
      obtain rfl : k = k2 := HK.out.trans hk2.symm
      clear hk2
      rw [show 64 * (a1 / 64) + a1 % 64 = a1 from by omega, ← hp] at hpp
      have HD2 := Lib.hid (HD1.out.put_now hpp)
      have hA2 : w2.heap[wr.heap.size]? = w1.heap[wr.heap.size]? := hpp.only.block _ HX0.out.inside (by have := HIN.out D1.p (.inl rfl); have := HIN.out D1.m1 (.inr (.inl rfl)); rintro (e | e) <;> omega)
      have HX2 : Hid (Blk w2 wr.heap.size 88 #[.int .i64 f, .int .i64 ((a1 : Int) / 64)]) := Lib.hid (hA2.trans HX0.out)
      have HO2 : Hid (Only D.has w w2) := Lib.hid (HO1.out.trans (hpp.only.mono (G := D1.has) fun x hx => .inl (by rcases hx with e | e; exact .inl e; exact .inr (.inl e))) hh)
      simp only [Oper.upon]
      refine hK _ _ ⟨by rw [HX2.out.at]; rfl, by rw [HX2.out.at]; rfl⟩ ?_
      clear hK hpt hpp hA2
      refine CH.next rfl rfl fun K hK => ?_
      go_simp
      refine hK _ _ ⟨by rw [HX2.out.at]; rfl, by rw [HX2.out.at]; rfl⟩ ?_
      clear hK
      refine CH.done (NoPanic.normal ?_)
      try go_frame
      go_wp2_with fail
      try go_frame
      refine wp_region_sorted (Lw wr.heap.size f ((a1 : Int) / 64)) [0, 1, 2, 3] [4] (by kernel_rfl) (by kernel_rfl) ⟨by rw [World.cell?_drew, HX2.out.at]; rfl, by rw [World.cell?_drew, HX2.out.at]; rfl⟩ ?_
      repeat refine RD.next rfl rfl (by intro w' hS; simp only [Lw] at hS; go_simp; with_reducible rfl) ?_
      refine RD.done ?_
      refine CH.next rfl rfl fun K hK => ?_
      go_simp
      have hadd := add_any D1.p 34 D1.mh f (a1 / 64) D1.qv S1.queue w2.drew HD2.out.drew.que hf (by omega) (by omega) HD2.out.sep.ph (fun e => (HD2.out.sep.q _ e).1 rfl) (fun e => (HD2.out.sep.q _ e).2.2.2 rfl)
      rw [hp, show ((a1 / 64 : Nat) : Int) = (a1 : Int) / 64 from by omega] at hadd
      refine hadd.mono ?_
      rintro e w3 ⟨rfl, hqp⟩
      obtain ⟨v', hq', hv'⟩ := hqp.que
      have hkk := hqp.keep
      rw [← hp] at hq' hkk
      have hoo : Only (fun b => b = D1.p ∨ b = D1.mh ∨ D1.qv.ownBlock = some b) w2.drew w3 := by have := hqp.only; rw [← hp] at this; exact this
      have HD3 := Lib.hid (HD2.out.drew.put_que hq' hkk hoo hv')
      have hA3 : w3.heap[wr.heap.size]? = w2.heap[wr.heap.size]? := hoo.block _ HX2.out.inside (by
        rintro (e | e | e)
        · have := HIN.out D1.p (.inl rfl); omega
        · have := HIN.out D1.mh (.inr (.inr (.inr (.inl rfl)))); omega
        · have := HIN.out _ (.inr (.inr (.inr (.inr (.inl e))))); omega)
      have HX3 : Blk w3 wr.heap.size 88 #[.int .i64 f, .int .i64 ((a1 : Int) / 64)] := hA3.trans HX2.out
      have hs2 : w.heap.size ≤ w2.drew.heap.size := HO2.out.size
      have HO3 : Hid (Only D.has w w3) := Lib.hid (HO2.out.trans (Only.mono (G := D1.has) ⟨hoo.os, hoo.tape, hoo.output, hoo.size, hoo.block⟩ fun x hx => .inl (by rcases hx with e | e | e; exact .inl e; exact .inr (.inr (.inr (.inl e))); exact .inr (.inr (.inr (.inr (.inl e)))))) hh)
      have HHAS : Hid (∀ b, ({ D1 with qv := v' } : Own).has b → D.has b ∨ w.heap.size ≤ b) := Lib.hid fun b hb => by
        rcases has_qv hv' b hb with e | e
        · exact hh b e
        · exact .inr (Nat.le_trans hs2 e)
      have hF2 := writeF_step (j := gk) (f := f) (a := a1) (k := k) (S := S1) (l := bl s1) (by rw [bl_len]; exact h0) (by rw [bl_len]; exact hj) (by rw [bl_len]; exact HK.out)
      rw [hF] at hF2
      have HF2 := Lib.hid hF2
      have HN2 := Lib.hid (addL_nodup (p := (f, a1 / 64)) hn)
      have HQ2 := Lib.hid (addL_in (p := (f, a1 / 64)) hq ⟨hf, by omega⟩)
      simp only [Oper.upon]
      refine hK _ _ ⟨by rw [HX3.at]; rfl, by rw [HX3.at]; rfl⟩ ?_
      clear hK hadd hqp hq' hv' hkk hoo hA3 HX3 hF hF2 hn hq
      refine CH.done (NoPanic.normal ?_)
      try go_frame
      have hw2 : IntKind.i64.wrap ((a1 : Int) + k) = (a1 : Int) + k := IntWalk.i64_in _ (by omega)
      have HSL := Lib.hid (bl_drop s1 k)
      have hsz := slice_end s1 k hkb.2.1
      by_cases hke : k = s1.size
      · subst hke
        have HN : Hid (WrtRel w D F f (.int .i64 ((a1 : Int) + s1.size)) (.string ByteArray.empty) w3 (gk - 1)) := Lib.hid
          ⟨⟨a1 + s1.size, ByteArray.empty, _, _, by congr 1, rfl, by
            rw [HF2.out]
            congr 1
            rw [List.drop_of_length_le (by rw [bl_len]; omega)]
            rfl, by show 0 ≤ _; omega, by show a1 + s1.size + 0 ≤ _; omega, HD3.out, hp, HHAS.out, HN2.out, HQ2.out⟩, HO3.out⟩
        clear hsz
        go_wp2_with fail
        go_roundg (gk - 1)
        case rel => exact HN.out
        case measure => omega
      · have hks : k < s1.size := by omega
        have HN : Hid (WrtRel w D F f (.int .i64 ((a1 : Int) + k)) (.string (s1.extract k s1.size)) w3 (gk - 1)) := Lib.hid
          ⟨⟨a1 + k, s1.extract k s1.size, _, _, by congr 1, rfl, by rw [HF2.out, HSL.out], by omega, by omega, HD3.out, hp, HHAS.out, HN2.out, HQ2.out⟩, HO3.out⟩
        clear hsz
        go_wp2_with fail
        go_roundg (gk - 1)
        case rel => exact HN.out
        case measure => omega
    · have hz : s1.size = 0 := by omega
      have he := is_empty h0
      have hb : bl s1 = [] := List.eq_nil_of_length_eq_zero (by rw [bl_len]; exact hz)
      have hFe : S1 = F := by
        rw [← hF, hb]
        cases gk with
        | zero => rfl
        | succ i => unfold St.writeF; rw [if_pos rfl]
      have HP : Hid (Post D F w wr) := Lib.hid ⟨⟨D1, hFe ▸ hd, hp, hh⟩, hon⟩
      clear hd hon hF hFe hb hz
      go_wp2_with fail
      go_returns
      exact ⟨rfl, HP.out⟩
end Dsk
end Go.Proofs.YtpogoalbnbekaaaDoor

/-! Write, Sync, Truncate. -/
namespace Go.Proofs.YtpogoalbnbekaaaDoor
open Go.RowKit Wire
set_option linter.unusedVariables false
set_option linter.unusedSimpArgs false
open Txt
namespace Dsk

set_option maxHeartbeats 1000000 in
theorem check_any (w : World) (D : Own) (S : St) (h : DiskAt w D S) (f a : Int) (s : ByteArray) (hs : s.size ≤ maxLen) :
    Calls Tryd.prog 48 #[.pointer (some ⟨D.p, 0, none⟩), .int .i64 f, .int .i64 a, .string s] w fun e w' => e = .returned (.int .i64 (S.errW f a s.size)) ∧ w = w' := by
  unfold maxLen at hs
  have hdn := h.down
  have hfc := isFile_any f
  clear h
  cases hd : S.down with
  | true =>
    have e : S.errW f a s.size = 9 := by unfold St.errW; rw [if_pos hd]
    rw [e]
    rw [hd] at hdn
    clear hd e
    go_enter Tryd.func48, Tryd.ntmps48
    go_wp2_with fail
    go_ret
    exact ⟨rfl, rfl⟩
  | false =>
    rw [hd] at hdn
    have e0 : S.errW f a s.size = if !isF f || decide (a < 0) then 1 else if a > 16777216 - (s.size : Int) then 6 else 0 := by unfold St.errW; rw [hd]; rfl
    have E0 := Lib.hid e0
    clear hd e0
    cases hf : isF f with
    | false =>
      have e : S.errW f a s.size = 1 := by rw [E0.out, hf]; rfl
      rw [e]
      rw [hf] at hfc
      clear hf e
      go_enter Tryd.func48, Tryd.ntmps48
      go_wp2_with ((go_at_call 57; refine (hfc _).mono ?_; rintro e w' ⟨rfl, rfl⟩))
      go_ret
      exact ⟨rfl, rfl⟩
    | true =>
      rw [hf] at hfc
      by_cases ha : a < 0
      · have e : S.errW f a s.size = 1 := by rw [E0.out, hf]; simp [ha]
        rw [e]
        clear hf e
        go_enter Tryd.func48, Tryd.ntmps48
        go_wp2_with ((go_at_call 57; refine (hfc _).mono ?_; rintro e w' ⟨rfl, rfl⟩))
        go_ret
        exact ⟨rfl, rfl⟩
      · by_cases hg : a > 16777216 - (s.size : Int)
        · have e : S.errW f a s.size = 6 := by rw [E0.out, hf]; simp [ha, hg]
          rw [e]
          clear hf e
          have hg2 : 16777216 - (s.size : Int) < a := hg
          clear hg
          go_enter Tryd.func48, Tryd.ntmps48
          go_wp2_with ((go_at_call 57; refine (hfc _).mono ?_; rintro e w' ⟨rfl, rfl⟩))
          go_ret
          exact ⟨rfl, rfl⟩
        · have e : S.errW f a s.size = 0 := by rw [E0.out, hf]; simp [ha, hg]
          rw [e]
          clear hf e
          have hg2 : ¬ 16777216 - (s.size : Int) < a := hg
          clear hg
          go_enter Tryd.func48, Tryd.ntmps48
          go_wp2_with ((go_at_call 57; refine (hfc _).mono ?_; rintro e w' ⟨rfl, rfl⟩))
          go_ret
          exact ⟨rfl, rfl⟩

set_option maxHeartbeats 1000000 in
theorem Write_any (w : World) (D : Own) (S : St) (h : DiskAt w D S) (hk : S.ok) (f a : Int) (s : ByteArray) (hs : s.size ≤ maxLen) :
    Calls Tryd.prog 23 #[.pointer (some ⟨D.p, 0, none⟩), .int .i64 f, .int .i64 a, .string s] w fun e w' => e = .returned (.int .i64 (S.Write f a (bl s)).2) ∧ Post D (S.Write f a (bl s)).1 w w' := by
  have HCH := Lib.hid (check_any w D S h f a s hs)
  have key : ∀ (S1 : St) (D1 : Own) (w1 : World), DiskAt w1 D1 S1 → S1.ok → D1.p = D.p → (∀ b, D1.has b → D.has b ∨ w.heap.size ≤ b) → Only D.has w w1 →
      Calls Tryd.prog 50 #[.pointer (some ⟨D.p, 0, none⟩)] w1 fun e w' => e = .returned (.tuple #[]) ∧ w'.cell? ⟨D.p, 36, none⟩ = some (.bool S1.count.down) ∧ Post D S1.count w w' := by
    intro S1 D1 w1 h1 k1 hp hh ho
    have := count_any w1 D1 S1 h1 k1
    rw [hp] at this
    refine this.mono ?_
    rintro e w' ⟨rfl, hpst⟩
    have hcell : w'.cell? ⟨D.p, 36, none⟩ = some (.bool S1.count.down) := by
      obtain ⟨⟨D', hd', hp', _⟩, _⟩ := hpst
      have := hd'.down
      rw [hp', hp] at this
      exact this
    exact ⟨rfl, hcell, Post.next ho hp hh hpst⟩
  have KEY := Lib.hid key
  clear key
  by_cases he : S.errW f a s.size = 0
  · obtain ⟨h1, h2, h3, h4⟩ := errW_ok he
    obtain ⟨_, _, hf16, hfc⟩ := isF_nat h2
    obtain ⟨fn, rfl⟩ : ∃ k : Nat, f = k := ⟨f.toNat, by omega⟩
    obtain ⟨an, rfl⟩ : ∃ k : Nat, a = k := ⟨a.toNat, by omega⟩
    simp only [Int.toNat_natCast] at hf16 hfc
    have hW : S.Write fn an (bl s) = ((S.write fn an (bl s)).count, if (S.write fn an (bl s)).count.down then 9 else 0) := by
      unfold St.Write
      rw [bl_len, he]
      simp only [Int.toNat_natCast, if_true]
    have HWR := Lib.hid (write_any w D S fn an s h hk hf16 (by omega))
    have HOK := Lib.hid (hk.write (f := fn) (a := an) (l := bl s) hf16 (by rw [bl_len]; omega))
    rw [he] at HCH
    rw [hW]
    generalize S.write fn an (bl s) = S1 at *
    clear h hk h1 h2 h4 hW he
    cases hd : S1.count.down with
    | true =>
      rw [if_pos rfl]
      go_enter Tryd.func23, Tryd.ntmps23
      go_wp2_with (first
        | (go_at_call 48; refine HCH.out.mono ?_; rintro e w' ⟨rfl, rfl⟩)
        | (go_at_call 49; refine HWR.out.mono ?_; rintro e w1 ⟨rfl, hp1⟩; obtain ⟨⟨D1, hd1, hpp1, hh1⟩, ho1⟩ := hp1)
        | (go_at_call 50; refine (KEY.out S1 D1 w1 hd1 HOK.out hpp1 hh1 ho1).mono ?_; rintro e w2 ⟨rfl, hc2, hp2⟩; have HP := Lib.hid hp2; clear hp2; rw [hd] at hc2))
      go_ret
      exact ⟨rfl, HP.out⟩
    | false =>
      rw [if_neg (by simp)]
      go_enter Tryd.func23, Tryd.ntmps23
      go_wp2_with (first
        | (go_at_call 48; refine HCH.out.mono ?_; rintro e w' ⟨rfl, rfl⟩)
        | (go_at_call 49; refine HWR.out.mono ?_; rintro e w1 ⟨rfl, hp1⟩; obtain ⟨⟨D1, hd1, hpp1, hh1⟩, ho1⟩ := hp1)
        | (go_at_call 50; refine (KEY.out S1 D1 w1 hd1 HOK.out hpp1 hh1 ho1).mono ?_; rintro e w2 ⟨rfl, hc2, hp2⟩; have HP := Lib.hid hp2; clear hp2; rw [hd] at hc2))
      go_ret
      exact ⟨rfl, HP.out⟩
  · have hW : S.Write f a (bl s) = (S.count, if S.count.down then 9 else S.errW f a s.size) := by
      unfold St.Write
      rw [bl_len, if_neg he]
    rw [hW]
    have HCT := Lib.hid (KEY.out S D w h hk rfl (fun b hb => .inl hb) (Only.refl _ _))
    have hq : (S.errW f a s.size == 0) = false := beq_eq_false_iff_ne.2 he
    clear h hk hW he KEY
    generalize S.errW f a s.size = er at *
    cases hd : S.count.down with
    | true =>
      rw [if_pos rfl]
      go_enter Tryd.func23, Tryd.ntmps23
      go_wp2_with (first
        | (go_at_call 48; refine HCH.out.mono ?_; rintro e w' ⟨rfl, rfl⟩)
        | (go_at_call 50; refine HCT.out.mono ?_; rintro e w2 ⟨rfl, hc2, hp2⟩; have HP := Lib.hid hp2; clear hp2; rw [hd] at hc2))
      go_ret
      exact ⟨rfl, HP.out⟩
    | false =>
      rw [if_neg (by simp)]
      go_enter Tryd.func23, Tryd.ntmps23
      go_wp2_with (first
        | (go_at_call 48; refine HCH.out.mono ?_; rintro e w' ⟨rfl, rfl⟩)
        | (go_at_call 50; refine HCT.out.mono ?_; rintro e w2 ⟨rfl, hc2, hp2⟩; have HP := Lib.hid hp2; clear hp2; rw [hd] at hc2))
      go_ret
      exact ⟨rfl, HP.out⟩
end Dsk
end Go.Proofs.YtpogoalbnbekaaaDoor

/-! Sync and Truncate. -/
namespace Go.Proofs.YtpogoalbnbekaaaDoor
open Go.RowKit Wire
set_option linter.unusedVariables false
set_option linter.unusedSimpArgs false
open Txt
namespace Dsk

/-- The disk behind countCall, as the calls go on with it. -/
theorem counted_any (w : World) (D : Own) (S : St) (h : DiskAt w D S) (hk : S.ok) :
    Calls Tryd.prog 50 #[.pointer (some ⟨D.p, 0, none⟩)] w fun e w' => e = .returned (.tuple #[]) ∧ w'.cell? ⟨D.p, 36, none⟩ = some (.bool S.count.down) ∧ ∃ D1, DiskAt w' D1 S.count ∧ D1.p = D.p ∧ (∀ b, D1.has b → D.has b ∨ w.heap.size ≤ b) ∧ Only D.has w w' := by
  refine (count_any w D S h hk).mono ?_
  rintro e w' ⟨rfl, ⟨D1, hd, hp, hh⟩, ho⟩
  have := hd.down
  rw [hp] at this
  exact ⟨rfl, this, D1, hd, hp, hh, ho⟩

set_option maxHeartbeats 1000000 in
theorem Sync_any (w : World) (D : Own) (S : St) (h : DiskAt w D S) (hk : S.ok) (f : Int) :
    Calls Tryd.prog 54 #[.pointer (some ⟨D.p, 0, none⟩), .int .i64 f] w fun e w' => e = .returned (.int .i64 (S.Sync f).2) ∧ Post D (S.Sync f).1 w w' := by
  have HCT := Lib.hid (counted_any w D S h hk)
  have hok := hk.count
  have hfc := isFile_any f
  clear h hk
  cases hd : S.count.down with
  | true =>
    have e : S.Sync f = (S.count, 9) := by unfold St.Sync; rw [if_pos hd]
    rw [e]
    rw [hd] at HCT
    clear hd e hok
    go_enter Tryd.func54, Tryd.ntmps54
    go_wp2_with ((go_at_call 50; refine HCT.out.mono ?_; rintro e w1 ⟨rfl, hc1, D1, hd1, hp1, hh1, ho1⟩; have HP := Lib.hid (⟨⟨D1, hd1, hp1, hh1⟩, ho1⟩ : Post D S.count w w1); clear hd1 hp1 hh1 ho1))
    go_ret
    exact ⟨rfl, HP.out⟩
  | false =>
    have e0 : S.Sync f = if !isF f then (S.count, 1) else if 0 < S.count.lost then ({ S.count with lost := S.count.lost - 1 }, 10) else (S.count.settle f.toNat, 0) := by unfold St.Sync; rw [if_neg (by rw [hd]; simp)]
    have E0 := Lib.hid e0
    rw [hd] at HCT
    clear hd e0
    cases hf : isF f with
    | false =>
      have e : S.Sync f = (S.count, 1) := by rw [E0.out, hf]; rfl
      rw [e]
      rw [hf] at hfc
      clear hf e hok
      go_enter Tryd.func54, Tryd.ntmps54
      go_wp2_with (first
        | (go_at_call 50; refine HCT.out.mono ?_; rintro e w1 ⟨rfl, hc1, D1, hd1, hp1, hh1, ho1⟩; have HP := Lib.hid (⟨⟨D1, hd1, hp1, hh1⟩, ho1⟩ : Post D S.count w w1); clear hd1 hp1 hh1 ho1)
        | (go_at_call 57; refine (hfc _).mono ?_; rintro e w' ⟨rfl, rfl⟩))
      go_ret
      exact ⟨rfl, HP.out⟩
    | true =>
      rw [hf] at hfc
      obtain ⟨_, _, hf16, hfe⟩ := isF_nat hf
      have e1 : S.Sync f = if 0 < S.count.lost then ({ S.count with lost := S.count.lost - 1 }, 10) else (S.count.settle f.toNat, 0) := by rw [E0.out, hf]; rfl
      have hlb := hok.lost
      have HOK := Lib.hid hok
      generalize S.count = S1 at *
      by_cases hl : 0 < S1.lost
      · have e : S.Sync f = ({ S1 with lost := S1.lost - 1 }, 10) := by rw [e1, if_pos hl]
        rw [e]
        have hw1 : IntKind.i64.wrap (S1.lost - 1) = S1.lost - 1 := IntWalk.i64_in _ (by omega)
        clear hf e e1 hok E0 hfe
        go_enter Tryd.func54, Tryd.ntmps54
        go_wp2_with (first
          | (go_at_call 50; refine HCT.out.mono ?_; rintro e w1 ⟨rfl, hc1, D1, hd1, hp1, hh1, ho1⟩; have hl1 := hd1.lost; have hz1 := hd1.free (j := 37) (by omega); have hst := hd1.set_lost (S1.lost - 1); rw [hp1] at hl1 hz1 hst; have HP := Lib.hid (⟨⟨D1, hst, hp1, hh1⟩, ho1.same (Only.set _ _ _ _ (.inl rfl))⟩ : Post D { S1 with lost := S1.lost - 1 } w (w1.setCell ⟨D.p, 37, none⟩ (.int .i64 (S1.lost - 1)))); clear hd1 hp1 hh1 ho1 hst)
          | (go_at_call 57; refine (hfc _).mono ?_; rintro e w' ⟨rfl, rfl⟩))
        go_ret
        exact ⟨rfl, HP.out⟩
      · have e : S.Sync f = (S1.settle f.toNat, 0) := by rw [e1, if_neg hl]
        rw [e]
        obtain ⟨fn, rfl⟩ : ∃ k : Nat, f = k := ⟨f.toNat, by omega⟩
        simp only [Int.toNat_natCast] at hf16 hfe ⊢
        have HST : Hid (∀ w1 D1, DiskAt w1 D1 S1 → D1.p = D.p → Calls Tryd.prog 69 #[.pointer (some ⟨D.p, 0, none⟩), .int .i64 fn] w1 fun e w' => e = .returned (.tuple #[]) ∧ Post D1 (S1.settle fn) w1 w') := Lib.hid (by
          intro w1 D1 h1 hp
          have := settle_any w1 D1 S1 fn h1 HOK.out hf16
          rwa [hp] at this)
        clear hf e e1 hok E0 hfe
        go_enter Tryd.func54, Tryd.ntmps54
        go_wp2_with (first
          | (go_at_call 50; refine HCT.out.mono ?_; rintro e w1 ⟨rfl, hc1, D1, hd1, hp1, hh1, ho1⟩; have hl1 := hd1.lost; rw [hp1] at hl1)
          | (go_at_call 57; refine (hfc _).mono ?_; rintro e w' ⟨rfl, rfl⟩)
          | (go_at_call 69; refine (HST.out w1 D1 hd1 hp1).mono ?_; rintro e w2 ⟨rfl, hp2⟩; have HP := Lib.hid (Post.next ho1 hp1 hh1 hp2); clear hp2 hd1 hp1 hh1 ho1))
        go_ret
        exact ⟨rfl, HP.out⟩
end Dsk
end Go.Proofs.YtpogoalbnbekaaaDoor

/-! Truncate. -/
namespace Go.Proofs.YtpogoalbnbekaaaDoor
open Go.RowKit Wire
set_option linter.unusedVariables false
set_option linter.unusedSimpArgs false
open Txt
namespace Dsk

/-- Settled, and both parts cut. -/
theorem settled_any (w1 : World) (D D1 : Own) (S1 : St) (fn : Nat) (h1 : DiskAt w1 D1 S1) (hk : S1.ok) (hf : fn < 16) (hp : D1.p = D.p) :
    Calls Tryd.prog 69 #[.pointer (some ⟨D.p, 0, none⟩), .int .i64 fn] w1 fun e w' => e = .returned (.tuple #[]) ∧ ∃ D2, DiskAt w' D2 (S1.settle fn) ∧ D2.p = D.p ∧ (∀ b, D2.has b → D1.has b ∨ w1.heap.size ≤ b) ∧ Only D1.has w1 w' := by
  have := settle_any w1 D1 S1 fn h1 hk hf
  rw [hp] at this
  refine this.mono ?_
  rintro e w' ⟨rfl, ⟨D2, h2, hp2, hh2⟩, ho⟩
  exact ⟨rfl, D2, h2, hp2.trans hp, hh2, ho⟩
end Dsk
end Go.Proofs.YtpogoalbnbekaaaDoor

/-! New and Copy. -/
namespace Go.Proofs.YtpogoalbnbekaaaDoor
open Go.RowKit Wire
set_option linter.unusedVariables false
set_option linter.unusedSimpArgs false
open Txt
namespace Dsk

/-- A disk's cells. -/
def diskL (D : Own) (S : St) : List Value := conL D.m1 S.now ++ (conL D.m2 S.last ++ ([D.qv, .map (some D.mh)] ++ ([.bool S.down, .int .i64 S.lost, .int .i64 S.calls] ++ [D.kv])))
theorem diskL_len (D : Own) (S : St) : (diskL D S).length = 40 := by unfold diskL; simp [conL_len]

theorem range_app {w : World} {g o : Nat} {a b : List Value} : w.rangeAt g o (a ++ b) ↔ w.rangeAt g o a ∧ w.rangeAt g (o + a.length) b := by
  constructor
  · intro h
    refine ⟨fun j v hv => h j v ?_, fun j v hv => ?_⟩
    · rw [List.getElem?_append_left (List.getElem?_eq_some_iff.1 hv).1]
      exact hv
    · rw [Nat.add_assoc]
      exact h (a.length + j) v (by rw [List.getElem?_append_right (by omega), Nat.add_sub_cancel_left]; exact hv)
  · rintro ⟨h1, h2⟩ j v hv
    by_cases hj : j < a.length
    · rw [List.getElem?_append_left hj] at hv
      exact h1 j v hv
    · rw [List.getElem?_append_right (by omega)] at hv
      have := h2 (j - a.length) v hv
      rwa [show o + a.length + (j - a.length) = o + j from by omega] at this
theorem there_sub {w : World} {g o n i m : Nat} (h : w.there g o n) (hm : i + m ≤ n) : w.there g (o + i) m := fun j hj => by
  rw [Nat.add_assoc]
  exact h (i + j) (by omega)

theorem DiskAt.of_cells {w : World} {D : Own} {S : St} (h : Lie w D.p 0 (diskL D S)) (h1 : MapC w D.m1 S.now) (h2 : MapC w D.m2 S.last) (h3 : IsMap w D.mh (hasL S.queue)) (h4 : Grow w 0 2 D.qv S.queue.length (S.queue.flatMap secL)) (h5 : Grow w 0 1 D.kv S.keep.length (S.keep.map (Value.int .i64))) (hs : D.Sep) : DiskAt w D S := by
  obtain ⟨hc, ht⟩ := h
  rw [diskL_len] at ht
  unfold diskL at hc
  obtain ⟨c1, hc⟩ := range_app.1 hc
  obtain ⟨c2, hc⟩ := range_app.1 hc
  obtain ⟨c3, hc⟩ := range_app.1 hc
  obtain ⟨c4, c5⟩ := range_app.1 hc
  simp only [conL_len, Nat.zero_add, List.length_cons, List.length_nil] at c1 c2 c3 c4 c5
  exact ⟨⟨c1, fun j hj => ht j (by omega), h1⟩, ⟨c2, fun j hj => by have := ht (17 + j) (by omega); rwa [Nat.zero_add] at this, h2⟩,
    ⟨c3 0 _ rfl, c3 1 _ rfl, fun j hj => by have := ht (34 + j) (by omega); rwa [Nat.zero_add] at this, h4, h3⟩, c4 0 _ rfl, c4 1 _ rfl, c4 2 _ rfl, c5 0 _ rfl, h5, ht, hs⟩
theorem DiskAt.cells {w : World} {D : Own} {S : St} (h : DiskAt w D S) : w.rangeAt D.p 0 (diskL D S) := by
  unfold diskL
  rw [range_app, range_app, range_app, range_app]
  simp only [conL_len, Nat.zero_add, List.length_cons, List.length_nil]
  refine ⟨h.now.cells, h.last.cells, ?_, ?_, ?_⟩
  · intro j v hv
    match j, hv with
    | 0, hv => cases hv; exact h.que.ptr
    | 1, hv => cases hv; exact h.que.has
  · intro j v hv
    match j, hv with
    | 0, hv => cases hv; exact h.down
    | 1, hv => cases hv; exact h.lost
    | 2, hv => cases hv; exact h.calls
  · intro j v hv
    match j, hv with
    | 0, hv => cases hv; exact h.keep
theorem one_app {a b : List Value} (ha : ∀ v ∈ a, v.oneCell' = true) (hb : ∀ v ∈ b, v.oneCell' = true) : ∀ v ∈ a ++ b, v.oneCell' = true := fun v hv => (List.mem_append.1 hv).elim (ha v) (hb v)
theorem diskL_one {D : Own} {S : St} (hq : D.qv.oneCell' = true) (hk : D.kv.oneCell' = true) : ∀ v ∈ diskL D S, v.oneCell' = true := by
  unfold diskL
  refine one_app (conL_one _ _) (one_app (conL_one _ _) (one_app ?_ (one_app ?_ ?_)))
  · intro v hv
    simp at hv
    rcases hv with rfl | rfl
    · exact hq
    · rfl
  · intro v hv
    simp at hv
    rcases hv with rfl | rfl | rfl <;> rfl
  · intro v hv
    simp at hv
    subst hv
    exact hk

theorem Lie.replace {w : World} {g : Nat} {a b b' c : List Value} (h : Lie w g 0 (a ++ (b ++ c))) (hl : b'.length = b.length) : Lie (w.setCells g a.length b') g 0 (a ++ (b' ++ c)) := by
  have := Lie.part (i := a.length) (news := b') h (ds := a ++ (b' ++ c)) (by simp [hl]) (by simp [hl]) (fun j hj => ?_)
  · rwa [Nat.zero_add] at this
  · by_cases h1 : j < a.length
    · rw [if_neg (by omega), List.getElem?_append_left (l₂ := b' ++ c) h1, List.getElem?_append_left (l₂ := b ++ c) h1]
    · rw [List.getElem?_append_right (l₁ := a) (l₂ := b' ++ c) (by omega), List.getElem?_append_right (l₁ := a) (l₂ := b ++ c) (by omega)]
      by_cases h2 : j - a.length < b'.length
      · rw [if_pos (by omega), List.getElem?_append_left (l₂ := c) h2]
      · rw [if_neg (by omega), List.getElem?_append_right (l₁ := b') (l₂ := c) (by omega), List.getElem?_append_right (l₁ := b) (l₂ := c) (by omega), hl]

theorem conL_none (m : Nat) : (conL m Con.none).toArray = #[.map (some m), .int .i64 0, .int .i64 0, .int .i64 0, .int .i64 0, .int .i64 0, .int .i64 0, .int .i64 0, .int .i64 0, .int .i64 0, .int .i64 0, .int .i64 0, .int .i64 0, .int .i64 0, .int .i64 0, .int .i64 0, .int .i64 0] := rfl
theorem build_lit (w : World) (m1 m2 mh : Nat) : (Instr.build 67 #[(0, .agg #[.map (some m1), .int .i64 0, .int .i64 0, .int .i64 0, .int .i64 0, .int .i64 0, .int .i64 0, .int .i64 0, .int .i64 0, .int .i64 0, .int .i64 0, .int .i64 0, .int .i64 0, .int .i64 0, .int .i64 0, .int .i64 0, .int .i64 0]), (1, .agg #[.map (some m2), .int .i64 0, .int .i64 0, .int .i64 0, .int .i64 0, .int .i64 0, .int .i64 0, .int .i64 0, .int .i64 0, .int .i64 0, .int .i64 0, .int .i64 0, .int .i64 0, .int .i64 0, .int .i64 0, .int .i64 0, .int .i64 0]), (2, .agg #[.slice none 0 0, .map (some mh)])]).run Tryd.prog w =
    .ok (.agg #[.map (some m1), .int .i64 0, .int .i64 0, .int .i64 0, .int .i64 0, .int .i64 0, .int .i64 0, .int .i64 0, .int .i64 0, .int .i64 0, .int .i64 0, .int .i64 0, .int .i64 0, .int .i64 0, .int .i64 0, .int .i64 0, .int .i64 0, .map (some m2), .int .i64 0, .int .i64 0, .int .i64 0, .int .i64 0, .int .i64 0, .int .i64 0, .int .i64 0, .int .i64 0, .int .i64 0, .int .i64 0, .int .i64 0, .int .i64 0, .int .i64 0, .int .i64 0, .int .i64 0, .int .i64 0, .slice none 0 0, .map (some mh), .bool false, .int .i64 0, .int .i64 0, .slice none 0 0]) w := by kernel_rfl
theorem build_new (w : World) (m1 m2 mh : Nat) : (Instr.build 67 #[(0, .agg (conL m1 Con.none).toArray), (1, .agg (conL m2 Con.none).toArray), (2, .agg #[.slice none 0 0, .map (some mh)])]).run Tryd.prog w =
    .ok (.agg (diskL ⟨0, m1, m2, mh, .slice none 0 0, .slice none 0 0⟩ St.new).toArray) w := by
  rw [conL_none, conL_none, build_lit]
  rfl

theorem wpList_of_run {w w' : World} {ops : Array Oper} {rest : List Oper} {o : Oper} {a : Act} {Q : Exit → Act → World → Prop} {v : Value} (hgd : o.guard = none) (hr : (execOp a.eval o).run Tryd.prog w = .ok (.value v) w') (h : wpList Tryd.prog ops Q rest (a.put o.dst v) w') : wpList Tryd.prog ops Q (o :: rest) a w :=
  wpList_plain hgd fun K hK => by
    unfold Oper.wp
    rw [hr, Oper.upon_value]
    exact hK _ _ h

set_option maxRecDepth 8000 in
set_option maxHeartbeats 1000000 in
theorem New_any (w : World) : Calls Tryd.prog 9 #[] w fun e w' => ∃ D, e = .returned (.pointer (some ⟨D.p, 0, none⟩)) ∧ DiskAt w' D St.new ∧ (∀ b, D.has b → w.heap.size ≤ b) ∧ Below w.heap.size w w' := by
  go_enter Tryd.func9, Tryd.ntmps9
  go_wp2_with fail
  refine (empty_any w).mono ?_
  rintro e w1 ⟨m1, rfl, hm1, hb1, hg1⟩
  go_wp2_with fail
  refine (empty_any w1).mono ?_
  rintro e w2 ⟨m2, rfl, hm2, hb2, hg2⟩
  go_wp2_with fail
  refine (newQueue_any w2).mono ?_
  rintro e w3 ⟨mh, rfl, hmh, hb3, hg3⟩
  obtain ⟨L, hL⟩ : ∃ L, L = diskL ⟨0, m1, m2, mh, .slice none 0 0, .slice none 0 0⟩ St.new := ⟨_, rfl⟩
  have hbn := build_new w3 m1 m2 mh
  rw [← hL] at hbn
  have HBN := Lib.hid hbn
  have HL := Lib.hid hL
  obtain ⟨X1, hX1⟩ : ∃ X, X = (conL m1 Con.none).toArray := ⟨_, rfl⟩
  obtain ⟨X2, hX2⟩ : ∃ X, X = (conL m2 Con.none).toArray := ⟨_, rfl⟩
  rw [← hX1, ← hX2] at HBN
  rw [← hX1, ← hX2]
  clear hbn hL hX1 hX2
  go_wp2_with ((refine wpList_of_run (v := .agg L.toArray) rfl (run_build_op [(0, .agg X1), (1, .agg X2), (2, .agg #[.slice none 0 0, .map (some mh)])] rfl rfl HBN.out) ?_))
  have hl : Lie (w3.alloc (.cells L.toArray 67)) w3.heap.size 0 L := ⟨fun j v hv => by
      rw [Nat.zero_add, (Blk.fresh w3 _ _).at, List.getElem?_toArray]
      exact hv, fun j hj => by
      rw [Nat.zero_add, (Blk.fresh w3 _ _).at, (Blk.fresh w3 _ _).thaw, List.getElem?_toArray, List.getElem?_eq_getElem hj]
      exact ⟨rfl, rfl⟩⟩
  have b3 : Below w3.heap.size w3 (w3.alloc (.cells L.toArray 67)) := (Below.refl _ w3).alloc (Nat.le_refl _) _
  rw [HL.out] at hl b3 ⊢
  have hs1 := hb1.size
  have hs2 := hb2.size
  have hs3 := hb3.size
  have l1 := hm1.lt
  have l2 := hm2.lt
  have l3 := hmh.lt
  go_ret
  refine ⟨⟨w3.heap.size, m1, m2, mh, .slice none 0 0, .slice none 0 0⟩, rfl, DiskAt.of_cells hl ?_ ?_ ?_ (Grow.nil _ _ _) (Grow.nil _ _ _) ?_, ?_, ?_⟩
  · exact ((hm1.keep (hb2.block _ l1)).keep (hb3.block m1 (by omega))).keep (b3.block m1 (by omega))
  · exact (hm2.keep (hb3.block m2 l2)).keep (b3.block m2 (by omega))
  · have : (fun _ _ => none : Nat → Nat → Option Value) = hasL [] := by funext f n; unfold hasL; simp
    rw [this] at hmh
    exact hmh.keep (b3.block mh l3)
  · refine ⟨?_, ?_, ?_, ?_, ?_, ?_, (fun b hb => by cases hb), (fun b hb => by cases hb), (fun x hx => by cases hx)⟩ <;> simp only <;> omega
  · rintro b (e | e | e | e | e | e)
    · simp only at e; omega
    · simp only at e; omega
    · simp only at e; omega
    · simp only at e; omega
    · cases e
    · cases e
  · exact ((hb1.trans (hb2.mono hs1)).trans (hb3.mono (by omega))).trans (b3.mono (by omega))

/-- 'c := *d': a new disk's block. -/
theorem wpList_alloc_dsk {w : World} {ops : Array Oper} {rest : List Oper} {o : Oper} {a : Act} {Q : Exit → Act → World → Prop} (hgd : o.guard = none) (ho : o.op = .alloc 67)
    (h : ∀ w', w'.there w.heap.size 0 40 → Below w.heap.size w w' → w'.heap.size = w.heap.size + 1 → wpList Tryd.prog ops Q rest (a.put o.dst (.pointer (some ⟨w.heap.size, 0, none⟩))) w') : wpList Tryd.prog ops Q (o :: rest) a w :=
  wpList_plain hgd fun K hK => by
    have hr : ∃ cs : Array Value, cs.size = 40 ∧ (execOp a.eval o).run Tryd.prog w = .ok (.value (.pointer (some ⟨w.heap.size, 0, none⟩))) (w.alloc (.cells cs 67)) := by
      refine ⟨#[.map none, .int .i64 0, .int .i64 0, .int .i64 0, .int .i64 0, .int .i64 0, .int .i64 0, .int .i64 0, .int .i64 0, .int .i64 0, .int .i64 0, .int .i64 0, .int .i64 0, .int .i64 0, .int .i64 0, .int .i64 0, .int .i64 0, .map none, .int .i64 0, .int .i64 0, .int .i64 0, .int .i64 0, .int .i64 0, .int .i64 0, .int .i64 0, .int .i64 0, .int .i64 0, .int .i64 0, .int .i64 0, .int .i64 0, .int .i64 0, .int .i64 0, .int .i64 0, .int .i64 0, .slice none 0 0, .map none, .bool false, .int .i64 0, .int .i64 0, .slice none 0 0], rfl, ?_⟩
      unfold execOp
      simp only [ho]
      kernel_rfl
    obtain ⟨cs, hcs, hr⟩ := hr
    have hb : Blk (w.alloc (.cells cs 67)) w.heap.size _ _ := Blk.fresh w _ _
    unfold Oper.wp
    rw [hr]
    refine hK _ _ (h _ (fun j hj => ?_) ((Below.refl _ w).alloc (Nat.le_refl _) _) (by simp))
    rw [Nat.zero_add, hb.at, hb.thaw]
    exact ⟨by rw [Array.getElem?_eq_getElem (by omega)]; rfl, rfl⟩

end Dsk
end Go.Proofs.YtpogoalbnbekaaaDoor

/-! Disks that a statement made: their blocks are the call's own, and nothing that was there turned. -/
namespace Go.Proofs.YtpogoalbnbekaaaDoor
open Go.RowKit Wire
set_option linter.unusedVariables false
set_option linter.unusedSimpArgs false
open Txt
namespace Dsk

abbrev ptr (p : Nat) : Value := .pointer (some ⟨p, 0, none⟩)

/-- A disk at p. -/
structure One (W w : World) (p : Nat) (S : St) : Prop where
  below : Below W.heap.size W w
  ok : S.ok
  disk : ∃ D, D.p = p ∧ DiskAt w D S ∧ ∀ b, D.has b → W.heap.size ≤ b
/-- Two disks. -/
structure Two (W w : World) (p q : Nat) (S T : St) : Prop where
  below : Below W.heap.size W w
  ok1 : S.ok
  ok2 : T.ok
  disks : ∃ D C, D.p = p ∧ C.p = q ∧ DiskAt w D S ∧ DiskAt w C T ∧ (∀ b, D.has b → W.heap.size ≤ b) ∧ (∀ b, C.has b → W.heap.size ≤ b) ∧ ∀ b, D.has b → ¬ C.has b

section
variable {W w w' : World} {p q : Nat} {S T S' : St} {f : FuncId} {args : Array Value} {R : Ending}

theorem One.keep (h : One W w p S) (b : Below w.heap.size w w') : One W w' p S := by
  obtain ⟨hb, hk, D, hp, hd, hf⟩ := h
  exact ⟨next_below hb b, hk, D, hp, hd.below b, hf⟩
theorem Two.keep (h : Two W w p q S T) (b : Below w.heap.size w w') : Two W w' p q S T := by
  obtain ⟨hb, hk, hk2, D, C, hp, hq, hd, hc, hf, hg, hs⟩ := h
  exact ⟨next_below hb b, hk, hk2, D, C, hp, hq, hd.below b, hc.below b, hf, hg, hs⟩
theorem Two.left (h : Two W w p q S T) : One W w p S := by
  obtain ⟨hb, hk, hk2, D, C, hp, hq, hd, hc, hf, hg, hs⟩ := h
  exact ⟨hb, hk, D, hp, hd, hf⟩
theorem Two.right (h : Two W w p q S T) : One W w q T := by
  obtain ⟨hb, hk, hk2, D, C, hp, hq, hd, hc, hf, hg, hs⟩ := h
  exact ⟨hb, hk2, C, hq, hc, hg⟩

theorem One.step (h : One W w p S) (hk : S'.ok) (hc : ∀ D, D.p = p → DiskAt w D S → (∀ b, D.has b → W.heap.size ≤ b) → Calls Tryd.prog f args w fun e w' => e = R ∧ Post D S' w w') : Calls Tryd.prog f args w fun e w' => e = R ∧ One W w' p S' := by
  obtain ⟨hb, _, D, hp, hd, hf⟩ := h
  refine (hc D hp hd hf).mono ?_
  rintro e w' ⟨he, ⟨D', hd', hp', hh⟩, ho⟩
  have hs := hb.size
  refine ⟨he, hb.trans (ho.below hs hf), hk, D', hp'.trans hp, hd', fun b hb2 => ?_⟩
  rcases hh b hb2 with h1 | h1
  · exact hf b h1
  · omega
theorem Two.step1 (h : Two W w p q S T) (hk : S'.ok) (hc : ∀ D, D.p = p → DiskAt w D S → (∀ b, D.has b → W.heap.size ≤ b) → Calls Tryd.prog f args w fun e w' => e = R ∧ Post D S' w w') : Calls Tryd.prog f args w fun e w' => e = R ∧ Two W w' p q S' T := by
  obtain ⟨hb, _, hk2, D, C, hp, hq, hd, hcd, hf, hg, hsep⟩ := h
  refine (hc D hp hd hf).mono ?_
  rintro e w' ⟨he, ⟨D', hd', hp', hh⟩, ho⟩
  have hs := hb.size
  refine ⟨he, hb.trans (ho.below hs hf), hk, hk2, D', C, hp'.trans hp, hq, hd', hcd.only ho (fun b hb2 hb3 => hsep b hb3 hb2), fun b hb2 => ?_, hg, fun b hb2 hb3 => ?_⟩
  · rcases hh b hb2 with h1 | h1
    · exact hf b h1
    · omega
  · rcases hh b hb2 with h1 | h1
    · exact hsep b h1 hb3
    · have := hcd.inside b hb3; omega
theorem Two.swap (h : Two W w p q S T) : Two W w q p T S := by
  obtain ⟨hb, hk, hk2, D, C, hp, hq, hd, hcd, hf, hg, hsep⟩ := h
  exact ⟨hb, hk2, hk, C, D, hq, hp, hcd, hd, hg, hf, fun b h1 h2 => hsep b h2 h1⟩
theorem Two.step2 (h : Two W w p q S T) (hk : S'.ok) (hc : ∀ D, D.p = q → DiskAt w D T → (∀ b, D.has b → W.heap.size ≤ b) → Calls Tryd.prog f args w fun e w' => e = R ∧ Post D S' w w') : Calls Tryd.prog f args w fun e w' => e = R ∧ Two W w' p q S S' :=
  (h.swap.step1 hk hc).mono fun e w' ⟨he, h⟩ => ⟨he, h.swap⟩

/-- A second disk. -/
theorem One.with (h : One W w p S) (hk : T.ok) {C : Own} (hc : DiskAt w' C T) (hq : C.p = q) (hn : ∀ b, C.has b → w.heap.size ≤ b) (hb : Below w.heap.size w w') : Two W w' p q S T := by
  obtain ⟨hb0, hk0, D, hp, hd, hf⟩ := h
  have := hb0.size
  exact ⟨next_below hb0 hb, hk0, hk, D, C, hp, hq, hd.below hb, hc, hf, fun b hb2 => by have := hn b hb2; omega, fun b h1 h2 => by have := hd.inside b h1; have := hn b h2; omega⟩

theorem new_one (hb : Below W.heap.size W w) : Calls Tryd.prog 9 #[] w fun e w' => ∃ p, e = .returned (ptr p) ∧ One W w' p St.new :=
  (New_any w).mono fun e w' ⟨D, he, hd, hn, hb2⟩ => ⟨D.p, he, next_below hb hb2, St.new_ok, D, rfl, hd, fun b h1 => by have := hn b h1; have := hb.size; omega⟩
theorem One.another (h : One W w p S) : Calls Tryd.prog 9 #[] w fun e w' => ∃ q, e = .returned (ptr q) ∧ Two W w' p q S St.new :=
  (New_any w).mono fun e w' ⟨D, he, hd, hn, hb2⟩ => ⟨D.p, he, h.with St.new_ok hd rfl hn hb2⟩
/-! What is asked of a disk. -/
theorem One.read (h : One W w p S) (f a n : Int) (ha : a ≤ 9223372036854775807) (hn : n ≤ 9223372036854775807) :
    Calls Tryd.prog 34 #[ptr p, .int .i64 f, .int .i64 a, .int .i64 n] w fun e w' => e = .returned (.tuple #[str (S.Read f a n).1, .int .i64 (S.Read f a n).2]) ∧ Below w.heap.size w w' := by
  obtain ⟨_, hk, D, rfl, hd, _⟩ := h
  exact diskRead_any hd hk f a n ha hn

/-! What is done to a disk, as a step. -/
theorem write_c (hk : S.ok) (f a : Int) (s : ByteArray) (hs : s.size ≤ maxLen) : ∀ D, D.p = p → DiskAt w D S → (∀ b, D.has b → W.heap.size ≤ b) → Calls Tryd.prog 23 #[ptr p, .int .i64 f, .int .i64 a, .string s] w fun e w' => e = .returned (.int .i64 (S.Write f a (bl s)).2) ∧ Post D (S.Write f a (bl s)).1 w w' := by
  rintro D rfl hd _
  exact Write_any w D S hd hk f a s hs
theorem sync_c (hk : S.ok) (f : Int) : ∀ D, D.p = p → DiskAt w D S → (∀ b, D.has b → W.heap.size ≤ b) → Calls Tryd.prog 54 #[ptr p, .int .i64 f] w fun e w' => e = .returned (.int .i64 (S.Sync f).2) ∧ Post D (S.Sync f).1 w w' := by
  rintro D rfl hd _
  exact Sync_any w D S hd hk f
theorem lose_c (n : Int) : ∀ D, D.p = p → DiskAt w D S → (∀ b, D.has b → W.heap.size ≤ b) → Calls Tryd.prog 11 #[ptr p, .int .i64 n] w fun e w' => e = .returned (.tuple #[]) ∧ Post D (S.lose n) w w' := by
  rintro D rfl hd _
  exact lose_any hd n
theorem start_c : ∀ D, D.p = p → DiskAt w D S → (∀ b, D.has b → W.heap.size ≤ b) → Calls Tryd.prog 20 #[ptr p] w fun e w' => e = .returned (.tuple #[]) ∧ Post D S.start w w' := by
  rintro D rfl hd _
  exact start_any hd
/-- Numbers that lie below what the call made. -/
theorem ints_row {A : Option Addr} {c : Nat} {ks : List Int} (h : Row W W.heap.size A (ks.map (Value.int .i64))) (b : Below W.heap.size W w) : Ints w (.slice A ks.length c) ks :=
  ⟨A, c, rfl, fun k x hx => by
    obtain ⟨bb, o, e, h1, h2⟩ := h k (.int .i64 x) (by rw [List.getElem?_map, hx]; rfl)
    exact ⟨bb, o, e, (b.cell (p := ⟨bb, o + k, none⟩) h1).trans h2⟩⟩
theorem clear_row {A : Option Addr} {c : Nat} {ks : List Int} {F : Nat → Prop} (h : Row W W.heap.size A (ks.map (Value.int .i64))) (hF : ∀ b, F b → W.heap.size ≤ b) : Clear (.slice A ks.length c) F := by
  intro b o n c' e hn hb
  injection e with e1 e2 e3
  subst e1 e2
  obtain ⟨b2, o2, e, h1, _⟩ := h 0 (.int .i64 ks[0]) (by rw [List.getElem?_map, List.getElem?_eq_getElem hn]; rfl)
  injection e with e
  injection e with e _ _
  have := hF b hb
  omega
theorem has_pm {D : Own} {b : Nat} (h : b = D.p ∨ b = D.m2) : D.has b := by
  rcases h with h | h
  · exact .inl h
  · exact .inr (.inr (.inl h))
theorem arm_c (hb : Below W.heap.size W w) (n : Int) (A : Option Addr) (c : Nat) (ks : List Int) (hr : Row W W.heap.size A (ks.map (Value.int .i64))) (hl : ks.length ≤ 1000000000) : ∀ D, D.p = p → DiskAt w D S → (∀ b, D.has b → W.heap.size ≤ b) → Calls Tryd.prog 12 #[ptr p, .int .i64 n, .slice A ks.length c] w fun e w' => e = .returned (.tuple #[]) ∧ Post D (S.arm n ks) w w' := by
  rintro D rfl hd hf
  exact arm_any hd n _ ks (ints_row hr hb) (clear_row hr hf) hl
theorem crash_c (hb : Below W.heap.size W w) (hk : S.ok) (A : Option Addr) (c : Nat) (ks : List Int) (hr : Row W W.heap.size A (ks.map (Value.int .i64))) (hl : ks.length ≤ 1000000000) : ∀ D, D.p = p → DiskAt w D S → (∀ b, D.has b → W.heap.size ≤ b) → Calls Tryd.prog 19 #[ptr p, .slice A ks.length c] w fun e w' => e = .returned (.tuple #[]) ∧ Post D (S.crash ks) w w' := by
  rintro D rfl hd hf
  exact crash_any w D S _ ks hd hk (ints_row hr hb) (clear_row hr fun b h => hf b (has_pm h)) hl

/-- A crash with a list that was laid just now. -/
theorem crash_lit {D : Own} (hk : S.ok) (hd : DiskAt w D S) (ks : List Int) (hl : ks.length ≤ 1000000000) (t : TypeId) :
    Calls Tryd.prog 19 #[ptr D.p, .slice (some ⟨w.heap.size, 0, none⟩) ks.length ks.length] (w.alloc (.cells (ks.map (Value.int .i64)).toArray t)) fun e w' => e = .returned (.tuple #[]) ∧ Post D (S.crash ks) (w.alloc (.cells (ks.map (Value.int .i64)).toArray t)) w' := by
  have hb : Below w.heap.size w (w.alloc (.cells (ks.map (Value.int .i64)).toArray t)) := (Below.refl _ w).alloc (Nat.le_refl _) _
  refine crash_any _ D S _ ks (hd.below hb) hk ⟨_, _, rfl, fun k x hx => ⟨_, _, rfl, ?_⟩⟩ ?_ hl
  · rw [(Blk.fresh w _ _).at, List.getElem?_toArray, List.getElem?_map, Nat.zero_add, hx]
    rfl
  · intro b o n c e _ hF
    injection e with e1 _ _
    injection e1 with e1
    injection e1 with e1 _ _
    have := hd.inside b (has_pm hF)
    omega
theorem One.crash_lit (h : One W w p S) (ks : List Int) (hl : ks.length ≤ 1000000000) (t : TypeId) :
    Calls Tryd.prog 19 #[ptr p, .slice (some ⟨w.heap.size, 0, none⟩) ks.length ks.length] (w.alloc (.cells (ks.map (Value.int .i64)).toArray t)) fun e w' => e = .returned (.tuple #[]) ∧ One W w' p (S.crash ks) := by
  obtain ⟨hb0, hk0, D, rfl, hd, hf⟩ := h
  refine (Dsk.crash_lit hk0 hd ks hl t).mono ?_
  rintro e w' ⟨he, ⟨D', hd', hp', hh⟩, ho⟩
  have hb1 : Below W.heap.size W (w.alloc (.cells (ks.map (Value.int .i64)).toArray t)) := hb0.alloc hb0.size _
  refine ⟨he, hb1.trans (ho.below hb1.size hf), hk0.crash _, D', hp', hd', fun b hb2 => ?_⟩
  have := hb1.size
  rcases hh b hb2 with h1 | h1
  · exact hf b h1
  · omega
theorem Two.crash_lit (h : Two W w p q S T) (ks : List Int) (hl : ks.length ≤ 1000000000) (t : TypeId) :
    Calls Tryd.prog 19 #[ptr p, .slice (some ⟨w.heap.size, 0, none⟩) ks.length ks.length] (w.alloc (.cells (ks.map (Value.int .i64)).toArray t)) fun e w' => e = .returned (.tuple #[]) ∧ Two W w' p q (S.crash ks) T := by
  obtain ⟨hb0, hk0, hk2, D, C, rfl, hq, hd, hc, hf, hg, hs⟩ := h
  have hb1 : Below w.heap.size w (w.alloc (.cells (ks.map (Value.int .i64)).toArray t)) := (Below.refl _ w).alloc (Nat.le_refl _) _
  refine (Dsk.crash_lit hk0 hd ks hl t).mono ?_
  rintro e w' ⟨he, ⟨D', hd', hp', hh⟩, ho⟩
  have hb2 := next_below hb0 hb1
  refine ⟨he, hb2.trans (ho.below hb2.size hf), hk0.crash _, hk2, D', C, hp', hq, hd', (hc.below hb1).only ho (fun b h1 h2 => hs b h2 h1), fun b h1 => ?_, hg, fun b h1 h2 => ?_⟩
  · have := hb2.size
    rcases hh b h1 with h3 | h3
    · exact hf b h3
    · omega
  · have := hb1.size
    rcases hh b h1 with h3 | h3
    · exact hs b h3 h2
    · have := hc.inside b h2; omega
end
end Dsk
end Go.Proofs.YtpogoalbnbekaaaDoor

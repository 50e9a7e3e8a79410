/- Sectors made durable: harden, settle. -/
import Derived.Test.YtgaclibokapfaaaHrd
namespace Go.Proofs.Ytgaclibokapfaaa
open Go.RowKit Wire
set_option linter.unusedVariables false
set_option linter.unusedSimpArgs false
open Txt
namespace Dsk

/-- A disk lies there, and a sector in a block of its own. -/
structure Boxed (w : World) (D : Own) (S : St) (A f n : Nat) : Prop where
  disk : DiskAt w D S
  box : Blk w A 76 #[.int .i64 f, .int .i64 n]
  apart : ¬ D.has A
abbrev Lh (w0 : World) (A : Nat) (f n : Nat) (w' : World) : Prop := w'.cell? ⟨A, 0, none⟩ = some (.int .i64 f) ∧ w'.cell? ⟨A, 1, none⟩ = some (.int .i64 n)

set_option maxRecDepth 8000 in
set_option maxHeartbeats 1000000 in
theorem harden_any (w : World) (D : Own) (S : St) (f n : Nat) (h : DiskAt w D S) (hS : S.now.ok) (hf : f < 16) (hn : 64 * n < S.now.size f) :
    Calls Try.prog 51 #[.pointer (some ⟨D.p, 0, none⟩), .agg #[.int .i64 f, .int .i64 n]] w fun e w' => e = .returned (.tuple #[]) ∧ DiskAt w' D { S with last := hard S.now (f, n) S.last } ∧ Only (fun b => b = D.p ∨ b = D.m2) w w' := by
  have hroom := hS.room f
  have b0 : Below w.heap.size w (w.alloc (.cells #[.int .i64 f, .int .i64 n] 76)).drew := below_new _
  have hx0 : Blk (w.alloc (.cells #[.int .i64 f, .int .i64 n] 76)).drew w.heap.size 76 #[.int .i64 f, .int .i64 n] := Blk.fresh w _ _
  have HX : Hid (Lh w w.heap.size f n (w.alloc (.cells #[.int .i64 f, .int .i64 n] 76)).drew) := Lib.hid ⟨by rw [hx0.at]; rfl, by rw [hx0.at]; rfl⟩
  have hd1 := h.below b0
  have HD1 := Lib.hid hd1
  have HB0 := Lib.hid b0
  have HX0 := Lib.hid hx0
  have hz : (w.alloc (.cells #[.int .i64 f, .int .i64 n] 76)).drew.heap.size = w.heap.size + 1 := by simp
  have HZ := Lib.hid hz
  have H := Lib.hid h
  have hni : (0 : Int) ≤ n ∧ (n : Int) * 64 ≤ 16777216 := by omega
  have hw64 : IntKind.i64.wrap ((n : Int) * 64) = (n : Int) * 64 := IntWalk.i64_in _ (by omega)
  clear h hx0 hd1 b0 hz
  go_enter Try.func51, Try.ntmps51
  go_wp2_with fail
  refine wp_region_sorted (Lh w w.heap.size f n) [0, 1, 2, 3, 4, 5, 6, 7, 8, 9, 10, 11] [12, 13] (by kernel_rfl) (by kernel_rfl) HX.out ?_
  repeat refine RD.next rfl rfl (by intro w' hS; simp only [Lh] at hS; go_simp; with_reducible rfl) ?_
  refine RD.done ?_
  clear hw64
  generalize (w.alloc (.cells #[.int .i64 f, .int .i64 n] 76)).drew = w1 at *
  refine CH.next rfl rfl fun K hK => ?_
  go_simp
  have hrd := read_any D.p 0 D.m1 f (64 * n) 64 S.now w1 HD1.out.now hroom hf (by omega) (by omega)
  rw [show ((64 * n : Nat) : Int) = (n : Int) * 64 from by omega] at hrd
  refine hrd.mono ?_
  rintro e w2 ⟨rfl, hb2⟩
  have HD2 := Lib.hid (HD1.out.below hb2)
  have HX2 : Hid (Blk w2 w.heap.size 76 #[.int .i64 f, .int .i64 n]) := Lib.hid (HX0.out.under hb2 HX0.out.inside)
  have HB2 := Lib.hid (HB0.out.trans (hb2.mono (by have := HZ.out; omega)))
  simp only [Oper.upon]
  refine hK _ _ ⟨by rw [HX2.out.at]; rfl, by rw [HX2.out.at]; rfl⟩ ?_
  clear hK hb2 hrd
  refine CH.next rfl rfl fun K hK => ?_
  go_simp
  have hlen : (S.now.read f (64 * n) 64).length = min 64 (S.now.size f - 64 * n) := Con.read_len _ _ _ _
  have hpt := put_any D.p 17 D.m2 f n 0 S.last ⟨(S.now.read f (64 * n) 64).toArray⟩ w2 HD2.out.last hf (by omega) (by omega) (by rw [bytes_size]; omega) (by rw [bytes_size]; exact small_max (by omega)) HD2.out.sep.p2
  refine hpt.mono ?_
  rintro e w3 ⟨k, rfl, hk, hpp⟩
  rw [bytes_size] at hk
  have hke : k = (S.now.read f (64 * n) 64).length := by omega
  have hpe : PutPost D.p 17 D.m2 (hard S.now (f, n) S.last) w2 w3 := by
    unfold hard
    rw [hke, bl_mk, List.take_length] at hpp
    exact hpp
  have HP : Hid (DiskAt w3 D { S with last := hard S.now (f, n) S.last } ∧ Only (fun b => b = D.p ∨ b = D.m2) w w3) := Lib.hid ⟨HD2.out.put_last hpe, (Only.of_below HB2.out).same hpe.only⟩
  have hA : w3.heap[w.heap.size]? = w2.heap[w.heap.size]? := hpe.only.block _ HX2.out.inside (by have := H.out.lt; have := H.out.last.map.lt; rintro (e | e) <;> omega)
  have HX3 : Blk w3 w.heap.size 76 #[.int .i64 f, .int .i64 n] := hA.trans HX2.out
  simp only [Oper.upon]
  refine hK _ _ ⟨by rw [HX3.at]; rfl, by rw [HX3.at]; rfl⟩ ?_
  clear hK hpe hpp hk hke HX3 hA
  refine CH.done (NoPanic.normal ?_)
  try go_frame
  go_wp2_with fail
  go_returns
  exact ⟨rfl, HP.out⟩

theorem DiskAt.put_que {w w' : World} {D : Own} {S : St} {l : List (Nat × Nat)} {v' : Value} (h : DiskAt w D S) (hq : QueAt w' D.p 34 D.mh v' l) (hk : Keeps w w' D.p 34 2) (ho : Only (fun b => b = D.p ∨ b = D.mh ∨ D.qv.ownBlock = some b) w w') (hv : v'.ownBlock = D.qv.ownBlock ∨ ∀ b, v'.ownBlock = some b → w.heap.size ≤ b) :
    DiskAt w' { D with qv := v' } { S with queue := l } := by
  have e : ∀ b, b ≠ D.p → b ≠ D.mh → D.qv.ownBlock ≠ some b → b < w.heap.size → w'.heap[b]? = w.heap[b]? := fun b h1 h2 h3 h4 => ho.block b h4 fun e => by rcases e with e | e | e; exact h1 e; exact h2 e; exact h3 e
  have c : ∀ j, 36 ≤ j → w'.cell? ⟨D.p, j, none⟩ = w.cell? ⟨D.p, j, none⟩ := fun j hj => (hk j (by omega)).1
  have hvs : ∀ b, v'.ownBlock = some b → b ≠ D.p ∧ b ≠ D.m1 ∧ b ≠ D.m2 ∧ b ≠ D.mh := fun b hb => by
    rcases hv with h1 | h1
    · exact h.sep.q b (h1 ▸ hb)
    · have := h1 b hb
      have := h.lt
      have := h.now.map.lt
      have := h.last.map.lt
      have := h.que.map.lt
      omega
  refine ⟨con_keeps h.now hk (by omega) (e _ (fun e => h.sep.p1 e.symm) h.sep.m1h (fun e => (h.sep.q _ e).2.1 rfl) h.now.map.lt), con_keeps h.last hk (by omega) (e _ (fun e => h.sep.p2 e.symm) h.sep.m2h (fun e => (h.sep.q _ e).2.2.1 rfl) h.last.map.lt), hq,
    (c 36 (by omega)).trans h.down, (c 37 (by omega)).trans h.lost, (c 38 (by omega)).trans h.calls, (c 39 (by omega)).trans h.keep, h.kept.keep ho.size (fun b hb => e b (h.sep.k b hb).1 (h.sep.k b hb).2.2.2 (fun e => h.sep.qk b e hb) (h.kept.block b hb).2), fun j hj => ?_,
    ⟨h.sep.p1, h.sep.p2, h.sep.ph, h.sep.m12, h.sep.m1h, h.sep.m2h, hvs, h.sep.k, fun x hx hy => ?_⟩⟩
  · rw [Nat.zero_add]
    by_cases hj2 : j < 34 ∨ 36 ≤ j
    · have := h.there j hj
      rw [Nat.zero_add, ← (hk j (by omega)).1, ← (hk j (by omega)).2] at this
      exact this
    · have := hq.there (j - 34) (by omega)
      rw [show 34 + (j - 34) = j from by omega] at this
      exact this
  · rcases hv with h1 | h1
    · exact h.sep.qk x (h1 ▸ hx) hy
    · have := h1 x hx
      have := (h.kept.block x hy).2
      omega
theorem has_qv {D : Own} {v' : Value} {n : Nat} (hv : v'.ownBlock = D.qv.ownBlock ∨ ∀ b, v'.ownBlock = some b → n ≤ b) : ∀ b, ({ D with qv := v' } : Own).has b → D.has b ∨ n ≤ b := by
  rintro b (e | e | e | e | e | e)
  · exact .inl (.inl e)
  · exact .inl (.inr (.inl e))
  · exact .inl (.inr (.inr (.inl e)))
  · exact .inl (.inr (.inr (.inr (.inl e))))
  · rcases hv with h | h
    · exact .inl (.inr (.inr (.inr (.inr (.inl (h ▸ e))))))
    · exact .inr (h b e)
  · exact .inl (.inr (.inr (.inr (.inr (.inr e)))))

/-- The head of a round of settle. -/
structure StlRel (W : World) (D D1 : Own) (S : St) (f : Nat) (tv : Value) (T : List (Nat × Nat)) (iv : Value) (w : World) (k : Nat) : Prop where
  i : iv = .int .i64 k
  le : k ≤ T.length
  disk : DiskAt w D1 { S with last := hardK S.now (fun _ => true) T S.last k, queue := S.queue.filter (noF f) }
  row : Grow w W.heap.size 2 tv T.length (T.flatMap secL)
  only : Only D.has W w

set_option maxRecDepth 8000 in
set_option maxHeartbeats 1000000 in
theorem settle_any (w : World) (D : Own) (S : St) (f : Nat) (h : DiskAt w D S) (hk : S.ok) (hf : f < 16) :
    Calls Try.prog 47 #[.pointer (some ⟨D.p, 0, none⟩), .int .i64 f] w fun e w' => e = .returned (.tuple #[]) ∧ Post D (S.settle f) w w' := by
  have hql := hk.qlen
  have hsec := hk.sec
  have HTK := Lib.hid (take_any D.p 34 D.mh f D.qv S.queue w h.que hf (by omega) (fun p hp => by have := hsec p hp; omega) h.sep.ph (fun e => (h.sep.q _ e).1 rfl) (fun e => (h.sep.q _ e).2.2.2 rfl))
  have H := Lib.hid h
  have HKK := Lib.hid hk
  obtain ⟨T, hT⟩ : ∃ T, T = S.queue.filter (isF' f) := ⟨_, rfl⟩
  have hTl : T.length ≤ 16777216 := by rw [hT]; exact Nat.le_trans (List.length_filter_le _ _) hql
  have HTin : Hid (∀ p ∈ T, p.1 = f ∧ 64 * p.2 < S.now.size f) := Lib.hid (fun p hp => by
    rw [hT] at hp
    obtain ⟨h1, h2⟩ := List.mem_filter.1 hp
    have h3 := hk.inq p h1
    have h4 : p.1 = f := by simpa using h2
    rw [h4] at h3
    exact ⟨h4, h3.2⟩)
  have HT := Lib.hid hT
  have HSE : Hid (S.settle f = { S with last := hardK S.now (fun _ => true) T S.last T.length, queue := S.queue.filter (noF f) }) := Lib.hid (by rw [hT]; rfl)
  clear h hk hsec hql hT
  go_enter Try.func47, Try.ntmps47
  go_wp2_with fail
  refine HTK.out.mono ?_
  rintro e w1 ⟨tv, rfl, hp⟩
  obtain ⟨v', hq', hv', hap'⟩ := hp.que
  have hown1 : Only (fun b => b = D.p ∨ b = D.mh ∨ D.qv.ownBlock = some b) w w1 := hp.only.mono fun x hx => .inl (by rcases hx with e | e; exact .inl e; exact .inr (.inl e))
  have HD1 := Lib.hid (H.out.put_que hq' hp.keep hown1 (.inr hv'))
  have HO1 : Hid (Only D.has w w1) := Lib.hid (hp.only.mono fun x hx => .inl (by rcases hx with e | e; exact .inl e; exact .inr (.inr (.inr (.inl e)))))
  have HHAS := Lib.hid (has_qv (D := D) (v' := v') (n := w.heap.size) (.inr hv'))
  have hrow := hp.took
  rw [← HT.out] at hrow
  have HNT : Hid (∀ b, tv.ownBlock = some b → ¬ ({ D with qv := v' } : Own).has b) := Lib.hid (fun b hb hh => by
    have hge := (hrow.block b hb).1
    rcases hh with e | e | e | e | e | e
    · have := H.out.lt; simp only at e; omega
    · have := H.out.now.map.lt; simp only at e; omega
    · have := H.out.last.map.lt; simp only at e; omega
    · have := H.out.que.map.lt; simp only at e; omega
    · exact hap' b hb e
    · have := (H.out.kept.block b e).2; omega)
  obtain ⟨A0, c0, rfl⟩ := hrow.slice
  have HROW := Lib.hid hrow
  clear hp hq' hv' hap' hown1 hrow
  go_wp2_with fail
  go_loopw [12] (fun iv wr => ∃ k, StlRel w D { D with qv := v' } S f (.slice A0 T.length c0) T iv wr k) (fun iv _ => T.length - (intOf iv).toNat)
  case atStart => exact ⟨0, rfl, Nat.zero_le _, HD1.out, HROW.out, HO1.out⟩
  case round =>
    obtain ⟨k, ⟨rfl, hkl, hdk, hrow, hon⟩⟩ := hrel
    by_cases hlt : k < T.length
    · have hin := HTin.out T[k] (List.getElem_mem hlt)
      obtain ⟨b, cap, eA, hb0, hb1, _, _, _, _, h7⟩ := hrow.form.resolve_left (by rintro ⟨_, h⟩; omega)
      have hc1 := h7 _ _ (sec_get T k hlt).1
      have hc2 := h7 _ _ (sec_get T k hlt).2
      have ea : A0 = some ⟨b, 0, none⟩ := by injection eA
      subst ea
      clear eA
      have HDK := Lib.hid hdk
      have HR := Lib.hid hrow
      have HO := Lib.hid hon
      have HK1 : Hid (hardK S.now (fun _ => true) T S.last (k + 1) = hard S.now T[k] (hardK S.now (fun _ => true) T S.last k)) := Lib.hid (by
        conv => lhs; unfold hardK
        rw [if_pos rfl, List.getD_eq_getElem?_getD, List.getElem?_eq_getElem hlt]
        rfl)
      clear hdk hrow hon h7
      rw [hin.1] at hc1
      have HH := Lib.hid (harden_any (wr.alloc (.cells #[.int .i64 f, .int .i64 T[k].2] 76)) { D with qv := v' } _ f T[k].2 (HDK.out.below ((Below.refl _ wr).alloc (Nat.le_refl _) _)) HKK.out.now hf hin.2)
      have HE : Hid (hard S.now (f, T[k].2) (hardK S.now (fun _ => true) T S.last k) = hardK S.now (fun _ => true) T S.last (k + 1)) := Lib.hid (by rw [HK1.out, ← hin.1])
      clear hin HK1
      generalize T[k].2 = q at *
      go_wp2_with ((go_at_call 51; refine HH.out.mono ?_; rintro e w2 ⟨rfl, hd2, ho2⟩))
      have HN : Hid (StlRel w D { D with qv := v' } S f (.slice (some ⟨b, 0, none⟩) T.length c0) T (.int .i64 ((k + 1 : Nat) : Int)) w2 (k + 1)) := Lib.hid (by
        have o1 : Only (fun b => b = D.p ∨ b = D.m2) wr w2 := (Only.of_below ((Below.refl _ wr).alloc (Nat.le_refl _) _)).same ho2
        refine ⟨rfl, hlt, ?_, ?_, ?_⟩
        · rw [HE.out] at hd2
          exact hd2
        · refine HR.out.keep o1.size fun x hx => o1.block x (HR.out.block x hx).2 ?_
          have hnh := HNT.out x hx
          rintro (e | e)
          · exact hnh (.inl e)
          · exact hnh (.inr (.inr (.inl e)))
        · exact HO.out.same (o1.mono fun x hx => .inl (by rcases hx with e | e; exact .inl e; exact .inr (.inr (.inl e)))))
      clear hd2 ho2
      go_wp2_with fail
      go_roundw
      case rel => exact ⟨k + 1, HN.out⟩
      case measure => simp [intOf]; omega
    · have hkl2 : k = T.length := by omega
      have HP : Hid (Post D (S.settle f) w wr) := Lib.hid (by
        rw [HSE.out, ← hkl2]
        exact ⟨⟨_, hdk, rfl, HHAS.out⟩, hon⟩)
      clear hdk hrow hon hkl2
      go_wp2_with fail
      go_returns
      exact ⟨rfl, HP.out⟩
end Dsk
end Go.Proofs.Ytgaclibokapfaaa

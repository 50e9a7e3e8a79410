/- Bytes written into a file, sector by sector. -/
import Derived.Test.YtgaclibokapfaaaCnt
namespace Go.Proofs.Ytgaclibokapfaaa
open Go.RowKit Wire
set_option linter.unusedVariables false
set_option linter.unusedSimpArgs false
open Txt
namespace Dsk

theorem slice_end (s : ByteArray) (k : Nat) (h : k ≤ s.size) : (s.extract k s.size).size = s.size - k := by rw [ByteArray.size_extract]; omega
theorem bl_drop (s : ByteArray) (k : Nat) : bl (s.extract k s.size) = (bl s).drop k := by
  obtain ⟨⟨l⟩⟩ := s
  show bl (ByteArray.extract ⟨l.toArray⟩ k _) = _
  rw [bytes_extract, bl_mk]
  show List.drop k (List.take l.length l) = List.drop k l
  rw [List.take_length]

theorem addL_in {l : List (Nat × Nat)} {p : Nat × Nat} (h : ∀ q ∈ l, q.1 < 16 ∧ q.2 ≤ 262144) (hp : p.1 < 16 ∧ p.2 ≤ 262144) : ∀ q ∈ addL l p, q.1 < 16 ∧ q.2 ≤ 262144 := by
  intro q hq
  unfold addL at hq
  split at hq
  · exact h q hq
  · rcases List.mem_append.1 hq with h1 | h1
    · exact h q h1
    · have : q = p := by simpa using h1
      rw [this]
      exact hp
theorem addL_nodup {l : List (Nat × Nat)} {p : Nat × Nat} (h : l.Nodup) : (addL l p).Nodup := by
  unfold addL
  split
  · exact h
  · rename_i hn
    rw [List.nodup_append]
    refine ⟨h, by simp, fun a ha b hb e => ?_⟩
    have : b = p := by simpa using hb
    exact hn (this ▸ e ▸ ha)

/-- The head of a round: s is still to be written at a. -/
structure WrtRel (W : World) (D : Own) (F : St) (f : Nat) (av sv : Value) (w : World) (j : Nat) : Prop where
  here : ∃ (a : Nat) (s : ByteArray) (S1 : St) (D1 : Own), av = .int .i64 a ∧ sv = .string s ∧ S1.writeF j f a (bl s) = F ∧ s.size ≤ j ∧ a + s.size ≤ 16777216 ∧ DiskAt w D1 S1 ∧ D1.p = D.p ∧ (∀ b, D1.has b → D.has b ∨ W.heap.size ≤ b) ∧
    S1.queue.Nodup ∧ (∀ q ∈ S1.queue, q.1 < 16 ∧ q.2 ≤ 262144)
  only : Only D.has W w

abbrev Lw (A : Nat) (f n : Int) (w' : World) : Prop := w'.cell? ⟨A, 0, none⟩ = some (.int .i64 f) ∧ w'.cell? ⟨A, 1, none⟩ = some (.int .i64 n)

theorem writeF_step {j f a k : Nat} {S : St} {l : List UInt8} (hl : 0 < l.length) (hj : l.length ≤ j) (hk : k = min l.length (64 - a % 64)) :
    S.writeF j f a l = St.writeF (j - 1) { S with now := S.now.put f a (l.take k), queue := addL S.queue (f, a / 64) } f (a + k) (l.drop k) := by
  obtain ⟨i, rfl⟩ : ∃ i, j = i + 1 := ⟨j - 1, by omega⟩
  have hne : l ≠ [] := fun e => by rw [e] at hl; simp at hl
  have e1 : l.take (64 - a % 64) = l.take k := by
    rw [hk]
    by_cases h : l.length ≤ 64 - a % 64
    · rw [List.take_of_length_le h, List.take_of_length_le (by omega)]
    · rw [Nat.min_eq_right (by omega)]
  have e2 : l.drop (64 - a % 64) = l.drop k := by
    rw [hk]
    by_cases h : l.length ≤ 64 - a % 64
    · rw [List.drop_of_length_le h, List.drop_of_length_le (by omega)]
    · rw [Nat.min_eq_right (by omega)]
  have e3 : (l.take k).length = k := by rw [List.length_take]; omega
  conv => lhs; unfold St.writeF
  rw [if_neg hne, e1, e2, e3]
  rfl

set_option maxRecDepth 8000 in
set_option maxHeartbeats 2000000 in
theorem write_any (w : World) (D : Own) (S : St) (f a : Nat) (s : ByteArray) (h : DiskAt w D S) (hk : S.ok) (hf : f < 16) (hs : a + s.size ≤ 16777216) :
    Calls Try.prog 53 #[.pointer (some ⟨D.p, 0, none⟩), .int .i64 f, .int .i64 a, .string s] w fun e w' => e = .returned (.tuple #[]) ∧ Post D (S.write f a (bl s)) w w' := by
  have HR : Hid (WrtRel w D (S.write f a (bl s)) f (.int .i64 a) (.string s) w s.size) := Lib.hid ⟨⟨a, s, S, D, rfl, rfl, by unfold St.write; rw [bl_len], Nat.le_refl _, hs, h, rfl, fun _ h => .inl h, hk.nodup, fun q hq => by have := hk.sec q hq; omega⟩, Only.refl _ _⟩
  generalize S.write f a (bl s) = F at *
  clear h hk
  go_enter Try.func53, Try.ntmps53
  go_wp2_with fail
  go_loopg [2, 3] s.size (fun j av sv wr => WrtRel w D F f av sv wr j)
  case atStart => exact HR.out
  case round =>
    obtain ⟨⟨a1, s1, S1, D1, rfl, rfl, hF, hj, ha, hd, hp, hh, hn, hq⟩, hon⟩ := hrel
    clear hs HR
    by_cases h0 : 0 < s1.size
    · have ne1 := not_empty h0
      have ne2 := not_empty2 h0
      have hql := queue_len hn hq
      have HNE1 := Lib.hid ne1
      have hai : (0 : Int) ≤ a1 ∧ (a1 : Int) ≤ 16777216 := by omega
      obtain ⟨k, hk⟩ : ∃ k, k = min s1.size (64 - a1 % 64) := ⟨_, rfl⟩
      have hkb : 0 < k ∧ k ≤ s1.size ∧ k ≤ 64 := by omega
      have HK := Lib.hid hk
      clear hk
      go_upto_region 2 with (fail)
      have b0 : Below wr.heap.size wr (wr.alloc (.cells #[.int .i64 f, .int .i64 ((a1 : Int) / 64)] 76)).drew := below_new _
      have hx0 : Blk (wr.alloc (.cells #[.int .i64 f, .int .i64 ((a1 : Int) / 64)] 76)).drew wr.heap.size 76 #[.int .i64 f, .int .i64 ((a1 : Int) / 64)] := Blk.fresh wr _ _
      have HD1 := Lib.hid (hd.below b0)
      have HX : Hid (Lw wr.heap.size f ((a1 : Int) / 64) (wr.alloc (.cells #[.int .i64 f, .int .i64 ((a1 : Int) / 64)] 76)).drew) := Lib.hid ⟨by rw [hx0.at]; rfl, by rw [hx0.at]; rfl⟩
      have HX0 := Lib.hid hx0
      have HO1 : Hid (Only D.has w (wr.alloc (.cells #[.int .i64 f, .int .i64 ((a1 : Int) / 64)] 76)).drew) := Lib.hid (hon.same (Only.of_below b0))
      have HIN := Lib.hid hd.inside
      clear b0 hx0 hd hon
      try go_frame
      refine wp_region_sorted (Lw wr.heap.size f ((a1 : Int) / 64)) [0, 1, 2, 3, 4, 5, 6] [7, 8] (by kernel_rfl) (by kernel_rfl) HX.out ?_
      repeat refine RD.next rfl rfl (by intro w' hS; simp only [Lw] at hS; go_simp; with_reducible rfl) ?_
      refine RD.done ?_
      generalize (wr.alloc (.cells #[.int .i64 f, .int .i64 ((a1 : Int) / 64)] 76)).drew = w1 at *
      refine CH.next rfl rfl fun K hK => ?_
      go_simp
      have hpt := put_any D1.p 0 D1.m1 f (a1 / 64) (a1 % 64) S1.now s1 w1 HD1.out.now hf (by omega) (by omega) h0 (small_max (by omega)) HD1.out.sep.p1
      rw [hp, show ((a1 / 64 : Nat) : Int) = (a1 : Int) / 64 from by omega, show ((a1 % 64 : Nat) : Int) = (a1 : Int).tmod 64 from by rw [Int.tmod_eq_emod_of_nonneg (by omega)]; omega] at hpt
      refine hpt.mono ?_
      rintro e w2 ⟨k2, rfl, hk2, hpp⟩
      obtain rfl : k = k2 := HK.out.trans hk2.symm
      clear hk2
      rw [show 64 * (a1 / 64) + a1 % 64 = a1 from by omega, ← hp] at hpp
      have HD2 := Lib.hid (HD1.out.put_now hpp)
      have hA2 : w2.heap[wr.heap.size]? = w1.heap[wr.heap.size]? := hpp.only.block _ HX0.out.inside (by have := HIN.out D1.p (.inl rfl); have := HIN.out D1.m1 (.inr (.inl rfl)); rintro (e | e) <;> omega)
      have HX2 : Hid (Blk w2 wr.heap.size 76 #[.int .i64 f, .int .i64 ((a1 : Int) / 64)]) := Lib.hid (hA2.trans HX0.out)
      have HO2 : Hid (Only D.has w w2) := Lib.hid (HO1.out.trans (hpp.only.mono (G := D1.has) fun x hx => .inl (by rcases hx with e | e; exact .inl e; exact .inr (.inl e))) hh)
      simp only [Oper.upon]
      refine hK _ _ ⟨by rw [HX2.out.at]; rfl, by rw [HX2.out.at]; rfl⟩ ?_
      clear hK hpt hpp hA2
      refine CH.next rfl rfl fun K hK => ?_
      go_simp
      refine hK _ _ ⟨by rw [HX2.out.at]; rfl, by rw [HX2.out.at]; rfl⟩ ?_
      clear hK
      refine CH.done (NoPanic.normal ?_)
      try go_frame
      go_wp2_with fail
      try go_frame
      refine wp_region_sorted (Lw wr.heap.size f ((a1 : Int) / 64)) [0, 1, 2, 3] [4] (by kernel_rfl) (by kernel_rfl) ⟨by rw [World.cell?_drew, HX2.out.at]; rfl, by rw [World.cell?_drew, HX2.out.at]; rfl⟩ ?_
      repeat refine RD.next rfl rfl (by intro w' hS; simp only [Lw] at hS; go_simp; with_reducible rfl) ?_
      refine RD.done ?_
      refine CH.next rfl rfl fun K hK => ?_
      go_simp
      have hadd := add_any D1.p 34 D1.mh f (a1 / 64) D1.qv S1.queue w2.drew HD2.out.drew.que hf (by omega) (by omega) HD2.out.sep.ph (fun e => (HD2.out.sep.q _ e).1 rfl) (fun e => (HD2.out.sep.q _ e).2.2.2 rfl)
      rw [hp, show ((a1 / 64 : Nat) : Int) = (a1 : Int) / 64 from by omega] at hadd
      refine hadd.mono ?_
      rintro e w3 ⟨rfl, hqp⟩
      obtain ⟨v', hq', hv'⟩ := hqp.que
      have hkk := hqp.keep
      rw [← hp] at hq' hkk
      have hoo : Only (fun b => b = D1.p ∨ b = D1.mh ∨ D1.qv.ownBlock = some b) w2.drew w3 := by have := hqp.only; rw [← hp] at this; exact this
      have HD3 := Lib.hid (HD2.out.drew.put_que hq' hkk hoo hv')
      have hA3 : w3.heap[wr.heap.size]? = w2.heap[wr.heap.size]? := hoo.block _ HX2.out.inside (by
        rintro (e | e | e)
        · have := HIN.out D1.p (.inl rfl); omega
        · have := HIN.out D1.mh (.inr (.inr (.inr (.inl rfl)))); omega
        · have := HIN.out _ (.inr (.inr (.inr (.inr (.inl e))))); omega)
      have HX3 : Blk w3 wr.heap.size 76 #[.int .i64 f, .int .i64 ((a1 : Int) / 64)] := hA3.trans HX2.out
      have hs2 : w.heap.size ≤ w2.drew.heap.size := HO2.out.size
      have HO3 : Hid (Only D.has w w3) := Lib.hid (HO2.out.trans (Only.mono (G := D1.has) ⟨hoo.os, hoo.tape, hoo.output, hoo.size, hoo.block⟩ fun x hx => .inl (by rcases hx with e | e | e; exact .inl e; exact .inr (.inr (.inr (.inl e))); exact .inr (.inr (.inr (.inr (.inl e)))))) hh)
      have HHAS : Hid (∀ b, ({ D1 with qv := v' } : Own).has b → D.has b ∨ w.heap.size ≤ b) := Lib.hid fun b hb => by
        rcases has_qv hv' b hb with e | e
        · exact hh b e
        · exact .inr (Nat.le_trans hs2 e)
      have hF2 := writeF_step (j := gk) (f := f) (a := a1) (k := k) (S := S1) (l := bl s1) (by rw [bl_len]; exact h0) (by rw [bl_len]; exact hj) (by rw [bl_len]; exact HK.out)
      rw [hF] at hF2
      have HF2 := Lib.hid hF2
      have HN2 := Lib.hid (addL_nodup (p := (f, a1 / 64)) hn)
      have HQ2 := Lib.hid (addL_in (p := (f, a1 / 64)) hq ⟨hf, by omega⟩)
      simp only [Oper.upon]
      refine hK _ _ ⟨by rw [HX3.at]; rfl, by rw [HX3.at]; rfl⟩ ?_
      clear hK hadd hqp hq' hv' hkk hoo hA3 HX3 hF hF2 hn hq
      refine CH.done (NoPanic.normal ?_)
      try go_frame
      have hw2 : IntKind.i64.wrap ((a1 : Int) + k) = (a1 : Int) + k := IntWalk.i64_in _ (by omega)
      have HSL := Lib.hid (bl_drop s1 k)
      have hsz := slice_end s1 k hkb.2.1
      by_cases hke : k = s1.size
      · subst hke
        have HN : Hid (WrtRel w D F f (.int .i64 ((a1 : Int) + s1.size)) (.string ByteArray.empty) w3 (gk - 1)) := Lib.hid
          ⟨⟨a1 + s1.size, ByteArray.empty, _, _, by congr 1, rfl, by
            rw [HF2.out]
            congr 1
            rw [List.drop_of_length_le (by rw [bl_len]; omega)]
            rfl, by show 0 ≤ _; omega, by show a1 + s1.size + 0 ≤ _; omega, HD3.out, hp, HHAS.out, HN2.out, HQ2.out⟩, HO3.out⟩
        clear hsz
        go_wp2_with fail
        go_roundg (gk - 1)
        case rel => exact HN.out
        case measure => omega
      · have hks : k < s1.size := by omega
        have HN : Hid (WrtRel w D F f (.int .i64 ((a1 : Int) + k)) (.string (s1.extract k s1.size)) w3 (gk - 1)) := Lib.hid
          ⟨⟨a1 + k, s1.extract k s1.size, _, _, by congr 1, rfl, by rw [HF2.out, HSL.out], by omega, by omega, HD3.out, hp, HHAS.out, HN2.out, HQ2.out⟩, HO3.out⟩
        clear hsz
        go_wp2_with fail
        go_roundg (gk - 1)
        case rel => exact HN.out
        case measure => omega
    · have hz : s1.size = 0 := by omega
      have he := is_empty h0
      have hb : bl s1 = [] := List.eq_nil_of_length_eq_zero (by rw [bl_len]; exact hz)
      have hFe : S1 = F := by
        rw [← hF, hb]
        cases gk with
        | zero => rfl
        | succ i => unfold St.writeF; rw [if_pos rfl]
      have HP : Hid (Post D F w wr) := Lib.hid ⟨⟨D1, hFe ▸ hd, hp, hh⟩, hon⟩
      clear hd hon hF hFe hb hz
      go_wp2_with fail
      go_returns
      exact ⟨rfl, HP.out⟩
end Dsk
end Go.Proofs.Ytgaclibokapfaaa

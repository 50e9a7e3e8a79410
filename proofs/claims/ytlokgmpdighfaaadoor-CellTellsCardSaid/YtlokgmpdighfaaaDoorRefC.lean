/- The reference's Crash; comes; Write, Sync and Truncate as plain facts. -/
import Derived.Test.YtlokgmpdighfaaaDoorRefB
import Derived.Test.YtlokgmpdighfaaaDoorPlA
namespace Go.Proofs.YtlokgmpdighfaaaDoor
open Go.RowKit Wire
set_option linter.unusedVariables false
set_option linter.unusedSimpArgs false
open Txt
namespace Dsk

section
variable {w w' : World} {R : ROwn} {nums : List Nat} {S : St}
theorem RefAt.rekeep (h : RefAt w R nums S) (hc : S.calls = 0) (k : List Int) : RefAt w R nums { S with keep := k } :=
  ⟨h.files, h.queue, h.lost, h.down, h.calls, h.keep, h.there, h.frow, h.qrow, (let ⟨ks, k1, k2, _⟩ := h.krow; ⟨ks, k1, k2, fun e => absurd hc e⟩), h.sep, h.nums_lt, h.nodup, h.rest⟩
theorem RPost.rekeep (h : RPost R S w w') (hc : S.calls = 0) (k : List Int) : RPost R { S with keep := k } w w' := by
  obtain ⟨⟨R1, n1, h1, e⟩, o⟩ := h
  exact ⟨⟨R1, n1, h1.rekeep hc k, e⟩, o⟩

theorem files_done (h : RefAt w R nums S) {wr : World} {v : Value} {B : Nat} (hB : w.heap.size ≤ B) (hr : Grow wr B 3 v nums.length (nums.flatMap fun n => fileV n (S.last.all n) (S.last.all n))) (hb : Below w.heap.size w wr) :
    RPost R { S with now := S.last, last := S.last, queue := [] } w ((wr.setCell ⟨R.g, 0, none⟩ v).setCell ⟨R.g, 1, none⟩ (.slice none 0 0)) := by
  have hlt := h.lt
  have hout : ∀ b, v.ownBlock = some b → w.heap.size ≤ b := fun b hb => Nat.le_trans hB (hr.block b hb).1
  have h1 := (h.below hb).put_files (nums' := nums) (N := S.last) (L := S.last) (hr.lower (Nat.zero_le _)) (fun b hb e => by have := hout b hb; omega) (fun b h1 h2 => by
      have := hout b h1
      have := h.inside b (.inr (.inr (.inl h2)))
      omega) (fun b h1 h2 => by
      have := hout b h1
      have := h.inside b (.inr (.inr (.inr h2)))
      omega) h.nums_lt h.nodup (fun f hf => ⟨(h.rest f hf).2, (h.rest f hf).2⟩)
  have h2 := h1.put_queue (v := .slice none 0 0) (q := []) (Grow.nil _ _ _) (fun b hb => by cases hb) (fun b _ hb => by cases hb) (fun b hb => by cases hb)
  refine ⟨⟨_, nums, h2, rfl, rfl, fun b hb => ?_⟩, ((Only.of_below hb).same (Only.set _ _ _ _ (.inl rfl))).same (Only.set _ _ _ _ (.inl rfl))⟩
  rcases hb with h1 | h1 | h1
  · exact .inl (.inl h1)
  · exact .inr (hout b h1)
  · cases h1

structure RcrsRel (w : World) (R : ROwn) (S : St) (ks : List Int) (iv : Value) (wr : World) (i : Nat) : Prop where
  iv : iv = .int .i64 i
  le : i ≤ S.queue.length
  some_ : i = 0 ∨ 0 < ks.length
  post : RPost R { S with down := true, calls := 0, last := hardK S.now (fun i => surv i ks) S.queue S.last i } w wr
structure ROutRel (w : World) (nums : List Nat) (D : Con) (ov iv : Value) (wr : World) (i : Nat) : Prop where
  iv : iv = .int .i64 i
  le : i ≤ nums.length
  row : Grow wr w.heap.size 3 ov i ((nums.take i).flatMap fun n => fileV n (D.all n) (D.all n))
  below : Below w.heap.size w wr

theorem hard_end {S : St} {ks : List Int} {i : Nat} (hi : i ≤ S.queue.length) (h : ¬ (i < S.queue.length ∧ 0 < ks.length)) (h0 : i = 0 ∨ 0 < ks.length) : hardK S.now (fun i => surv i ks) S.queue S.last i = S.dead ks := by
  unfold St.dead
  by_cases hk : 0 < ks.length
  · rw [show i = S.queue.length by omega]
  · have hks : ks = [] := List.eq_nil_of_length_eq_zero (by omega)
    subst hks
    rw [hardK_none (fun i => surv_nil i), hardK_none (fun i => surv_nil i)]
/-- What a round reads. -/
def Of (g b j n c q : Nat) (y : List UInt8) (w : World) : Prop := w.cell? ⟨g, 0, none⟩ = some (.slice (some ⟨b, 0, none⟩) n c) ∧ w.cell? ⟨b, j * 3, none⟩ = some (.int .i64 q) ∧ w.cell? ⟨b, j * 3 + 2, none⟩ = some (.string ⟨y.toArray⟩)
theorem below_ad (w : World) (o : Obj) {B : Nat} (hB : B ≤ w.heap.size) : Below B w.drew (w.alloc o).drew :=
  have h := (Below.refl B w).alloc hB o
  ⟨h.os, h.tape, h.output, h.size, h.block⟩
theorem of_keep {g b j n c q B : Nat} {y : List UInt8} {w w' : World} (h : Of g b j n c q y w) (k : Below B w w') (hg : g < B) (hb : b < B) : Of g b j n c q y w' :=
  ⟨(k.cell (p := ⟨g, 0, none⟩) hg).trans h.1, (k.cell (p := ⟨b, j * 3, none⟩) hb).trans h.2.1, (k.cell (p := ⟨b, j * 3 + 2, none⟩) hb).trans h.2.2⟩
theorem hardK_yes {now L : Con} {sel : Nat → Bool} {q : List (Nat × Nat)} {i : Nat} (hi : i < q.length) (h : sel i = true) : hardK now sel q L (i + 1) = hard now (q[i].1, q[i].2) (hardK now sel q L i) := by
  show (if sel i then hard now (q.getD i (0, 0)) _ else _) = _
  rw [if_pos h, List.getD_eq_getElem?_getD, List.getElem?_eq_getElem hi]
  rfl
theorem hardK_skip {now L : Con} {sel : Nat → Bool} {q : List (Nat × Nat)} {i : Nat} (h : sel i = false) : hardK now sel q L (i + 1) = hardK now sel q L i := by
  show (if sel i then _ else _) = _
  rw [if_neg (by rw [h]; simp)]
theorem out_next (nums : List Nat) (D : Con) {i : Nat} (hi : i < nums.length) : ((nums.take i).flatMap fun n => fileV n (D.all n) (D.all n)) ++ fileV nums[i] (D.all nums[i]) (D.all nums[i]) = (nums.take (i + 1)).flatMap fun n => fileV n (D.all n) (D.all n) := by
  rw [List.take_succ_eq_append_getElem hi, List.flatMap_append, List.flatMap_cons, List.flatMap_nil, List.append_nil]

set_option maxRecDepth 8000 in
set_option maxHeartbeats 2000000 in
theorem rcrash_any (h : RefAt w R nums S) (hk : S.ok) (v : Value) (ks : List Int) (hv : Ints w v ks) (hc : Clear v R.wr) (hks : ks.length ≤ 1000000000) : Calls Tryd.prog 21 #[ptr R.g, v] w fun e w' => e = .returned (.tuple #[]) ∧ RPost R (S.crash ks) w w' := by
  have hdn := h.down
  cases hd : S.down with
  | true =>
    have HP := Lib.hid (show RPost R (S.crash ks) w w by rw [crash_down hd]; exact RPost.refl h)
    rw [hd] at hdn
    clear h hv hc
    go_enter Tryd.func21, Tryd.ntmps21
    go_wp2_with fail
    go_returns
    exact ⟨rfl, HP.out⟩
  | false =>
    rw [hd] at hdn
    have hcl := h.calls
    have hz3 := h.free (j := 3) (by omega)
    have hz4 := h.free (j := 4) (by omega)
    have hlt := h.lt
    obtain ⟨A, c, rfl, hr⟩ := hv
    have HV : Hid (Ints w (.slice A ks.length c) ks) := Lib.hid ⟨A, c, rfl, hr⟩
    have HC := Lib.hid hc
    have HC0 := Lib.hid (crash_up' hd ks)
    have HP0 : Hid (RPost R { S with down := true, calls := 0 } w ((w.setCell ⟨R.g, 3, none⟩ (.bool true)).setCell ⟨R.g, 4, none⟩ (.int .i64 0))) :=
      Lib.hid ⟨⟨R, nums, (h.put_down true).put_calls 0 (fun e => absurd rfl e), rfl, rfl, fun _ h => .inl h⟩, (Only.set _ _ _ _ (.inl rfl)).same (Only.set _ _ _ _ (.inl rfl))⟩
    have HK := Lib.hid hk
    have HQL := hk.qlen
    clear h hc hr hk
    go_enter Tryd.func21, Tryd.ntmps21
    go_wp2_with fail
    go_loopw [4] (fun iv wr => ∃ i, RcrsRel w R S ks iv wr i) (fun iv _ => S.queue.length - (intOf iv).toNat)
    case atStart => exact ⟨0, rfl, Nat.zero_le _, .inl rfl, HP0.out⟩
    case round =>
      obtain ⟨i, rfl, hi, h0, hpost⟩ := hrel
      obtain ⟨⟨R1, n1, h1, hg1, hk1, hh1⟩, ho1⟩ := hpost
      have hqc := h1.queue
      obtain ⟨A0, c0, e0⟩ := h1.qrow.slice
      rw [e0, hg1] at hqc
      dsimp only at hqc
      by_cases hgo : i < S.queue.length ∧ 0 < ks.length
      · obtain ⟨hil, hkl⟩ := hgo
        obtain ⟨b, cc, e1, hbg, hbs, _, k0, k1⟩ := h1.sec hil
        have ea : A0 = some ⟨b, 0, none⟩ := by rw [e0] at e1; injection e1
        subst ea
        have hsec := HK.out.sec _ (List.getElem_mem hil)
        obtain ⟨A', c', e', hr'⟩ := HV.out.only HC.out ho1
        obtain rfl : A = A' := by injection e'
        have hlt2 : i % ks.length < ks.length := Nat.mod_lt _ hkl
        obtain ⟨bk, o, rfl, hck⟩ := hr' (i % ks.length) _ (List.getElem?_eq_getElem hlt2)
        have hs : surv i ks = (bits .and .i64 ks[i % ks.length] 1 == 1) := by
          unfold surv odd
          rw [List.getD_eq_getElem?_getD, List.getElem?_eq_getElem hlt2]
          simp [hkl]
        have hsv := rsurvive_any h1 HK.out.now (hardK_ok HK.out.now HK.out.last i) hsec.1 (n := S.queue[i].2) (by omega)
        rw [hg1] at hsv
        dsimp only at hsv k0 k1
        have HN := Lib.hid (fun (w5 : World) (hp : RPost R { S with down := true, calls := 0, last := hardK S.now (fun i => surv i ks) S.queue S.last (i + 1) } w w5) => (show RcrsRel w R S ks (.int .i64 ((i : Int) + 1)) w5 (i + 1) from ⟨by simp, hil, .inr hkl, hp⟩))
        have HO1 := Lib.hid ho1
        have hb : (0 : Int) ≤ (i : Int) % (ks.length : Int) ∧ (i : Int) % (ks.length : Int) < (ks.length : Int) := by omega
        cases hodd : (bits .and .i64 ks[i % ks.length] 1 == 1) with
        | true =>
          have HS := Lib.hid hsv
          have HX := Lib.hid (fun w5 (hp : RPost R1 _ wr w5) => HN.out w5 (by rw [hardK_yes hil (show (fun i => surv i ks) i = true from hs.trans hodd)]; exact hp.next ho1 hg1 hk1 hh1))
          clear hsv h1 ho1 hh1 hk1 hr' hs hg1 e0 e1
          generalize ks[i % ks.length] = x at *
          generalize S.queue[i] = q at *
          obtain ⟨q1, q2⟩ := q
          dsimp only at k0 k1
          go_wp2_with ((go_at_call 43; refine HS.out.mono ?_; rintro e w4 ⟨rfl, hp4⟩; have HP4 := Lib.hid (HX.out _ hp4); clear hp4))
          go_roundw
          case rel => exact ⟨i + 1, HP4.out⟩
          case measure => simp [intOf]; omega
        | false =>
          have HX := Lib.hid (HN.out wr (by rw [hardK_skip (show (fun i => surv i ks) i = false from hs.trans hodd)]; exact ⟨⟨R1, n1, h1, hg1, hk1, hh1⟩, ho1⟩))
          clear hsv h1 ho1 hh1 hk1 hr' hs hg1 e0 e1
          generalize ks[i % ks.length] = x at *
          go_wp2_with fail
          go_roundw
          case rel => exact ⟨i + 1, HX.out⟩
          case measure => simp [intOf]; omega
      · have hend := hard_end hi hgo h0
        obtain ⟨wo, rfl⟩ : ∃ wo, wo = wr := ⟨wr, rfl⟩
        rw [hend] at h1
        have HF := Lib.hid (fun (wx : World) (v : Value) hr hb => (files_done h1 (wr := wx) (v := v) (B := wo.heap.size) (Nat.le_refl _) hr hb).next ho1 hg1 hk1 hh1)
        rw [hg1] at HF
        dsimp only at HF
        have hfiles := h1.files
        have hlt1 := h1.lt
        have hlen := h1.len
        have hf0 := h1.free (j := 0) (by omega)
        have hf1 := h1.free (j := 1) (by omega)
        have hc1 := h1.queue
        obtain ⟨A5, c5, e5⟩ := h1.frow.slice
        have H1 := Lib.hid h1
        have E5 := Lib.hid e5
        rw [e5, hg1] at hfiles
        rw [hg1] at hlt1 hf0 hf1 hc1
        clear h1 ho1 hh1 hk1 e0 hend e5
        have hgo1 : ¬ (i < S.queue.length) ∨ (i < S.queue.length ∧ ¬ 0 < ks.length) := by omega
        obtain ⟨i0, hi0, hz0, hz1, hz2⟩ := info_parts info_file
        rcases hgo1 with hgo1 | ⟨hgo2, hgo1⟩
        all_goals
          go_wp2_with fail
          go_loopw [5, 6] (fun ov iv wx => ∃ j, ROutRel wo n1 (S.dead ks) ov iv wx j) (fun _ iv _ => n1.length - (intOf iv).toNat)
          case atStart => exact ⟨0, rfl, Nat.zero_le _, Grow.nil _ _ _, Below.refl _ _⟩
          case round =>
            obtain ⟨j, rfl, hj, hrow, hbel⟩ := hrel
            have hsz := hbel.size
            have hfl := (hbel.cell (p := ⟨R.g, 0, none⟩) hlt1).trans hfiles
            have HB := Lib.hid hbel
            have HR := Lib.hid hrow
            clear hrow hbel
            by_cases hjl : j < n1.length
            · obtain ⟨b, c2, e1, hbg, hbs, _, k0, k1, k2⟩ := H1.out.file hjl
              have ea : A5 = some ⟨b, 0, none⟩ := by rw [E5.out] at e1; injection e1
              subst ea
              have HN := Lib.hid (fun v5 w5 (g1 : Grow w5 wo.heap.size 3 v5 (j + 1) ((((n1.take j).flatMap fun n => fileV n ((S.dead ks).all n) ((S.dead ks).all n))) ++ fileV n1[j] ((S.dead ks).all n1[j]) ((S.dead ks).all n1[j]))) (g2 : Below wo.heap.size wo w5) => (show ROutRel wo n1 (S.dead ks) v5 (.int .i64 ((j : Int) + 1)) w5 (j + 1) from ⟨by simp, hjl, by rw [← out_next n1 _ hjl]; exact g1, g2⟩))
              have HOF : Hid (Of R.g b j n1.length c5 n1[j] ((S.dead ks).all n1[j]) wr.drew) := Lib.hid ⟨hfl, (HB.out.cell (p := ⟨b, j * 3, none⟩) hbs).trans k0, (HB.out.cell (p := ⟨b, j * 3 + 2, none⟩) hbs).trans k2⟩
              clear k0 k1 k2
              generalize (S.dead ks).all n1[j] = y at *
              generalize n1[j] = q at *
              generalize ((n1.take j).flatMap fun n => fileV n ((S.dead ks).all n) ((S.dead ks).all n)) = row at *
              go_upto_region 12 with (fail)
              clear hfl
              try go_frame
              refine wp_region_sorted (Of R.g b j n1.length c5 q y) [0, 1, 2, 3, 4, 5, 6, 7, 8, 9, 10, 11, 12, 13, 14, 15, 16, 17, 18, 19, 20, 21, 22, 23, 24, 25] [26, 27, 28] (by kernel_rfl) (by kernel_rfl) HOF.out ?_
              repeat refine RD.next rfl rfl (by intro w' hS; simp only [Of] at hS; go_simp; with_reducible rfl) ?_
              refine RD.done ?_
              refine CH.next rfl rfl fun K hK => ?_
              go_simp
              have b6 : Below wo.heap.size wr.drew (wr.alloc (.cells #[.int .i64 q, .string ⟨y.toArray⟩, .string ⟨y.toArray⟩] 88)).drew := below_ad _ _ hsz
              have hg6 := HR.out.below ((Below.refl _ wr).alloc (Nat.le_refl _) (.cells #[.int .i64 q, .string ⟨y.toArray⟩, .string ⟨y.toArray⟩] 88)).drew
              have hc6 := new_cells wr 88 (fileV q y y)
              have hB6 : Below wo.heap.size wo (wr.alloc (.cells #[.int .i64 q, .string ⟨y.toArray⟩, .string ⟨y.toArray⟩] 88)).drew := (HB.out.alloc hsz _).drew
              refine hK _ _ (of_keep HOF.out b6 hlt1 hbs) ?_
              clear hK
              refine CH.next rfl rfl fun K hK => ?_
              refine wp_append_src _ _ _ _ rfl wo.heap.size 88 i0 _ 3 40 Tryd.underlying69 hi0 hz0 hz1 hz2 rfl (by omega) u5 j _ rfl hg6 _ 1 (fileV q y y) rfl (Src.ofSlice _ (size := 3) Tryd.underlying69 ⟨wr.heap.size, 0, none⟩ 1 1 (fileV q y y) rfl hc6 (one_file _ _ _)) (small_max (by omega)) (by omega) hB6.size ?_
              intro v7 w7 hown7 hg7 _
              have b7 := (hB6.grown hg7 hB6.size fun k hk => (HR.out.block k hk).1)
              have HN7 := Lib.hid (HN.out v7 w7 hown7 b7)
              have OF7 : Of R.g b j n1.length c5 q y w7 := of_keep HOF.out (b6.grown hg7 hB6.size fun k hk => (HR.out.block k hk).1) hlt1 hbs
              refine hK _ _ OF7 ?_
              clear hK
              refine CH.next rfl rfl fun K hK => ?_
              go_simp
              refine hK _ _ OF7 ?_
              clear hK
              refine CH.done (NoPanic.normal ?_)
              try go_frame
              go_wp2_with fail
              go_roundw
              case rel => exact ⟨j + 1, HN7.out⟩
              case measure => simp [intOf]; omega
            · obtain rfl : n1.length = j := by omega
              rw [List.take_length] at HR
              have hq1 := (HB.out.cell (p := ⟨R.g, 1, none⟩) hlt1).trans hc1
              have hz0' : wr.frozen? ⟨R.g, 0, none⟩ = false := (World.frozen?_of_block (a := ⟨R.g, 0, none⟩) (HB.out.block R.g hlt1)).trans hf0
              have hz1' : wr.frozen? ⟨R.g, 1, none⟩ = false := (World.frozen?_of_block (a := ⟨R.g, 1, none⟩) (HB.out.block R.g hlt1)).trans hf1
              have HP := Lib.hid ((HF.out wr u5 HR.out HB.out).rekeep rfl [])
              obtain ⟨A7, c7, rfl⟩ := HR.out.slice
              go_wp2_with fail
              go_returns
              exact ⟨rfl, by rw [HC0.out]; exact HP.out⟩
end
end Dsk
end Go.Proofs.YtlokgmpdighfaaaDoor

/-! The reference's comes: a call is counted, and the scheduled crash performed. -/
namespace Go.Proofs.YtlokgmpdighfaaaDoor
open Go.RowKit Wire
set_option linter.unusedVariables false
set_option linter.unusedSimpArgs false
open Txt
namespace Dsk

/-- What comes does. -/
def St.comes (S : St) (f a : Int) (l : List UInt8) : St :=
  if S.down || S.calls == 0 then S else if 0 < S.calls - 1 then { S with calls := S.calls - 1 }
  else (if isF f && fitsV a l.length then ({ S with calls := 0 } : St).write f.toNat a.toNat l else { S with calls := 0 }).crash S.keep
theorem comes_off {S : St} (h : S.down = true ∨ S.calls = 0) (f a : Int) (l : List UInt8) : S.comes f a l = S := by
  unfold St.comes
  rw [if_pos (by rcases h with h | h <;> simp [h])]
theorem comes_more {S : St} (hd : S.down = false) (hc : 1 < S.calls) (f a : Int) (l : List UInt8) : S.comes f a l = { S with calls := S.calls - 1 } := by
  unfold St.comes
  rw [if_neg (by simp [hd]; omega), if_pos (by omega)]
theorem comes_last {S : St} (hd : S.down = false) (hc : S.calls = 1) (f a : Int) (l : List UInt8) : S.comes f a l = (if isF f && fitsV a l.length then ({ S with calls := 0 } : St).write f.toNat a.toNat l else { S with calls := 0 }).crash S.keep := by
  unfold St.comes
  rw [if_neg (by simp [hd]; omega), if_neg (by omega)]

section
variable {w w' : World} {R : ROwn} {nums : List Nat} {S : St}
theorem RefAt.clear_kv (h : RefAt w R nums S) : Clear R.kv R.wr := by
  intro b o n c hb _ hF
  have hk : R.kv.ownBlock = some b := by
    obtain ⟨ks, _, hr, _⟩ := h.krow
    rcases hr.form with ⟨e, _⟩ | ⟨g, cap, e, _⟩
    · rw [e] at hb
      cases hb
    · rw [e] at hb ⊢
      injection hb with hb
      injection hb with hb
      injection hb with hb
      rw [hb]
      rfl
  rcases hF with e | e | e
  · exact h.sep.k b hk e
  · exact h.sep.fk b e hk
  · exact h.sep.qk b e hk
theorem come_crash (h : RefAt w R nums S) (hc : S.calls ≠ 0) {T : St} (hT : T.ok) {w2 : World} (hp : RPost R T w w2) : w2.cell? ⟨R.g, 5, none⟩ = some R.kv ∧
    Calls Tryd.prog 21 #[ptr R.g, R.kv] w2 fun e w' => e = .returned (.tuple #[]) ∧ RPost R (T.crash S.keep) w w' := by
  obtain ⟨⟨R1, n1, h1, hg1, hk1, hh1⟩, ho1⟩ := hp
  have hcell := h1.keep
  rw [hg1, hk1] at hcell
  refine ⟨hcell, ?_⟩
  obtain ⟨ks, hl, hr, he⟩ := h.krow
  obtain rfl := he hc
  have hi : Ints w2 R.kv S.keep := (Ints.of_grow hr).only h.clear_kv ho1
  have hcr := rcrash_any h1 hT R.kv S.keep hi (hk1 ▸ h1.clear_kv) hl
  rw [hg1] at hcr
  exact hcr.mono fun e w' ⟨h2, h3⟩ => ⟨h2, h3.next ho1 hg1 hk1 hh1⟩

set_option maxRecDepth 8000 in
set_option maxHeartbeats 2000000 in
theorem comes_any (h : RefAt w R nums S) (hk : S.ok) (f a : Int) (s : ByteArray) (hs : s.size ≤ 16777216) : Calls Tryd.prog 54 #[ptr R.g, .int .i64 f, .int .i64 a, .string s] w fun e w' => e = .returned (.tuple #[]) ∧ RPost R (S.comes f a (bl s)) w w' := by
  have hdn := h.down
  have hcl := h.calls
  have hz4 := h.free (j := 4) (by omega)
  have hlt := h.lt
  have hpos := hk.calls
  cases hd : S.down with
  | true =>
    rw [hd] at hdn
    have HP := Lib.hid (show RPost R (S.comes f a (bl s)) w w by rw [comes_off (.inl hd)]; exact RPost.refl h)
    clear h hk
    go_enter Tryd.func54, Tryd.ntmps54
    go_wp2_with fail
    go_returns
    exact ⟨rfl, HP.out⟩
  | false =>
    rw [hd] at hdn
    by_cases hc0 : S.calls = 0
    · have HP := Lib.hid (show RPost R (S.comes f a (bl s)) w w by rw [comes_off (.inr hc0)]; exact RPost.refl h)
      rw [hc0] at hcl
      clear h hk
      go_enter Tryd.func54, Tryd.ntmps54
      go_wp2_with fail
      go_returns
      exact ⟨rfl, HP.out⟩
    · by_cases hc1 : 1 < S.calls
      · have hne : (S.calls == 0) = false := beq_eq_false_iff_ne.2 hc0
        have hgt : (0 : Int) < S.calls - 1 := by omega
        have HP : Hid (RPost R (S.comes f a (bl s)) w (w.setCell ⟨R.g, 4, none⟩ (.int .i64 (S.calls - 1)))) := Lib.hid (by
          rw [comes_more hd hc1]
          exact ⟨⟨R, nums, h.put_calls _ (fun _ => hc0), rfl, rfl, fun _ h => .inl h⟩, Only.set _ _ _ _ (.inl rfl)⟩)
        clear h hk
        go_enter Tryd.func54, Tryd.ntmps54
        go_wp2_with fail
        go_returns
        exact ⟨rfl, HP.out⟩
      · have hc2 : S.calls = 1 := by omega
        rw [hc2] at hcl
        have h1 : RefAt (w.setCell ⟨R.g, 4, none⟩ (.int .i64 0)) R nums { S with calls := 0 } := h.put_calls 0 (fun e => absurd rfl e)
        have hp1 : RPost R { S with calls := 0 } w (w.setCell ⟨R.g, 4, none⟩ (.int .i64 0)) := ⟨⟨R, nums, h1, rfl, rfl, fun _ h => .inl h⟩, Only.set _ _ _ _ (.inl rfl)⟩
        have hk0 : ({ S with calls := 0 } : St).ok := hk.calls0 (by omega)
        have HK : Hid (∀ (T : St) (hT : T.ok) (w2 : World), RPost R T w w2 → _ ∧ _) := Lib.hid fun T hT w2 hp => come_crash h hc0 hT hp
        have HC := Lib.hid (comes_last hd hc2 f a (bl s))
        obtain ⟨ks, _, hr, _⟩ := h.krow
        obtain ⟨Ak, ck, ek⟩ := hr.slice
        rw [ek] at HK
        clear ek hr
        generalize ks.length = lk at *
        have HF := Lib.hid (fits_any a s hs)
        have HA := Lib.hid (fun (hf : isF f = true) (hv : fitsV a s.size = true) => by
          have h2 := isF_nat hf
          have h3 : 0 ≤ a ∧ a + s.size ≤ 16777216 := of_decide_eq_true hv
          have := radd_any h1 hk0.now (by have := hk.qlen; show S.queue.length ≤ _; omega) h2.2.2.1 a.toNat s (by omega)
          rw [h2.2.2.2, show ((a.toNat : Nat) : Int) = a by omega] at this
          exact this.mono fun e w' (hh : _ ∧ _) => (⟨hh.1, hh.2.next hp1.only rfl rfl fun _ h => .inl h⟩ : e = .returned (.tuple #[]) ∧ RPost R _ w w'))
        have HW := Lib.hid (fun (hf : isF f = true) (hv : fitsV a s.size = true) => by
          have h2 := isF_nat hf
          have h3 : 0 ≤ a ∧ a + s.size ≤ 16777216 := of_decide_eq_true hv
          exact (hk0.write (f := f.toNat) (a := a.toNat) (l := bl s) h2.2.2.1 (by rw [bl_len]; omega)))
        have hlen : fitsV a (bl s).length = fitsV a s.size := by rw [bl_len]
        rw [hlen] at HC
        clear h h1 hk hpos hc0 hc1 hc2 hlen
        by_cases hf : isF f = true
        · obtain ⟨hf0, hf1, -, -⟩ := isF_nat hf
          have hf2 : f ≤ 15 := by omega
          cases hv : fitsV a s.size with
          | true =>
            rw [hv] at HF
            have HA' := Lib.hid (HA.out hf hv)
            have HK' := Lib.hid (fun w2 hp => HK.out _ (HW.out hf hv) w2 hp)
            rw [hf, hv] at HC
            rw [if_pos (by rfl)] at HC
            clear hf hv HA HK HW hp1 hk0
            go_enter Tryd.func54, Tryd.ntmps54
            go_wp2_with (first
              | (go_at_call 55; refine (HF.out _).mono ?_; rintro e w2 ⟨rfl, rfl⟩)
              | (go_at_call 56; refine HA'.out.mono ?_; rintro e w3 ⟨rfl, hp3⟩; obtain ⟨hcell, hcr⟩ := HK'.out w3 hp3; have HCR := Lib.hid hcr; clear hcr hp3)
              | (go_at_call 21; refine HCR.out.mono ?_; rintro e w4 ⟨rfl, hp4⟩; have HP4 := Lib.hid hp4; clear hp4))
            go_returns
            exact ⟨rfl, by rw [HC.out]; exact HP4.out⟩
          | false =>
            rw [hv] at HF
            obtain ⟨hcell, hcr⟩ := HK.out _ hk0 _ hp1
            have HCR := Lib.hid hcr
            rw [hf, hv] at HC
            rw [if_neg (by simp)] at HC
            clear hf hv HA HK HW hp1 hk0 hcr
            go_enter Tryd.func54, Tryd.ntmps54
            go_wp2_with (first
              | (go_at_call 55; refine (HF.out _).mono ?_; rintro e w2 ⟨rfl, rfl⟩)
              | (go_at_call 21; refine HCR.out.mono ?_; rintro e w4 ⟨rfl, hp4⟩; have HP4 := Lib.hid hp4; clear hp4))
            go_returns
            exact ⟨rfl, by rw [HC.out]; exact HP4.out⟩
        · obtain ⟨hcell, hcr⟩ := HK.out _ hk0 _ hp1
          have HCR := Lib.hid hcr
          rw [if_neg (by simp [hf])] at HC
          have hno : f < 0 ∨ (0 ≤ f ∧ 15 < f) := by unfold isF at hf; simp at hf; omega
          clear hf HA HK HW hp1 hk0 hcr
          rcases hno with hn | ⟨hn1, hn2⟩
          all_goals
            go_enter Tryd.func54, Tryd.ntmps54
            go_wp2_with (first
              | (go_at_call 21; refine HCR.out.mono ?_; rintro e w4 ⟨rfl, hp4⟩; have HP4 := Lib.hid hp4; clear hp4))
            go_returns
            exact ⟨rfl, by rw [HC.out]; exact HP4.out⟩
end
end Dsk
end Go.Proofs.YtlokgmpdighfaaaDoor

/-! The reference's Write, Sync and Truncate, as plain facts. -/
namespace Go.Proofs.YtlokgmpdighfaaaDoor
open Go.RowKit Wire
set_option linter.unusedVariables false
set_option linter.unusedSimpArgs false
open Txt
namespace Dsk

section
variable {S : St}
theorem write_keep (f a : Nat) (l : List UInt8) : (S.write f a l).keep = S.keep := by
  have h := writeF_calls S.calls S.keep l.length S f a l
  have h2 := congrArg St.keep h
  exact h2
theorem write_calls (c : Int) (f a : Nat) (l : List UInt8) : ({ S with calls := c } : St).write f a l = { S.write f a l with calls := c } := by
  have h := writeF_calls c S.keep l.length S f a l
  have hk := write_keep (S := S) f a l
  have e : ({ S.writeF l.length f a l with calls := c, keep := S.keep } : St) = { S.write f a l with calls := c } := by
    rw [← hk]
    rfl
  exact h.trans e
theorem errW_zero (hd : S.down = false) (f a : Int) (n : Nat) : S.errW f a n = 0 ↔ (isF f && fitsV a n) = true := by
  unfold St.errW fitsV
  rw [if_neg (by rw [hd]; simp)]
  cases hf : isF f
  · simp
  · by_cases h0 : a < 0
    · rw [if_pos (by simp [h0])]
      simp
      omega
    · rw [if_neg (by simp [h0])]
      split
      · simp
        omega
      · simp
        omega
theorem mayV_up (hd : S.down = false) (f : Int) : mayV S f = if isF f then 0 else 1 := by unfold mayV; rw [if_neg (by rw [hd]; simp)]
theorem mayV_down (hd : S.down = true) (f : Int) : mayV S f = 9 := by unfold mayV; rw [if_pos hd]

/-- What the reference's Write does. -/
def wroteV (T : St) (f a : Int) (l : List UInt8) : St × Int :=
  if mayV T f ≠ 0 then (T, mayV T f) else if a < 0 then (T, 1) else if fitsV a l.length = false then (T, 6) else (T.write f.toNat a.toNat l, 0)
theorem wrote_up_eq (hd : S.down = false) (f a : Int) (l : List UInt8) : wroteV S f a l = (if S.errW f a l.length = 0 then S.write f.toNat a.toNat l else S, S.errW f a l.length) := by
  unfold wroteV
  rw [mayV_up hd]
  unfold St.errW fitsV
  cases hf : isF f
  · simp [hd]
  · by_cases h0 : a < 0
    · simp [h0, hd]
    · by_cases h1 : a > 16777216 - (l.length : Int)
      · have h2 : ¬ (0 ≤ a ∧ a + (l.length : Int) ≤ 16777216) := by omega
        simp [h0, h1, h2, hd]
      · have h2 : 0 ≤ a ∧ a + (l.length : Int) ≤ 16777216 := by omega
        simp [h0, h1, h2, hd]
theorem crash_down' (ks : List Int) (hd : S.down = false) : (S.crash ks).down = true := by rw [crash_up' hd]
theorem write_ref (hk : S.ok) (f a : Int) (l : List UInt8) : S.Write f a l = wroteV (S.comes f a l) f a l := by
  cases hd : S.down with
  | true =>
    rw [comes_off (.inl hd), Write_down hd]
    unfold wroteV
    rw [mayV_down hd, if_pos (by decide)]
  | false =>
    have hpos := hk.calls
    by_cases hc : S.calls = 0
    · rw [comes_off (.inr hc), Write_up hc hd, wrote_up_eq hd]
    · obtain ⟨X, hX⟩ : ∃ X, (if S.errW f a l.length = 0 then S.write f.toNat a.toNat l else S) = X := ⟨_, rfl⟩
      have hx : X.down = false ∧ X.calls = S.calls ∧ X.keep = S.keep := by
        rw [← hX]
        split
        · obtain ⟨h1, h2, h3⟩ := write_now S f.toNat a.toNat l
          exact ⟨h2.trans hd, h3, write_keep _ _ _⟩
        · exact ⟨hd, rfl, rfl⟩
      by_cases hc1 : 1 < S.calls
      · have hcn : X.count = { X with calls := S.calls - 1 } := by
          unfold St.count
          rw [if_neg (by rw [hx.1, hx.2.1]; simp; omega), if_neg (by rw [hx.2.1]; simp; omega), hx.2.1]
        rw [Write_at hX hcn, comes_more hd hc1, wrote_up_eq (S := { S with calls := S.calls - 1 }) hd]
        rw [if_neg (by show ¬ X.down = true; rw [hx.1]; simp), write_calls, ← hX]
        show (_, _) = ((if S.errW f a l.length = 0 then _ else _), S.errW f a l.length)
        split <;> rfl
      · have hc2 : S.calls = 1 := by omega
        have hcn : X.count = ({ X with calls := 0 } : St).crash S.keep := by
          unfold St.count
          rw [if_neg (by rw [hx.1, hx.2.1]; simp; omega), if_pos (by rw [hx.2.1]; simp; omega), hx.2.2]
        have hdn : (({ X with calls := 0 } : St).crash S.keep).down = true := crash_down' _ hx.1
        have hT : S.comes f a l = ({ X with calls := 0 } : St).crash S.keep := by
          rw [comes_last hd hc2, ← hX]
          by_cases he : S.errW f a l.length = 0
          · rw [if_pos he, if_pos ((errW_zero hd f a l.length).1 he), write_calls]
          · rw [if_neg he, if_neg (fun h => he ((errW_zero hd f a l.length).2 h))]
        rw [Write_at hX hcn, hT, hdn, if_pos rfl]
        unfold wroteV
        rw [mayV_down hdn, if_pos (by decide)]
theorem comes_zero (hk : S.ok) : S.comes 0 0 [] = S.count := by
  have hpos := hk.calls
  cases hd : S.down with
  | true => rw [comes_off (.inl hd), count_down hd]
  | false =>
    by_cases hc : S.calls = 0
    · rw [comes_off (.inr hc), count_none hc]
    · by_cases hc1 : 1 < S.calls
      · rw [comes_more hd hc1]
        unfold St.count
        rw [if_neg (by rw [hd]; simp; omega), if_neg (by simp; omega)]
      · rw [comes_last hd (by omega), if_pos (by decide)]
        unfold St.count
        rw [if_neg (by rw [hd]; simp; omega), if_pos (by simp; omega)]
        rfl
theorem St.ok.comes (hk : S.ok) (f a : Int) (l : List UInt8) : (S.comes f a l).ok := by
  have hpos := hk.calls
  unfold St.comes
  split
  · exact hk
  · split
    · exact hk.calls' (by omega)
    · have h0 : ({ S with calls := 0 } : St).ok := hk.calls0 (by omega)
      refine St.ok.crash ?_ _
      split
      · rename_i h
        rw [Bool.and_eq_true] at h
        have h2 := isF_nat h.1
        have h3 : 0 ≤ a ∧ a + l.length ≤ 16777216 := of_decide_eq_true h.2
        exact h0.write h2.2.2.1 (by omega)
      · exact h0

/-- What the reference's Sync and Truncate do. -/
def syncedV (T : St) (f : Int) : St × Int := if mayV T f ≠ 0 then (T, mayV T f) else if 0 < T.lost then ({ T with lost := T.lost - 1 }, 10) else (T.settle f.toNat, 0)
theorem sync_ref (hk : S.ok) (f : Int) : S.Sync f = syncedV (S.comes 0 0 []) f := by
  rw [comes_zero hk]
  unfold St.Sync syncedV mayV
  generalize S.count = T
  by_cases hd : T.down = true
  · rw [if_pos hd, if_pos hd, if_pos (by decide)]
  · rw [if_neg hd, if_neg hd]
    cases hf : isF f
    · simp
    · simp
def truncV (T : St) (f n : Int) : St × Int := if mayV T f ≠ 0 then (T, mayV T f) else if n < 0 ∨ (T.now.size f.toNat : Int) < n then (T, 1) else (T.trunc f.toNat n.toNat, 0)
theorem trunc_ref (hk : S.ok) (f n : Int) : S.Trunc f n = truncV (S.comes 0 0 []) f n := by
  rw [comes_zero hk]
  unfold St.Trunc truncV mayV
  generalize S.count = T
  by_cases hd : T.down = true
  · rw [if_pos hd, if_pos hd, if_pos (by decide)]
  · rw [if_neg hd, if_neg hd]
    cases hf : isF f
    · simp
    · by_cases h0 : n < 0
      · simp [h0]
      · by_cases h1 : (T.now.size f.toNat : Int) < n
        · simp [h0, h1]
        · simp [h0, h1]
/-- .. and its Read. -/
theorem read_ref (hk : S.ok) (f a n : Int) : S.Read f a n = if mayV S f ≠ 0 then ([], mayV S f) else if a < 0 ∨ n < 0 then ([], 1) else if (S.now.size f.toNat : Int) ≤ a then ([], 0) else (((S.now.all f.toNat).take (a.toNat + min n.toNat (S.now.size f.toNat - a.toNat))).drop a.toNat, 0) := by
  unfold St.Read mayV
  cases hd : S.down
  · cases hf : isF f
    · simp
    · by_cases h0 : a < 0
      · simp [h0]
      · by_cases h1 : n < 0
        · simp [h1]
        · have hr := read_part hk.now f.toNat a.toNat n.toNat
          by_cases h2 : (S.now.size f.toNat : Int) ≤ a
          · have : S.now.read f.toNat a.toNat n.toNat = [] := List.eq_nil_of_length_eq_zero (by rw [Con.read_len]; omega)
            simp [h0, h1, h2, this]
          · have hm : min a.toNat (S.now.size f.toNat) = a.toNat := by omega
            rw [hm] at hr
            have : S.now.read f.toNat a.toNat n.toNat = ((S.now.all f.toNat).take (a.toNat + min n.toNat (S.now.size f.toNat - a.toNat))).drop a.toNat := by
              rw [hr, List.drop_take]
              congr 1
              omega
            simp [h0, h1, h2, this]
  · simp
end
end Dsk
end Go.Proofs.YtlokgmpdighfaaaDoor

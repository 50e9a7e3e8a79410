/- What the reference's calls do, as plain facts; add; settle; survive. -/
import Derived.Test.YtlokgmpdighfaaaDoorRefA
import Derived.Test.YtlokgmpdighfaaaDoorPlA
namespace Go.Proofs.YtlokgmpdighfaaaDoor
open Go.RowKit Wire
set_option linter.unusedVariables false
set_option linter.unusedSimpArgs false
open Txt
namespace Dsk

theorem but_of {f : Nat} {A B : Con} (h : ∀ g, g ≠ f → A.size g = B.size g ∧ ∀ i, A.byte g i = B.byte g i) : ButF f A B := fun g hg => ⟨(h g hg).1, Con.all_same (h g hg).1 (h g hg).2⟩
theorem put_but (C : Con) (f a : Nat) (l : List UInt8) : ButF f (C.put f a l) C := but_of fun g hg => put_other C l hg
theorem cut_but (C : Con) (f n : Nat) : ButF f (C.cut f n) C := but_of fun g hg => cut_aside C n hg
theorem ButF.trans {f : Nat} {A B C : Con} (h : ButF f A B) (k : ButF f B C) : ButF f A C := fun g hg => ⟨(h g hg).1.trans (k g hg).1, (h g hg).2.trans (k g hg).2⟩

/-- The whole of a file into which bytes are put. -/
theorem put_all {C : Con} (h : C.ok) (f a : Nat) (l : List UInt8) (hr : a + l.length ≤ 16777216) : (C.put f a l).all f = putB (C.all f) a l := by
  unfold putB
  by_cases hl : l = []
  · subst hl
    rw [if_pos rfl, Con.put_nil]
  · rw [if_neg hl]
    have hk := Con.put_ok (f := f) h hr
    have hs := Con.put_size C f a l hl f
    rw [if_pos rfl] at hs
    refine List.ext_getElem? fun j => ?_
    rw [h.all_len]
    by_cases hj : j < max (C.size f) (a + l.length)
    · rw [hk.all_get (by omega), midB_get _ _ _ _ _ _ hj, Con.put_byte, h.all_getD]
      by_cases h2 : a ≤ j ∧ j < a + l.length
      · rw [if_pos ⟨rfl, h2⟩, if_pos h2]
      · rw [if_neg (fun e => h2 e.2), if_neg h2]
    · rw [List.getElem?_eq_none (by rw [hk.all_len]; omega), List.getElem?_eq_none (by rw [midB_len]; omega)]

/-- Sectors from k on, one after the other. -/
def addR (q : List (Nat × Nat)) (f k : Nat) : Nat → List (Nat × Nat)
  | 0 => q
  | n + 1 => addL (addR q f k n) (f, k + n)
theorem addR_left (q : List (Nat × Nat)) (f k : Nat) : ∀ n, addR q f k (n + 1) = addR (addL q (f, k)) f (k + 1) n
  | 0 => rfl
  | n + 1 => by
    show addL (addR q f k (n + 1)) (f, k + (n + 1)) = addL (addR (addL q (f, k)) f (k + 1) n) (f, k + 1 + n)
    rw [addR_left q f k n, show k + (n + 1) = k + 1 + n by omega]
theorem addR_len (q : List (Nat × Nat)) (f k : Nat) : ∀ n, (addR q f k n).length ≤ q.length + n
  | 0 => Nat.le_refl _
  | n + 1 => by
    have := addR_len q f k n
    show (addL (addR q f k n) (f, k + n)).length ≤ _
    unfold addL
    split
    · omega
    · simp
      omega
theorem writeF_eq : ∀ (k : Nat) (S : St) (f a : Nat) (l : List UInt8), l.length ≤ k → l ≠ [] →
    S.writeF k f a l = { S with now := S.now.put f a l, queue := addR S.queue f (a / 64) ((a + l.length - 1) / 64 + 1 - a / 64) }
  | 0, S, f, a, l, h, hl => absurd (List.length_eq_zero_iff.1 (by omega)) hl
  | k + 1, S, f, a, l, h, hl => by
    have hp : 0 < l.length := List.length_pos_iff.2 hl
    have h2 : (l.drop (64 - a % 64)).length = l.length - (64 - a % 64) := List.length_drop
    have h3 : (l.take (64 - a % 64)).length = min (64 - a % 64) l.length := List.length_take
    unfold St.writeF
    rw [if_neg hl]
    by_cases hd : l.drop (64 - a % 64) = []
    · have h4 : l.length ≤ 64 - a % 64 := by rw [hd] at h2; simp at h2; omega
      have h5 : l.take (64 - a % 64) = l := List.take_of_length_le h4
      rw [hd, h5, show (a + l.length - 1) / 64 + 1 - a / 64 = 0 + 1 by omega]
      cases k <;> rfl
    · have h4 : ¬ l.length ≤ 64 - a % 64 := fun e => hd (List.drop_eq_nil_of_le e)
      rw [writeF_eq k _ f _ _ (by omega) hd, h2, h3]
      have e1 : (a + min (64 - a % 64) l.length) / 64 = a / 64 + 1 := by omega
      have e2 : (a + min (64 - a % 64) l.length + (l.length - (64 - a % 64)) - 1) / 64 = (a + l.length - 1) / 64 := by congr 1; omega
      have e3 : (a + l.length - 1) / 64 + 1 - a / 64 = ((a + l.length - 1) / 64 + 1 - (a / 64 + 1)) + 1 := by omega
      dsimp only
      rw [e1, e2, e3, addR_left, ← h3, Con.put_put, List.take_append_drop]
theorem write_eq (S : St) (f a : Nat) (l : List UInt8) (hl : l ≠ []) : S.write f a l = { S with now := S.now.put f a l, queue := addR S.queue f (a / 64) ((a + l.length - 1) / 64 + 1 - a / 64) } := writeF_eq _ S f a l (Nat.le_refl _) hl
theorem write_nil (S : St) (f a : Nat) : S.write f a [] = S := rfl

section
variable {S : St}
theorem settle_all (h : S.ok) (f : Nat) : (S.settle f).last.all f = S.now.all f := Con.all_same (by rw [h.settle_size, if_pos rfl]) fun i => by rw [h.settle_last, if_pos rfl]
theorem settle_but (h : S.ok) (f : Nat) : ButF f (S.settle f).last S.last := but_of fun g hg => ⟨by rw [h.settle_size, if_neg hg], fun i => by rw [h.settle_last, if_neg hg]⟩
theorem cut_all' {C : Con} (h : C.ok) {f n : Nat} (hn : n ≤ C.size f) : (C.cut f n).all f = (C.all f).take n := by
  have hk := Con.cut_ok h hn
  have hs : (C.cut f n).size f = n := by show (if f = f then n else _) = n; rw [if_pos rfl]
  refine List.ext_getElem? fun i => ?_
  by_cases hi : i < n
  · rw [hk.all_get (by omega), List.getElem?_take_of_lt hi, h.all_get (by omega)]
    show some (if f = f ∧ n ≤ i then 0 else C.byte f i) = _
    rw [if_neg (by omega)]
  · rw [List.getElem?_eq_none (by rw [hk.all_len]; omega), List.getElem?_eq_none (by rw [List.length_take]; omega)]

/-- A sector that survives, of the whole file. -/
theorem hard_all {now L : Con} (hn : now.ok) (hL : L.ok) {f n : Nat} (hs : 64 * n < now.size f) : (hard now (f, n) L).all f = putB (L.all f) (64 * n) (((now.all f).take (min (64 * n + 64) (now.size f))).drop (64 * n)) := by
  have e : now.read f (64 * n) 64 = ((now.all f).take (min (64 * n + 64) (now.size f))).drop (64 * n) := by
    have hl := hn.all_len f
    refine List.ext_getElem? fun i => ?_
    rw [List.getElem?_drop]
    by_cases hi : i < min 64 (now.size f - 64 * n)
    · rw [Con.read_get _ _ _ _ _ hi, List.getElem?_take_of_lt (by omega), hn.all_get (by omega)]
    · rw [List.getElem?_eq_none (by rw [Con.read_len]; omega), List.getElem?_eq_none (by rw [List.length_take]; omega)]
  have h1 := hn.room f
  unfold hard
  rw [put_all hL f (64 * n) _ (by rw [Con.read_len]; omega), e]
theorem hard_but {now L : Con} (p : Nat × Nat) : ButF p.1 (hard now p L) L := put_but _ _ _ _
theorem hard_none {now L : Con} {p : Nat × Nat} (h : ¬ 64 * p.2 < now.size p.1) : hard now p L = L := by
  unfold hard
  have : now.read p.1 (64 * p.2) 64 = [] := List.eq_nil_of_length_eq_zero (by rw [Con.read_len]; omega)
  rw [this, Con.put_nil]
end
end Dsk
end Go.Proofs.YtlokgmpdighfaaaDoor

/-! The reference's add: a Write that is possible. -/
namespace Go.Proofs.YtlokgmpdighfaaaDoor
open Go.RowKit Wire
set_option linter.unusedVariables false
set_option linter.unusedSimpArgs false
open Txt
namespace Dsk

theorem info_rsec : (Tryd.prog.info? 86).map (fun i => (i.zero, i.size, i.bytes)) = some (some (.agg #[.int .i64 0, .int .i64 0]), 2, 16) := by kernel_rfl

section
variable {w w' : World} {R : ROwn} {nums : List Nat} {S : St}
/-- The queue's row has grown, and is put back. -/
theorem RefAt.queue_grown (h : RefAt w R nums S) {w5 : World} {v : Value} {q : List (Nat × Nat)} (hg : w.grownBy w5 R.qv.ownBlock) (hr : Grow w5 0 2 v q.length (q.flatMap secL)) (hv : v.ownBlock = R.qv.ownBlock ∨ ∀ b, v.ownBlock = some b → w.heap.size ≤ b) :
    RPost R { S with queue := q } w (w5.setCell ⟨R.g, 1, none⟩ v) ∧ w5.cell? ⟨R.g, 1, none⟩ = some R.qv ∧ w5.frozen? ⟨R.g, 1, none⟩ = false := by
  have keep : ∀ b, b < w.heap.size → (∀ c, R.qv.ownBlock = some c → b ≠ c) → w5.heap[b]? = w.heap[b]? := fun b hb hne => hg.block b hb fun e => hne b e.symm rfl
  have eg : w5.heap[R.g]? = w.heap[R.g]? := keep _ h.lt fun c hc e => h.sep.q c hc e.symm
  have hf := h.frow.keep hg.size fun b hb => keep b (h.frow.block b hb).2 fun c hc e => h.sep.fq b hb (e ▸ hc)
  obtain ⟨ks, k1, k2, k3⟩ := h.krow
  have hk := k2.keep hg.size fun b hb => keep b (k2.block b hb).2 fun c hc e => h.sep.qk b (e ▸ hc) hb
  have hn : ∀ b, v.ownBlock = some b → b ≠ R.g := fun b hb => by
    rcases hv with h1 | h1
    · exact h.sep.q b (h1 ▸ hb)
    · have := h1 b hb
      have := h.lt
      omega
  have hth := there_keep h.there eg
  have c0 : ∀ {j : Nat} {u : Value}, w.cell? ⟨R.g, j, none⟩ = some u → w5.cell? ⟨R.g, j, none⟩ = some u := fun {j u} e => (World.cell?_of_block (a := ⟨R.g, j, none⟩) eg).trans e
  have hs1 : (w5.cell? ⟨R.g, 1, none⟩).isSome = true := by rw [c0 h.queue]; rfl
  refine ⟨⟨⟨{ R with qv := v }, nums, ⟨?_, set_cell_same hs1, ?_, ?_, ?_, ?_, there_put hth _ _, ?_, ?_, ⟨ks, k1, ?_, k3⟩, ⟨h.sep.f, hn, h.sep.k, ?_, h.sep.fk, ?_⟩, h.nums_lt, h.nodup, h.rest⟩, rfl, rfl, fun b hb => ?_⟩, ?_⟩, c0 h.queue, ?_⟩
  · rw [set_cell_other (by omega)]; exact c0 h.files
  · rw [set_cell_other (by omega)]; exact c0 h.lost
  · rw [set_cell_other (by omega)]; exact c0 h.down
  · rw [set_cell_other (by omega)]; exact c0 h.calls
  · rw [set_cell_other (by omega)]; exact c0 h.keep
  · exact hf.keep (by simp [World.setCell]) fun b hb => Below.heap_setCell _ _ _ _ (h.sep.f b hb)
  · exact hr.keep (by simp [World.setCell]) fun b hb => Below.heap_setCell _ _ _ _ (hn b hb)
  · exact hk.keep (by simp [World.setCell]) fun b hb => Below.heap_setCell _ _ _ _ (h.sep.k b hb)
  · intro b h1 h2
    rcases hv with h3 | h3
    · exact h.sep.fq b h1 (h3 ▸ h2)
    · have := h3 b h2
      have := (h.frow.block b h1).2
      omega
  · intro b h1 h2
    rcases hv with h3 | h3
    · exact h.sep.qk b (h3 ▸ h1) h2
    · have := h3 b h1
      have := (k2.block b h2).2
      omega
  · rcases hb with h1 | h1 | h1
    · exact .inl (.inl h1)
    · exact .inl (.inr (.inl h1))
    · rcases hv with h3 | h3
      · exact .inl (.inr (.inr (h3 ▸ h1)))
      · exact .inr (h3 b h1)
  · exact (Only.of_grown' hg fun m hm => .inl (.inr (.inr hm))).same (Only.set _ _ _ _ (.inl rfl))
  · have := (hth 1 (by omega)).2
    rwa [Nat.zero_add] at this

/-- One more sector is pending. -/
theorem RefAt.queue_more (h : RefAt w R nums S) {f p : Nat} {o : Obj} {w5 : World} {v : Value} (g1 : Grow w5 0 2 v (S.queue.length + 1) (S.queue.flatMap secL ++ secL (f, p))) (g2 : (w.alloc o).grownBy w5 R.qv.ownBlock) (g3 : v.ownBlock = R.qv.ownBlock ∨ v.ownBlock = some (w.alloc o).heap.size) :
    RPost R { S with queue := S.queue ++ [(f, p)] } w (w5.setCell ⟨R.g, 1, none⟩ v) ∧ w5.cell? ⟨R.g, 1, none⟩ = some R.qv ∧ w5.frozen? ⟨R.g, 1, none⟩ = false := by
  refine h.queue_grown (grown_trans (below_none ((Below.refl _ w).alloc (Nat.le_refl _) o) _) g2) ?_ (g3.imp_right fun e b hb => ?_)
  · rw [List.length_append, List.flatMap_append, List.flatMap_cons, List.flatMap_nil, List.append_nil]
    exact g1
  · rw [e] at hb
    cases hb
    simp
/-- A variable of the call's own is written behind a call. -/
theorem below_var {w w1 w2 : World} {o : Obj} (h1 : Below w.heap.size w w1) (h2 : Below (w1.alloc o).heap.size (w1.alloc o) w2) (j : Nat) (v : Value) : Below w.heap.size w (w2.setCell ⟨w1.heap.size, j, none⟩ v) := by
  have hs := h1.size
  have hs2 := h2.size
  have e : (w1.alloc o).heap.size = w1.heap.size + 1 := by simp
  exact ((h1.alloc hs o).trans (h2.mono (by omega))).grown (grown_set _ w1.heap.size j v) (by omega) fun k hk => by cases hk; exact hs

structure AddRel (w : World) (R : ROwn) (S : St) (f k m : Nat) (nv : Value) (wr : World) (p : Nat) : Prop where
  nv : nv = .int .i64 p
  lo : k ≤ p
  hi : p ≤ m
  post : RPost R { S with queue := addR S.queue f k (p - k) } w wr

set_option maxRecDepth 8000 in
set_option maxHeartbeats 1000000 in
theorem radd_any (h : RefAt w R nums S) (hk : S.now.ok) (hq : S.queue.length ≤ 100000000) {f : Nat} (hf : f < 16) (a : Nat) (s : ByteArray) (ha : a + s.size ≤ 16777216) : Calls Tryd.prog 56 #[ptr R.g, .int .i64 f, .int .i64 a, .string s] w fun e w' => e = .returned (.tuple #[]) ∧ RPost R (S.write f a (bl s)) w w' := by
  by_cases hs : s.size = 0
  · have e1 : bl s = [] := List.eq_nil_of_length_eq_zero (by rw [bl_len]; exact hs)
    have e2 : s.toList = [] := is_empty (by omega)
    have e3 : s.toList.isEmpty = true := by rw [e2]; rfl
    have HP := Lib.hid (show RPost R (S.write f a (bl s)) w w by rw [e1, write_nil]; exact RPost.refl h)
    clear e1 h
    go_enter Tryd.func56, Tryd.ntmps56
    go_wp2_with fail
    go_returns
    exact ⟨rfl, HP.out⟩
  · have hne := not_empty (s := s) (by omega)
    have hne2 := not_empty2 (s := s) (by omega)
    have hl : bl s ≠ [] := fun e => hs (by rw [← bl_len, e]; rfl)
    have HW := Lib.hid (write_eq S f a (bl s) hl)
    have hlen := hk.all_len f
    have hroom := hk.room f
    have HA := Lib.hid (put_all hk f a (bl s) (by rw [bl_len]; exact ha))
    have HG := Lib.hid (get_any h f)
    have H := Lib.hid h
    have HP := Lib.hid (Put_any ⟨(S.now.all f).toArray⟩ s a (by rw [bytes_size]; omega) (by omega))
    have hgn : gN S.now (f : Int) = S.now.all f ∧ gN S.last (f : Int) = S.last.all f := by
      unfold gN
      rw [if_pos (by unfold isF; exact decide_eq_true (by omega)), if_pos (by unfold isF; exact decide_eq_true (by omega)), Int.toNat_natCast]
      exact ⟨rfl, rfl⟩
    rw [hgn.1, hgn.2] at HG
    unfold fileI str at HG
    have HSet := Lib.hid (fun (w3 : World) (h3 : RefAt w3 R nums S) => set_any h3 hf (N := S.now.put f a (bl s)) (L := S.last) (put_but _ _ _ _) (ButF.refl _ _))
    rw [HA.out] at HSet
    unfold fileI str at HSet
    have HN := Lib.hid (fun (w3 : World) (hb : Below w.heap.size w w3) => h.below hb)
    have hlast := (show (⟨(S.now.all f).toArray⟩ : ByteArray) = ⟨(S.now.all f).toArray⟩ from rfl)
    clear h hgn hl hlast HA
    rw [bl_mk] at HP
    unfold str at HP
    generalize S.now.all f = x at *
    generalize S.last.all f = y at *
    generalize putB x a (bl s) = z at *
    obtain ⟨i0, hi, hz0, hz1, hz2⟩ := info_parts info_rsec
    go_enter Tryd.func56, Tryd.ntmps56
    go_wp2_with (first
      | (go_at_call 50; refine HG.out.mono ?_; rintro e w1 ⟨rfl, b1⟩; have B1 := Lib.hid b1; have hs1 := b1.size; clear b1)
      | (go_at_call 61; refine (HP.out _).mono ?_; rintro e w2 ⟨rfl, b2⟩; have hx2 := (Blk.fresh w1 88 #[.int .i64 f, .string ⟨x.toArray⟩, .string ⟨y.toArray⟩]).under b2 (by simp); have hc0 : w2.cell? ⟨w1.heap.size, 0, none⟩ = some (.int .i64 f) := (by rw [hx2.at]; rfl); have hc1 : w2.cell? ⟨w1.heap.size, 1, none⟩ = some (.string ⟨x.toArray⟩) := (by rw [hx2.at]; rfl); have hc2 : w2.cell? ⟨w1.heap.size, 2, none⟩ = some (.string ⟨y.toArray⟩) := (by rw [hx2.at]; rfl); have hcz := hx2.thaw 1; have HB3 : Hid (Below w.heap.size w (w2.setCell ⟨w1.heap.size, 1, none⟩ (.string ⟨z.toArray⟩))) := Lib.hid (below_var B1.out b2 1 _); clear hx2 b2)
      | (go_at_call 62; refine (HSet.out _ (HN.out _ HB3.out)).mono ?_; rintro e w4 ⟨rfl, hp4⟩; have HP4 := Lib.hid (hp4.next (Only.of_below HB3.out) rfl rfl fun _ h => .inl h); clear hp4))
    go_loopw [9] (fun nv wr => ∃ p, AddRel w R { S with now := S.now.put f a (bl s) } f (a / 64) ((a + s.size - 1) / 64 + 1) nv wr p) (fun nv _ => (a + s.size - 1) / 64 + 1 - (intOf nv).toNat)
    case atStart => exact ⟨a / 64, by simp, Nat.le_refl _, by omega, by rw [Nat.sub_self]; exact HP4.out⟩
    case round =>
      obtain ⟨p, rfl, hlo, hhi, hpost⟩ := hrel
      by_cases hlt : p < (a + s.size - 1) / 64 + 1
      · have hlt2 : (p : Int) ≤ ((a : Int) + (s.size : Int) - 1) / 64 := by omega
        obtain ⟨⟨R1, n1, h1, hg1, hk1, hh1⟩, ho1⟩ := hpost
        have hql := addR_len S.queue f (a / 64) (p - a / 64)
        have hnext : addR S.queue f (a / 64) (p + 1 - a / 64) = addL (addR S.queue f (a / 64) (p - a / 64)) (f, p) := by
          rw [show p + 1 - a / 64 = (p - a / 64) + 1 by omega]
          show addL _ (f, a / 64 + (p - a / 64)) = _
          rw [show a / 64 + (p - a / 64) = p by omega]
        have HNX := Lib.hid (show ∀ w5, RPost R { S with now := S.now.put f a (bl s), queue := addL (addR S.queue f (a / 64) (p - a / 64)) (f, p) } w w5 → AddRel w R { S with now := S.now.put f a (bl s) } f (a / 64) ((a + s.size - 1) / 64 + 1) (.int .i64 ((p : Int) + 1)) w5 (p + 1) from fun w5 hr =>
          ⟨by simp, by omega, by omega, by dsimp only; rw [hnext]; exact hr⟩)
        have HO1 := Lib.hid ho1
        have HH1 := Lib.hid hh1
        have HK1 := Lib.hid hk1
        clear ho1 hh1 hk1 hnext
        generalize addR S.queue f (a / 64) (p - a / 64) = q at *
        have hpen := pending_any h1 (by show q.length ≤ _; omega) f p
        rw [hg1] at hpen
        dsimp only at hpen
        by_cases hm : (f, p) ∈ q
        · rw [decide_eq_true hm] at hpen
          have HPEN := Lib.hid hpen
          have HS := Lib.hid (HNX.out wr (by unfold addL; rw [if_pos hm]; exact ⟨⟨R1, n1, h1, hg1, HK1.out, HH1.out⟩, HO1.out⟩))
          clear hpen h1 hm
          go_wp2_with ((go_at_call 66; refine HPEN.out.mono ?_; rintro e w2 ⟨rfl, rfl⟩))
          go_roundw
          case rel => exact ⟨p + 1, HS.out⟩
          case measure => simp [intOf]; omega
        · rw [decide_eq_false hm] at hpen
          have HPEN := Lib.hid hpen
          have hqc := h1.queue
          have HROW := Lib.hid h1.qrow
          obtain ⟨A1, c1, e1⟩ := h1.qrow.slice
          have HM := Lib.hid (fun (w5 : World) (v : Value) g1 g2 g3 => h1.queue_more (f := f) (p := p) (o := .cells #[.int .i64 f, .int .i64 p] 86) (w5 := w5) (v := v) g1 g2 g3)
          rw [hg1, e1] at HM
          rw [e1, hg1] at hqc
          rw [e1] at HROW
          have HS := Lib.hid (fun (w5 : World) (hr : RPost R1 { S with now := S.now.put f a (bl s), queue := q ++ [(f, p)] } wr w5) => HNX.out w5 (by unfold addL; rw [if_neg hm]; exact hr.next HO1.out hg1 HK1.out HH1.out))
          have HONE := Lib.hid (fun u (hu : u ∈ secL (f, p)) => one_secs [(f, p)] u (by simpa using hu))
          clear hpen h1 hm e1 hg1
          dsimp only at HM HROW hqc
          go_wp2_with (first
            | (go_at_call 66; refine HPEN.out.mono ?_; rintro e w2 ⟨rfl, rfl⟩)
            | (at_builtin; refine wpList_append_src _ rfl (.tmp 45) (.tmp 49) _ _ rfl 0 86 i0 _ 2 16 Tryd.underlying70 hi hz0 hz1 hz2 rfl (by omega) _ _ _ rfl (HROW.out.alloc _) _ 1 (secL (f, p)) rfl (Src.ofSlice _ (size := 2) Tryd.underlying70 ⟨wr.heap.size, 0, none⟩ 1 1 (secL (f, p)) rfl (new_cells wr _ (secL (f, p))) HONE.out) (small_max (by omega)) (by omega) (Nat.zero_le _) ?_; intro v5 w5 hown5 hg5 hv5; have hd5 := HM.out w5 v5 hown5 hg5 hv5; obtain ⟨A5, c5, rfl⟩ := hown5.slice; have HS5 := Lib.hid (HS.out _ hd5.1); have hc5 := hd5.2.1; have hz5 := hd5.2.2; clear hd5 hown5 hg5 hv5))
          go_roundw
          case rel => exact ⟨p + 1, HS5.out⟩
          case measure => simp [intOf]; omega
      · have hlt2 : ¬ (p : Int) ≤ ((a : Int) + (s.size : Int) - 1) / 64 := by omega
        obtain rfl : (a + s.size - 1) / 64 + 1 = p := by omega
        have HPO := Lib.hid hpost
        clear hpost
        go_wp2_with fail
        go_returns
        exact ⟨rfl, by rw [HW.out, bl_len]; exact HPO.out⟩
end
end Dsk
end Go.Proofs.YtlokgmpdighfaaaDoor

/-! The reference's settle: a string becomes a file and its durable part. -/
namespace Go.Proofs.YtlokgmpdighfaaaDoor
open Go.RowKit Wire
set_option linter.unusedVariables false
set_option linter.unusedSimpArgs false
open Txt
namespace Dsk

section
variable {w w' : World} {R : ROwn} {nums : List Nat} {S : St}
structure RstlRel (w : World) (q : List (Nat × Nat)) (f : Nat) (ov iv : Value) (wr : World) (i : Nat) : Prop where
  iv : iv = .int .i64 i
  le : i ≤ q.length
  row : Grow wr w.heap.size 2 ov ((q.take i).filter (noF f)).length (((q.take i).filter (noF f)).flatMap secL)
  below : Below w.heap.size w wr

theorem queue_done (h : RefAt w R nums S) {wr : World} {v : Value} {B : Nat} (hB : w.heap.size ≤ B) {q : List (Nat × Nat)} (hr : Grow wr B 2 v q.length (q.flatMap secL)) (hb : Below w.heap.size w wr) : RPost R { S with queue := q } w (wr.setCell ⟨R.g, 1, none⟩ v) := by
  have hlt := h.lt
  have hout : ∀ b, v.ownBlock = some b → w.heap.size ≤ b := fun b hb => Nat.le_trans hB (hr.block b hb).1
  refine ⟨⟨{ R with qv := v }, nums, (h.below hb).put_queue (hr.lower (Nat.zero_le _)) (fun b hb e => ?_) (fun b h1 h2 => ?_) (fun b h1 h2 => ?_), rfl, rfl, fun b hb => ?_⟩, (Only.of_below hb).same (Only.set _ _ _ _ (.inl rfl))⟩
  · have := hout b hb
    omega
  · have := hout b h2
    have := h.inside b (.inr (.inl h1))
    omega
  · have := hout b h1
    have := h.inside b (.inr (.inr (.inr h2)))
    omega
  · rcases hb with h1 | h1 | h1
    · exact .inl (.inl h1)
    · exact .inl (.inr (.inl h1))
    · exact .inr (hout b h1)

set_option maxRecDepth 8000 in
set_option maxHeartbeats 1000000 in
theorem rsettle_any (h : RefAt w R nums S) (hq : S.queue.length ≤ 100000000) {f : Nat} (hf : f < 16) {N L : Con} (hN : ButF f N S.now) (hL : ButF f L S.last) (z : List UInt8) (h1 : N.all f = z) (h2 : L.all f = z) :
    Calls Tryd.prog 60 #[ptr R.g, .int .i64 f, .string ⟨z.toArray⟩] w fun e w' => e = .returned (.tuple #[]) ∧ RPost R { S with now := N, last := L, queue := S.queue.filter (noF f) } w w' := by
  have hset := set_any h hf hN hL
  rw [h1, h2] at hset
  unfold fileI str at hset
  have HSet := Lib.hid hset
  clear hset h1 h2 hN hL h
  obtain ⟨i0, hi, hz0, hz1, hz2⟩ := info_parts info_rsec
  go_enter Tryd.func60, Tryd.ntmps60
  go_wp2_with (first
    | (go_at_call 62; refine HSet.out.mono ?_; rintro e w4 ⟨rfl, hp4⟩))
  obtain ⟨⟨R1, n1, h1, hg1, hk1, hh1⟩, ho1⟩ := hp4
  have hqc := h1.queue
  have hfz := h1.free (j := 1) (by omega)
  have hlt := h1.lt
  obtain ⟨A0, c0, e0⟩ := h1.qrow.slice
  rw [e0] at hqc
  have E0 := Lib.hid e0
  have H1 := Lib.hid h1
  have HD := Lib.hid (fun (wr : World) (v : Value) (hr : Grow wr w4.heap.size 2 v (S.queue.filter (noF f)).length ((S.queue.filter (noF f)).flatMap secL)) (hb : Below w4.heap.size w4 wr) => (queue_done h1 (Nat.le_refl _) hr hb).next ho1 hg1 hk1 hh1)
  rw [hg1] at hqc hfz hlt HD
  clear h1 ho1 hh1 hk1 e0
  dsimp only at hqc HD
  go_loopw [6, 7] (fun ov iv wr => ∃ i, RstlRel w4 S.queue f ov iv wr i) (fun _ iv _ => S.queue.length - (intOf iv).toNat)
  case atStart => exact ⟨0, rfl, Nat.zero_le _, Grow.nil _ _ _, Below.refl _ _⟩
  case round =>
    obtain ⟨i, ⟨rfl, hi', hrow, hbel⟩⟩ := hrel
    have hsz := hbel.size
    have hfl : wr.cell? ⟨R.g, 1, none⟩ = some (.slice A0 S.queue.length c0) := (hbel.cell (p := ⟨R.g, 1, none⟩) hlt).trans hqc
    have HB := Lib.hid hbel
    have HR := Lib.hid hrow
    clear hrow hbel
    by_cases hil : i < S.queue.length
    · obtain ⟨g, c, e1, hbg, hbs, _, k0, k1⟩ := H1.out.sec hil
      have ea : A0 = some ⟨g, 0, none⟩ := by rw [E0.out] at e1; injection e1
      subst ea
      have k0' := (HB.out.cell (p := ⟨g, i * 2, none⟩) hbs).trans k0
      have k1' := (HB.out.cell (p := ⟨g, i * 2 + 1, none⟩) hbs).trans k1
      clear k0 k1
      dsimp only at k0' k1'
      by_cases hfe : S.queue[i].1 = f
      · have HS : Hid (RstlRel w4 S.queue f u6 (.int .i64 ((i : Int) + 1)) wr (i + 1)) := Lib.hid ⟨by simp, hil, by rw [(filt_yes hil hfe).2]; exact HR.out, HB.out⟩
        rw [hfe] at k0'
        clear hfe
        go_wp2_with fail
        go_roundw
        case rel => exact ⟨i + 1, HS.out⟩
        case measure => simp [intOf]; omega
      · have hfe2 : ((S.queue[i].1 : Int) == (f : Int)) = false := beq_eq_false_iff_ne.2 fun e => hfe (by omega)
        have hol := filt_len (noF f) hi'
        have HS := Lib.hid (show ∀ v5 w5, Grow w5 w4.heap.size 2 v5 (((S.queue.take i).filter (noF f)).length + 1) (((S.queue.take i).filter (noF f)).flatMap secL ++ secL S.queue[i]) → Below w4.heap.size w4 w5 → RstlRel w4 S.queue f v5 (.int .i64 ((i : Int) + 1)) w5 (i + 1) from fun v5 w5 g1 g2 =>
          ⟨by simp, hil, by rw [(filt_no hil hfe).2, List.length_append, List.flatMap_append, List.flatMap_cons, List.flatMap_nil, List.append_nil]; exact g1, g2⟩)
        have HONE := Lib.hid (fun u (hu : u ∈ secL S.queue[i]) => one_secs [S.queue[i]] u (by simpa using hu))
        clear hfe
        generalize S.queue[i] = p at *
        obtain ⟨p1, p2⟩ := p
        dsimp only at k0' k1' hfe2
        go_wp2_with (at_builtin; refine wpList_append_src _ rfl (.tmp 33) (.tmp 41) _ _ rfl w4.heap.size 86 i0 _ 2 16 Tryd.underlying70 hi hz0 hz1 hz2 rfl (by omega) _ _ _ rfl (HR.out.alloc _) _ 1 (secL (p1, p2)) rfl (Src.ofSlice _ (size := 2) Tryd.underlying70 ⟨wr.heap.size, 0, none⟩ 1 1 (secL (p1, p2)) rfl (new_cells wr _ (secL (p1, p2))) HONE.out) (small_max (by omega)) (by omega) (Nat.le_trans hsz (by simp)) ?_; intro v5 w5 hown5 hg5 _)
        have HS2 := Lib.hid (HS.out v5 w5 hown5 ((HB.out.alloc hsz _).grown hg5 (Nat.le_trans hsz (by simp)) fun k hk => (HR.out.block k hk).1))
        go_roundw
        case rel => exact ⟨i + 1, HS2.out⟩
        case measure => simp [intOf]; omega
    · obtain rfl : S.queue.length = i := by omega
      rw [List.take_length] at HR
      have hz5 : wr.frozen? ⟨R.g, 1, none⟩ = false := (World.frozen?_of_block (a := ⟨R.g, 1, none⟩) (HB.out.block R.g hlt)).trans hfz
      have HP := Lib.hid (HD.out wr u6 HR.out HB.out)
      obtain ⟨A5, c5, rfl⟩ := HR.out.slice
      go_wp2_with fail
      go_returns
      exact ⟨rfl, HP.out⟩
end
end Dsk
end Go.Proofs.YtlokgmpdighfaaaDoor

/-! The reference's survive: a pending sector becomes durable. -/
namespace Go.Proofs.YtlokgmpdighfaaaDoor
open Go.RowKit Wire
set_option linter.unusedVariables false
set_option linter.unusedSimpArgs false
open Txt
namespace Dsk

/-- The sector and the file that survive has before it. -/
def Sv (X Y f n : Nat) (x y : List UInt8) (w : World) : Prop :=
  (w.cell? ⟨X, 0, none⟩ = some (.int .i64 f) ∧ w.cell? ⟨X, 1, none⟩ = some (.int .i64 n)) ∧ w.cell? ⟨Y, 0, none⟩ = some (.int .i64 f) ∧ w.cell? ⟨Y, 1, none⟩ = some (.string ⟨x.toArray⟩) ∧ w.cell? ⟨Y, 2, none⟩ = some (.string ⟨y.toArray⟩)
theorem sv_thaw {X Y f n : Nat} {x y : List UInt8} {w w1 w2 : World} (h : Below (w1.alloc (.cells #[.int .i64 f, .string ⟨x.toArray⟩, .string ⟨y.toArray⟩] 88)).heap.size (w1.alloc (.cells #[.int .i64 f, .string ⟨x.toArray⟩, .string ⟨y.toArray⟩] 88)) w2) : w2.frozen? ⟨w1.heap.size, 2, none⟩ = false :=
  ((Blk.fresh w1 88 #[.int .i64 f, .string ⟨x.toArray⟩, .string ⟨y.toArray⟩]).under h (by simp)).thaw 2
theorem sv_keep {X Y f n : Nat} {x y : List UInt8} {w w' : World} (h : Sv X Y f n x y w) (hx : X < w.heap.size) (hy : Y < w.heap.size) (b : Below w.heap.size w w') : Sv X Y f n x y w' :=
  ⟨⟨(b.cell (p := ⟨X, 0, none⟩) hx).trans h.1.1, (b.cell (p := ⟨X, 1, none⟩) hx).trans h.1.2⟩, (b.cell (p := ⟨Y, 0, none⟩) hy).trans h.2.1, (b.cell (p := ⟨Y, 1, none⟩) hy).trans h.2.2.1, (b.cell (p := ⟨Y, 2, none⟩) hy).trans h.2.2.2⟩
theorem sv_make (w : World) {w1 : World} (f n : Nat) (x y : List UInt8) (b : Below (w.alloc (.cells #[.int .i64 f, .int .i64 n] 86)).heap.size (w.alloc (.cells #[.int .i64 f, .int .i64 n] 86)) w1) :
    Sv w.heap.size w1.heap.size f n x y (w1.alloc (.cells #[.int .i64 f, .string ⟨x.toArray⟩, .string ⟨y.toArray⟩] 88)) ∧ Below w.heap.size w (w1.alloc (.cells #[.int .i64 f, .string ⟨x.toArray⟩, .string ⟨y.toArray⟩] 88)) ∧ w.heap.size < w1.heap.size := by
  have hs := b.size
  have e1 : (w.alloc (.cells #[.int .i64 f, .int .i64 n] 86)).heap.size = w.heap.size + 1 := by simp
  have h1 := ((Blk.fresh w 86 #[.int .i64 f, .int .i64 n]).under b (by omega)).kept (.cells #[.int .i64 f, .string ⟨x.toArray⟩, .string ⟨y.toArray⟩] 88)
  have h2 := Blk.fresh w1 88 #[.int .i64 f, .string ⟨x.toArray⟩, .string ⟨y.toArray⟩]
  exact ⟨⟨⟨by rw [h1.at]; rfl, by rw [h1.at]; rfl⟩, by rw [h2.at]; rfl, by rw [h2.at]; rfl, by rw [h2.at]; rfl⟩, (((Below.refl _ w).alloc (Nat.le_refl _) _).trans (b.mono (by omega))).alloc (by omega) _, by omega⟩

theorem sv_box (w : World) {w1 : World} (f n : Nat) (b : Below (w.alloc (.cells #[.int .i64 f, .int .i64 n] 86)).heap.size (w.alloc (.cells #[.int .i64 f, .int .i64 n] 86)) w1) :
    w1.cell? ⟨w.heap.size, 0, none⟩ = some (.int .i64 f) ∧ w1.cell? ⟨w.heap.size, 1, none⟩ = some (.int .i64 n) := by
  have h1 := (Blk.fresh w 86 #[.int .i64 f, .int .i64 n]).under b (by simp)
  exact ⟨by rw [h1.at]; rfl, by rw [h1.at]; rfl⟩

section
variable {w w' : World} {R : ROwn} {nums : List Nat} {S : St}
set_option maxRecDepth 8000 in
set_option maxHeartbeats 1000000 in
theorem rsurvive_any (h : RefAt w R nums S) (hn : S.now.ok) (hl : S.last.ok) {f n : Nat} (hf : f < 16) (hn2 : n ≤ 262144) : Calls Tryd.prog 43 #[ptr R.g, .agg #[.int .i64 f, .int .i64 n]] w fun e w' => e = .returned (.tuple #[]) ∧ RPost R { S with last := hard S.now (f, n) S.last } w w' := by
  have hlen := hn.all_len f
  have hroom := hn.room f
  have hlen2 := hl.all_len f
  have hroom2 := hl.room f
  have hgn : gN S.now (f : Int) = S.now.all f ∧ gN S.last (f : Int) = S.last.all f := by
    unfold gN
    rw [if_pos (by unfold isF; exact decide_eq_true (by omega)), if_pos (by unfold isF; exact decide_eq_true (by omega)), Int.toNat_natCast]
    exact ⟨rfl, rfl⟩
  have hG := fun (w3 : World) (hb : Below w.heap.size w w3) => get_any (h.below hb) f
  rw [hgn.1, hgn.2] at hG
  have hSet := fun (w3 : World) (hb : Below w.heap.size w w3) => ((set_any (h.below hb) hf (N := S.now) (L := hard S.now (f, n) S.last) (ButF.refl _ _) (hard_but (f, n))).mono (fun e w4 (hp : e = .returned (.tuple #[]) ∧ RPost R { S with last := hard S.now (f, n) S.last } w3 w4) => (⟨hp.1, hp.2.next (Only.of_below hb) rfl rfl fun _ h => .inl h⟩ : e = .returned (.tuple #[]) ∧ RPost R { S with last := hard S.now (f, n) S.last } w w4)))
  unfold fileI str at hG hSet
  by_cases hlt : 64 * n < S.now.size f
  · rw [hard_all hn hl hlt] at hSet
    rw [← hlen] at hSet hlt hroom
    rw [← hlen2] at hroom2
    have hlt3 : (64 : Int) * (n : Int) < ((S.now.all f).length : Int) := by omega
    clear hlen hlen2
    generalize S.now.all f = x at *
    generalize S.last.all f = y at *
    have HP := Lib.hid (Put_any ⟨y.toArray⟩ (ByteArray.extract ⟨x.toArray⟩ (64 * n) (min (64 * n + 64) x.length)) (64 * n) (by rw [bytes_size]; omega) (by rw [ByteArray.size_extract, bytes_size]; omega))
    rw [bytes_extract, bl_mk, bl_mk, show ((64 * n : Nat) : Int) = 64 * (n : Int) from by omega] at HP
    rw [← bytes_extract] at HP
    generalize hz : putB y (64 * n) (((x.take (min (64 * n + 64) x.length)).drop (64 * n))) = z at *
    have HSet := Lib.hid hSet
    have HG := Lib.hid hG
    clear hG hSet h hgn hz
    have hw1 : IntKind.i64.wrap (64 * (n : Int)) = 64 * (n : Int) := by rw [IntKind.wrap_i64]; omega
    have hw2 : IntKind.i64.wrap (64 * (n : Int) + 64) = 64 * (n : Int) + 64 := by rw [IntKind.wrap_i64]; omega
    have hm : (x.length < 64 * n + 64 ∧ min (64 * n + 64) x.length = x.length) ∨ (¬ x.length < 64 * n + 64 ∧ min (64 * n + 64) x.length = 64 * n + 64) := by omega
    generalize min (64 * n + 64) x.length = m at *
    have hsl : ∀ w', Sem.run Tryd.prog (Instr.slice 9 (.string ⟨x.toArray⟩) (some (.int .i64 (64 * (n : Int)))) (some (.int .i64 (if (x.length : Int) < 64 * (n : Int) + 64 then (x.length : Int) else 64 * (n : Int) + 64))) none) w' = .ok (.string (ByteArray.extract ⟨x.toArray⟩ (64 * n) m)) w' := by
      intro w'
      have hj : (if (x.length : Int) < 64 * (n : Int) + 64 then (x.length : Int) else 64 * (n : Int) + 64) = (m : Int) := by
        rcases hm with ⟨h1, h2⟩ | ⟨h1, h2⟩
        · rw [if_pos (by omega), h2]
        · rw [if_neg (by omega), h2]
          omega
      have hb : (m : Int) ≤ ((⟨x.toArray⟩ : ByteArray).size : Int) := by rw [bytes_size]; omega
      rw [hj, run_slice_string (h := Tryd.underlying9) (h0 := by omega) (h1 := by omega) (h2 := hb), Int.toNat_natCast, show (64 * (n : Int)).toNat = 64 * n by omega]
    clear hm
    go_enter Tryd.func43, Tryd.ntmps43
    go_upto_region 3 with ((go_at_call 50; refine (HG.out _ ((Below.refl _ w).alloc (Nat.le_refl _) _)).mono ?_; rintro e w1 ⟨rfl, b1⟩; obtain ⟨sv, bB, hlw⟩ := sv_make w f n x y b1; obtain ⟨sb0, sb1⟩ := sv_box w f n b1; clear b1))
    have hsB : w1.heap.size < (w1.alloc (.cells #[.int .i64 f, .string ⟨x.toArray⟩, .string ⟨y.toArray⟩] 88)).heap.size := by simp
    have HTH := Lib.hid (fun w2 h => sv_thaw (f := f) (x := x) (y := y) (w1 := w1) (w2 := w2) (X := 0) (Y := 0) (n := 0) (w := w) h)
    generalize w1.alloc (.cells #[.int .i64 f, .string ⟨x.toArray⟩, .string ⟨y.toArray⟩] 88) = wB at *
    have HBB := Lib.hid bB
    have HSV : Hid (Sv w.heap.size w1.heap.size f n x y wB.drew) := Lib.hid sv
    clear sv bB
    generalize hY : w1.heap.size = Y at *
    try go_frame
    refine wp_region_late (Sv w.heap.size Y f n x y) [0, 1, 2, 3, 4, 5, 6, 7, 8, 9, 10, 11, 12, 13, 14, 15, 16, 17, 18] [19, 20] [21] (by kernel_rfl) (by kernel_rfl) (by kernel_rfl) HSV.out ?_
    repeat refine RD.next rfl rfl (by intro w' hS; simp only [Sv] at hS; go_simp; with_reducible rfl) ?_
    refine RD.done ?_
    refine CHW.next rfl rfl fun K hK => ?_
    go_simp
    refine (HP.out _).mono ?_
    rintro e w2 ⟨rfl, b2⟩
    have hxd : w.heap.size < wB.drew.heap.size := by show w.heap.size < wB.heap.size; omega
    have SV2 := Lib.hid (sv_keep HSV.out hxd hsB b2)
    have HB2 : Hid (Below w.heap.size w w2) := Lib.hid (HBB.out.trans (Below.trans ((Below.refl _ wB).drew) (b2.mono (Nat.le_of_lt hxd))))
    have hY2 : Y < w2.heap.size := Nat.lt_of_lt_of_le hsB b2.size
    simp only [Oper.upon]
    refine hK _ _ SV2.out ?_
    have hfz := HTH.out w2 (Below.trans ((Below.refl _ wB).drew) b2)
    clear hK b2
    refine CHW.next rfl rfl fun K hK => ?_
    go_simp
    refine hK _ _ SV2.out ?_
    clear hK
    refine CHW.done ?_
    refine CH.next rfl rfl fun K hK => ?_
    have hs2 := SV2.out.2
    obtain ⟨hs2a, hs2b, hs2c⟩ := hs2
    go_simp
    refine hK _ _ trivial ?_
    clear hK
    refine CH.done (NoPanic.normal ?_)
    try go_frame
    have HB3 : Hid (Below w.heap.size w (w2.setCell ⟨Y, 2, none⟩ (.string ⟨z.toArray⟩))) := Lib.hid (HB2.out.grown (grown_set _ Y 2 _) HB2.out.size fun k hk => by cases hk; omega)
    go_wp2_with ((go_at_call 62; refine (HSet.out _ HB3.out).mono ?_; rintro e w4 ⟨rfl, hp4⟩; have HP4 := Lib.hid hp4; clear hp4))
    all_goals
      go_returns
      exact ⟨rfl, HP4.out⟩
  · rw [hard_none hlt] at hSet
    have hlt3 : ¬ (64 : Int) * (n : Int) < ((S.now.all f).length : Int) := by omega
    rw [hard_none hlt]
    clear hlen hlen2 hlt
    generalize S.now.all f = x at *
    generalize S.last.all f = y at *
    have HSet := Lib.hid hSet
    have HG := Lib.hid hG
    clear hG hSet h hgn
    go_enter Tryd.func43, Tryd.ntmps43
    go_wp2_with (first
      | (go_at_call 50; refine (HG.out _ ((Below.refl _ w).alloc (Nat.le_refl _) _)).mono ?_; rintro e w1 ⟨rfl, b1⟩; obtain ⟨sv, bB, hlw⟩ := sv_make w f n x y b1; obtain ⟨sb0, sb1⟩ := sv_box w f n b1; have HBB := Lib.hid bB; clear b1 sv bB)
      | (go_at_call 62; refine (HSet.out _ HBB.out).mono ?_; rintro e w4 ⟨rfl, hp4⟩; have HP4 := Lib.hid hp4; clear hp4))
    go_returns
    exact ⟨rfl, HP4.out⟩
end
end Dsk
end Go.Proofs.YtlokgmpdighfaaaDoor

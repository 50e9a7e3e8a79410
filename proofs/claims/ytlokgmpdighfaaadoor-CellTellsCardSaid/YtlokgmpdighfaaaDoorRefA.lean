/- How the reference's disk lies in memory; get, Size, Down, may, fits, pending, Start, Lose; Put; set. -/
import Derived.Test.YtlokgmpdighfaaaDoorDskD
import Derived.Test.YtlokgmpdighfaaaDoorPlA
namespace Go.Proofs.YtlokgmpdighfaaaDoor
open Go.RowKit Wire
set_option linter.unusedVariables false
set_option linter.unusedSimpArgs false
open Txt
namespace Dsk

/-- The cells of a file of the reference. -/
def fileV (n : Nat) (a b : List UInt8) : List Value := [.int .i64 n, str a, str b]
def fileL (S : St) (n : Nat) : List Value := fileV n (S.now.all n) (S.last.all n)
theorem fileL_len (S : St) (n : Nat) : (fileL S n).length = 3 := rfl

/-- Which blocks it has. -/
structure ROwn where
  g : Nat
  fv : Value
  qv : Value
  kv : Value
def ROwn.has (R : ROwn) (b : Nat) : Prop := b = R.g ∨ R.fv.ownBlock = some b ∨ R.qv.ownBlock = some b ∨ R.kv.ownBlock = some b
structure ROwn.Sep (R : ROwn) : Prop where
  f : ∀ b, R.fv.ownBlock = some b → b ≠ R.g
  q : ∀ b, R.qv.ownBlock = some b → b ≠ R.g
  k : ∀ b, R.kv.ownBlock = some b → b ≠ R.g
  fq : Apart R.fv R.qv
  fk : Apart R.fv R.kv
  qk : Apart R.qv R.kv

/-- The reference's disk lies there, with files of these numbers. -/
structure RefAt (w : World) (R : ROwn) (nums : List Nat) (S : St) : Prop where
  files : w.cell? ⟨R.g, 0, none⟩ = some R.fv
  queue : w.cell? ⟨R.g, 1, none⟩ = some R.qv
  lost : w.cell? ⟨R.g, 2, none⟩ = some (.int .i64 S.lost)
  down : w.cell? ⟨R.g, 3, none⟩ = some (.bool S.down)
  calls : w.cell? ⟨R.g, 4, none⟩ = some (.int .i64 S.calls)
  keep : w.cell? ⟨R.g, 5, none⟩ = some R.kv
  there : w.there R.g 0 6
  frow : Grow w 0 3 R.fv nums.length (nums.flatMap (fileL S))
  qrow : Grow w 0 2 R.qv S.queue.length (S.queue.flatMap secL)
  krow : ∃ ks : List Int, ks.length ≤ 1000000000 ∧ Grow w 0 1 R.kv ks.length (ks.map (Value.int .i64)) ∧ (S.calls ≠ 0 → ks = S.keep)
  sep : R.Sep
  nums_lt : ∀ n ∈ nums, n < 16
  nodup : nums.Nodup
  rest : ∀ f, f ∉ nums → S.now.size f = 0 ∧ S.last.size f = 0

section
variable {w w' : World} {R : ROwn} {nums : List Nat} {S : St}
theorem RefAt.lt (h : RefAt w R nums S) : R.g < w.heap.size := World.block_lt_of_cell? w _ h.lost
theorem RefAt.inside (h : RefAt w R nums S) : ∀ b, R.has b → b < w.heap.size := by
  rintro b (rfl | hb | hb | hb)
  · exact h.lt
  · exact (h.frow.block b hb).2
  · exact (h.qrow.block b hb).2
  · obtain ⟨ks, _, k, _⟩ := h.krow
    exact (k.block b hb).2
theorem RefAt.free (h : RefAt w R nums S) {j : Nat} (hj : j < 6) : w.frozen? ⟨R.g, j, none⟩ = false := by have := (h.there j hj).2; rwa [Nat.zero_add] at this
theorem RefAt.isSome (h : RefAt w R nums S) {j : Nat} (hj : j < 6) : (w.cell? ⟨R.g, j, none⟩).isSome = true := by have := (h.there j hj).1; rwa [Nat.zero_add] at this
theorem RefAt.still (h : RefAt w R nums S) (hs : w.heap.size ≤ w'.heap.size) (e : ∀ b, R.has b → w'.heap[b]? = w.heap[b]?) : RefAt w' R nums S := by
  have eg := e R.g (.inl rfl)
  exact ⟨(World.cell?_of_block (a := ⟨R.g, 0, none⟩) eg).trans h.files, (World.cell?_of_block (a := ⟨R.g, 1, none⟩) eg).trans h.queue, (World.cell?_of_block (a := ⟨R.g, 2, none⟩) eg).trans h.lost, (World.cell?_of_block (a := ⟨R.g, 3, none⟩) eg).trans h.down,
    (World.cell?_of_block (a := ⟨R.g, 4, none⟩) eg).trans h.calls, (World.cell?_of_block (a := ⟨R.g, 5, none⟩) eg).trans h.keep, there_keep h.there eg, h.frow.keep hs fun b hb => e b (.inr (.inl hb)), h.qrow.keep hs fun b hb => e b (.inr (.inr (.inl hb))),
    (let ⟨ks, k1, k2, k3⟩ := h.krow; ⟨ks, k1, k2.keep hs fun b hb => e b (.inr (.inr (.inr hb))), k3⟩), h.sep, h.nums_lt, h.nodup, h.rest⟩
theorem RefAt.below (h : RefAt w R nums S) (b : Below w.heap.size w w') : RefAt w' R nums S := h.still b.size fun c hc => b.block c (h.inside c hc)
theorem RefAt.only {F : Nat → Prop} (h : RefAt w R nums S) (o : Only F w w') (hF : ∀ b, R.has b → ¬ F b) : RefAt w' R nums S := h.still o.size fun b hb => o.block b (h.inside b hb) (hF b hb)
theorem RefAt.drew (h : RefAt w R nums S) : RefAt w.drew R nums S := h.below (Below.refl _ w).drew
theorem RefAt.len (h : RefAt w R nums S) : nums.length ≤ 16 := nodup_lt 16 nums h.nodup h.nums_lt

theorem flat_get {α : Type} (c : α → List Value) (k : Nat) (hc : ∀ a, (c a).length = k) : ∀ (l : List α) (i j : Nat), j < k → ∀ a, l[i]? = some a → (l.flatMap c)[i * k + j]? = (c a)[j]?
  | [], i, j, hj, a, h => by simp at h
  | x :: l, 0, j, hj, a, h => by
    simp at h
    subst h
    rw [List.flatMap_cons, Nat.zero_mul, Nat.zero_add, List.getElem?_append_left (by rw [hc]; exact hj)]
  | x :: l, i + 1, j, hj, a, h => by
    rw [List.flatMap_cons, List.getElem?_append_right (by rw [hc, Nat.add_mul]; omega), hc, show (i + 1) * k + j - k = i * k + j from by rw [Nat.add_mul]; omega]
    exact flat_get c k hc l i j hj a (by simpa using h)
/-- A file as the walk reads it. -/
theorem RefAt.file (h : RefAt w R nums S) {i : Nat} (hi : i < nums.length) : ∃ b c, R.fv = .slice (some ⟨b, 0, none⟩) nums.length c ∧ b ≠ R.g ∧ b < w.heap.size ∧ R.fv.ownBlock = some b ∧ w.cell? ⟨b, i * 3, none⟩ = some (.int .i64 nums[i]) ∧
    w.cell? ⟨b, i * 3 + 1, none⟩ = some (str (S.now.all nums[i])) ∧ w.cell? ⟨b, i * 3 + 2, none⟩ = some (str (S.last.all nums[i])) := by
  rcases h.frow.form with ⟨e, h0⟩ | ⟨b, c, e, _, hb, _, _, _, _, h7⟩
  · omega
  · have hg := fun j hj => flat_get (fileL S) 3 (fun _ => rfl) nums i j hj nums[i] (List.getElem?_eq_getElem hi)
    have ho : R.fv.ownBlock = some b := by rw [e]; rfl
    exact ⟨b, c, e, h.sep.f b ho, hb, ho, h7 _ _ (hg 0 (by omega)), h7 _ _ (hg 1 (by omega)), h7 _ _ (hg 2 (by omega))⟩
/-- A pending sector as the walk reads it. -/
theorem RefAt.sec (h : RefAt w R nums S) {i : Nat} (hi : i < S.queue.length) : ∃ b c, R.qv = .slice (some ⟨b, 0, none⟩) S.queue.length c ∧ b ≠ R.g ∧ b < w.heap.size ∧ R.qv.ownBlock = some b ∧ w.cell? ⟨b, i * 2, none⟩ = some (.int .i64 S.queue[i].1) ∧ w.cell? ⟨b, i * 2 + 1, none⟩ = some (.int .i64 S.queue[i].2) := by
  rcases h.qrow.form with ⟨e, h0⟩ | ⟨b, c, e, _, hb, _, _, _, _, h7⟩
  · omega
  · have ho : R.qv.ownBlock = some b := by rw [e]; rfl
    exact ⟨b, c, e, h.sep.q b ho, hb, ho, h7 _ _ (sec_get S.queue i hi).1, h7 _ _ (sec_get S.queue i hi).2⟩

/-- The first n places of the numbers do not hold f. -/
theorem all_zero {C : Con} {f : Nat} (h : C.size f = 0) : C.all f = [] := by
  unfold Con.all Con.read
  rw [h]
  rfl

/-! Cells of the disk's own are written. -/
theorem RefAt.put_lost (h : RefAt w R nums S) (z : Int) : RefAt (w.setCell ⟨R.g, 2, none⟩ (.int .i64 z)) R nums { S with lost := z } :=
  ⟨by rw [set_cell_other (by omega)]; exact h.files, by rw [set_cell_other (by omega)]; exact h.queue, set_cell_same (h.isSome (by omega)), by rw [set_cell_other (by omega)]; exact h.down, by rw [set_cell_other (by omega)]; exact h.calls, by rw [set_cell_other (by omega)]; exact h.keep,
    there_put h.there _ _, h.frow.keep (by simp [World.setCell]) fun b hb => Below.heap_setCell _ _ _ _ (h.sep.f b hb), h.qrow.keep (by simp [World.setCell]) fun b hb => Below.heap_setCell _ _ _ _ (h.sep.q b hb), (let ⟨ks, k1, k2, k3⟩ := h.krow; ⟨ks, k1, k2.keep (by simp [World.setCell]) fun b hb => Below.heap_setCell _ _ _ _ (h.sep.k b hb), k3⟩), h.sep, h.nums_lt, h.nodup, h.rest⟩
theorem RefAt.put_down (h : RefAt w R nums S) (z : Bool) : RefAt (w.setCell ⟨R.g, 3, none⟩ (.bool z)) R nums { S with down := z } :=
  ⟨by rw [set_cell_other (by omega)]; exact h.files, by rw [set_cell_other (by omega)]; exact h.queue, by rw [set_cell_other (by omega)]; exact h.lost, set_cell_same (h.isSome (by omega)), by rw [set_cell_other (by omega)]; exact h.calls, by rw [set_cell_other (by omega)]; exact h.keep,
    there_put h.there _ _, h.frow.keep (by simp [World.setCell]) fun b hb => Below.heap_setCell _ _ _ _ (h.sep.f b hb), h.qrow.keep (by simp [World.setCell]) fun b hb => Below.heap_setCell _ _ _ _ (h.sep.q b hb), (let ⟨ks, k1, k2, k3⟩ := h.krow; ⟨ks, k1, k2.keep (by simp [World.setCell]) fun b hb => Below.heap_setCell _ _ _ _ (h.sep.k b hb), k3⟩), h.sep, h.nums_lt, h.nodup, h.rest⟩
theorem RefAt.put_calls (h : RefAt w R nums S) (z : Int) (hz : z ≠ 0 → S.calls ≠ 0) : RefAt (w.setCell ⟨R.g, 4, none⟩ (.int .i64 z)) R nums { S with calls := z } :=
  ⟨by rw [set_cell_other (by omega)]; exact h.files, by rw [set_cell_other (by omega)]; exact h.queue, by rw [set_cell_other (by omega)]; exact h.lost, by rw [set_cell_other (by omega)]; exact h.down, set_cell_same (h.isSome (by omega)), by rw [set_cell_other (by omega)]; exact h.keep,
    there_put h.there _ _, h.frow.keep (by simp [World.setCell]) fun b hb => Below.heap_setCell _ _ _ _ (h.sep.f b hb), h.qrow.keep (by simp [World.setCell]) fun b hb => Below.heap_setCell _ _ _ _ (h.sep.q b hb), (let ⟨ks, k1, k2, k3⟩ := h.krow; ⟨ks, k1, k2.keep (by simp [World.setCell]) fun b hb => Below.heap_setCell _ _ _ _ (h.sep.k b hb), fun h0 => k3 (hz h0)⟩), h.sep, h.nums_lt, h.nodup, h.rest⟩
theorem RefAt.put_files (h : RefAt w R nums S) {v : Value} {nums' : List Nat} {N L : Con} (hr : Grow w 0 3 v nums'.length (nums'.flatMap (fileL { S with now := N, last := L }))) (hn : ∀ b, v.ownBlock = some b → b ≠ R.g) (hq : Apart v R.qv) (hk : Apart v R.kv)
    (hl : ∀ n ∈ nums', n < 16) (hd : nums'.Nodup) (hz : ∀ f, f ∉ nums' → N.size f = 0 ∧ L.size f = 0) : RefAt (w.setCell ⟨R.g, 0, none⟩ v) { R with fv := v } nums' { S with now := N, last := L } :=
  ⟨set_cell_same (h.isSome (by omega)), by rw [set_cell_other (by omega)]; exact h.queue, by rw [set_cell_other (by omega)]; exact h.lost, by rw [set_cell_other (by omega)]; exact h.down, by rw [set_cell_other (by omega)]; exact h.calls, by rw [set_cell_other (by omega)]; exact h.keep,
    there_put h.there _ _, hr.keep (by simp [World.setCell]) fun b hb => Below.heap_setCell _ _ _ _ (hn b hb), h.qrow.keep (by simp [World.setCell]) fun b hb => Below.heap_setCell _ _ _ _ (h.sep.q b hb), (let ⟨ks, k1, k2, k3⟩ := h.krow; ⟨ks, k1, k2.keep (by simp [World.setCell]) fun b hb => Below.heap_setCell _ _ _ _ (h.sep.k b hb), k3⟩),
    ⟨hn, h.sep.q, h.sep.k, hq, hk, h.sep.qk⟩, hl, hd, hz⟩
theorem RefAt.put_queue (h : RefAt w R nums S) {v : Value} {q : List (Nat × Nat)} (hr : Grow w 0 2 v q.length (q.flatMap secL)) (hn : ∀ b, v.ownBlock = some b → b ≠ R.g) (hf : Apart R.fv v) (hk : Apart v R.kv) : RefAt (w.setCell ⟨R.g, 1, none⟩ v) { R with qv := v } nums { S with queue := q } :=
  ⟨by rw [set_cell_other (by omega)]; exact h.files, set_cell_same (h.isSome (by omega)), by rw [set_cell_other (by omega)]; exact h.lost, by rw [set_cell_other (by omega)]; exact h.down, by rw [set_cell_other (by omega)]; exact h.calls, by rw [set_cell_other (by omega)]; exact h.keep,
    there_put h.there _ _, h.frow.keep (by simp [World.setCell]) fun b hb => Below.heap_setCell _ _ _ _ (h.sep.f b hb), hr.keep (by simp [World.setCell]) fun b hb => Below.heap_setCell _ _ _ _ (hn b hb), (let ⟨ks, k1, k2, k3⟩ := h.krow; ⟨ks, k1, k2.keep (by simp [World.setCell]) fun b hb => Below.heap_setCell _ _ _ _ (h.sep.k b hb), k3⟩),
    ⟨h.sep.f, hn, h.sep.k, hf, h.sep.fk, hk⟩, h.nums_lt, h.nodup, h.rest⟩
theorem RefAt.put_calls_armed (h : RefAt w R nums S) (z : Int) (hk : ∃ ks : List Int, ks.length ≤ 1000000000 ∧ Grow w 0 1 R.kv ks.length (ks.map (Value.int .i64)) ∧ ks = S.keep) : RefAt (w.setCell ⟨R.g, 4, none⟩ (.int .i64 z)) R nums { S with calls := z } :=
  ⟨by rw [set_cell_other (by omega)]; exact h.files, by rw [set_cell_other (by omega)]; exact h.queue, by rw [set_cell_other (by omega)]; exact h.lost, by rw [set_cell_other (by omega)]; exact h.down, set_cell_same (h.isSome (by omega)), by rw [set_cell_other (by omega)]; exact h.keep,
    there_put h.there _ _, h.frow.keep (by simp [World.setCell]) fun b hb => Below.heap_setCell _ _ _ _ (h.sep.f b hb), h.qrow.keep (by simp [World.setCell]) fun b hb => Below.heap_setCell _ _ _ _ (h.sep.q b hb), (let ⟨ks, k1, k2, k3⟩ := hk; ⟨ks, k1, k2.keep (by simp [World.setCell]) fun b hb => Below.heap_setCell _ _ _ _ (h.sep.k b hb), fun _ => k3⟩), h.sep, h.nums_lt, h.nodup, h.rest⟩
theorem RefAt.put_keep (h : RefAt w R nums S) {v : Value} {ks : List Int} (hL : ks.length ≤ 1000000000) (hr : Grow w 0 1 v ks.length (ks.map (Value.int .i64))) (hn : ∀ b, v.ownBlock = some b → b ≠ R.g) (hf : Apart R.fv v) (hq : Apart R.qv v) : RefAt (w.setCell ⟨R.g, 5, none⟩ v) { R with kv := v } nums { S with keep := ks } :=
  ⟨by rw [set_cell_other (by omega)]; exact h.files, by rw [set_cell_other (by omega)]; exact h.queue, by rw [set_cell_other (by omega)]; exact h.lost, by rw [set_cell_other (by omega)]; exact h.down, by rw [set_cell_other (by omega)]; exact h.calls, set_cell_same (h.isSome (by omega)),
    there_put h.there _ _, h.frow.keep (by simp [World.setCell]) fun b hb => Below.heap_setCell _ _ _ _ (h.sep.f b hb), h.qrow.keep (by simp [World.setCell]) fun b hb => Below.heap_setCell _ _ _ _ (h.sep.q b hb), ⟨ks, hL, hr.keep (by simp [World.setCell]) fun b hb => Below.heap_setCell _ _ _ _ (hn b hb), fun _ => rfl⟩,
    ⟨h.sep.f, h.sep.q, hn, h.sep.fq, hf, hq⟩, h.nums_lt, h.nodup, h.rest⟩
end

/-- The blocks that calls write. -/
def ROwn.wr (R : ROwn) (b : Nat) : Prop := b = R.g ∨ R.fv.ownBlock = some b ∨ R.qv.ownBlock = some b
theorem ROwn.wr_has {R : ROwn} {b : Nat} (h : R.wr b) : R.has b := h.imp_right fun h => h.imp_right .inl
/-- What a call leaves of the reference's disk. -/
structure RPost (R : ROwn) (S : St) (w w' : World) : Prop where
  disk : ∃ R' nums', RefAt w' R' nums' S ∧ R'.g = R.g ∧ R'.kv = R.kv ∧ ∀ b, R'.wr b → R.wr b ∨ w.heap.size ≤ b
  only : Only R.wr w w'
theorem RPost.refl {w : World} {R : ROwn} {nums : List Nat} {S : St} (h : RefAt w R nums S) : RPost R S w w := ⟨⟨R, nums, h, rfl, rfl, fun _ h => .inl h⟩, Only.refl _ _⟩
theorem RPost.of_below {w w' : World} {R : ROwn} {nums : List Nat} {S : St} (h : RefAt w R nums S) (b : Below w.heap.size w w') : RPost R S w w' := ⟨⟨R, nums, h.below b, rfl, rfl, fun _ h => .inl h⟩, Only.of_below b⟩
theorem RPost.next {w w1 w2 : World} {R R1 : ROwn} {S2 : St} (o : Only R.wr w w1) (hp : R1.g = R.g) (hk : R1.kv = R.kv) (hD : ∀ b, R1.wr b → R.wr b ∨ w.heap.size ≤ b) (k : RPost R1 S2 w1 w2) : RPost R S2 w w2 := by
  obtain ⟨⟨R2, n2, h2, p2, k2, e2⟩, o2⟩ := k
  refine ⟨⟨R2, n2, h2, p2.trans hp, k2.trans hk, fun b hb => ?_⟩, o.trans o2 hD⟩
  rcases e2 b hb with h | h
  · exact hD b h
  · exact .inr (Nat.le_trans o.size h)
/-- .. or of a disk that may have another schedule. -/
structure RDone (R : ROwn) (S : St) (w w' : World) : Prop where
  disk : ∃ R' nums', RefAt w' R' nums' S ∧ R'.g = R.g ∧ ∀ b, R'.has b → R.has b ∨ w.heap.size ≤ b
  only : Only R.has w w'
theorem RPost.done {w w' : World} {R : ROwn} {S : St} (h : RPost R S w w') : RDone R S w w' := by
  obtain ⟨⟨R', n', h', hg, hk, hw⟩, o⟩ := h
  refine ⟨⟨R', n', h', hg, fun b hb => ?_⟩, o.mono fun b hb => .inl (ROwn.wr_has hb)⟩
  have hx : R'.wr b ∨ R'.kv.ownBlock = some b := by
    rcases hb with h | h | h | h
    · exact .inl (.inl h)
    · exact .inl (.inr (.inl h))
    · exact .inl (.inr (.inr h))
    · exact .inr h
  rcases hx with h | h
  · exact (hw b h).imp_left ROwn.wr_has
  · rw [hk] at h
    exact .inl (.inr (.inr (.inr h)))
end Dsk
end Go.Proofs.YtlokgmpdighfaaaDoor

/-! The reference's small calls: get, Size, Down, may, fits, pending, Start, Lose. -/
namespace Go.Proofs.YtlokgmpdighfaaaDoor
open Go.RowKit Wire
set_option linter.unusedVariables false
set_option linter.unusedSimpArgs false
open Txt
namespace Dsk

/-- A file's bytes, or none. -/
def gN (C : Con) (f : Int) : List UInt8 := if isF f then C.all f.toNat else []
def fileI (f : Int) (a b : List UInt8) : List Value := [.int .i64 f, str a, str b]

section
variable {w w' : World} {R : ROwn} {nums : List Nat} {S : St}
theorem gN_mem (h : RefAt w R nums S) {n : Nat} (hm : n ∈ nums) (C : Con) : gN C n = C.all n := by
  unfold gN
  rw [if_pos (by unfold isF; have := h.nums_lt n hm; exact decide_eq_true (by omega)), Int.toNat_natCast]
theorem gN_not (h : RefAt w R nums S) {f : Int} (hm : ∀ n ∈ nums, (n : Int) ≠ f) : gN S.now f = [] ∧ gN S.last f = [] := by
  unfold gN
  split
  · rename_i hf
    have h1 := isF_nat hf
    have h2 := h.rest f.toNat fun hn => hm _ hn h1.2.2.2
    exact ⟨all_zero h2.1, all_zero h2.2⟩
  · exact ⟨rfl, rfl⟩

structure GetRel (w : World) (nums : List Nat) (f : Int) (iv : Value) (wr : World) (i : Nat) : Prop where
  iv : iv = .int .i64 i
  le : i ≤ nums.length
  no : ∀ j (hj : j < nums.length), j < i → (nums[j] : Int) ≠ f
  world : wr = w.alloc (.cells #[.int .i64 0, .string ⟨#[]⟩, .string ⟨#[]⟩] 88)

set_option maxHeartbeats 1000000 in
theorem get_any (h : RefAt w R nums S) (f : Int) : Calls Tryd.prog 50 #[ptr R.g, .int .i64 f] w fun e w' => e = .returned (.agg (fileI f (gN S.now f) (gN S.last f)).toArray) ∧ Below w.heap.size w w' := by
  have hlen := h.len
  have H := Lib.hid h
  have hfiles := h.files
  obtain ⟨A0, c0, e0⟩ := h.frow.slice
  rw [e0] at hfiles
  have E0 := Lib.hid e0
  have hb1 : Below w.heap.size w (w.alloc (.cells #[.int .i64 0, .string ⟨#[]⟩, .string ⟨#[]⟩] 88)) := (Below.refl _ w).alloc (Nat.le_refl _) _
  have hlt := h.lt
  clear h e0
  go_enter Tryd.func50, Tryd.ntmps50
  go_wp2_with fail
  go_loopw [5] (fun iv wr => ∃ i, GetRel w nums f iv wr i) (fun iv _ => nums.length - (intOf iv).toNat)
  case atStart => exact ⟨0, rfl, Nat.zero_le _, (fun j hj h => by omega), rfl⟩
  case round =>
    obtain ⟨i, ⟨rfl, hi, hno, rfl⟩⟩ := hrel
    have hfl : (w.alloc (.cells #[.int .i64 0, .string ⟨#[]⟩, .string ⟨#[]⟩] 88)).cell? ⟨R.g, 0, none⟩ = some (.slice A0 nums.length c0) := (hb1.cell (p := ⟨R.g, 0, none⟩) hlt).trans hfiles
    by_cases hil : i < nums.length
    · obtain ⟨b, c, e1, hbg, hbs, _, k0, k1, k2⟩ := H.out.file hil
      have ea : A0 = some ⟨b, 0, none⟩ := by rw [E0.out] at e1; injection e1
      subst ea
      have k0' := (hb1.cell (p := ⟨b, i * 3, none⟩) hbs).trans k0
      have k1' := (hb1.cell (p := ⟨b, i * 3 + 1, none⟩) hbs).trans k1
      have k2' := (hb1.cell (p := ⟨b, i * 3 + 2, none⟩) hbs).trans k2
      by_cases hf : (nums[i] : Int) = f
      · have hg1 := gN_mem H.out (List.getElem_mem hil) S.now
        have hg2 := gN_mem H.out (List.getElem_mem hil) S.last
        rw [hf] at hg1 hg2 k0 k0'
        have G1 := Lib.hid hg1
        have G2 := Lib.hid hg2
        clear hg1 hg2 hno hf
        generalize S.now.all nums[i] = a1 at *
        generalize S.last.all nums[i] = a2 at *
        go_wp2_with fail
        go_returns
        exact ⟨by rw [G1.out, G2.out]; rfl, (Below.refl _ w).alloc (Nat.le_refl _) _⟩
      · go_wp2_with fail
        go_roundw
        case rel => exact ⟨i + 1, by simp, hil, fun j hj hj2 => (if e : j = i then by subst e; exact hf else hno j hj (by omega)), rfl⟩
        case measure => simp [intOf]; omega
    · obtain ⟨hg1, hg2⟩ := gN_not H.out (f := f) (fun n hn => by obtain ⟨j, hj, rfl⟩ := List.getElem_of_mem hn; exact hno j hj (by omega))
      have G1 := Lib.hid hg1
      have G2 := Lib.hid hg2
      clear hg1 hg2 hno
      go_wp2_with fail
      go_returns
      exact ⟨by rw [G1.out, G2.out]; rfl, (Below.refl _ w).alloc (Nat.le_refl _) _⟩

theorem gN_len (hk : S.now.ok) (f : Int) : (gN S.now f).length = S.Size f := by
  unfold gN St.Size
  split
  · exact hk.all_len _
  · rfl

theorem file_field1 (x a b : Value) (w : World) : Sem.run Tryd.prog (Instr.field 88 (.agg #[x, a, b]) 1) w = .ok a w := by kernel_rfl
set_option maxRecDepth 8000 in
theorem rsize_any (h : RefAt w R nums S) (hk : S.now.ok) (f : Int) : Calls Tryd.prog 30 #[ptr R.g, .int .i64 f] w fun e w' => e = .returned (.int .i64 (S.Size f)) ∧ Below w.heap.size w w' := by
  have HG := Lib.hid (get_any h f)
  have HL := Lib.hid (gN_len hk f)
  clear h hk
  unfold fileI str at HG
  generalize gN S.now f = a at *
  generalize gN S.last f = b at *
  have hz : (⟨a.toArray⟩ : ByteArray).size = a.length := by show a.toArray.size = _; simp
  have hfd := file_field1 (.int .i64 f) (.string ⟨a.toArray⟩) (.string ⟨b.toArray⟩)
  go_enter Tryd.func30, Tryd.ntmps30
  go_wp2_with ((go_at_call 50; refine HG.out.mono ?_; rintro e w1 ⟨rfl, b1⟩))
  go_ret
  exact ⟨by rw [← HL.out]; simp [hz], b1⟩
def mayV (S : St) (f : Int) : Int := if S.down then 9 else if isF f then 0 else 1
theorem may_any (h : RefAt w R nums S) (f : Int) : Calls Tryd.prog 49 #[ptr R.g, .int .i64 f] w fun e w' => e = .returned (.int .i64 (mayV S f)) ∧ w = w' := by
  have h1 := h.down
  clear h
  unfold mayV
  generalize S.down = d at *
  cases d with
  | true =>
    rw [if_pos rfl]
    go_enter Tryd.func49, Tryd.ntmps49
    go_wp2_with fail
    go_ret
    exact ⟨rfl, rfl⟩
  | false =>
    rw [if_neg (by simp)]
    by_cases h0 : f < 0
    · rw [if_neg (by unfold isF; simp; omega)]
      go_enter Tryd.func49, Tryd.ntmps49
      go_wp2_with fail
      go_ret
      exact ⟨rfl, rfl⟩
    · by_cases h2 : 15 < f
      · rw [if_neg (by unfold isF; simp; omega)]
        go_enter Tryd.func49, Tryd.ntmps49
        go_wp2_with fail
        go_ret
        exact ⟨rfl, rfl⟩
      · rw [if_pos (by unfold isF; simp; omega)]
        go_enter Tryd.func49, Tryd.ntmps49
        go_wp2_with fail
        go_ret
        exact ⟨rfl, rfl⟩
def fitsV (a : Int) (n : Nat) : Bool := decide (0 ≤ a ∧ a + n ≤ 16777216)
theorem fits_any (a : Int) (s : ByteArray) (hs : s.size ≤ 16777216) (w : World) : Calls Tryd.prog 55 #[.int .i64 a, .string s] w fun e w' => e = .returned (.bool (fitsV a s.size)) ∧ w = w' := by
  by_cases h0 : 0 ≤ a
  · by_cases h1 : a ≤ 16777216
    · by_cases h2 : a + s.size ≤ 16777216
      · have e : fitsV a s.size = true := decide_eq_true ⟨h0, h2⟩
        rw [e]
        clear e
        go_enter Tryd.func55, Tryd.ntmps55
        go_wp2_with fail
        go_ret
        exact ⟨rfl, rfl⟩
      · have e : fitsV a s.size = false := decide_eq_false fun h => h2 h.2
        rw [e]
        clear e
        go_enter Tryd.func55, Tryd.ntmps55
        go_wp2_with fail
        go_ret
        exact ⟨rfl, rfl⟩
    · have e : fitsV a s.size = false := decide_eq_false fun h => h1 (by omega)
      rw [e]
      clear e
      go_enter Tryd.func55, Tryd.ntmps55
      go_wp2_with fail
      go_ret
      exact ⟨rfl, rfl⟩
  · have e : fitsV a s.size = false := decide_eq_false fun h => h0 h.1
    rw [e]
    clear e
    go_enter Tryd.func55, Tryd.ntmps55
    go_wp2_with fail
    go_ret
    exact ⟨rfl, rfl⟩
theorem rstart_any (h : RefAt w R nums S) : Calls Tryd.prog 22 #[ptr R.g] w fun e w' => e = .returned (.tuple #[]) ∧ RPost R S.start w w' := by
  have h1 := h.down
  have h2 := h.free (j := 3) (by omega)
  have HP : Hid (RPost R S.start w (w.setCell ⟨R.g, 3, none⟩ (.bool false))) := Lib.hid ⟨⟨R, nums, h.put_down false, rfl, rfl, fun _ h => .inl h⟩, Only.set _ _ _ _ (.inl rfl)⟩
  clear h
  go_enter Tryd.func22, Tryd.ntmps22
  go_wp2_with fail
  go_returns
  exact ⟨rfl, HP.out⟩
theorem rlose_any (h : RefAt w R nums S) (n : Int) : Calls Tryd.prog 17 #[ptr R.g, .int .i64 n] w fun e w' => e = .returned (.tuple #[]) ∧ RPost R (S.lose n) w w' := by
  have h1 := h.lost
  have h2 := h.free (j := 2) (by omega)
  have HP : Hid (∀ z, z = max n 0 → RPost R (S.lose n) w (w.setCell ⟨R.g, 2, none⟩ (.int .i64 z))) := Lib.hid fun z hz => by subst hz; exact ⟨⟨R, nums, h.put_lost _, rfl, rfl, fun _ h => .inl h⟩, Only.set _ _ _ _ (.inl rfl)⟩
  clear h
  by_cases hn : n < 0
  · go_enter Tryd.func17, Tryd.ntmps17
    go_wp2_with fail
    go_returns
    exact ⟨rfl, HP.out _ (by omega)⟩
  · go_enter Tryd.func17, Tryd.ntmps17
    go_wp2_with fail
    all_goals
      go_returns
      exact ⟨rfl, HP.out _ (by omega)⟩

structure PenRel (w : World) (q : List (Nat × Nat)) (f n : Nat) (iv : Value) (wr : World) (i : Nat) : Prop where
  iv : iv = .int .i64 i
  le : i ≤ q.length
  no : ∀ j (hj : j < q.length), j < i → q[j] ≠ (f, n)
  world : wr = w
set_option maxHeartbeats 1000000 in
theorem pending_any (h : RefAt w R nums S) (hq : S.queue.length ≤ 1000000000) (f n : Nat) : Calls Tryd.prog 66 #[ptr R.g, .int .i64 f, .int .i64 n] w fun e w' => e = .returned (.bool (decide ((f, n) ∈ S.queue))) ∧ w = w' := by
  have H := Lib.hid h
  have hqc := h.queue
  obtain ⟨A0, c0, e0⟩ := h.qrow.slice
  rw [e0] at hqc
  have E0 := Lib.hid e0
  clear h e0
  go_enter Tryd.func66, Tryd.ntmps66
  go_wp2_with fail
  go_loopw [7] (fun iv wr => ∃ i, PenRel w S.queue f n iv wr i) (fun iv _ => S.queue.length - (intOf iv).toNat)
  case atStart => exact ⟨0, rfl, Nat.zero_le _, (fun j hj h => by omega), rfl⟩
  case round =>
    obtain ⟨i, ⟨rfl, hi, hno, rfl⟩⟩ := hrel
    by_cases hil : i < S.queue.length
    · obtain ⟨b, c, e1, hbg, hbs, _, k0, k1⟩ := H.out.sec hil
      have ea : A0 = some ⟨b, 0, none⟩ := by rw [E0.out] at e1; injection e1
      subst ea
      by_cases hf : S.queue[i].1 = f
      · by_cases hn : S.queue[i].2 = n
        · have HM := Lib.hid (decide_eq_true (show (f, n) ∈ S.queue by rw [← hf, ← hn]; exact List.getElem_mem hil))
          rw [hf] at k0
          rw [hn] at k1
          clear hno hf hn
          go_wp2_with fail
          go_ret
          exact ⟨by have := HM.out; simp_all, rfl⟩
        · have hne : S.queue[i] ≠ (f, n) := fun e => hn (by rw [e])
          have hn2 : ((S.queue[i].2 : Int) == (n : Int)) = false := beq_eq_false_iff_ne.2 fun e => hn (by omega)
          have HN := Lib.hid hne
          rw [hf] at k0
          clear hf hne hn
          generalize S.queue[i].2 = q2 at *
          have HNO := Lib.hid hno
          clear hno
          go_wp2_with fail
          go_roundw
          case rel => exact ⟨i + 1, by simp, hil, fun j hj hj2 => (if e : j = i then by subst e; exact HN.out else HNO.out j hj (by omega)), rfl⟩
          case measure => simp [intOf]; omega
      · have hne : S.queue[i] ≠ (f, n) := fun e => hf (by rw [e])
        have hn2 : ((S.queue[i].1 : Int) == (f : Int)) = false := beq_eq_false_iff_ne.2 fun e => hf (by omega)
        have HN := Lib.hid hne
        clear hne hf
        generalize S.queue[i].1 = q1 at *
        generalize S.queue[i].2 = q2 at *
        have HNO := Lib.hid hno
        clear hno
        go_wp2_with fail
        go_roundw
        case rel => exact ⟨i + 1, by simp, hil, fun j hj hj2 => (if e : j = i then by subst e; exact HN.out else HNO.out j hj (by omega)), rfl⟩
        case measure => simp [intOf]; omega
    · have HM := Lib.hid (decide_eq_false (show (f, n) ∉ S.queue from fun hm => by obtain ⟨j, hj, e⟩ := List.getElem_of_mem hm; exact hno j hj (by omega) e))
      clear hno
      go_wp2_with fail
      go_ret
      exact ⟨by have := HM.out; simp_all, rfl⟩
end
end Dsk
end Go.Proofs.YtlokgmpdighfaaaDoor

/-! The reference's Put: bytes laid into a string. -/
namespace Go.Proofs.YtlokgmpdighfaaaDoor
open Go.RowKit Wire
set_option linter.unusedVariables false
set_option linter.unusedSimpArgs false
open Txt
namespace Dsk

/-- Of n bytes those from a on are the first i of t; the others are those of s, or 0. -/
def midB (s t : List UInt8) (a n i : Nat) : List UInt8 := (List.range n).map fun j => if a ≤ j ∧ j < a + i then t.getD (j - a) 0 else s.getD j 0
def putB (s : List UInt8) (a : Nat) (t : List UInt8) : List UInt8 := if t = [] then s else midB s t a (max s.length (a + t.length)) t.length

theorem midB_len (s t : List UInt8) (a n i : Nat) : (midB s t a n i).length = n := by unfold midB; simp
theorem midB_get (s t : List UInt8) (a n i j : Nat) (h : j < n) : (midB s t a n i)[j]? = some (if a ≤ j ∧ j < a + i then t.getD (j - a) 0 else s.getD j 0) := by
  unfold midB
  rw [List.getElem?_map, List.getElem?_range h]
  rfl
theorem midB_zero (s t : List UInt8) (a k : Nat) : s ++ List.replicate k 0 = midB s t a (s.length + k) 0 := by
  refine List.ext_getElem? fun j => ?_
  by_cases h : j < s.length + k
  · rw [midB_get _ _ _ _ _ _ h, if_neg (by omega)]
    by_cases h2 : j < s.length
    · rw [List.getElem?_append_left h2, List.getD_eq_getElem?_getD, List.getElem?_eq_getElem h2]
      rfl
    · rw [List.getElem?_append_right (by omega), List.getD_eq_getElem?_getD, List.getElem?_eq_none (l := s) (by omega), List.getElem?_replicate, if_pos (by omega)]
      rfl
  · rw [List.getElem?_eq_none (by simp; omega), List.getElem?_eq_none (by rw [midB_len]; omega)]
theorem midB_set (s t : List UInt8) (a n i : Nat) (c : UInt8) (hc : t[i]? = some c) : (midB s t a n i).set (a + i) c = midB s t a n (i + 1) := by
  refine List.ext_getElem? fun j => ?_
  rw [List.getElem?_set, midB_len]
  by_cases h : j < n
  · rw [midB_get s t a n (i + 1) j h]
    by_cases h2 : a + i = j
    · subst h2
      rw [if_pos rfl, if_pos h, if_pos (by omega), List.getD_eq_getElem?_getD, show a + i - a = i by omega, hc]
      rfl
    · rw [if_neg h2, midB_get _ _ _ _ _ _ h]
      congr 1
      by_cases h3 : a ≤ j ∧ j < a + i
      · rw [if_pos h3, if_pos (by omega)]
      · rw [if_neg h3, if_neg (by omega)]
  · have e1 : (midB s t a n i)[j]? = none := List.getElem?_eq_none (by rw [midB_len]; omega)
    have e2 : (midB s t a n (i + 1))[j]? = none := List.getElem?_eq_none (by rw [midB_len]; omega)
    rw [e1, e2]
    split
    · rw [if_neg (by omega)]
    · rfl

theorem cells_one (l : List UInt8) (c : UInt8) : byteCells ⟨l.toArray⟩ ++ [Value.int .u8 c.toNat] = byteCells ⟨(l ++ [c]).toArray⟩ := by simp [byteCells]
theorem cells_set (l : List UInt8) (i : Nat) (c : UInt8) : (byteCells ⟨l.toArray⟩).set i (Value.int .u8 c.toNat) = byteCells ⟨(l.set i c).toArray⟩ := by simp [byteCells, List.map_set]
theorem cells_get (l : List UInt8) (i : Nat) (h : i < l.length) : (byteCells ⟨l.toArray⟩)[i]? = some (Value.int .u8 l[i].toNat) := by simp [byteCells, h]

/-- A cell of a row is written. -/
theorem grow_put {w : World} {B size n : Nat} {xs : List Value} {g c : Nat} (h : Grow w B size (.slice (some ⟨g, 0, none⟩) n c) n xs) {i : Nat} (hi : i < n * size) (u : Value) : Grow (w.setCell ⟨g, i, none⟩ u) B size (.slice (some ⟨g, 0, none⟩) n c) n (xs.set i u) := by
  refine ⟨by rw [List.length_set, h.len], ?_⟩
  rcases h.form with ⟨e, h0⟩ | ⟨g', c', e, h1, h2, h3, h4, h5, h6, h7⟩
  · cases e
  · obtain ⟨rfl, rfl⟩ : g' = g ∧ c' = c := by
      injection e with e1 e2 e3
      injection e1 with e1
      injection e1 with e1
      exact ⟨e1.symm, e3.symm⟩
    have hic : i < c' * size := Nat.lt_of_lt_of_le hi (Nat.mul_le_mul_right _ h3)
    refine .inr ⟨g', c', rfl, h1, by simpa [World.setCell] using h2, h3, h4, fun j hj => ?_, fun j hj => ?_, fun j v hv => ?_⟩
    · by_cases e : j = i
      · subst e
        rw [set_cell_same (h5 j hj)]
        rfl
      · rw [set_cell_other e]
        exact h5 j hj
    · rw [World.frozen?_setCell]
      exact h6 j hj
    · rw [List.getElem?_set] at hv
      by_cases e : i = j
      · subst e
        rw [if_pos rfl, if_pos (by rw [h.len]; exact hi)] at hv
        cases hv
        exact set_cell_same (h5 i hic)
      · rw [if_neg e] at hv
        rw [set_cell_other (fun x => e x.symm)]
        exact h7 j v hv
theorem grow_parts {w : World} {B size n : Nat} {v : Value} {xs : List Value} (h : Grow w B size v n xs) (hn : 0 < n) : ∃ g c, v = .slice (some ⟨g, 0, none⟩) n c ∧ B ≤ g ∧ g < w.heap.size ∧ ∀ j, j < n * size → (w.cell? ⟨g, j, none⟩).isSome = true ∧ w.frozen? ⟨g, j, none⟩ = false := by
  rcases h.form with ⟨e, h0⟩ | ⟨g, c, e, h1, h2, h3, h4, h5, h6, h7⟩
  · omega
  · exact ⟨g, c, e, h1, h2, fun j hj => ⟨h5 j (Nat.lt_of_lt_of_le hj (Nat.mul_le_mul_right _ h3)), h6 j (Nat.lt_of_lt_of_le hj (Nat.mul_le_mul_right _ h3))⟩⟩

theorem grow_cell {w : World} {B size n : Nat} {xs : List Value} {g c : Nat} (h : Grow w B size (.slice (some ⟨g, 0, none⟩) n c) n xs) {j : Nat} (hj : j < n * size) : (w.cell? ⟨g, j, none⟩).isSome = true ∧ w.frozen? ⟨g, j, none⟩ = false := by
  rcases h.form with ⟨e, h0⟩ | ⟨g', c', e, h1, h2, h3, h4, h5, h6, h7⟩
  · cases e
  · obtain ⟨rfl, rfl⟩ : g' = g ∧ c' = c := by
      injection e with e1 e2 e3
      injection e1 with e1
      injection e1 with e1
      exact ⟨e1.symm, e3.symm⟩
    exact ⟨h5 j (Nat.lt_of_lt_of_le hj (Nat.mul_le_mul_right _ h3)), h6 j (Nat.lt_of_lt_of_le hj (Nat.mul_le_mul_right _ h3))⟩

structure PadRel (w : World) (s : ByteArray) (m : Nat) (bv : Value) (wr : World) (k : Nat) : Prop where
  row : Grow wr w.heap.size 1 bv (s.size + k) (byteCells ⟨(bl s ++ List.replicate k 0).toArray⟩)
  le : k = 0 ∨ s.size + k ≤ m
  below : Below w.heap.size w wr
structure LayRel (w : World) (s t : ByteArray) (a n g c : Nat) (iv : Value) (wr : World) (i : Nat) : Prop where
  row : Grow wr w.heap.size 1 (.slice (some ⟨g, 0, none⟩) n c) n (byteCells ⟨(midB (bl s) (bl t) a n i).toArray⟩)
  iv : iv = .int .i64 i
  le : i ≤ t.size
  below : Below w.heap.size w wr
def sliceN : Value → Nat | .slice _ n _ => n | _ => 0
theorem room_one {n : Nat} (h : n ≤ 100000000000) : n + 1 ≤ maxLen ∧ (n + 1) * 1 ≤ 140737488355328 := by unfold maxLen; omega

set_option maxRecDepth 8000 in
set_option maxHeartbeats 1000000 in
theorem Put_any (s t : ByteArray) (a : Nat) (hs : s.size ≤ 100000000) (ha : a + t.size ≤ 100000000) (w : World) : Calls Tryd.prog 61 #[.string s, .int .i64 a, .string t] w fun e w' => e = .returned (str (putB (bl s) a (bl t))) ∧ Below w.heap.size w w' := by
  obtain ⟨i0, hi0, hi1, hi2, hi3⟩ := info_parts info_byte
  by_cases ht : t.size = 0
  · have e1 : bl t = [] := List.eq_nil_of_length_eq_zero (by rw [bl_len]; exact ht)
    have HE := Lib.hid (show str (putB (bl s) a (bl t)) = .string s by unfold putB; rw [if_pos e1])
    have e2 : t.toList = [] := is_empty (by omega)
    have e3 : t.toList.isEmpty = true := by rw [e2]; rfl
    clear e1
    go_enter Tryd.func61, Tryd.ntmps61
    go_wp2_with fail
    go_ret
    exact ⟨by rw [HE.out]; rfl, Below.refl _ w⟩
  · have hne := not_empty (s := t) (by omega)
    have hne2 := not_empty2 (s := t) (by omega)
    have HM := Lib.hid (show s.size ≤ maxLen by unfold maxLen; omega)
    have HP := Lib.hid (show putB (bl s) a (bl t) = midB (bl s) (bl t) a (max s.size (a + t.size)) t.size by
      unfold putB
      rw [if_neg (by intro e; exact ht (by rw [← bl_len, e]; rfl)), bl_len, bl_len])
    go_enter Tryd.func61, Tryd.ntmps61
    go_wp2_with (refine wpList_bytes_own _ rfl (.tmp 12) _ _ rfl 5 _ rfl Tryd.underlying9 Tryd.underlying54 Tryd.underlying5 HM.out ?_; intro v2 w2 hown2 hb2 _)
    go_loopw [7] (fun bv wr => ∃ k, PadRel w s (a + t.size) bv wr k) (fun bv _ => a + t.size - sliceN bv)
    case atStart => exact ⟨0, (by rw [List.replicate_zero, List.append_nil]; exact hown2), .inl rfl, hb2⟩
    case round =>
      obtain ⟨k, hrow, hle, hbel⟩ := hrel
      obtain ⟨A, cp, rfl⟩ := hrow.slice
      by_cases hlt : s.size + k < a + t.size
      · have HB := Lib.hid (room_one (n := s.size + k) (by omega))
        go_wp2_with (at_builtin; refine wpList_append_src _ rfl (.tmp 21) (.tmp 22) _ _ rfl w.heap.size 5 i0 _ 1 1 Tryd.underlying54 hi0 hi1 hi2 hi3 rfl (by omega) _ _ _ rfl (hrow.alloc _) _ 1 [.int .u8 0] rfl (Src.ofSlice _ Tryd.underlying54 ⟨wr.heap.size, 0, none⟩ 1 1 [.int .u8 0] rfl (new_cells wr _ [.int .u8 0]) (by simp [Value.oneCell'])) HB.out.1 HB.out.2 (Nat.le_trans hbel.size (by simp)) ?_; intro v5 w5 hown5 hg5 _)
        have HS : Hid (PadRel w s (a + t.size) v5 w5 (k + 1)) := by
          refine ⟨?_, .inr (by omega), ?_⟩
          · have e : byteCells ⟨(bl s ++ List.replicate (k + 1) 0).toArray⟩ = byteCells ⟨(bl s ++ List.replicate k 0).toArray⟩ ++ [.int .u8 0] := by
              rw [List.replicate_succ', ← List.append_assoc]
              exact (cells_one _ 0).symm
            rw [e]
            exact hown5
          · exact Below.grown (Below.alloc hbel hbel.size _) hg5 (Nat.le_trans hbel.size (by simp)) fun g hg => (hrow.block g hg).1
        have HN : Hid (sliceN v5 = s.size + k + 1) := by
          obtain ⟨A', c', e⟩ := hown5.slice
          rw [e]
          exact rfl
        go_roundw
        case rel => exact ⟨k + 1, HS.out⟩
        case measure => rw [HN.out]; simp [sliceN]; omega
      · have hmax : max s.size (a + t.size) = s.size + k := by omega
        obtain ⟨g, c, e, hg1, hg2, hcells⟩ := grow_parts hrow (by omega)
        obtain ⟨rfl, rfl⟩ : A = some ⟨g, 0, none⟩ ∧ cp = c := by
          injection e with e1 e2 e3
          exact ⟨e1, e3⟩
        rw [← bl_len s, midB_zero _ (bl t) a k, bl_len] at hrow
        rw [hmax] at HP
        generalize hn : s.size + k = n at *
        clear hmax hle hcells e
        have hrow0 := Lib.hid hrow
        clear hrow
        go_wp2_with fail
        go_loopw [8] (fun iv wx => ∃ i, LayRel w s t a n g cp iv wx i) (fun iv _ => t.size - (intOf iv).toNat)
        case atStart => exact ⟨0, hrow0.out, rfl, Nat.zero_le _, hbel⟩
        case round =>
          obtain ⟨i, hrow2, rfl, hi, hbel2⟩ := hrel
          by_cases hil : i < t.size
          · obtain ⟨hc1, hc2⟩ := grow_cell hrow2 (j := a + i) (by omega)
            obtain ⟨v0, hv0⟩ := Option.isSome_iff_exists.1 hc1
            clear hc1
            have hrow3 := grow_put hrow2 (i := a + i) (by omega) (.int .u8 t[i].toNat)
            rw [cells_set, midB_set _ _ _ _ _ _ (bl_get hil)] at hrow3
            have HS : Hid (LayRel w s t a n g cp (.int .i64 ((i : Int) + 1)) (wr.setCell ⟨g, a + i, none⟩ (.int .u8 t[i].toNat)) (i + 1)) := Lib.hid ⟨hrow3, by simp, hil, hbel2.grown (grown_set _ g (a + i) _) hbel2.size fun g' hg' => by cases hg'; exact hg1⟩
            clear hrow2 hrow3
            go_wp2_with fail
            go_roundw
            case rel => exact ⟨i + 1, HS.out⟩
            case measure => simp [intOf]; omega
          · obtain rfl : t.size = i := by omega
            have hrun := run_string_own (P := Tryd.prog) wr 54 9 5 w.heap.size _ (midB (bl s) (bl t) a n t.size) (by rw [midB_len]; exact hrow2) Tryd.underlying54 Tryd.underlying5 Tryd.underlying9
            have HB := Lib.hid hbel2
            clear hrow2 hbel2
            go_wp2_with fail
            go_ret
            exact ⟨by rw [HP.out]; rfl, HB.out⟩
end Dsk
end Go.Proofs.YtlokgmpdighfaaaDoor

/-! The reference's set: a file is put in the place of the one with its number. -/
namespace Go.Proofs.YtlokgmpdighfaaaDoor
open Go.RowKit Wire
set_option linter.unusedVariables false
set_option linter.unusedSimpArgs false
open Txt
namespace Dsk

/-- The files of other numbers. -/
def oth (f : Nat) (l : List Nat) : List Nat := l.filter fun n => !(n == f)
theorem oth_yes {f i : Nat} {l : List Nat} (hi : i < l.length) (h : l[i] ≠ f) : oth f (l.take (i + 1)) = oth f (l.take i) ++ [l[i]] := by
  unfold oth
  rw [List.take_succ_eq_append_getElem hi, List.filter_append]
  simp [h]
theorem oth_no {f i : Nat} {l : List Nat} (hi : i < l.length) (h : l[i] = f) : oth f (l.take (i + 1)) = oth f (l.take i) := by
  unfold oth
  rw [List.take_succ_eq_append_getElem hi, List.filter_append]
  simp [h]
theorem oth_len {f i : Nat} {l : List Nat} : (oth f (l.take i)).length ≤ l.length := by
  refine Nat.le_trans (List.length_filter_le _ _) ?_
  rw [List.length_take]
  omega
theorem mem_oth {f n : Nat} {l : List Nat} : n ∈ oth f l ↔ n ∈ l ∧ n ≠ f := by
  unfold oth
  rw [List.mem_filter]
  simp

/-- But for one file they are the same. -/
def ButF (f : Nat) (A B : Con) : Prop := ∀ g, g ≠ f → A.size g = B.size g ∧ A.all g = B.all g
theorem ButF.refl (f : Nat) (A : Con) : ButF f A A := fun _ _ => ⟨rfl, rfl⟩
theorem oth_same {f : Nat} {S : St} {N L : Con} (hN : ButF f N S.now) (hL : ButF f L S.last) (l : List Nat) : (oth f l).flatMap (fileL S) ++ fileV f (N.all f) (L.all f) = (oth f l ++ [f]).flatMap (fileL { S with now := N, last := L }) := by
  rw [List.flatMap_append, List.flatMap_cons, List.flatMap_nil, List.append_nil]
  congr 1
  have : ∀ m : List Nat, (∀ n ∈ m, n ≠ f) → m.flatMap (fileL S) = m.flatMap (fileL { S with now := N, last := L }) := by
    intro m
    induction m with
    | nil => intro _; rfl
    | cons x r ih =>
      intro h
      rw [List.flatMap_cons, List.flatMap_cons, ih fun n hn => h n (by simp [hn])]
      congr 1
      unfold fileL
      dsimp only
      have := h x (by simp)
      rw [(hN x this).2, (hL x this).2]
  exact this _ fun n hn => (mem_oth.1 hn).2

theorem info_file : (Tryd.prog.info? 88).map (fun i => (i.zero, i.size, i.bytes)) = some (some (.agg #[.int .i64 0, .string ⟨#[]⟩, .string ⟨#[]⟩]), 3, 40) := by kernel_rfl
theorem one_file (n : Nat) (a b : List UInt8) : ∀ u ∈ fileV n a b, u.oneCell' = true := by
  intro u hu
  simp [fileV] at hu
  rcases hu with rfl | rfl | rfl <;> rfl
/-- The cells of a new block that lies behind one more. -/
theorem new_cells2 (w : World) (o : Obj) (t : TypeId) (xs : List Value) : ∀ j u, xs[j]? = some u → ((w.alloc o).alloc (.cells xs.toArray t)).cell? ((⟨w.heap.size + 1, 0, none⟩ : Addr).add j) = some u := by
  have := new_cells (w.alloc o) t xs
  rw [show (w.alloc o).heap.size = w.heap.size + 1 from by simp] at this
  exact this

section
variable {w w' : World} {R : ROwn} {nums : List Nat} {S : St}
structure SetRel (w : World) (nums : List Nat) (S : St) (f : Nat) (ov iv : Value) (wr : World) (i : Nat) : Prop where
  iv : iv = .int .i64 i
  le : i ≤ nums.length
  row : Grow wr w.heap.size 3 ov (oth f (nums.take i)).length ((oth f (nums.take i)).flatMap (fileL S))
  below : Below w.heap.size w wr

theorem SetRel.drewN {f i : Nat} {ov iv : Value} {wr : World} (h : SetRel w nums S f ov iv wr i) (n : Nat) : SetRel w nums S f ov iv (wr.drewN n) i :=
  ⟨h.iv, h.le, h.row.keep (Nat.le_refl _) fun _ _ => rfl, next_below h.below ⟨rfl, rfl, rfl, Nat.le_refl _, fun _ _ => rfl⟩⟩
/-- What set leaves, of the row that it made. -/
theorem set_done (h : RefAt w R nums S) {f : Nat} (hf : f < 16) {N L : Con} (hN : ButF f N S.now) (hL : ButF f L S.last) {w4 : World} {v : Value} {B : Nat} (hB : w.heap.size ≤ B)
    (hr : Grow w4 B 3 v ((oth f nums).length + 1) ((oth f nums).flatMap (fileL S) ++ fileV f (N.all f) (L.all f))) (hb : Below w.heap.size w w4) :
    RPost R { S with now := N, last := L } w (w4.setCell ⟨R.g, 0, none⟩ v) := by
  have hlt := h.lt
  have h4 := h.below hb
  rw [oth_same hN hL, show (oth f nums).length + 1 = (oth f nums ++ [f]).length by simp] at hr
  have hout : ∀ b, v.ownBlock = some b → w.heap.size ≤ b := fun b hb => Nat.le_trans hB (hr.block b hb).1
  refine ⟨⟨{ R with fv := v }, _, h4.put_files (hr.lower (Nat.zero_le _)) (fun b hb e => ?_) (fun b h1 h2 => ?_) (fun b h1 h2 => ?_) (fun n hn => ?_) ?_ (fun g hg => ?_), rfl, rfl, fun b hb => ?_⟩, (Only.of_below hb).same (Only.set _ _ _ _ (.inl rfl))⟩
  · have := hout b hb
    omega
  · have := hout b h1
    have := h.inside b (.inr (.inr (.inl h2)))
    omega
  · have := hout b h1
    have := h.inside b (.inr (.inr (.inr h2)))
    omega
  · rcases List.mem_append.1 hn with h1 | h1
    · exact h.nums_lt n (mem_oth.1 h1).1
    · obtain rfl : n = f := by simpa using h1
      exact hf
  · rw [List.nodup_append]
    refine ⟨h.nodup.filter _, by simp, fun a ha b hb e => ?_⟩
    obtain rfl : b = f := by simpa using hb
    exact (mem_oth.1 ha).2 e
  · have hne : g ≠ f := fun e => hg (by rw [e]; simp)
    have hno : g ∉ nums := fun e => hg (List.mem_append.2 (.inl (mem_oth.2 ⟨e, hne⟩)))
    rw [(hN g hne).1, (hL g hne).1]
    exact h.rest g hno
  · rcases hb with h1 | h1 | h1
    · exact .inl (.inl h1)
    · exact .inr (hout b h1)
    · exact .inl (.inr (.inr h1))

set_option maxRecDepth 8000 in
set_option maxHeartbeats 1000000 in
theorem set_any (h : RefAt w R nums S) {f : Nat} (hf : f < 16) {N L : Con} (hN : ButF f N S.now) (hL : ButF f L S.last) : Calls Tryd.prog 62 #[ptr R.g, .agg (fileI f (N.all f) (L.all f)).toArray] w fun e w' => e = .returned (.tuple #[]) ∧ RPost R { S with now := N, last := L } w w' := by
  have HD := Lib.hid fun (w4 : World) (v : Value) (B : Nat) hB hr hb => set_done h hf hN hL (w4 := w4) (v := v) (B := B) hB hr hb
  have H := Lib.hid h
  have hlen := h.len
  have hfiles := h.files
  have hlt := h.lt
  have hfz := h.free (j := 0) (by omega)
  obtain ⟨A0, c0, e0⟩ := h.frow.slice
  rw [e0] at hfiles
  have E0 := Lib.hid e0
  unfold fileI str
  unfold fileV str at HD
  generalize N.all f = a at *
  generalize L.all f = b at *
  obtain ⟨i0, hi, hz0, hz1, hz2⟩ := info_parts info_file
  have hb1 : Below w.heap.size w (w.alloc (.cells #[.int .i64 f, .string ⟨a.toArray⟩, .string ⟨b.toArray⟩] 88)) := (Below.refl _ w).alloc (Nat.le_refl _) _
  have hs1 : (w.alloc (.cells #[.int .i64 f, .string ⟨a.toArray⟩, .string ⟨b.toArray⟩] 88)).heap.size = w.heap.size + 1 := by simp
  have hbl := Blk.fresh w 88 #[.int .i64 f, .string ⟨a.toArray⟩, .string ⟨b.toArray⟩]
  clear h e0 hN hL
  go_enter Tryd.func62, Tryd.ntmps62
  go_wp2_with fail
  generalize hw1 : w.alloc (.cells #[.int .i64 f, .string ⟨a.toArray⟩, .string ⟨b.toArray⟩] 88) = w1 at *
  go_loopw [4, 5] (fun ov iv wr => ∃ i, SetRel w1 nums S f ov iv wr i) (fun _ iv _ => nums.length - (intOf iv).toNat)
  case atStart => exact ⟨0, rfl, Nat.zero_le _, Grow.nil _ _ _, Below.refl _ _⟩
  case round =>
    obtain ⟨i, ⟨rfl, hi', hrow, hbel⟩⟩ := hrel
    have hsz := hbel.size
    have hfl : wr.cell? ⟨R.g, 0, none⟩ = some (.slice A0 nums.length c0) := ((hb1.trans (hbel.mono hb1.size)).cell (p := ⟨R.g, 0, none⟩) hlt).trans hfiles
    have hx := hbl.under hbel (by omega)
    have hx0 : wr.cell? ⟨w.heap.size, 0, none⟩ = some (.int .i64 f) := by rw [hx.at]; rfl
    have hx1 : wr.cell? ⟨w.heap.size, 1, none⟩ = some (.string ⟨a.toArray⟩) := by rw [hx.at]; rfl
    have hx2 : wr.cell? ⟨w.heap.size, 2, none⟩ = some (.string ⟨b.toArray⟩) := by rw [hx.at]; rfl
    have HB := Lib.hid hbel
    have HR := Lib.hid hrow
    clear hbel hrow hx
    by_cases hil : i < nums.length
    · obtain ⟨g, c, e1, hbg, hbs, _, k0, k1, k2⟩ := H.out.file hil
      have ea : A0 = some ⟨g, 0, none⟩ := by rw [E0.out] at e1; injection e1
      subst ea
      have hbb := hb1.trans (HB.out.mono hb1.size)
      have k0' := (hbb.cell (p := ⟨g, i * 3, none⟩) hbs).trans k0
      have k1' := (hbb.cell (p := ⟨g, i * 3 + 1, none⟩) hbs).trans k1
      have k2' := (hbb.cell (p := ⟨g, i * 3 + 2, none⟩) hbs).trans k2
      clear hbb k0 k1 k2
      by_cases hfe : nums[i] = f
      · have HO := Lib.hid (oth_no hil hfe)
        rw [hfe] at k0'
        clear hfe
        generalize S.now.all nums[i] = a1 at *
        generalize S.last.all nums[i] = a2 at *
        go_wp2_with fail
        go_quiet (fail)
        go_wp2_with fail
        refine ⟨⟨i + 1, ?_⟩, ?_⟩
        · exact SetRel.drewN ⟨by simp, hil, by rw [HO.out]; exact HR.out, HB.out⟩ _
        · simp [intOf]; omega
      · have HO := Lib.hid (oth_yes hil hfe)
        have hfe2 : ((nums[i] : Int) == (f : Int)) = false := beq_eq_false_iff_ne.2 fun e => hfe (by omega)
        have HS := Lib.hid (show ∀ v5 w5, Grow w5 w1.heap.size 3 v5 ((oth f (nums.take i)).length + 1) ((oth f (nums.take i)).flatMap (fileL S) ++ fileL S nums[i]) → Below w1.heap.size w1 w5 → SetRel w1 nums S f v5 (.int .i64 ((i : Int) + 1)) w5 (i + 1) from fun v5 w5 g1 g2 =>
          ⟨by simp, hil, by rw [HO.out, List.length_append, List.flatMap_append, List.flatMap_cons, List.flatMap_nil, List.append_nil]; exact g1, g2⟩)
        have hol := oth_len (f := f) (i := i) (l := nums)
        clear hfe
        unfold fileL at HS
        generalize S.now.all nums[i] = a1 at *
        generalize S.last.all nums[i] = a2 at *
        generalize nums[i] = q at *
        go_wp2_with fail
        go_quiet (fail)
        generalize hwq : wr.drewN _ = wq at *
        have g0 : wq.cell? ⟨R.g, 0, none⟩ = some (.slice (some ⟨g, 0, none⟩) nums.length c0) := by rw [← hwq]; exact hfl
        have g1 : wq.cell? ⟨g, i * 3, none⟩ = some (.int .i64 q) := by rw [← hwq]; exact k0'
        have g2 : wq.cell? ⟨g, i * 3 + 1, none⟩ = some (.string ⟨a1.toArray⟩) := by rw [← hwq]; exact k1'
        have g3 : wq.cell? ⟨g, i * 3 + 2, none⟩ = some (.string ⟨a2.toArray⟩) := by rw [← hwq]; exact k2'
        have HRQ := Lib.hid (HR.out.keep (w' := wq) (by rw [← hwq]; exact Nat.le_refl _) (fun _ _ => by rw [← hwq]; rfl))
        have HBQ : Hid (Below w1.heap.size w1 wq) := Lib.hid (by rw [← hwq]; exact next_below HB.out ⟨rfl, rfl, rfl, Nat.le_refl _, fun _ _ => rfl⟩)
        have hsq : w1.heap.size ≤ wq.heap.size := HBQ.out.size
        clear HR HB hfl hx0 hx1 hx2 k0' k1' k2' hwq
        go_wp2_with (at_builtin; refine wpList_append_src _ rfl (.tmp 26) (.tmp 34) _ _ rfl w1.heap.size 88 i0 _ 3 40 Tryd.underlying69 hi hz0 hz1 hz2 rfl (by omega) _ _ _ rfl (HRQ.out.alloc _) _ 1 (fileV q a1 a2) rfl (Src.ofSlice _ (size := 3) Tryd.underlying69 ⟨wq.heap.size, 0, none⟩ 1 1 (fileV q a1 a2) rfl (new_cells wq _ (fileV q a1 a2)) (one_file _ _ _)) (small_max (by omega)) (by omega) (Nat.le_trans hsq (by simp)) ?_; intro v5 w5 hown5 hg5 _)
        have HS2 := Lib.hid (HS.out v5 w5 hown5 ((HBQ.out.alloc hsq _).grown hg5 (Nat.le_trans hsq (by simp)) fun k hk => (HRQ.out.block k hk).1))
        go_roundw
        case rel => exact ⟨i + 1, HS2.out⟩
        case measure => simp [intOf]; omega
    · obtain rfl : nums.length = i := by omega
      rw [List.take_length] at HR
      have hol := Nat.le_trans (List.length_filter_le (fun n => !(n == f)) nums) hlen
      change (oth f nums).length ≤ 16 at hol
      have hgf : R.g < wr.heap.size := by omega
      go_wp2_with (at_builtin; refine wpList_append_src _ rfl (.tmp 37) (.tmp 39) _ _ rfl w1.heap.size 88 i0 _ 3 40 Tryd.underlying69 hi hz0 hz1 hz2 rfl (by omega) _ _ _ rfl (HR.out.alloc _) _ 1 (fileV f a b) rfl (Src.ofSlice _ (size := 3) Tryd.underlying69 ⟨wr.heap.size, 0, none⟩ 1 1 (fileV f a b) rfl (new_cells wr _ (fileV f a b)) (one_file _ _ _)) (small_max (by omega)) (by omega) (Nat.le_trans hsz (by simp)) ?_; intro v5 w5 hown5 hg5 _; have hb5 := (HB.out.alloc hsz _).grown hg5 (Nat.le_trans hsz (by simp)) fun k hk => (HR.out.block k hk).1; have hb6 := hb1.trans (hb5.mono hb1.size); have hc5 := (hb6.cell (p := ⟨R.g, 0, none⟩) hlt).trans hfiles; have hz5 : w5.frozen? ⟨R.g, 0, none⟩ = false := (World.frozen?_of_block (a := ⟨R.g, 0, none⟩) (hb6.block R.g hlt)).trans hfz; have HP := Lib.hid (HD.out w5 v5 w1.heap.size hb1.size hown5 hb6); clear hb5 hb6; obtain ⟨A5, c5, rfl⟩ := hown5.slice)
      go_returns
      exact ⟨rfl, HP.out⟩
end
end Dsk
end Go.Proofs.YtlokgmpdighfaaaDoor

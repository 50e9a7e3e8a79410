/- Blocks of memory; rows that grow; words that the walks share. -/
import Derived.WalkKit
import Derived.WalkSpells
import Derived.Lib.Hide
import Derived.Deep.AppendSrc
import Derived.OwnWalk
import Derived.Test.YtgophgnfiboefaaGreatDoorRows
import Derived.WalkLawsBesides
import Derived.Handy
import Derived.IntWalk
import Derived.Deep.RegionHeld3
import Derived.Deep.AppendLies
import Derived.StillTailTactics
import Derived.Deep.QuietTactic
import Derived.BigQuiet
import Derived.Deep.RegionWith
import Derived.Laws.CopyOwn
import Derived.Deep.LoopGhost
/-! Words for memory: a block known whole; what a call may have written. Nothing of the program is imported. -/
namespace Go.Proofs.YtgophgnfiboefaaGreatDoor
open Go.RowKit
namespace Wire

/-- Block g is just these cells, none of them frozen. -/
def Blk (w : World) (g : Nat) (t : TypeId) (cs : Array Value) : Prop := w.heap[g]? = some (.cells cs t (0, 0))

section
variable {w w' : World} {g : Nat} {t : TypeId} {cs : Array Value}
theorem Blk.inside (h : Blk w g t cs) : g < w.heap.size := by
  apply Classical.byContradiction
  intro hn
  unfold Blk at h
  rw [Array.getElem?_eq_none (by omega)] at h
  cases h
theorem Blk.at (h : Blk w g t cs) (i : Nat) : w.cell? ⟨g, i, none⟩ = cs[i]? := cell_of_row w g i cs t (0, 0) h
theorem Blk.thaw (h : Blk w g t cs) (i : Nat) : w.frozen? ⟨g, i, none⟩ = false := by
  unfold Blk at h
  simp [World.frozen?, h]
theorem Blk.fresh (w : World) (t : TypeId) (cs : Array Value) : Blk (w.alloc (.cells cs t)) w.heap.size t cs := Go.heap_alloc_new w _
theorem Blk.kept (h : Blk w g t cs) (o : Obj) : Blk (w.alloc o) g t cs := (Below.heap_alloc w o g h.inside).trans h
theorem Blk.put (h : Blk w g t cs) (i : Nat) (u : Value) : Blk (w.setCell ⟨g, i, none⟩ u) g t (cs.setIfInBounds i u) := by
  unfold Blk at h ⊢
  simp [World.setCell, Array.getElem?_modify, h]
theorem Blk.aside (h : Blk w g t cs) {p : Addr} (hp : g ≠ p.block) (u : Value) : Blk (w.setCell p u) g t cs := (Below.heap_setCell w p u g hp).trans h
theorem Blk.under {B : Nat} (h : Blk w g t cs) (hb : Below B w w') (hg : g < B) : Blk w' g t cs := (hb.block g hg).trans h
theorem Blk.past {row : Option Nat} (h : Blk w g t cs) (hb : w.grownBy w' row) (hg : some g ≠ row) : Blk w' g t cs := (hb.block g h.inside hg).trans h
end

/-- Nothing that was there is written. -/
theorem below_none {w w' : World} (h : Below w.heap.size w w') (row : Option Nat) : w.grownBy w' row :=
  ⟨h.os, h.tape, h.output, h.size, fun k hk _ => h.block k hk⟩
theorem grown_trans {a b c : World} {row : Option Nat} (h : a.grownBy b row) (k : b.grownBy c row) : a.grownBy c row :=
  ⟨k.os.trans h.os, k.tape.trans h.tape, k.output.trans h.output, Nat.le_trans h.size k.size,
    fun i hi hr => (k.block i (Nat.lt_of_lt_of_le hi h.size) hr).trans (h.block i hi hr)⟩
theorem grown_below {w w' : World} {g B : Nat} (h : w.grownBy w' (some g)) (hg : B ≤ g) (hB : B ≤ w.heap.size) : Below B w w' :=
  ⟨h.os, h.tape, h.output, h.size, fun k hk => h.block k (by omega) (fun e => by injection e; omega)⟩
theorem grown_set (w : World) (g i : Nat) (u : Value) : w.grownBy (w.setCell ⟨g, i, none⟩ u) (some g) :=
  ⟨rfl, rfl, rfl, by simp [World.setCell], fun k _ hr => Below.heap_setCell _ _ _ _ (fun e => hr (congrArg some e))⟩

theorem next_below {a b c : World} (h : Below a.heap.size a b) (k : Below b.heap.size b c) : Below a.heap.size a c := h.trans (k.mono h.size)

end Wire
end Go.Proofs.YtgophgnfiboefaaGreatDoor

/-! Plain facts on decimal digits; nothing of the program is imported. -/
namespace Go.Proofs.YtgophgnfiboefaaGreatDoor
namespace Wire

/-- The byte of a digit. -/
def dig (n : Nat) : UInt8 := UInt8.ofNat (48 + n)

def decF : Nat → Nat → List UInt8
  | 0, n => [dig (n % 10)]
  | k + 1, n => if n < 10 then [dig n] else decF k (n / 10) ++ [dig (n % 10)]

/-- The decimal digits of a number below 10^20. -/
def dec (n : Nat) : List UInt8 := decF 20 n

theorem decF_lt (k n : Nat) (h : n < 10) : decF (k + 1) n = [dig n] := by rw [decF, if_pos h]
theorem decF_ge (k n : Nat) (h : 10 ≤ n) : decF (k + 1) n = decF k (n / 10) ++ [dig (n % 10)] := by rw [decF, if_neg (by omega)]

theorem decF_succ (k n : Nat) (h : n < 10 ^ (k + 1)) : decF (k + 1) n = decF k n := by
  induction k generalizing n with
  | zero =>
    have h1 : n < 10 := by simpa using h
    rw [decF_lt _ _ h1, decF, Nat.mod_eq_of_lt h1]
  | succ k ih =>
    by_cases hn : n < 10
    · rw [decF_lt _ _ hn, decF_lt _ _ hn]
    · rw [decF_ge (k + 1) n (by omega), decF_ge k n (by omega), ih (n / 10) (by rw [Nat.pow_succ] at h; omega)]

theorem dec_small {n : Nat} (h : n < 10) : dec n = [dig n] := by
  unfold dec decF
  rw [if_pos h]

theorem dec_big {n : Nat} (h : 10 ≤ n) (hb : n < 10 ^ 20) : dec n = dec (n / 10) ++ [dig (n % 10)] := by
  have e : dec n = decF 19 (n / 10) ++ [dig (n % 10)] := by
    unfold dec
    rw [decF, if_neg (by omega)]
  rw [e]
  unfold dec
  rw [decF_succ 19 (n / 10) (by omega)]

theorem decF_len (k n : Nat) : (decF k n).length ≤ k + 1 := by
  induction k generalizing n with
  | zero => simp [decF]
  | succ k ih =>
    by_cases h : n < 10
    · rw [decF_lt _ _ h]; simp
    · rw [decF_ge _ _ (by omega)]
      have := ih (n / 10)
      simp
      omega
theorem decF_pos (k n : Nat) : 1 ≤ (decF k n).length := by
  cases k with
  | zero => simp [decF]
  | succ k =>
    by_cases h : n < 10
    · rw [decF_lt _ _ h]; simp
    · rw [decF_ge _ _ (by omega)]; simp
theorem dec_len (n : Nat) : (dec n).length ≤ 21 := decF_len 20 n
theorem dec_pos (n : Nat) : 1 ≤ (dec n).length := decF_pos 20 n

theorem cat_bytes (a b : List UInt8) : (⟨a.toArray⟩ : ByteArray) ++ ⟨b.toArray⟩ = ⟨(a ++ b).toArray⟩ := by
  rw [ByteArray.mk_append_mk]

theorem bytes_extract (l : List UInt8) (a b : Nat) : (⟨l.toArray⟩ : ByteArray).extract a b = ⟨((l.take b).drop a).toArray⟩ := by
  apply ByteArray.ext
  rw [ByteArray.data_extract]
  simp
  rw [List.take_drop]
  by_cases h : a ≤ b
  · rw [show a + (b - a) = b from by omega]
  · rw [show a + (b - a) = a from by omega, List.drop_eq_nil_of_le (by simp; omega), List.drop_eq_nil_of_le (by simp; omega)]

end Wire
end Go.Proofs.YtgophgnfiboefaaGreatDoor

/-! A row of the call's own that grows by append, whatever is appended, and whatever mark its block bears. Nothing of the program is imported. -/
namespace Go.Proofs.YtgophgnfiboefaaGreatDoor
open Go.RowKit
set_option linter.unusedVariables false
set_option linter.unusedSimpArgs false
namespace Wire

theorem small_max {n : Nat} (h : n ≤ 281474976710656) : n ≤ maxLen := by
  unfold maxLen
  omega

/-- v is nil (no elements), or a slice from the head of a block from B on, whose cells are there and can be written up to the capacity; the first n elements (of 'size' cells) are xs. -/
structure Grow (w : World) (B size : Nat) (v : Value) (n : Nat) (xs : List Value) : Prop where
  len : xs.length = n * size
  form : (v = .slice none 0 0 ∧ n = 0) ∨ ∃ g cap, v = .slice (some ⟨g, 0, none⟩) n cap ∧ B ≤ g ∧ g < w.heap.size ∧ n ≤ cap ∧ cap ≤ maxLen ∧
    (∀ j, j < cap * size → (w.cell? ⟨g, j, none⟩).isSome = true) ∧ (∀ j, j < cap * size → w.frozen? ⟨g, j, none⟩ = false) ∧ ∀ j u, xs[j]? = some u → w.cell? ⟨g, j, none⟩ = some u

section
variable {w w' : World} {B size n : Nat} {v : Value} {xs : List Value}
theorem Grow.nil (w : World) (B size : Nat) : Grow w B size (.slice none 0 0) 0 [] := ⟨by simp, .inl ⟨rfl, rfl⟩⟩

theorem Grow.block (h : Grow w B size v n xs) : ∀ g, v.ownBlock = some g → B ≤ g ∧ g < w.heap.size := by
  intro g hg
  rcases h.form with ⟨rfl, _⟩ | ⟨g', cap, rfl, h1, h2, _⟩
  · cases hg
  · obtain rfl : g' = g := by simpa [Value.ownBlock] using hg
    exact ⟨h1, h2⟩

theorem Grow.keep (h : Grow w B size v n xs) (hs : w.heap.size ≤ w'.heap.size) (hk : ∀ g, v.ownBlock = some g → w'.heap[g]? = w.heap[g]?) : Grow w' B size v n xs := by
  refine ⟨h.len, ?_⟩
  rcases h.form with h0 | ⟨g, cap, rfl, h1, h2, h3, h4, h5, h6, h7⟩
  · exact .inl h0
  · have hb := hk g rfl
    have hc : ∀ j, w'.cell? ⟨g, j, none⟩ = w.cell? ⟨g, j, none⟩ := fun j => World.cell?_of_block (a := ⟨g, j, none⟩) hb
    have hf : ∀ j, w'.frozen? ⟨g, j, none⟩ = w.frozen? ⟨g, j, none⟩ := fun j => World.frozen?_of_block (a := ⟨g, j, none⟩) hb
    exact .inr ⟨g, cap, rfl, h1, by omega, h3, h4, fun j hj => by rw [hc]; exact h5 j hj, fun j hj => by rw [hf]; exact h6 j hj, fun j u hu => by rw [hc]; exact h7 j u hu⟩

theorem Grow.grown {row : Option Nat} (h : Grow w B size v n xs) (hg : w.grownBy w' row) (hne : v.ownBlock = none ∨ v.ownBlock ≠ row) : Grow w' B size v n xs :=
  h.keep hg.size fun g hv => hg.block g (h.block g hv).2 (fun e => by rcases hne with hn | hn <;> rw [hv] at hn; cases hn; exact hn e)

theorem Grow.below (h : Grow w B size v n xs) (hb : Below w.heap.size w w') : Grow w' B size v n xs :=
  h.keep hb.size fun g hv => hb.block g (h.block g hv).2

theorem Grow.lower {B' : Nat} (h : Grow w B size v n xs) (hB : B' ≤ B) : Grow w B' size v n xs := by
  refine ⟨h.len, ?_⟩
  rcases h.form with h0 | ⟨g, cap, e, h1, h2⟩
  · exact .inl h0
  · exact .inr ⟨g, cap, e, by omega, h2⟩

theorem Grow.alloc (h : Grow w B size v n xs) (o : Obj) : Grow (w.alloc o) B size v n xs :=
  h.below ((Below.refl _ _).alloc (Nat.le_refl _) _)

theorem Grow.slice (h : Grow w B size v n xs) : ∃ A c, v = .slice A n c := by
  rcases h.form with ⟨rfl, rfl⟩ | ⟨g, cap, rfl, _⟩
  · exact ⟨_, _, rfl⟩
  · exact ⟨_, _, rfl⟩
end

theorem size_setCells_own (b : Nat) : ∀ (vs : List Value) (o : Nat) (w : World), (w.setCells b o vs).heap.size = w.heap.size
  | [], _, _ => rfl
  | v :: r, o, w => by
    show ((w.setCell _ v).setCells b (o + 1) r).heap.size = _
    rw [size_setCells_own b r]
    simp [World.setCell]

theorem grown_setCells (b : Nat) : ∀ (vs : List Value) (o : Nat) (w : World), w.grownBy (w.setCells b o vs) (some b)
  | [], _, w => ⟨rfl, rfl, rfl, Nat.le_refl _, fun _ _ _ => rfl⟩
  | v :: r, o, w => grown_trans (grown_set w b o v) (grown_setCells b r (o + 1) (w.setCell ⟨b, o, none⟩ v))

section
variable {P : Program} (w : World)

theorem run_append_src (B : Nat) (t tx ty e : TypeId) (i : TypeInfo) (z : Value) (size bytes : Nat) (ht : P.underlying t = some (.slice e)) (hi : P.info? e = some i) (hz : i.zero = some z)
    (hsize : i.size = size) (hby : i.bytes = bytes) (hzs : z.cells.size = size) (hsz : 0 < size)
    (v : Value) (n : Nat) (xs : List Value) (hown : Grow w B size v n xs) (x : Value) (m : Nat) (news : List Value) (hs : Src P size tx x m news w)
    (h63 : n + m ≤ maxLen) (hbytes : (n + m) * bytes ≤ 140737488355328) (hB : B ≤ w.heap.size) :
    ∃ v' w', (Builtin.append_ #[t, tx] ty #[v, x]).run P w = .ok v' w' ∧ Grow w' B size v' (n + m) (xs ++ news) ∧ w.grownBy w' v.ownBlock ∧ (v'.ownBlock = v.ownBlock ∨ v'.ownBlock = some w.heap.size) := by
  subst hsize
  subst hby
  have hlen : (xs ++ news).length = (n + m) * i.size := by rw [List.length_append, hown.len, hs.newsLen, Nat.add_mul]
  have hm63 : ((n + m : Nat) : Int) ≤ 9223372036854775807 := by simp only [maxLen] at h63; omega
  have grow : ∀ (old : Nat), old < n + m → ∀ row, Grow (w.drew.alloc (.cells ((xs ++ news).toArray ++ Builtin.zeroCells z.cells (grownCap w (n + m) old e - (n + m))) e)) B i.size (.slice (some ⟨w.heap.size, 0, none⟩) (n + m) (grownCap w (n + m) old e)) (n + m) (xs ++ news) ∧
      w.grownBy (w.drew.alloc (.cells ((xs ++ news).toArray ++ Builtin.zeroCells z.cells (grownCap w (n + m) old e - (n + m))) e)) row := by
    intro old ho row
    have hge := grownCap_ge w (n + m) old e
    have hb : Blk _ w.heap.size e _ := Blk.fresh w.drew e ((xs ++ news).toArray ++ Builtin.zeroCells z.cells (grownCap w (n + m) old e - (n + m)))
    have hsz2 : ((xs ++ news).toArray ++ Builtin.zeroCells z.cells (grownCap w (n + m) old e - (n + m))).size = grownCap w (n + m) old e * i.size := by
      rw [Array.size_append, List.size_toArray, size_zeroCells, hlen, hzs, ← Nat.add_mul]
      congr 1
      omega
    refine ⟨⟨hlen, .inr ⟨w.heap.size, _, rfl, hB, by simp, hge, grownCap_le_maxLen w (n + m) old e h63, fun j hj => ?_, fun j _ => hb.thaw j, fun j u hu => ?_⟩⟩, ⟨rfl, rfl, rfl, by simp, fun k hk _ => Go.heap_alloc_old w.drew _ hk⟩⟩
    · rw [hb.at, Array.getElem?_eq_getElem (by rw [hsz2]; exact hj)]
      rfl
    · have hj : j < (xs ++ news).length := (List.getElem?_eq_some_iff.1 hu).1
      rw [hb.at, Array.getElem?_append_left (by simpa using hj), List.getElem?_toArray]
      exact hu
  rcases hown.form with ⟨rfl, rfl⟩ | ⟨g, cap, rfl, h1, h2, h3, h4, h5, h6, h7⟩
  · have hx : xs = [] := List.eq_nil_of_length_eq_zero (by simpa using hown.len)
    subst hx
    by_cases hm : m = 0
    · subst hm
      have hn : news = [] := List.eq_nil_of_length_eq_zero (by simpa using hs.newsLen)
      subst hn
      refine ⟨.slice none 0 0, w, ?_, Grow.nil w B i.size, ⟨rfl, rfl, rfl, Nat.le_refl _, fun _ _ _ => rfl⟩, .inl rfl⟩
      rcases hs.kind with ⟨e', hk⟩ | hk <;> simp [Builtin.append_, run_underlying ht, run_underlying hk, sizeOf, typeInfo, hi, hs.len, hs.cells, storeCells]
    · have hr := run_append_grow_src (P := P) w t tx ty e i z ht hi hz none 0 0 [] (run_firstCells_none w.drew i.size 0 0 0) x m news hs (by omega) (by simpa using hm63) (growslice_fits (by omega) hbytes)
      have hgr := grow 0 (by omega) (Value.ownBlock (.slice none 0 0))
      exact ⟨_, _, hr, hgr.1, hgr.2, .inr rfl⟩
  · by_cases hroom : n + m ≤ cap
    · have hcap : n * i.size + news.length ≤ cap * i.size := by rw [hs.newsLen, ← Nat.add_mul]; exact Nat.mul_le_mul_right _ hroom
      have hr := run_append_room_src (P := P) w t tx ty e i ht hi g 0 n cap x m news hs hroom (fun j hj => by simp only [Nat.zero_add]; exact h5 _ (by omega)) (fun j hj => by simp only [Nat.zero_add]; exact h6 _ (by omega))
      simp only [Nat.zero_add] at hr
      have hin := World.cell?_setCells_in g news (n * i.size) w (fun j hj => h5 _ (by omega))
      have hout := World.cell?_setCells_out g news (n * i.size) w
      refine ⟨_, _, hr, ⟨hlen, .inr ⟨g, cap, rfl, h1, by rw [size_setCells_own]; exact h2, hroom, h4, ?_, ?_, ?_⟩⟩, grown_setCells g news _ w, .inl rfl⟩
      · intro j hj
        by_cases hj2 : n * i.size ≤ j ∧ j < n * i.size + news.length
        · obtain ⟨d, rfl⟩ : ∃ d, j = n * i.size + d := ⟨j - n * i.size, by omega⟩
          rw [hin d (by omega)]
          rfl
        · rw [hout ⟨g, j, none⟩ (fun _ _ => by show j < _ ∨ _ ≤ j; omega)]
          exact h5 j hj
      · intro j hj
        rw [World.frozen?_setCells]
        exact h6 j hj
      · intro j u hu
        by_cases hj2 : j < n * i.size
        · rw [List.getElem?_append_left (by rw [hown.len]; exact hj2)] at hu
          rw [hout ⟨g, j, none⟩ (fun _ _ => Or.inl hj2)]
          exact h7 j u hu
        · rw [List.getElem?_append_right (by rw [hown.len]; omega), hown.len] at hu
          obtain ⟨d, rfl⟩ : ∃ d, j = n * i.size + d := ⟨j - n * i.size, by omega⟩
          rw [Nat.add_sub_cancel_left] at hu
          obtain ⟨hd, hd2⟩ := List.getElem?_eq_some_iff.1 hu
          rw [hin d hd, hd2]
    · have holds : (Builtin.firstCells i.size n (.slice (some ⟨g, 0, none⟩) n cap)).run P w.drew = .ok xs.toArray w.drew :=
        run_firstCells_some w.drew i.size n ⟨g, 0, none⟩ n cap xs hown.len (fun j u hu => by
          have := h7 j u hu
          rw [show (⟨g, 0, none⟩ : Addr).add j = ⟨g, j, none⟩ from by unfold Addr.add; split <;> simp_all]
          simpa using this)
      have hr := run_append_grow_src (P := P) w t tx ty e i z ht hi hz (some ⟨g, 0, none⟩) n cap xs holds x m news hs (by omega) hm63 (growslice_fits (by omega) hbytes)
      have hgr := grow cap (by omega) (Value.ownBlock (.slice (some ⟨g, 0, none⟩) n cap))
      exact ⟨_, _, hr, hgr.1, hgr.2, .inr rfl⟩

theorem wpList_append_src {ops : Array Oper} {rest : List Oper} {o : Oper} {a : Act} {Q : Exit → Act → World → Prop} (hgd : o.guard = none) (s xo : Operand) (t tx : TypeId)
    (ho : o.op = .call { callee := .builtin .append, args := #[s, xo], argTypes := #[t, tx] })
    (B : Nat) (e : TypeId) (i : TypeInfo) (z : Value) (size bytes : Nat) (ht : P.underlying t = some (.slice e)) (hi : P.info? e = some i) (hz : i.zero = some z)
    (hsize : i.size = size) (hby : i.bytes = bytes) (hzs : z.cells.size = size) (hsz : 0 < size)
    (v : Value) (n : Nat) (xs : List Value) (hsv : a.eval s = v) (hown : Grow w B size v n xs) (x : Value) (m : Nat) (news : List Value) (hxv : a.eval xo = x) (hs : Src P size tx x m news w)
    (h63 : n + m ≤ maxLen) (hbytes : (n + m) * bytes ≤ 140737488355328) (hB : B ≤ w.heap.size)
    (h : ∀ v' w', Grow w' B size v' (n + m) (xs ++ news) → w.grownBy w' v.ownBlock → (v'.ownBlock = v.ownBlock ∨ v'.ownBlock = some w.heap.size) → wpList P ops Q rest (a.put o.dst v') w') : wpList P ops Q (o :: rest) a w :=
  wpList_plain hgd fun K hK => by
    obtain ⟨v', w', hr, h2, h3, h4⟩ := run_append_src (P := P) w B t tx o.type e i z size bytes ht hi hz hsize hby hzs hsz v n xs hown x m news hs h63 hbytes hB
    unfold Oper.wp execOp
    simp only [ho, resolve, invoke, builtin, Sem.run_bind, Sem.run_pure, Result.andThen_ok, List.map_toArray, List.map_cons, List.map_nil, hsv, hxv, hr]
    exact hK _ _ (h v' w' h2 h3 h4)

/-- '[]byte(s)': a row of the call's own, which may grow. -/
theorem run_bytes_own (src dst e : TypeId) (s : ByteArray) (hs : P.underlying src = some .string) (hd : P.underlying dst = some (.slice e)) (he : P.underlying e = some (.int .u8)) (hm : s.size ≤ maxLen) :
    ∃ v' w', (convert src dst (.string s)).run P w = .ok v' w' ∧ Grow w' w.heap.size 1 v' s.size (byteCells s) ∧ Below w.heap.size w w' ∧ v'.ownBlock = some w.heap.size := by
  refine ⟨_, _, run_bytes_of_string w src dst e s hs hd he, ⟨by rw [byteCells_length, Nat.mul_one], .inr ⟨w.heap.size, _, rfl, Nat.le_refl _, by simp, grownCap_ge w s.size 0 e, grownCap_le_maxLen w s.size 0 e hm, ?_, ?_, ?_⟩⟩, ⟨rfl, rfl, rfl, by simp, fun k hk => Go.heap_alloc_old w.drew _ hk⟩, rfl⟩
  all_goals
    have hge := grownCap_ge w s.size 0 e
    have hsz : (bytesRow s (grownCap w s.size 0 e)).size = grownCap w s.size 0 e := by
      unfold bytesRow
      rw [Array.size_append, Array.size_map, Array.size_replicate]
      show s.size + _ = _
      omega
  · intro j hj
    rw [show (⟨w.heap.size, j, none⟩ : Addr) = ⟨w.drew.heap.size, j, none⟩ from rfl, World.cell?_alloc_mark, Array.getElem?_eq_getElem (by omega)]
    rfl
  · intro j hj
    rw [show (⟨w.heap.size, j, none⟩ : Addr) = ⟨w.drew.heap.size, j, none⟩ from rfl, World.frozen?_alloc_mark]
    simp
    omega
  · intro j u hu
    have hj : j < s.size := by
      have := (List.getElem?_eq_some_iff.1 hu).1
      rwa [byteCells_length] at this
    rw [show (⟨w.heap.size, j, none⟩ : Addr) = ⟨w.drew.heap.size, j, none⟩ from rfl, World.cell?_alloc_mark]
    unfold bytesRow
    rw [Array.getElem?_append_left (by rw [Array.size_map]; exact hj)]
    unfold byteCells at hu
    rw [List.getElem?_map, Array.getElem?_toList] at hu
    rw [Array.getElem?_map]
    exact hu

theorem wpList_bytes_own {ops : Array Oper} {rest : List Oper} {o : Oper} {a : Act} {Q : Exit → Act → World → Prop} (hgd : o.guard = none) (x : Operand) (src dst : TypeId)
    (ho : o.op = .convert src dst x) (e : TypeId) (s : ByteArray) (hxv : a.eval x = .string s) (hs : P.underlying src = some .string) (hd : P.underlying dst = some (.slice e)) (he : P.underlying e = some (.int .u8)) (hm : s.size ≤ maxLen)
    (h : ∀ v' w', Grow w' w.heap.size 1 v' s.size (byteCells s) → Below w.heap.size w w' → v'.ownBlock = some w.heap.size → wpList P ops Q rest (a.put o.dst v') w') : wpList P ops Q (o :: rest) a w :=
  wpList_plain hgd fun K hK => by
    obtain ⟨v', w', hr, h2, h3, h4⟩ := run_bytes_own (P := P) w src dst e s hs hd he hm
    unfold Oper.wp execOp
    simp only [ho, Sem.run_bind, Sem.run_pure, Result.andThen_ok, hxv, hr]
    exact hK _ _ (h v' w' h2 h3 h4)

/-- 'string(b)' of a row of the call's own. -/
theorem run_string_own (src dst e : TypeId) (B : Nat) (v : Value) (l : List UInt8) (hown : Grow w B 1 v l.length (byteCells ⟨l.toArray⟩)) (hs : P.underlying src = some (.slice e)) (he : P.underlying e = some (.int .u8)) (hd : P.underlying dst = some .string) :
    (convert src dst v).run P w = .ok (.string ⟨l.toArray⟩) w := by
  rcases hown.form with ⟨rfl, h0⟩ | ⟨g, cap, rfl, _, _, _, _, _, _, h7⟩
  · have hl : l = [] := List.eq_nil_of_length_eq_zero h0
    subst hl
    rw [run_convert_bytes_string w src dst e none 0 0 hs he hd]
    rfl
  · refine run_convert_bytes_back w src dst e ⟨g, 0, none⟩ cap l hs he hd fun j hj => ?_
    rw [show (⟨g, 0, none⟩ : Addr).add j = ⟨g, j, none⟩ from by unfold Addr.add; split <;> simp_all]
    refine h7 j _ ?_
    unfold byteCells
    rw [List.getElem?_map]
    simp [List.getElem?_eq_getElem hj]
end
end Wire
end Go.Proofs.YtgophgnfiboefaaGreatDoor

/-! Words that the walks of layer 3 share. -/
namespace Go.Proofs.YtgophgnfiboefaaGreatDoor
open Go.RowKit Wire
set_option linter.unusedVariables false
set_option linter.unusedSimpArgs false
namespace Wire
theorem row_add' (g k j : Nat) : (⟨g, k, none⟩ : Addr).add j = ⟨g, k + j, none⟩ := by
  unfold Addr.add
  split <;> simp_all
theorem Grow.drew {w : World} {B size n : Nat} {v : Value} {xs : List Value} (h : Grow w B size v n xs) : Grow w.drew B size v n xs := h.keep (Nat.le_refl _) fun _ _ => rfl

section
variable {P : Program} (w : World)
/-- The law of an append inside a region that draws its order. -/
theorem step_append_src {ops : Array Oper} {o : Oper} {a : Act} {K : Act → World → Prop} {Q : Exit → Act → World → Prop} {E : Prop} (hgd : o.guard = none) (s xo : Operand) (t tx : TypeId)
    (ho : o.op = .call { callee := .builtin .append, args := #[s, xo], argTypes := #[t, tx] })
    (B : Nat) (e : TypeId) (i : TypeInfo) (z : Value) (size bytes : Nat) (ht : P.underlying t = some (.slice e)) (hi : P.info? e = some i) (hz : i.zero = some z)
    (hsize : i.size = size) (hby : i.bytes = bytes) (hzs : z.cells.size = size) (hsz : 0 < size)
    (v : Value) (n : Nat) (xs : List Value) (hsv : a.eval s = v) (hown : Grow w B size v n xs) (x : Value) (m : Nat) (news : List Value) (hxv : a.eval xo = x) (hs : Src P size tx x m news w)
    (h63 : n + m ≤ maxLen) (hbytes : (n + m) * bytes ≤ 140737488355328) (hB : B ≤ w.heap.size)
    (h : ∀ v' w', Grow w' B size v' (n + m) (xs ++ news) → w.grownBy w' v.ownBlock → (v'.ownBlock = v.ownBlock ∨ v'.ownBlock = some w.heap.size) → K (a.put o.dst v') w') :
    if Region.wanted o (yielded ops a.tmps) = true then Oper.wp P o a w K Q else E := by
  have hw : Region.wanted o (yielded ops a.tmps) = true := by simp [Region.wanted, hgd]
  rw [if_pos hw]
  obtain ⟨v', w', hr, h2, h3, h4⟩ := run_append_src (P := P) w B t tx o.type e i z size bytes ht hi hz hsize hby hzs hsz v n xs hown x m news hs h63 hbytes hB
  unfold Oper.wp execOp
  simp only [ho, resolve, invoke, builtin, Sem.run_bind, Sem.run_pure, Result.andThen_ok, List.map_toArray, List.map_cons, List.map_nil, hsv, hxv, hr]
  exact h v' w' h2 h3 h4
end

/-- The cells of a new block, one by one. -/
theorem new_cells (w : World) (t : TypeId) (xs : List Value) : ∀ j u, xs[j]? = some u → (w.alloc (.cells xs.toArray t)).cell? ((⟨w.heap.size, 0, none⟩ : Addr).add j) = some u := by
  intro j u hu
  rw [row_add', (Blk.fresh w _ _).at, Nat.zero_add, List.getElem?_toArray]
  exact hu

/-- A slice literal is a row that can grow. -/
theorem Grow.fresh (w : World) (t : TypeId) (xs : List Value) (hm : xs.length ≤ 281474976710656) : Grow (w.alloc (.cells xs.toArray t)) w.heap.size 1 (.slice (some ⟨w.heap.size, 0, none⟩) xs.length xs.length) xs.length xs := by
  have hb := Blk.fresh w t xs.toArray
  refine ⟨by simp, .inr ⟨w.heap.size, xs.length, rfl, Nat.le_refl _, by simp, Nat.le_refl _, small_max hm, fun j hj => ?_, fun j _ => hb.thaw j, fun j u hu => ?_⟩⟩
  · rw [hb.at, List.getElem?_toArray, List.getElem?_eq_getElem (by omega)]
    rfl
  · rw [hb.at, List.getElem?_toArray]
    exact hu

end Wire
namespace Txt

/-- A string of these bytes. -/
abbrev str (l : List UInt8) : Value := .string ⟨l.toArray⟩
/-- The bytes of a string. -/
abbrev bl (s : ByteArray) : List UInt8 := s.data.toList

theorem bl_len (s : ByteArray) : (bl s).length = s.size := by rw [Array.length_toList]; rfl
theorem str_bl (s : ByteArray) : str (bl s) = .string s := rfl
theorem bl_mk (l : List UInt8) : bl ⟨l.toArray⟩ = l := rfl
theorem bl_inj {s t : ByteArray} (h : bl s = bl t) : s = t := by
  obtain ⟨⟨a⟩⟩ := s
  obtain ⟨⟨b⟩⟩ := t
  cases h
  rfl

theorem drop_at {s : ByteArray} {i : Nat} (h : i < s.size) : (bl s).drop i = s[i] :: (bl s).drop (i + 1) := by
  have h' : i < s.data.toList.length := by rw [Array.length_toList]; exact h
  rw [List.drop_eq_getElem_cons h', Array.getElem_toList]
  rfl
theorem take_at {s : ByteArray} {i : Nat} (h : i < s.size) : (bl s).take (i + 1) = (bl s).take i ++ [s[i]] := by
  rw [List.take_succ_eq_append_getElem (by simpa using h)]
  rfl
theorem bl_get {s : ByteArray} {i : Nat} (h : i < s.size) : (bl s)[i]? = some s[i] := by
  have h' : i < s.data.toList.length := by rw [Array.length_toList]; exact h
  rw [List.getElem?_eq_getElem h', Array.getElem_toList]
  rfl
theorem drop_end {s : ByteArray} {i : Nat} (h : s.size ≤ i) : (bl s).drop i = [] := List.drop_eq_nil_of_le (by rw [bl_len]; exact h)

/-- A slice value of xs.length cells reads as xs, below block B. -/
def Row (w : World) (B : Nat) (A : Option Addr) (xs : List Value) : Prop := ∀ k u, xs[k]? = some u → ∃ b o, A = some ⟨b, o, none⟩ ∧ b < B ∧ w.cell? ⟨b, o + k, none⟩ = some u

theorem Row.below {w w' : World} {B : Nat} {A : Option Addr} {xs : List Value} (h : Row w B A xs) (hb : Below B w w') : Row w' B A xs := by
  intro k u hu
  obtain ⟨b, o, e, h1, h2⟩ := h k u hu
  exact ⟨b, o, e, h1, (hb.cell (p := ⟨b, o + k, none⟩) h1).trans h2⟩
theorem Row.lift {w w' : World} {A : Option Addr} {xs : List Value} (h : Row w w.heap.size A xs) (hb : Below w.heap.size w w') : Row w' w'.heap.size A xs := by
  intro k u hu
  obtain ⟨b, o, e, h1, h2⟩ := h.below hb k u hu
  exact ⟨b, o, e, Nat.lt_of_lt_of_le h1 hb.size, h2⟩

theorem info_byte : (Tryz.prog.info? 5).map (fun i => (i.zero, i.size, i.bytes)) = some (some (.int .u8 0), 1, 1) := by kernel_rfl
theorem info_str : (Tryz.prog.info? 9).map (fun i => (i.zero, i.size, i.bytes)) = some (some (.string ⟨#[]⟩), 1, 16) := by kernel_rfl

theorem bytes_append (a b : List UInt8) : byteCells ⟨a.toArray⟩ ++ byteCells ⟨b.toArray⟩ = byteCells ⟨(a ++ b).toArray⟩ := by simp [byteCells]
theorem bytes_size (l : List UInt8) : (⟨l.toArray⟩ : ByteArray).size = l.length := rfl

theorem byte_ne {c : UInt8} {k : Nat} (hk : k < 256) (h : c ≠ UInt8.ofNat k) : ((c.toNat : Int) == (k : Int)) = false :=
  beq_eq_false_iff_ne.2 fun e => h (UInt8.toNat_inj.1 (by rw [UInt8.toNat_ofNat', Nat.mod_eq_of_lt hk]; omega))
theorem byte_eq {c : UInt8} {k : Nat} (hk : k < 256) (h : c = UInt8.ofNat k) : ((c.toNat : Int) == (k : Int)) = true := by
  subst h
  rw [UInt8.toNat_ofNat', Nat.mod_eq_of_lt hk]
  simp

theorem str_ne {l : List UInt8} {s : ByteArray} (h : (!l == s.toList) = true) : l ≠ bl s := by
  rw [ByteArray.toList_eq] at h
  simpa using h
theorem str_eq {l : List UInt8} {s : ByteArray} (h : (!l == s.toList) = false) : l = bl s := by
  rw [ByteArray.toList_eq] at h
  simpa using h
theorem not_empty {s : ByteArray} (h : 0 < s.size) : ¬ s.toList = [] := by
  rw [ByteArray.toList_eq]
  intro e
  have := bl_len s
  simp only [bl, e, List.length_nil] at this
  omega
theorem not_empty2 {s : ByteArray} (h : 0 < s.size) : s.toList.isEmpty = false := by
  cases hs : s.toList with
  | nil => exact absurd hs (not_empty h)
  | cons c r => rfl
theorem is_empty {s : ByteArray} (h : ¬ 0 < s.size) : s.toList = [] := by
  rw [ByteArray.toList_eq]
  exact List.eq_nil_of_length_eq_zero (by rw [bl_len]; omega)

theorem cut_one {s : ByteArray} (h0 : 0 < s.size) : bl s = s[0] :: bl (s.extract 1 s.size) ∧ (s.extract 1 s.size).size = s.size - 1 := by
  have h1 := drop_at h0
  rw [List.drop_zero] at h1
  constructor
  · rw [h1]
    congr 1
    obtain ⟨⟨l⟩⟩ := s
    show _ = bl (ByteArray.extract ⟨l.toArray⟩ 1 _)
    rw [bytes_extract, bl_mk]
    show List.drop 1 l = List.drop 1 (List.take l.length l)
    rw [List.take_length]
  · rw [ByteArray.size_extract]
    omega

end Txt
end Go.Proofs.YtgophgnfiboefaaGreatDoor

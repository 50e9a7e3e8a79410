import Derived.Test.YtionidjhfcmgiaaRead3
namespace Go.Proofs.Ytionidjhfcmgiaa
open Go.RowKit
set_option linter.unusedVariables false
set_option linter.unusedSimpArgs false
namespace Wire

theorem grown_own {a b c : World} {g : Nat} {row : Option Nat} (h : a.grownBy b (some g)) (k : b.grownBy c row) (hr : ∀ j, row = some j → a.heap.size ≤ j) : a.grownBy c (some g) :=
  ⟨k.os.trans h.os, k.tape.trans h.tape, k.output.trans h.output, Nat.le_trans h.size k.size, fun i hi hne =>
    (k.block i (Nat.lt_of_lt_of_le hi h.size) (fun e => by have := hr i e.symm; omega)).trans (h.block i hi hne)⟩

theorem grown_alloc {a b : World} {g : Nat} (h : a.grownBy b (some g)) (o : Obj) : a.grownBy (b.alloc o) (some g) :=
  grown_trans h (below_none ((Below.refl _ _).alloc (Nat.le_refl _) _) _)

def ListPost {α : Type} (g : Nat) (w : World) (res : Option (List α × List UInt8)) (enc : α → Value) (e : Ending) (w' : World) : Prop :=
  (∃ xs r v, res = some (xs, r) ∧ e = .returned v ∧ Grow w' w.heap.size 1 v xs.length (xs.map enc) ∧ RS w' g (some r) ∧ w.grownBy w' (some g)) ∨
  (res = none ∧ e = .returned (.slice none 0 0) ∧ RS w' g none ∧ w.grownBy w' (some g))

structure ItemRel {α : Type} (g : Nat) (W : World) (p : List UInt8 → Option (α × List UInt8)) (enc : α → Value) (n : Nat) (r0 : List UInt8) (lv iv : Value) (w : World) (k : Nat) (xs : List α) (r : List UInt8) : Prop where
  iv : iv = .int .i64 k
  le : k ≤ n
  len : xs.length = k
  told : rep p n r0 = (rep p (n - k) r).map fun q => (xs ++ q.1, q.2)
  rs : RS w g (some r)
  own : Grow w W.heap.size 1 lv k (xs.map enc)
  short : k + r.length ≤ r0.length
  grown : W.grownBy w (some g)

theorem ItemRel.none_ {α : Type} {g : Nat} {W w w' : World} {p : List UInt8 → Option (α × List UInt8)} {enc : α → Value} {n k : Nat} {r0 r : List UInt8} {xs : List α} {l : List UInt8} (hk : k < n)
    (ht : rep p n r0 = (rep p (n - k) r).map fun q => (xs ++ q.1, q.2)) (hp : p r = none) (hl : num 91 l = some (n, r0)) : list p l = none := by
  obtain ⟨m, hm⟩ : ∃ m, n - k = m + 1 := ⟨n - k - 1, by omega⟩
  rw [hm, rep, hp] at ht
  unfold list
  rw [hl]
  simp [ht]

theorem ItemRel.step {α : Type} {g : Nat} {W w w3 w4 : World} {p : List UInt8 → Option (α × List UInt8)} {enc : α → Value} {n k : Nat} {r0 r r' : List UInt8} {xs : List α} {x : α} {lv v4 : Value} {o : Obj} (hk : k < n)
    (hin : g < W.heap.size) (hlen : xs.length = k) (ht : rep p n r0 = (rep p (n - k) r).map fun q => (xs ++ q.1, q.2)) (hown : Grow w W.heap.size 1 lv k (xs.map enc)) (hsh : k + r.length ≤ r0.length) (hg : W.grownBy w (some g))
    (hp : p r = some (x, r')) (hc : r'.length < r.length) (h3 : RS w3 g (some r')) (hg3 : w.grownBy w3 (some g))
    (hown4 : Grow w4 W.heap.size 1 v4 (k + 1) (xs.map enc ++ [enc x])) (hg4 : (w3.alloc o).grownBy w4 lv.ownBlock) :
    ItemRel g W p enc n r0 v4 (.int .i64 ((k : Int) + 1)) w4 (k + 1) (xs ++ [x]) r' := by
  have hB : ∀ j, lv.ownBlock = some j → W.heap.size ≤ j := fun j hj => (hown.block j hj).1
  refine ⟨by simp, hk, by simp [hlen], ?_, ?_, by simpa using hown4, by omega, grown_own (grown_alloc (grown_trans hg hg3) o) hg4 hB⟩
  · obtain ⟨m, hm⟩ : ∃ m, n - k = m + 1 := ⟨n - k - 1, by omega⟩
    rw [ht, hm, rep, show n - (k + 1) = m from by omega]
    simp only [hp, Option.map_map]
    congr 1
    funext q
    simp
  · exact Blk.past (Blk.kept h3 o) hg4 (fun e => by have := hB g e.symm; omega)

theorem ItemRel.all_ {α : Type} {p : List UInt8 → Option (α × List UInt8)} {n : Nat} {r0 r : List UInt8} {xs : List α} {l : List UInt8} (ht : rep p n r0 = (rep p (n - n) r).map fun q => (xs ++ q.1, q.2)) (hl : num 91 l = some (n, r0)) :
    list p l = match r with | c :: r' => if c = 93 then some (xs, r') else none | [] => none := by
  rw [Nat.sub_self, rep] at ht
  unfold list
  rw [hl]
  simp only [ht, Option.map_some, List.append_nil]
  cases r <;> rfl

theorem num_short {e : UInt8} {l r : List UInt8} {n : Nat} (h : num e l = some (n, r)) : r.length < l.length := by
  have h1 := (num_sound h).1
  have h2 := dec_pos n
  rw [h1]
  simp
  omega
theorem neg_short {l r : List UInt8} {n : Nat} (h : neg l = some (n, r)) : r.length < l.length := by
  have h1 := (neg_sound h).1
  rw [h1]
  simp
  omega
theorem int_short {l r : List UInt8} {z : Int} (h : int l = some (z, r)) : r.length < l.length := by
  rcases int_sound h with ⟨_, _, h1⟩ | ⟨_, _, h1⟩ <;> rw [h1] <;> simp <;> omega
theorem text_short {l r t : List UInt8} (h : text l = some (t, r)) : r.length < l.length := by
  rw [text_sound h]
  simp
  omega

theorem info_int : (Try.prog.info? 3).map (fun i => (i.zero, i.size, i.bytes)) = some (some (.int .i64 0), 1, 8) := by kernel_rfl
theorem one_int (z : Int) : ∀ u ∈ [Value.int .i64 z], u.oneCell' = true := by
  intro u hu
  obtain rfl := List.mem_singleton.1 hu
  rfl

theorem items_apart {w : World} {B size n g : Nat} {v : Value} {xs : List Value} (h : Grow w B size v n xs) (hg : g < B) : v.ownBlock = none ∨ v.ownBlock ≠ some g := by
  refine .inr fun e => ?_
  have := (h.block g e).1
  omega

set_option maxHeartbeats 2000000 in
theorem itemsInt_some (g : Nat) (l : List UInt8) (w : World) (h : RS w g (some l)) (hl : l.length ≤ 1099511627776) :
    Calls Try.prog 58 #[ptr g, .func (.func 26) #[ptr g] #[]] w (ListPost g w (list int l) (Value.int .i64)) := by
  obtain ⟨i0, hi0, hi1, hi2, hi3⟩ := info_parts info_int
  have hin := h.inside
  cases hnum : num 91 l with
  | none =>
    have HD := Lib.hid (size_bad g 91 (some l) w h (by show l.length ≤ _; omega) hnum)
    have HL : Hid (list int l = none) := by
      show _ = _
      unfold list
      rw [hnum]
    clear h hl hnum
    go_enter Try.func58, Try.ntmps58
    go_wp2_with (go_at_call 49; refine HD.out.mono ?_; rintro e w1 ⟨rfl, h1, h2⟩; have HS := Lib.hid h1; clear h1)
    go_loopw [5, 9] (fun lv iv wr => lv = .slice none 0 0 ∧ iv = .int .i64 0 ∧ w1 = wr) (fun _ _ _ => 0)
    case atStart => exact ⟨rfl, rfl, rfl⟩
    case round =>
      obtain ⟨rfl, rfl, rfl⟩ := hrel
      go_wp2_with (go_at_call 54; refine (skip_nil g none rfl 93 _ HS.out).mono ?_; rintro e w3 ⟨rfl, h3, h4⟩; have c1 := h3.at 1)
      go_ret
      exact .inr ⟨HL.out, rfl, h3, grown_trans h2 h4⟩
  | some pr =>
    obtain ⟨n, r0⟩ := pr
    have hns := num_short hnum
    have hn63 := (num_sound hnum).2
    have HD := Lib.hid (size_ok g 91 (some l) w h (by show l.length ≤ _; omega) n r0 hnum)
    have HN := Lib.hid hnum
    clear h hnum
    go_enter Try.func58, Try.ntmps58
    go_wp2_with (go_at_call 49; refine HD.out.mono ?_; rintro e w1 ⟨rfl, h1, h2⟩; have HS := Lib.hid h1; clear h1)
    go_loopw [5, 9] (fun lv iv wr => ∃ k xs r, ItemRel g w int (Value.int .i64) n r0 lv iv wr k xs r) (fun _ iv _ => n - (intOf iv).toNat)
    case atStart =>
      exact ⟨0, [], r0, rfl, Nat.zero_le _, rfl, by cases rep int n r0 <;> simp, HS.out, Grow.nil _ _ _, by omega, h2⟩
    case round =>
      obtain ⟨k, xs, r, ⟨rfl, hk, hlen, htold, hrs, hown, hsh, hgr⟩⟩ := hrel
      have HT := Lib.hid htold
      have HR := Lib.hid hrs
      have HE := Lib.hid hlen
      clear htold hrs hlen
      by_cases hkn : k < n
      · cases hp : int r with
        | none =>
          have HB := Lib.hid (rint_bad g (some r) wr HR.out (by show r.length ≤ _; omega) hp)
          have HL := Lib.hid (ItemRel.none_ (g := g) (W := w) (w := w) (w' := w) (enc := Value.int .i64) hkn HT.out hp HN.out)
          clear hp
          go_wp2_with (go_at_call 26; refine HB.out.mono ?_; rintro e w3 ⟨rfl, h3, h4⟩; have c1 := h3.at 1)
          go_ret
          exact .inr ⟨HL.out, rfl, h3, grown_trans hgr h4⟩
        | some q =>
          obtain ⟨x, r'⟩ := q
          have HB := Lib.hid (rint_ok g (some r) wr HR.out (by show r.length ≤ _; omega) x r' hp)
          have hxs := int_short hp
          have HP := Lib.hid hp
          clear hp
          have HM : Hid (k + 1 ≤ maxLen ∧ (k + 1) * 8 ≤ 140737488355328) := ⟨small_max (by omega), by omega⟩
          go_wp2_with (first
            | (go_at_call 26; refine HB.out.mono ?_; rintro e w3 ⟨rfl, h3, h4⟩; have c1 := h3.at 1; have H3 := Lib.hid h3; clear h3)
            | (at_builtin; refine wpList_append_src _ rfl (.tmp 17) (.tmp 19) _ _ rfl w.heap.size 3 i0 _ 1 8 Try.underlying22 hi0 hi1 hi2 hi3 rfl (by omega) _ _ _ rfl ((hown.grown h4 (items_apart hown hin)).alloc _) _ 1 [.int .i64 x] rfl (Src.ofSlice _ Try.underlying22 ⟨w3.heap.size, 0, none⟩ 1 1 [.int .i64 x] rfl (cell_one_new _ _ _) (one_int x)) HM.out.1 HM.out.2 (Nat.le_trans hgr.size (Nat.le_trans h4.size (by simp))) ?_; intro v4 w4 hown4 hg4 _))
          have HF := Lib.hid (ItemRel.step hkn hin HE.out HT.out hown hsh hgr HP.out hxs H3.out h4 hown4 hg4)
          go_roundw
          case rel => exact ⟨k + 1, _, _, HF.out⟩
          case measure => simp [intOf]; omega
      · obtain rfl : k = n := by omega
        have HA := Lib.hid (ItemRel.all_ HT.out HN.out)
        cases r with
        | nil =>
          go_wp2_with (go_at_call 54; refine (skip_nil g (some []) rfl 93 _ HR.out).mono ?_; rintro e w3 ⟨rfl, h3, h4⟩; have c1 := h3.at 1)
          go_ret
          exact .inr ⟨HA.out, rfl, h3, grown_trans hgr h4⟩
        | cons c r =>
          by_cases hc : c = 93
          · subst hc
            go_wp2_with (go_at_call 54; refine (skip_ok g r 93 _ HR.out).mono ?_; rintro e w3 ⟨rfl, h3, h4⟩; have c1 := h3.at 1)
            go_ret
            refine .inl ⟨xs, r, _, HA.out.trans (by simp), rfl, ?_, h3, grown_trans hgr h4⟩
            rw [HE.out]
            exact hown.grown h4 (items_apart hown hin)
          · have HC := Lib.hid hc
            go_wp2_with (go_at_call 54; refine (skip_bad g c r 93 HC.out _ HR.out).mono ?_; rintro e w3 ⟨rfl, h3, h4⟩; have c1 := h3.at 1)
            go_ret
            exact .inr ⟨HA.out.trans (by simp [HC.out]), rfl, h3, grown_trans hgr h4⟩
theorem info_string : (Try.prog.info? 9).map (fun i => (i.zero, i.size, i.bytes)) = some (some (.string ⟨#[]⟩), 1, 16) := by kernel_rfl
theorem one_text (t : List UInt8) : ∀ u ∈ [str t], u.oneCell' = true := by
  intro u hu
  obtain rfl := List.mem_singleton.1 hu
  rfl

set_option maxHeartbeats 2000000 in
theorem itemsText_some (g : Nat) (l : List UInt8) (w : World) (h : RS w g (some l)) (hl : l.length ≤ 1099511627776) :
    Calls Try.prog 59 #[ptr g, .func (.func 28) #[ptr g] #[]] w (ListPost g w (list text l) (fun t => str t)) := by
  obtain ⟨i0, hi0, hi1, hi2, hi3⟩ := info_parts info_string
  have hin := h.inside
  cases hnum : num 91 l with
  | none =>
    have HD := Lib.hid (size_bad g 91 (some l) w h (by show l.length ≤ _; omega) hnum)
    have HL : Hid (list text l = none) := by
      show _ = _
      unfold list
      rw [hnum]
    clear h hl hnum
    go_enter Try.func59, Try.ntmps59
    go_wp2_with (go_at_call 49; refine HD.out.mono ?_; rintro e w1 ⟨rfl, h1, h2⟩; have HS := Lib.hid h1; clear h1)
    go_loopw [5, 9] (fun lv iv wr => lv = .slice none 0 0 ∧ iv = .int .i64 0 ∧ w1 = wr) (fun _ _ _ => 0)
    case atStart => exact ⟨rfl, rfl, rfl⟩
    case round =>
      obtain ⟨rfl, rfl, rfl⟩ := hrel
      go_wp2_with (go_at_call 54; refine (skip_nil g none rfl 93 _ HS.out).mono ?_; rintro e w3 ⟨rfl, h3, h4⟩; have c1 := h3.at 1)
      go_ret
      exact .inr ⟨HL.out, rfl, h3, grown_trans h2 h4⟩
  | some pr =>
    obtain ⟨n, r0⟩ := pr
    have hns := num_short hnum
    have hn63 := (num_sound hnum).2
    have HD := Lib.hid (size_ok g 91 (some l) w h (by show l.length ≤ _; omega) n r0 hnum)
    have HN := Lib.hid hnum
    clear h hnum
    go_enter Try.func59, Try.ntmps59
    go_wp2_with (go_at_call 49; refine HD.out.mono ?_; rintro e w1 ⟨rfl, h1, h2⟩; have HS := Lib.hid h1; clear h1)
    go_loopw [5, 9] (fun lv iv wr => ∃ k xs r, ItemRel g w text (fun t => str t) n r0 lv iv wr k xs r) (fun _ iv _ => n - (intOf iv).toNat)
    case atStart =>
      exact ⟨0, [], r0, rfl, Nat.zero_le _, rfl, by cases rep text n r0 <;> simp, HS.out, Grow.nil _ _ _, by omega, h2⟩
    case round =>
      obtain ⟨k, xs, r, ⟨rfl, hk, hlen, htold, hrs, hown, hsh, hgr⟩⟩ := hrel
      have HT := Lib.hid htold
      have HR := Lib.hid hrs
      have HE := Lib.hid hlen
      clear htold hrs hlen
      by_cases hkn : k < n
      · cases hp : text r with
        | none =>
          have HB := Lib.hid (rtext_bad g (some r) wr HR.out (by show r.length ≤ _; omega) hp)
          have HL := Lib.hid (ItemRel.none_ (g := g) (W := w) (w := w) (w' := w) (enc := fun t => str t) hkn HT.out hp HN.out)
          clear hp
          go_wp2_with (go_at_call 28; refine HB.out.mono ?_; rintro e w3 ⟨rfl, h3, h4⟩; have c1 := h3.at 1)
          go_ret
          exact .inr ⟨HL.out, rfl, h3, grown_trans hgr h4⟩
        | some q =>
          obtain ⟨x, r'⟩ := q
          have HB := Lib.hid (rtext_ok g (some r) wr HR.out (by show r.length ≤ _; omega) x r' hp)
          have hxs := text_short hp
          have HP := Lib.hid hp
          clear hp
          have HM : Hid (k + 1 ≤ maxLen ∧ (k + 1) * 16 ≤ 140737488355328) := ⟨small_max (by omega), by omega⟩
          go_wp2_with (first
            | (go_at_call 28; refine HB.out.mono ?_; rintro e w3 ⟨rfl, h3, h4⟩; have c1 := h3.at 1; have H3 := Lib.hid h3; clear h3)
            | (at_builtin; refine wpList_append_src _ rfl (.tmp 17) (.tmp 19) _ _ rfl w.heap.size 9 i0 _ 1 16 Try.underlying23 hi0 hi1 hi2 hi3 rfl (by omega) _ _ _ rfl ((hown.grown h4 (items_apart hown hin)).alloc _) _ 1 [str x] rfl (Src.ofSlice _ Try.underlying23 ⟨w3.heap.size, 0, none⟩ 1 1 [str x] rfl (cell_one_new _ _ _) (one_text x)) HM.out.1 HM.out.2 (Nat.le_trans hgr.size (Nat.le_trans h4.size (by simp))) ?_; intro v4 w4 hown4 hg4 _))
          have HF := Lib.hid (ItemRel.step hkn hin HE.out HT.out hown hsh hgr HP.out hxs H3.out h4 hown4 hg4)
          go_roundw
          case rel => exact ⟨k + 1, _, _, HF.out⟩
          case measure => simp [intOf]; omega
      · obtain rfl : k = n := by omega
        have HA := Lib.hid (ItemRel.all_ HT.out HN.out)
        cases r with
        | nil =>
          go_wp2_with (go_at_call 54; refine (skip_nil g (some []) rfl 93 _ HR.out).mono ?_; rintro e w3 ⟨rfl, h3, h4⟩; have c1 := h3.at 1)
          go_ret
          exact .inr ⟨HA.out, rfl, h3, grown_trans hgr h4⟩
        | cons c r =>
          by_cases hc : c = 93
          · subst hc
            go_wp2_with (go_at_call 54; refine (skip_ok g r 93 _ HR.out).mono ?_; rintro e w3 ⟨rfl, h3, h4⟩; have c1 := h3.at 1)
            go_ret
            refine .inl ⟨xs, r, _, HA.out.trans (by simp), rfl, ?_, h3, grown_trans hgr h4⟩
            rw [HE.out]
            exact hown.grown h4 (items_apart hown hin)
          · have HC := Lib.hid hc
            go_wp2_with (go_at_call 54; refine (skip_bad g c r 93 HC.out _ HR.out).mono ?_; rintro e w3 ⟨rfl, h3, h4⟩; have c1 := h3.at 1)
            go_ret
            exact .inr ⟨HA.out.trans (by simp [HC.out]), rfl, h3, grown_trans hgr h4⟩

theorem list_none_bad {α : Type} (p : List UInt8 → Option (α × List UInt8)) : list p [] = none := rfl

set_option maxHeartbeats 400000 in
theorem rnums_any (g : Nat) (l : List UInt8) (w : World) (h : RS w g (some l)) (hl : l.length ≤ 1099511627776) :
    Calls Try.prog 31 #[ptr g] w (ListPost g w (list int l) (Value.int .i64)) := by
  have HD := Lib.hid (itemsInt_some g l w h hl)
  clear h
  go_enter Try.func31, Try.ntmps31
  go_wp2_with fail
  refine HD.out.mono ?_
  intro e w' hp
  rcases hp with ⟨xs, r, v, h1, rfl, h3, h4, h5⟩ | ⟨h1, rfl, h3, h4⟩
  · go_wp2
    go_ret
    exact .inl ⟨xs, r, v, h1, rfl, h3, h4, h5⟩
  · go_wp2
    go_ret
    exact .inr ⟨h1, rfl, h3, h4⟩

set_option maxHeartbeats 400000 in
theorem rtexts_any (g : Nat) (l : List UInt8) (w : World) (h : RS w g (some l)) (hl : l.length ≤ 1099511627776) :
    Calls Try.prog 34 #[ptr g] w (ListPost g w (list text l) (fun t => str t)) := by
  have HD := Lib.hid (itemsText_some g l w h hl)
  clear h
  go_enter Try.func34, Try.ntmps34
  go_wp2_with fail
  refine HD.out.mono ?_
  intro e w' hp
  rcases hp with ⟨xs, r, v, h1, rfl, h3, h4, h5⟩ | ⟨h1, rfl, h3, h4⟩
  · go_wp2
    go_ret
    exact .inl ⟨xs, r, v, h1, rfl, h3, h4, h5⟩
  · go_wp2
    go_ret
    exact .inr ⟨h1, rfl, h3, h4⟩
end Wire
end Go.Proofs.Ytionidjhfcmgiaa

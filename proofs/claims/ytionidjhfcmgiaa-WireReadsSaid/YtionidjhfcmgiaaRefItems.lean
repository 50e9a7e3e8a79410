import Derived.Test.YtionidjhfcmgiaaRefRead2
namespace Go.Proofs.Ytionidjhfcmgiaa
open Go.RowKit
set_option linter.unusedVariables false
set_option linter.unusedSimpArgs false
namespace Wire

def QListPost {α : Type} (g : Nat) (w : World) (res : Option (List α × List UInt8)) (enc : α → Value) (e : Ending) (w' : World) : Prop :=
  (∃ xs r v, res = some (xs, r) ∧ e = .returned v ∧ Grow w' w.heap.size 1 v xs.length (xs.map enc) ∧ QS w' g (some r) ∧ w.grownBy w' (some g)) ∨
  (res = none ∧ e = .returned (.slice none 0 0) ∧ QS w' g none ∧ w.grownBy w' (some g))

structure QItemRel {α : Type} (g : Nat) (W : World) (p : List UInt8 → Option (α × List UInt8)) (enc : α → Value) (n : Nat) (r0 : List UInt8) (lv iv : Value) (w : World) (k : Nat) (xs : List α) (r : List UInt8) : Prop where
  iv : iv = .int .i64 k
  le : k ≤ n
  len : xs.length = k
  told : rep p n r0 = (rep p (n - k) r).map fun q => (xs ++ q.1, q.2)
  rs : QS w g (some r)
  own : Grow w W.heap.size 1 lv k (xs.map enc)
  short : k + r.length ≤ r0.length
  grown : W.grownBy w (some g)

/-- The reader has failed. -/
structure QLost (g : Nat) (W : World) (none_ : Prop) (n : Nat) (iv : Value) (w : World) (k : Nat) : Prop where
  iv : iv = .int .i64 k
  le : k ≤ n
  rs : QS w g none
  is : none_
  grown : W.grownBy w (some g)

theorem QItemRel.step {α : Type} {g : Nat} {W w w3 w4 : World} {p : List UInt8 → Option (α × List UInt8)} {enc : α → Value} {n k : Nat} {r0 r r' : List UInt8} {xs : List α} {x : α} {lv v4 : Value} {o : Obj} (hk : k < n)
    (hin : g < W.heap.size) (hlen : xs.length = k) (ht : rep p n r0 = (rep p (n - k) r).map fun q => (xs ++ q.1, q.2)) (hown : Grow w W.heap.size 1 lv k (xs.map enc)) (hsh : k + r.length ≤ r0.length) (hg : W.grownBy w (some g))
    (hp : p r = some (x, r')) (hc : r'.length < r.length) (h3 : QS w3 g (some r')) (hg3 : w.grownBy w3 (some g))
    (hown4 : Grow w4 W.heap.size 1 v4 (k + 1) (xs.map enc ++ [enc x])) (hg4 : (w3.alloc o).grownBy w4 lv.ownBlock) :
    QItemRel g W p enc n r0 v4 (.int .i64 ((k : Int) + 1)) w4 (k + 1) (xs ++ [x]) r' := by
  have hB : ∀ j, lv.ownBlock = some j → W.heap.size ≤ j := fun j hj => (hown.block j hj).1
  refine ⟨by simp, hk, by simp [hlen], ?_, ?_, by simpa using hown4, by omega, grown_own (grown_alloc (grown_trans hg hg3) o) hg4 hB⟩
  · obtain ⟨m, hm⟩ : ∃ m, n - k = m + 1 := ⟨n - k - 1, by omega⟩
    rw [ht, hm, rep, show n - (k + 1) = m from by omega]
    simp only [hp, Option.map_map]
    congr 1
    funext q
    simp
  · exact Blk.past (Blk.kept h3 o) hg4 (fun e => by have := hB g e.symm; omega)

theorem QLost.step {α : Type} {g : Nat} {W w w3 w4 : World} {enc : α → Value} {n k : Nat} {xs : List α} {lv : Value} {o : Obj} {P : Prop} (hk : k < n)
    (hin : g < W.heap.size) (hown : Grow w W.heap.size 1 lv k (xs.map enc)) (hg : W.grownBy w (some g)) (hP : P) (h3 : QS w3 g none) (hg3 : w.grownBy w3 (some g)) (hg4 : (w3.alloc o).grownBy w4 lv.ownBlock) :
    QLost g W P n (.int .i64 ((k : Int) + 1)) w4 (k + 1) := by
  have hB : ∀ j, lv.ownBlock = some j → W.heap.size ≤ j := fun j hj => (hown.block j hj).1
  exact ⟨by simp, hk, Blk.past (Blk.kept h3 o) hg4 (fun e => by have := hB g e.symm; omega), hP, grown_own (grown_alloc (grown_trans hg hg3) o) hg4 hB⟩

set_option maxRecDepth 100000 in
set_option maxHeartbeats 4000000 in
theorem qnums_any (g : Nat) (st : St) (w : World) (h : QS w g st) (hl : (st.getD []).length ≤ 400) :
    Calls Try.prog 32 #[ptr g] w (QListPost g w (list int (st.getD [])) (Value.int .i64)) := by
  obtain ⟨i0, hi0, hi1, hi2, hi3⟩ := info_parts info_int
  have hin := h.inside
  cases hnum : num 91 (st.getD []) with
  | none =>
    have HD := Lib.hid (qnumber_bad g 91 rfl (by decide) st w h hl hnum)
    have HL : Hid (list int (st.getD []) = none) := by
      show _ = _
      unfold list
      rw [hnum]
    clear h hl hnum
    go_enter Try.func32, Try.ntmps32
    go_wp2_with (go_at_call 50; refine HD.out.mono ?_; rintro e w1 ⟨rfl, h1, h2⟩; have HS := Lib.hid h1; have c1 := h1.at 1; clear h1)
    go_loopw [4, 5] (fun lv iv wr => lv = .slice none 0 0 ∧ iv = .int .i64 0 ∧ w1 = wr) (fun _ _ _ => 0)
    case atStart => exact ⟨rfl, rfl, rfl⟩
    case round =>
      obtain ⟨rfl, rfl, rfl⟩ := hrel
      go_wp2_with fail
      go_ret
      exact .inr ⟨HL.out, rfl, HS.out, h2⟩
  | some pr =>
    obtain ⟨n, r0⟩ := pr
    have hns := num_short hnum
    have hn63 := (num_sound hnum).2
    have HD := Lib.hid (qnumber_ok g 91 rfl (by decide) st w h hl n r0 hnum)
    have HN := Lib.hid hnum
    clear h hnum
    go_enter Try.func32, Try.ntmps32
    go_wp2_with (go_at_call 50; refine HD.out.mono ?_; rintro e w1 ⟨rfl, h1, h2⟩; have HS := Lib.hid h1; clear h1)
    go_loopw [4, 5] (fun lv iv wr => (∃ k xs r, QItemRel g w int (Value.int .i64) n r0 lv iv wr k xs r) ∨ ∃ k, QLost g w (list int (st.getD []) = none) n iv wr k) (fun _ iv _ => n - (intOf iv).toNat)
    case atStart =>
      exact .inl ⟨0, [], r0, rfl, Nat.zero_le _, rfl, by cases rep int n r0 <;> simp, HS.out, Grow.nil _ _ _, by omega, h2⟩
    case round =>
      rcases hrel with ⟨k, xs, r, ⟨rfl, hk, hlen, htold, hrs, hown, hsh, hgr⟩⟩ | ⟨k, ⟨rfl, hk, hrs, hno, hgr⟩⟩
      · have HT := Lib.hid htold
        have HR := Lib.hid hrs
        have HE := Lib.hid hlen
        have c1 := hrs.at 1
        clear htold hrs hlen
        by_cases hkn : k < n
        · cases hp : int r with
          | none =>
            have HB := Lib.hid (qint_bad g (some r) wr HR.out (by show r.length ≤ _; omega) hp)
            have HL := Lib.hid (ItemRel.none_ (g := g) (W := w) (w := w) (w' := w) (enc := Value.int .i64) hkn HT.out hp HN.out)
            have HM : Hid (k + 1 ≤ maxLen ∧ (k + 1) * 8 ≤ 140737488355328) := ⟨small_max (by omega), by omega⟩
            clear hp
            go_wp2_with (first
              | (go_at_call 27; refine HB.out.mono ?_; rintro e w3 ⟨rfl, h3, h4⟩; have H3 := Lib.hid h3; clear h3)
              | (at_builtin; refine wpList_append_src _ rfl (.tmp 20) (.tmp 23) _ _ rfl w.heap.size 3 i0 _ 1 8 Try.underlying22 hi0 hi1 hi2 hi3 rfl (by omega) _ _ _ rfl ((hown.grown h4 (items_apart hown hin)).alloc _) _ 1 [.int .i64 0] rfl (Src.ofSlice _ Try.underlying22 ⟨w3.heap.size, 0, none⟩ 1 1 [.int .i64 0] rfl (cell_one_new _ _ _) (one_int 0)) HM.out.1 HM.out.2 (Nat.le_trans hgr.size (Nat.le_trans h4.size (by simp))) ?_; intro v4 w4 hown4 hg4 _))
            have HF := Lib.hid (QLost.step hkn hin hown hgr HL.out H3.out h4 hg4)
            go_roundw
            case rel => exact .inr ⟨k + 1, HF.out⟩
            case measure => simp [intOf]; omega
          | some q =>
            obtain ⟨x, r'⟩ := q
            have HB := Lib.hid (qint_ok g (some r) wr HR.out (by show r.length ≤ _; omega) x r' hp)
            have hxs := int_short hp
            have HP := Lib.hid hp
            clear hp
            have HM : Hid (k + 1 ≤ maxLen ∧ (k + 1) * 8 ≤ 140737488355328) := ⟨small_max (by omega), by omega⟩
            go_wp2_with (first
              | (go_at_call 27; refine HB.out.mono ?_; rintro e w3 ⟨rfl, h3, h4⟩; have H3 := Lib.hid h3; clear h3)
              | (at_builtin; refine wpList_append_src _ rfl (.tmp 20) (.tmp 23) _ _ rfl w.heap.size 3 i0 _ 1 8 Try.underlying22 hi0 hi1 hi2 hi3 rfl (by omega) _ _ _ rfl ((hown.grown h4 (items_apart hown hin)).alloc _) _ 1 [.int .i64 x] rfl (Src.ofSlice _ Try.underlying22 ⟨w3.heap.size, 0, none⟩ 1 1 [.int .i64 x] rfl (cell_one_new _ _ _) (one_int x)) HM.out.1 HM.out.2 (Nat.le_trans hgr.size (Nat.le_trans h4.size (by simp))) ?_; intro v4 w4 hown4 hg4 _))
            have HF := Lib.hid (QItemRel.step (enc := Value.int .i64) hkn hin HE.out HT.out hown hsh hgr HP.out hxs H3.out h4 hown4 hg4)
            go_roundw
            case rel => exact .inl ⟨k + 1, _, _, HF.out⟩
            case measure => simp [intOf]; omega
        · obtain rfl : k = n := by omega
          have HA := Lib.hid (ItemRel.all_ HT.out HN.out)
          by_cases hc : ∃ r', r = 93 :: r'
          · obtain ⟨r', rfl⟩ := hc
            go_wp2_with (go_at_call 57; refine (qclose_ok g 93 r' _ HR.out).mono ?_; rintro e w3 ⟨rfl, h3, h4⟩)
            go_ret
            refine .inl ⟨xs, r', _, HA.out.trans (by simp), rfl, ?_, h3, grown_trans hgr h4⟩
            rw [HE.out]
            exact hown.grown h4 (items_apart hown hin)
          · have HC : Hid (∀ r', (some r).getD [] ≠ 93 :: r') := fun r' e => hc ⟨r', e⟩
            have HA2 : Hid (list int (st.getD []) = none) := HA.out.trans (by
              cases r with
              | nil => rfl
              | cons c r => exact if_neg (fun e => hc ⟨r, by rw [e]⟩))
            clear hc
            go_wp2_with (go_at_call 57; refine (qclose_bad g 93 _ HC.out _ HR.out).mono ?_; rintro e w3 ⟨rfl, h3, h4⟩)
            go_ret
            exact .inr ⟨HA2.out, rfl, h3, grown_trans hgr h4⟩
      · have HR := Lib.hid hrs
        have c1 := hrs.at 1
        have HO := Lib.hid hno
        clear hrs hno
        by_cases hkn : k < n
        · go_wp2_with fail
          go_ret
          exact .inr ⟨HO.out, rfl, HR.out, hgr⟩
        · go_wp2_with fail
          go_ret
          exact .inr ⟨HO.out, rfl, HR.out, hgr⟩

set_option maxRecDepth 100000 in
set_option maxHeartbeats 4000000 in
theorem qtexts_any (g : Nat) (st : St) (w : World) (h : QS w g st) (hl : (st.getD []).length ≤ 400) :
    Calls Try.prog 35 #[ptr g] w (QListPost g w (list text (st.getD [])) (fun t => str t)) := by
  obtain ⟨i0, hi0, hi1, hi2, hi3⟩ := info_parts info_string
  have hin := h.inside
  cases hnum : num 91 (st.getD []) with
  | none =>
    have HD := Lib.hid (qnumber_bad g 91 rfl (by decide) st w h hl hnum)
    have HL : Hid (list text (st.getD []) = none) := by
      show _ = _
      unfold list
      rw [hnum]
    clear h hl hnum
    go_enter Try.func35, Try.ntmps35
    go_wp2_with (go_at_call 50; refine HD.out.mono ?_; rintro e w1 ⟨rfl, h1, h2⟩; have HS := Lib.hid h1; have c1 := h1.at 1; clear h1)
    go_loopw [4, 5] (fun lv iv wr => lv = .slice none 0 0 ∧ iv = .int .i64 0 ∧ w1 = wr) (fun _ _ _ => 0)
    case atStart => exact ⟨rfl, rfl, rfl⟩
    case round =>
      obtain ⟨rfl, rfl, rfl⟩ := hrel
      go_wp2_with fail
      go_ret
      exact .inr ⟨HL.out, rfl, HS.out, h2⟩
  | some pr =>
    obtain ⟨n, r0⟩ := pr
    have hns := num_short hnum
    have hn63 := (num_sound hnum).2
    have HD := Lib.hid (qnumber_ok g 91 rfl (by decide) st w h hl n r0 hnum)
    have HN := Lib.hid hnum
    clear h hnum
    go_enter Try.func35, Try.ntmps35
    go_wp2_with (go_at_call 50; refine HD.out.mono ?_; rintro e w1 ⟨rfl, h1, h2⟩; have HS := Lib.hid h1; clear h1)
    go_loopw [4, 5] (fun lv iv wr => (∃ k xs r, QItemRel g w text (fun t => str t) n r0 lv iv wr k xs r) ∨ ∃ k, QLost g w (list text (st.getD []) = none) n iv wr k) (fun _ iv _ => n - (intOf iv).toNat)
    case atStart =>
      exact .inl ⟨0, [], r0, rfl, Nat.zero_le _, rfl, by cases rep text n r0 <;> simp, HS.out, Grow.nil _ _ _, by omega, h2⟩
    case round =>
      rcases hrel with ⟨k, xs, r, ⟨rfl, hk, hlen, htold, hrs, hown, hsh, hgr⟩⟩ | ⟨k, ⟨rfl, hk, hrs, hno, hgr⟩⟩
      · have HT := Lib.hid htold
        have HR := Lib.hid hrs
        have HE := Lib.hid hlen
        have c1 := hrs.at 1
        clear htold hrs hlen
        by_cases hkn : k < n
        · cases hp : text r with
          | none =>
            have HB := Lib.hid (qtext_bad g (some r) wr HR.out (by show r.length ≤ _; omega) hp)
            have HL := Lib.hid (ItemRel.none_ (g := g) (W := w) (w := w) (w' := w) (enc := fun t => str t) hkn HT.out hp HN.out)
            have HM : Hid (k + 1 ≤ maxLen ∧ (k + 1) * 16 ≤ 140737488355328) := ⟨small_max (by omega), by omega⟩
            clear hp
            go_wp2_with (first
              | (go_at_call 29; refine HB.out.mono ?_; rintro e w3 ⟨rfl, h3, h4⟩; have H3 := Lib.hid h3; clear h3)
              | (at_builtin; refine wpList_append_src _ rfl (.tmp 20) (.tmp 23) _ _ rfl w.heap.size 9 i0 _ 1 16 Try.underlying23 hi0 hi1 hi2 hi3 rfl (by omega) _ _ _ rfl ((hown.grown h4 (items_apart hown hin)).alloc _) _ 1 [str []] rfl (Src.ofSlice _ Try.underlying23 ⟨w3.heap.size, 0, none⟩ 1 1 [str []] rfl (cell_one_new _ _ _) (one_text [])) HM.out.1 HM.out.2 (Nat.le_trans hgr.size (Nat.le_trans h4.size (by simp))) ?_; intro v4 w4 hown4 hg4 _))
            have HF := Lib.hid (QLost.step hkn hin hown hgr HL.out H3.out h4 hg4)
            go_roundw
            case rel => exact .inr ⟨k + 1, HF.out⟩
            case measure => simp [intOf]; omega
          | some q =>
            obtain ⟨x, r'⟩ := q
            have HB := Lib.hid (qtext_ok g (some r) wr HR.out (by show r.length ≤ _; omega) x r' hp)
            have hxs := text_short hp
            have HP := Lib.hid hp
            clear hp
            have HM : Hid (k + 1 ≤ maxLen ∧ (k + 1) * 16 ≤ 140737488355328) := ⟨small_max (by omega), by omega⟩
            go_wp2_with (first
              | (go_at_call 29; refine HB.out.mono ?_; rintro e w3 ⟨rfl, h3, h4⟩; have H3 := Lib.hid h3; clear h3)
              | (at_builtin; refine wpList_append_src _ rfl (.tmp 20) (.tmp 23) _ _ rfl w.heap.size 9 i0 _ 1 16 Try.underlying23 hi0 hi1 hi2 hi3 rfl (by omega) _ _ _ rfl ((hown.grown h4 (items_apart hown hin)).alloc _) _ 1 [str x] rfl (Src.ofSlice _ Try.underlying23 ⟨w3.heap.size, 0, none⟩ 1 1 [str x] rfl (cell_one_new _ _ _) (one_text x)) HM.out.1 HM.out.2 (Nat.le_trans hgr.size (Nat.le_trans h4.size (by simp))) ?_; intro v4 w4 hown4 hg4 _))
            have HF := Lib.hid (QItemRel.step (enc := fun t => str t) hkn hin HE.out HT.out hown hsh hgr HP.out hxs H3.out h4 hown4 hg4)
            go_roundw
            case rel => exact .inl ⟨k + 1, _, _, HF.out⟩
            case measure => simp [intOf]; omega
        · obtain rfl : k = n := by omega
          have HA := Lib.hid (ItemRel.all_ HT.out HN.out)
          by_cases hc : ∃ r', r = 93 :: r'
          · obtain ⟨r', rfl⟩ := hc
            go_wp2_with (go_at_call 57; refine (qclose_ok g 93 r' _ HR.out).mono ?_; rintro e w3 ⟨rfl, h3, h4⟩)
            go_ret
            refine .inl ⟨xs, r', _, HA.out.trans (by simp), rfl, ?_, h3, grown_trans hgr h4⟩
            rw [HE.out]
            exact hown.grown h4 (items_apart hown hin)
          · have HC : Hid (∀ r', (some r).getD [] ≠ 93 :: r') := fun r' e => hc ⟨r', e⟩
            have HA2 : Hid (list text (st.getD []) = none) := HA.out.trans (by
              cases r with
              | nil => rfl
              | cons c r => exact if_neg (fun e => hc ⟨r, by rw [e]⟩))
            clear hc
            go_wp2_with (go_at_call 57; refine (qclose_bad g 93 _ HC.out _ HR.out).mono ?_; rintro e w3 ⟨rfl, h3, h4⟩)
            go_ret
            exact .inr ⟨HA2.out, rfl, h3, grown_trans hgr h4⟩
      · have HR := Lib.hid hrs
        have c1 := hrs.at 1
        have HO := Lib.hid hno
        clear hrs hno
        by_cases hkn : k < n
        · go_wp2_with fail
          go_ret
          exact .inr ⟨HO.out, rfl, HR.out, hgr⟩
        · go_wp2_with fail
          go_ret
          exact .inr ⟨HO.out, rfl, HR.out, hgr⟩

end Wire
end Go.Proofs.Ytionidjhfcmgiaa

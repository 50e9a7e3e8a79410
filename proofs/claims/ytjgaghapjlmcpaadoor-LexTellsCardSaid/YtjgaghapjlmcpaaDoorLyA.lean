/- The reference's Lex. -/
import Derived.Test.YtjgaghapjlmcpaaDoorLxZ
namespace Go.Proofs.YtjgaghapjlmcpaaDoor
open Go.RowKit Wire Txt
set_option linter.unusedVariables false
set_option linter.unusedSimpArgs false
namespace Lx

theorem tok_suffix {c : UInt8} {r : List UInt8} {kind : Nat} {text : List UInt8} {n : Int} {rest : List UInt8} (h : tok c r = .got kind text n rest) : rest <:+ r := by
  unfold tok at h
  split at h
  · cases h
    exact List.suffix_refl _
  · split at h
    · unfold textT at h
      split at h
      · cases h
      · split at h
        · cases h
          exact List.drop_suffix _ _
        · cases h
    · split at h
      · rename_i hc
        have hr := (wordT_rest [] h).1
        rw [hr, List.dropWhile_cons_of_pos (isP_of hc)]
        exact List.dropWhile_suffix _
      · cases h
theorem tok_drop {s : ByteArray} {i : Nat} (hi : i < s.size) {kind : Nat} {text : List UInt8} {n : Int} {rest : List UInt8} (h : tok s[i] ((bl s).drop (i + 1)) = .got kind text n rest) :
    (bl s).drop (s.size - rest.length) = rest ∧ i + 1 ≤ s.size - rest.length ∧ rest.length ≤ s.size := by
  have h1 := (tok_suffix h).trans (List.drop_suffix (i + 1) (bl s))
  have h2 := List.suffix_iff_eq_drop.1 h1
  have h3 := tok_len h
  rw [List.length_drop, bl_len] at h3
  rw [bl_len] at h2
  exact ⟨h2.symm, by omega, by omega⟩
theorem tok_kind {c : UInt8} {r : List UInt8} {kind : Nat} {text : List UInt8} {n : Int} {rest : List UInt8} (h : tok c r = .got kind text n rest) : kind ≤ 3 := by
  rcases tok_is h with ⟨rfl, _⟩ | ⟨rfl, _⟩ | ⟨rfl, _⟩ | ⟨rfl, _⟩ <;> omega
/-- Where a comment that begins at i ends. -/
theorem note_at {s : ByteArray} {k : Nat} (hk : k < s.size) : ((bl s).drop k).dropWhile no10 = if s[k] = 10 then (bl s).drop k else ((bl s).drop (k + 1)).dropWhile no10 := by
  rw [drop_at hk]
  split
  · rename_i h
    rw [List.dropWhile_cons_of_neg (by rw [h]; decide)]
  · rename_i h
    rw [List.dropWhile_cons_of_pos (by simp [no10, h])]

structure QRel (W : World) (s : ByteArray) (ov lv iv : Value) (w : World) (i L : Nat) (T : List Tk) : Prop where
  lv : lv = .int .i64 L
  iv : iv = .int .i64 i
  row : Grow w W.heap.size 4 ov T.length (tks T)
  told : Hid (lexP (bl s) 1 = (lexP ((bl s).drop i) L).join T)
  le : i ≤ s.size
  line : L ≤ i + 1
  count : T.length ≤ i
  below : Below W.heap.size W w
theorem q_cell {w w' : World} {o : Obj} {xs : Array Value} {B n : Nat} {ov : Value} {ys : List Value} (hown : Grow w B 4 ov n ys) (hg : ((w.alloc (.cells xs 31)).alloc o).grownBy w' ov.ownBlock) (j : Nat) : w'.cell? ⟨w.heap.size, j, none⟩ = xs[j]? := by
  have hb : TB ((w.alloc (.cells xs 31)).alloc o) w.heap.size xs := Blk.kept (Blk.fresh w _ xs) o
  refine (hb.past hg fun e => ?_).at j
  have := (hown.block _ e.symm).2
  omega
theorem q_step {W wr w3 w4 : World} {s : ByteArray} {ov v4 : Value} {i L kind : Nat} {T : List Tk} {text rest : List UInt8} {m : Int} {o o2 : Obj} (h : QRel W s ov (.int .i64 L) (.int .i64 i) wr i L T) (hi : i < s.size) (hw : isW s[i] = false) (h35 : s[i] ≠ 35)
    (ht : tok s[i] ((bl s).drop (i + 1)) = .got kind text m rest) (b3 : Below wr.heap.size wr w3) (hown : Grow w4 W.heap.size 4 v4 (T.length + 1) (tks T ++ [.int .i64 kind, str text, .int .i64 m, .int .i64 L])) (g4 : ((w3.alloc o).alloc o2).grownBy w4 ov.ownBlock) (lv : Value) (hlv : lv = .int .i64 (nxt kind L)) :
    QRel W s v4 lv (.int .i64 ((s.size - rest.length : Nat) : Int)) w4 (s.size - rest.length) (nxt kind L) (T ++ [⟨kind, text, m, L⟩]) := by
  have hd := tok_drop hi ht
  have hn : nxt kind L ≤ L + 1 := by unfold nxt; split <;> omega
  have hrow := h.row
  have hline := h.line
  have hcount := h.count
  have bb := next_below h.below b3
  have b5 := (bb.alloc bb.size o).alloc (by have := bb.size; simp; omega) o2
  refine ⟨hlv, rfl, ?_, Lib.hid ?_, by omega, by omega, by simp; omega, b5.grown g4 b5.size fun k hk => (hrow.block k hk).1⟩
  · rw [List.length_append, tks_append]
    exact hown
  · rw [h.told.out, drop_at hi, lexP_got hw h35 ht, push_join, join_join, hd.1]

theorem q_out {W w1 w4 : World} {ov : Value} {n : Nat} {xs : List Value} {o o2 : Obj} (b1 : Below W.heap.size W w1) (hrow : Grow w1 W.heap.size 4 ov n xs) (g : ((w1.alloc o).alloc o2).grownBy w4 ov.ownBlock) : Below W.heap.size W w4 := by
  have b5 := (b1.alloc b1.size o).alloc (by have := b1.size; simp; omega) o2
  exact b5.grown g b5.size fun k hk => (hrow.block k hk).1

set_option maxRecDepth 8000 in
set_option maxHeartbeats 8000000 in
theorem rlex_any (src : List UInt8) (w : World) (hl : src.length ≤ 1000000) :
    Calls Tryd.prog 10 #[str src] w (LPost w (lexAll src)) := by
  obtain ⟨s, rfl⟩ := mk_bl src
  obtain ⟨i0, hi0, hi1, hi2, hi3⟩ := info_parts info_tk
  rw [bl_len] at hl
  by_cases hf : 20000 < s.size
  · have HX : Hid (lexAll (bl s) = .bad 6 0) := Lib.hid (by unfold lexAll; rw [bl_len, if_pos hf])
    generalize lexAll (bl s) = X at HX ⊢
    rw [str_bl]
    go_enter Tryd.func10, Tryd.ntmps10
    go_wp2_with fail
    go_returns
    exact lpost_bad HX.out (Below.refl _ _)
  · have HX : Hid (lexAll (bl s) = lexP (bl s) 1) := Lib.hid (by unfold lexAll; rw [bl_len, if_neg hf])
    generalize lexAll (bl s) = X at HX ⊢
    rw [str_bl]
    go_enter Tryd.func10, Tryd.ntmps10
    go_wp2_with fail
    go_loopw [2, 3, 4, 5, 6, 7, 8, 9, 10] (fun _ _ _ ov lv iv _ _ _ wr => ∃ i L T, QRel w s ov lv iv wr i L T) (fun _ _ _ _ _ iv _ _ _ _ => s.size - (intOf iv).toNat)
    case atStart => exact ⟨0, 1, [], rfl, rfl, Grow.nil _ _ _, Lib.hid (by rw [join_nil]; rfl), Nat.zero_le _, by omega, Nat.zero_le _, Below.refl _ _⟩
    case round =>
      obtain ⟨i, L, T, hR⟩ := hrel
      obtain rfl := hR.lv
      obtain rfl := hR.iv
      have HR := Lib.hid hR
      obtain ⟨A, cp, rfl⟩ := hR.row.slice
      have hle := hR.le
      have hline := hR.line
      have hcount := hR.count
      have HBB := Lib.hid (room4 (n := T.length) (by omega))
      have HG := Lib.hid hR.row
      clear hR
      have HTOK := Lib.hid (fun w => rtoken_any s i w (by omega) hle)
      by_cases hlt : i < s.size
      · cases hw : isW s[i] with
        | true =>
          have HW : Hid (QRel w s (.slice A T.length cp) (.int .i64 L) (.int .i64 ((i : Int) + 1)) wr (i + 1) L T) := Lib.hid ⟨rfl, rfl, HR.out.row, Lib.hid (by rw [HR.out.told.out, drop_at hlt, lexP_white hw]), hlt, by omega, by omega, HR.out.below⟩
          have hws : s[i] = 32 ∨ (s[i] ≠ 32 ∧ s[i] = 9) ∨ (s[i] ≠ 32 ∧ s[i] ≠ 9 ∧ s[i] = 13) := by
            unfold isW at hw
            simp only [Bool.or_eq_true, beq_iff_eq] at hw
            rcases hw with (h | h) | h
            · exact .inl h
            · exact .inr (.inl ⟨by rw [h]; decide, h⟩)
            · exact .inr (.inr ⟨by rw [h]; decide, by rw [h]; decide, h⟩)
          clear HTOK
          rcases hws with h1 | ⟨h1, h2⟩ | ⟨h1, h2, h3⟩
          · have t32 : ((s[i].toNat : Int) == 32) = true := byte_eq (k := 32) (by omega) h1
            clear h1
            clear hw
            go_wp2_with fail
            go_roundw
            case rel => exact ⟨_, _, _, HW.out⟩
            case measure => simp [intOf]; omega
          · have t32 : ((s[i].toNat : Int) == 32) = false := byte_ne (k := 32) (by omega) h1
            have t9 : ((s[i].toNat : Int) == 9) = true := byte_eq (k := 9) (by omega) h2
            clear h1 h2
            clear hw
            go_wp2_with fail
            go_roundw
            case rel => exact ⟨_, _, _, HW.out⟩
            case measure => simp [intOf]; omega
          · have t32 : ((s[i].toNat : Int) == 32) = false := byte_ne (k := 32) (by omega) h1
            have t9 : ((s[i].toNat : Int) == 9) = false := byte_ne (k := 9) (by omega) h2
            have t13 : ((s[i].toNat : Int) == 13) = true := byte_eq (k := 13) (by omega) h3
            clear h1 h2 h3
            clear hw
            go_wp2_with fail
            go_roundw
            case rel => exact ⟨_, _, _, HW.out⟩
            case measure => simp [intOf]; omega
        | false =>
          have hws : s[i] ≠ 32 ∧ s[i] ≠ 9 ∧ s[i] ≠ 13 := by
            refine ⟨?_, ?_, ?_⟩ <;> (intro h; rw [h] at hw; exact absurd hw (by decide))
          have t32 : ((s[i].toNat : Int) == 32) = false := byte_ne (k := 32) (by omega) hws.1
          have t9 : ((s[i].toNat : Int) == 9) = false := byte_ne (k := 9) (by omega) hws.2.1
          have t13 : ((s[i].toNat : Int) == 13) = false := byte_ne (k := 13) (by omega) hws.2.2
          clear hws
          by_cases h35 : s[i] = 35
          · have t35 : ((s[i].toNat : Int) == 35) = true := byte_eq (k := 35) (by omega) h35
            clear HTOK
            go_wp2_with fail
            go_loopw [7] (fun kv wx => (∃ k : Nat, kv = .int .i64 k ∧ i ≤ k ∧ k ≤ s.size ∧ Hid (((bl s).drop i).dropWhile no10 = ((bl s).drop k).dropWhile no10)) ∧ wr = wx) (fun kv _ => s.size - (intOf kv).toNat)
            case atStart => exact ⟨⟨i, rfl, Nat.le_refl _, hle, Lib.hid rfl⟩, rfl⟩
            case round =>
              obtain ⟨⟨k, rfl, hik, hk, HN⟩, rfl⟩ := hrel
              by_cases hkl : k < s.size
              · by_cases h10 : s[k] = 10
                · have t10 : ((s[k].toNat : Int) != 10) = false := by have : ((s[k].toNat : Int) == 10) = true := byte_eq (k := 10) (by omega) h10; simp only [bne]; rw [this]; rfl
                  have hlt2 : i < k := by
                    rcases Nat.lt_or_ge i k with h | h
                    · exact h
                    · obtain rfl : i = k := by omega
                      rw [h35] at h10
                      exact absurd h10 (by decide)
                  have HW : Hid (QRel w s (.slice A T.length cp) (.int .i64 L) (.int .i64 k) wr k L T) := Lib.hid ⟨rfl, rfl, HR.out.row, Lib.hid (by rw [HR.out.told.out, drop_at hlt, h35, lexP_note]; have := HN.out; rw [note_at hkl, if_pos h10, note_at hlt, if_neg (by rw [h35]; decide)] at this; rw [this]), hk, by omega, by omega, HR.out.below⟩
                  clear h10 h35
                  go_wp2_with fail
                  go_roundw
                  case rel => exact ⟨_, _, _, HW.out⟩
                  case measure => simp [intOf]; omega
                · have t10 : ((s[k].toNat : Int) != 10) = true := by have : ((s[k].toNat : Int) == 10) = false := byte_ne (k := 10) (by omega) h10; simp only [bne]; rw [this]; rfl
                  have HN2 : Hid (((bl s).drop i).dropWhile no10 = ((bl s).drop (k + 1)).dropWhile no10) := Lib.hid (by rw [HN.out, note_at hkl, if_neg h10])
                  clear h10 HN
                  go_wp2_with fail
                  go_roundw
                  case rel => exact ⟨⟨k + 1, by simp, by omega, hkl, HN2⟩, trivial⟩
                  case measure => simp [intOf]; omega
              · obtain rfl : k = s.size := by omega
                have HW : Hid (QRel w s (.slice A T.length cp) (.int .i64 L) (.int .i64 s.size) wr s.size L T) := Lib.hid ⟨rfl, rfl, HR.out.row, Lib.hid (by rw [HR.out.told.out, drop_at hlt, h35, lexP_note]; have := HN.out; rw [note_at hlt, if_neg (by rw [h35]; decide)] at this; rw [this, drop_end (Nat.le_refl _)]; rfl), Nat.le_refl _, by omega, by omega, HR.out.below⟩
                clear h35
                go_wp2_with fail
                go_roundw
                case rel => exact ⟨_, _, _, HW.out⟩
                case measure => simp [intOf]; omega
          · have t35 : ((s[i].toNat : Int) == 35) = false := byte_ne (k := 35) (by omega) h35
            have htk : tokA ((bl s).drop i) = tok s[i] ((bl s).drop (i + 1)) := by rw [drop_at hlt]; rfl
            rw [htk] at HTOK
            clear htk
            cases ht : tok s[i] ((bl s).drop (i + 1)) with
            | bad er =>
              have HE : Hid (lexP (bl s) 1 = .bad er L) := Lib.hid (by rw [HR.out.told.out, drop_at hlt, lexP_bad hw h35 ht]; rfl)
              rw [ht] at HTOK
              rcases tok_bad ht with rfl | rfl
              · clear ht hw h35
                go_wp2_with (first
                  | (go_at_call 24; refine (HTOK.out _).mono ?_; rintro e w3 ⟨b3, zz, rfl⟩
                     have B3 := Lib.hid (next_below HR.out.below b3)
                     clear b3))
                go_returns
                exact lpost_bad (HX.out.trans HE.out) (B3.out.alloc B3.out.size _)
              · clear ht hw h35
                go_wp2_with (first
                  | (go_at_call 24; refine (HTOK.out _).mono ?_; rintro e w3 ⟨b3, zz, rfl⟩
                     have B3 := Lib.hid (next_below HR.out.below b3)
                     clear b3))
                go_returns
                exact lpost_bad (HX.out.trans HE.out) (B3.out.alloc B3.out.size _)
            | got kind text m rest =>
              rw [ht] at HTOK
              have hk3 := tok_kind ht
              have k4 : ((kind : Int) == 4) = false := beq_eq_false_iff_ne.2 (by omega)
              have HHT := Lib.hid ht
              have HHW := Lib.hid hw
              have HH35 := Lib.hid h35
              have hend := (tok_drop hlt ht).2.1
              have hrl := (tok_drop hlt ht).2.2
              clear ht hw h35
              by_cases hk : kind = 3
              · subst hk
                go_wp2_with (first
                  | (go_at_call 24; refine (HTOK.out _).mono ?_; rintro e w3 ⟨b3, rfl⟩
                     have B3 := Lib.hid b3
                     have HG3 := Lib.hid (HG.out.below b3)
                     have hs3 := (next_below HR.out.below b3).size
                     clear b3)
                  | (at_builtin; refine wpList_append_src _ rfl _ _ _ _ rfl w.heap.size 31 i0 _ 4 40 Tryd.underlying23 hi0 hi1 hi2 hi3 rfl (by omega) _ _ _ rfl ((HG3.out.alloc _).alloc _) _ 1 [.int .i64 3, str text, .int .i64 m, .int .i64 L] rfl (Src.ofSlice _ Tryd.underlying23 ⟨w3.heap.size + 1, 0, none⟩ 1 1 _ rfl (new_cells4 w3 _ _ _) (by simp [Value.oneCell'])) HBB.out.1 HBB.out.2 (by simp; omega) ?_; intro v4 w4 hown4 hg4 _
                     have c4 := q_cell HG3.out hg4 0
                     have HQ := Lib.hid (q_step HR.out hlt HHW.out HH35.out HHT.out B3.out hown4 hg4 (.int .i64 ((L : Int) + 1)) rfl)
                     clear hown4 hg4))
                go_roundw
                case rel => exact ⟨_, _, _, HQ.out⟩
                case measure => simp [intOf]; omega
              · have k3 : ((kind : Int) == 3) = false := beq_eq_false_iff_ne.2 (by omega)
                have hnx : nxt kind L = L := by unfold nxt; rw [if_neg hk]
                go_wp2_with (first
                  | (go_at_call 24; refine (HTOK.out _).mono ?_; rintro e w3 ⟨b3, rfl⟩
                     have B3 := Lib.hid b3
                     have HG3 := Lib.hid (HG.out.below b3)
                     have hs3 := (next_below HR.out.below b3).size
                     clear b3)
                  | (at_builtin; refine wpList_append_src _ rfl _ _ _ _ rfl w.heap.size 31 i0 _ 4 40 Tryd.underlying23 hi0 hi1 hi2 hi3 rfl (by omega) _ _ _ rfl ((HG3.out.alloc _).alloc _) _ 1 [.int .i64 kind, str text, .int .i64 m, .int .i64 L] rfl (Src.ofSlice _ Tryd.underlying23 ⟨w3.heap.size + 1, 0, none⟩ 1 1 _ rfl (new_cells4 w3 _ _ _) (by simp [Value.oneCell'])) HBB.out.1 HBB.out.2 (by simp; omega) ?_; intro v4 w4 hown4 hg4 _
                     have c4 := q_cell HG3.out hg4 0
                     have HQ := Lib.hid (q_step HR.out hlt HHW.out HH35.out HHT.out B3.out hown4 hg4 (.int .i64 L) (by rw [hnx]))
                     clear hown4 hg4))
                go_roundw
                case rel => exact ⟨_, _, _, HQ.out⟩
                case measure => simp [intOf]; omega
      · obtain rfl : i = s.size := by omega
        have HE : Hid (lexP (bl s) 1 = .ok (T ++ [fin L])) := Lib.hid (by rw [HR.out.told.out, drop_end (Nat.le_refl _)]; rfl)
        rw [drop_end (Nat.le_refl _)] at HTOK
        clear hlt
        go_wp2_with (first
          | (go_at_call 24; refine (HTOK.out _).mono ?_; rintro e w3 ⟨b3, rfl⟩
             have B3 := Lib.hid b3
             have HG3 := Lib.hid (HG.out.below b3)
             have hs3 := (next_below HR.out.below b3).size
             clear b3)
          | (at_builtin; refine wpList_append_src _ rfl _ _ _ _ rfl w.heap.size 31 i0 _ 4 40 Tryd.underlying23 hi0 hi1 hi2 hi3 rfl (by omega) _ _ _ rfl ((HG3.out.alloc _).alloc _) _ 1 [.int .i64 4, .string ⟨#[]⟩, .int .i64 0, .int .i64 L] rfl (Src.ofSlice _ Tryd.underlying23 ⟨w3.heap.size + 1, 0, none⟩ 1 1 _ rfl (new_cells4 w3 _ _ _) (by simp [Value.oneCell'])) HBB.out.1 HBB.out.2 (by simp; omega) ?_; intro v4 w4 hown4 hg4 _
             have c4 := q_cell HG3.out hg4 0
             have HV := Lib.hid (lex_has hown4)
             have HO := Lib.hid (q_out (next_below HR.out.below B3.out) HG3.out hg4)
             clear hown4 hg4))
        go_returns
        exact lpost_ok (HX.out.trans HE.out) HO.out HV.out
end Lx
end Go.Proofs.YtjgaghapjlmcpaaDoor

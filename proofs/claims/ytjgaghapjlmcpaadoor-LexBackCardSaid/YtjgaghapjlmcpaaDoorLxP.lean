/- Package lex: has, Word, textSize, and the reader's take and skipBlank. -/
import Derived.Test.YtjgaghapjlmcpaaDoorLxL
import Derived.Test.YtjgaghapjlmcpaaDoorLxT
import Derived.Deep.QuietTactic
import Derived.BigQuiet
import Derived.Deep.Draws
namespace Go.Proofs.YtjgaghapjlmcpaaDoor
open Go.RowKit Wire Txt
set_option linter.unusedVariables false
set_option linter.unusedSimpArgs false
namespace Lx

theorem hasFirst_any (c : UInt8) (w : World) : Calls Tryd.prog 22 #[.string ⟨firstS.toArray⟩, .int .u8 c.toNat] w fun e w' => e = .returned (.bool (isL c)) ∧ w' = w := by
  have h := index_mem firstS c
  rw [first_is] at h
  have HC := Lib.hid (indexByte_any ⟨firstS.toArray⟩ c w)
  rw [show bl ⟨firstS.toArray⟩ = firstS from rfl] at HC
  generalize Lib.indexByte firstS c = z at h HC
  generalize (⟨firstS.toArray⟩ : ByteArray) = S at HC ⊢
  go_enter Tryd.func22, Tryd.ntmps22
  go_wp2_with (go_at_call 34; refine HC.out.mono ?_; rintro e w1 ⟨rfl, rfl⟩)
  go_ret
  exact ⟨by rw [← h]; rfl, rfl⟩
theorem hasHead_any (c : UInt8) (w : World) : Calls Tryd.prog 22 #[.string ⟨headS.toArray⟩, .int .u8 c.toNat] w fun e w' => e = .returned (.bool (isL c || isD c)) ∧ w' = w := by
  have h := index_mem headS c
  rw [head_is] at h
  have HC := Lib.hid (indexByte_any ⟨headS.toArray⟩ c w)
  rw [show bl ⟨headS.toArray⟩ = headS from rfl] at HC
  generalize Lib.indexByte headS c = z at h HC
  generalize (⟨headS.toArray⟩ : ByteArray) = S at HC ⊢
  go_enter Tryd.func22, Tryd.ntmps22
  go_wp2_with (go_at_call 34; refine HC.out.mono ?_; rintro e w1 ⟨rfl, rfl⟩)
  go_ret
  exact ⟨by rw [← h]; rfl, rfl⟩

theorem str_take (s : ByteArray) (n : Nat) : str ((bl s).take n) = .string (s.extract 0 n) := by
  obtain ⟨⟨l⟩⟩ := s
  rw [show (⟨⟨l⟩⟩ : ByteArray) = ⟨l.toArray⟩ from rfl, bytes_extract, List.drop_zero]
theorem str_drop (s : ByteArray) (n : Nat) : str ((bl s).drop n) = .string (s.extract n s.size) := by
  obtain ⟨⟨l⟩⟩ := s
  rw [show (⟨⟨l⟩⟩ : ByteArray) = ⟨l.toArray⟩ from rfl, bytes_extract, show (⟨l.toArray⟩ : ByteArray).size = l.length from rfl, List.take_length]

abbrev ptr (b : Nat) : Value := .pointer (some ⟨b, 0, none⟩)
/-- A reader: what it has not read, and its line. -/
abbrev RD (w : World) (b : Nat) (l : List UInt8) (L : Nat) : Prop := Blk w b 39 #[str l, .int .i64 L]

theorem take_any {w : World} {b : Nat} {l : List UInt8} {L n : Nat} (h : RD w b l L) (hn : n ≤ l.length) (hl : l.length ≤ 1000000000) :
    Calls Tryd.prog 35 #[ptr b, .int .i64 n] w fun e w' => e = .returned (str (l.take n)) ∧ RD w' b (l.drop n) L ∧ w.grownBy w' (some b) := by
  obtain ⟨s, rfl⟩ : ∃ s : ByteArray, l = bl s := ⟨⟨l.toArray⟩, rfl⟩
  rw [bl_len] at hn hl
  have c0 : w.cell? ⟨b, 0, none⟩ = some (.string s) := h.at 0
  have HB : Hid (RD (w.setCell ⟨b, 0, none⟩ (.string (s.extract n s.size))) b ((bl s).drop n) L) := Lib.hid (by rw [← str_drop]; exact Blk.put h 0 _)
  have HG : Hid (w.grownBy (w.setCell ⟨b, 0, none⟩ (.string (s.extract n s.size))) (some b)) := Lib.hid only_set
  have hf := h.thaw 0
  rw [str_take]
  clear h
  go_enter Tryd.func35, Tryd.ntmps35
  go_wp2_with fail
  go_ret
  exact ⟨rfl, HB.out, HG.out⟩

theorem skip_hash {l m : List UInt8} (h : l.dropWhile isW = m) (hh : (m.head? == some 35) = true) : skip l = m.dropWhile no10 := by
  unfold skip
  rw [h]
  cases m with
  | nil => simp at hh
  | cons c r =>
    obtain rfl : c = 35 := by simpa using hh
    rw [List.dropWhile_cons_of_pos (by decide)]
    rfl
theorem skip_plain {l m : List UInt8} (h : l.dropWhile isW = m) (hh : (m.head? == some 35) = false) : skip l = m := by
  unfold skip
  rw [h]
  split
  · simp at hh
  · rfl
theorem mk_bl (l : List UInt8) : ∃ d : ByteArray, bl d = l := ⟨⟨l.toArray⟩, rfl⟩

/-- What the first statement leaves. -/
theorem rd_turn {w w1 : World} {b : Nat} {l : List UInt8} {d : ByteArray} {L : Nat} (h : RD w b l L) (b1 : Below w.heap.size w w1) : RD w1 b l L ∧ RD (w1.setCell ⟨b, 0, none⟩ (.string d)) b (bl d) L ∧ w.grownBy (w1.setCell ⟨b, 0, none⟩ (.string d)) (some b) := by
  have h1 : RD w1 b l L := h.under b1 h.inside
  exact ⟨h1, Blk.put h1 0 _, grown_trans (only_one b1) only_set⟩

set_option maxHeartbeats 1000000 in
theorem skipBlank_any {w : World} {b : Nat} {l : List UInt8} {L : Nat} (h : RD w b l L) (hl : l.length ≤ 1000000000) :
    Calls Tryd.prog 19 #[ptr b] w fun e w' => e = .returned (.tuple #[]) ∧ RD w' b (skip l) L ∧ w.grownBy w' (some b) := by
  obtain ⟨s, rfl⟩ := mk_bl l
  have c0 : w.cell? ⟨b, 0, none⟩ = some (.string s) := h.at 0
  have HT := Lib.hid (trimWhite_any s w)
  obtain ⟨d, hd⟩ := mk_bl ((bl s).dropWhile isW)
  have hdl : (bl d).length ≤ (bl s).length := by rw [hd]; exact drop_len _ _
  have hk1 := fun hh => skip_hash hd.symm hh
  have hk2 := fun hh => skip_plain hd.symm hh
  rw [← hd, str_bl] at HT
  have HP := Lib.hid (fun w => hasPrefix_any d w)
  have HX := Lib.hid (fun w => indexLf_any d w)
  have HH := Lib.hid h
  generalize skip (bl s) = res at hk1 hk2 ⊢
  clear hd
  cases hh : ((bl d).head? == some 35) with
  | false =>
    have e := hk2 hh
    subst e
    rw [hh] at HP
    clear hk1 hk2 h
    go_enter Tryd.func19, Tryd.ntmps19
    go_wp2_with (first
      | (go_at_call 29; refine HT.out.mono ?_; rintro e w1 ⟨rfl, b1⟩
         obtain ⟨h1, h2, h3⟩ := rd_turn (d := d) HH.out b1
         have c1 : w1.cell? ⟨b, 0, none⟩ = some (.string s) := h1.at 0
         have f1 := h1.thaw 0
         have H2 := Lib.hid h2
         have H3 := Lib.hid h3
         clear h1 h2 h3)
      | (go_at_call 33; refine (HP.out _).mono ?_; rintro e w2 ⟨rfl, rfl⟩))
    first | go_returns | go_ret
    exact ⟨rfl, H2.out, H3.out⟩
  | true =>
    have e := hk1 hh
    subst e
    rw [hh] at HP
    have HL := Lib.hid (show (bl d).length ≤ 1000000000 from by omega)
    have hsd := bl_len d
    clear hk1 hk2 h
    rcases index_lf (bl d) with ⟨hi, h2⟩ | ⟨k, hi, hk, h2⟩
    · rw [hi] at HX
      rw [h2]
      have HE : Hid ((bl d).drop d.size = []) := Lib.hid (drop_end (Nat.le_refl _))
      clear hi h2
      go_enter Tryd.func19, Tryd.ntmps19
      go_wp2_with (first
        | (go_at_call 29; refine HT.out.mono ?_; rintro e w1 ⟨rfl, b1⟩
           obtain ⟨h1, h2, h3⟩ := rd_turn (d := d) HH.out b1
           have c1 : w1.cell? ⟨b, 0, none⟩ = some (.string s) := h1.at 0
           have f1 := h1.thaw 0
           have H2 := Lib.hid h2
           have H3 := Lib.hid h3
           clear h1 h2 h3)
        | (go_at_call 33; refine (HP.out _).mono ?_; rintro e w2 ⟨rfl, rfl⟩)
        | (go_at_call 34; refine (HX.out _).mono ?_; rintro e w2 ⟨rfl, rfl⟩)
        | (go_at_call 35; refine (take_any H2.out (n := d.size) (by rw [bl_len]; exact Nat.le_refl _) HL.out).mono ?_; rintro e w2 ⟨rfl, h4, h5⟩))
      go_end0
      exact ⟨rfl, by rw [HE.out] at h4; exact h4, grown_trans H3.out h5⟩
    · rw [hi] at HX
      rw [h2]
      have HK := Lib.hid hk
      clear hi h2 hk
      go_enter Tryd.func19, Tryd.ntmps19
      go_wp2_with (first
        | (go_at_call 29; refine HT.out.mono ?_; rintro e w1 ⟨rfl, b1⟩
           obtain ⟨h1, h2, h3⟩ := rd_turn (d := d) HH.out b1
           have c1 : w1.cell? ⟨b, 0, none⟩ = some (.string s) := h1.at 0
           have f1 := h1.thaw 0
           have H2 := Lib.hid h2
           have H3 := Lib.hid h3
           clear h1 h2 h3)
        | (go_at_call 33; refine (HP.out _).mono ?_; rintro e w2 ⟨rfl, rfl⟩)
        | (go_at_call 34; refine (HX.out _).mono ?_; rintro e w2 ⟨rfl, rfl⟩)
        | (go_at_call 35; refine (take_any H2.out (n := k) (Nat.le_of_lt HK.out) HL.out).mono ?_; rintro e w2 ⟨rfl, h4, h5⟩))
      go_end0
      exact ⟨rfl, h4, grown_trans H3.out h5⟩
end Lx
end Go.Proofs.YtjgaghapjlmcpaaDoor

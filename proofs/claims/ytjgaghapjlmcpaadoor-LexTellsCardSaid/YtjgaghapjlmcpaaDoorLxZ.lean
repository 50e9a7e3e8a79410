/- The reference's token. -/
import Derived.Test.YtjgaghapjlmcpaaDoorLxY
import Derived.Test.YtjgaghapjlmcpaaDoorLxU
namespace Go.Proofs.YtjgaghapjlmcpaaDoor
open Go.RowKit Wire Txt
set_option linter.unusedVariables false
set_option linter.unusedSimpArgs false
namespace Lx

def tokA : List UInt8 → Tr
  | [] => .got 4 [] 0 []
  | c :: r => tok c r

theorem end_here {n a : Nat} (h : a = n) : a = n - ([] : List UInt8).length := by simp [h]
theorem end_at {s : ByteArray} {k : Nat} (h : k ≤ s.size) : k = s.size - ((bl s).drop k).length := by rw [List.length_drop, bl_len]; omega
theorem blk_fresh (w : World) : Blk (w.alloc (.cells #[.int .i64 0, .string ⟨#[]⟩, .int .i64 0, .int .i64 0] 31)) w.heap.size 31 #[.int .i64 0, .string ⟨#[]⟩, .int .i64 0, .int .i64 0] := Blk.fresh w _ _
theorem bl_cut (s : ByteArray) (a k : Nat) : bl (s.extract a k) = ((bl s).take k).drop a := by
  obtain ⟨⟨l⟩⟩ := s
  rw [show (⟨⟨l⟩⟩ : ByteArray) = ⟨l.toArray⟩ from rfl, bytes_extract]
/-- What a word is when its end is found. -/
theorem word_cut {s : ByteArray} {a k : Nat} (hak : a ≤ k) (hk : k ≤ s.size) (h : ((bl s).drop a).dropWhile isP = (bl s).drop k) : bl (s.extract a k) = ((bl s).drop a).takeWhile isP := by
  rw [← (take_while isP ((bl s).drop a)).1, h, List.length_drop, List.length_drop, bl_len, bl_cut, List.drop_take]
  congr 1
  omega

theorem b_more {w w1 : World} {o : Obj} (h : Below w.heap.size w w1) : Below w.heap.size w (w1.alloc o) := h.alloc h.size o

set_option maxHeartbeats 4000000 in
theorem rtoken_any (s : ByteArray) (a : Nat) (w : World) (hs : s.size ≤ 1000000) (ha : a ≤ s.size) :
    Calls Tryd.prog 24 #[.string s, .int .i64 a] w (QEnd s.size w (tokA ((bl s).drop a))) := by
  generalize hT : tokA ((bl s).drop a) = T
  have HR := Lib.hid (blk_fresh w)
  have HB : Hid (Below w.heap.size w (w.alloc (.cells #[.int .i64 0, .string ⟨#[]⟩, .int .i64 0, .int .i64 0] 31))) := Lib.hid ((Below.refl _ _).alloc (Nat.le_refl _) _)
  by_cases hlt : a < s.size
  · rw [drop_at hlt] at hT
    have hT1 : tok s[a] ((bl s).drop (a + 1)) = T := hT
    clear hT
    by_cases c10 : s[a] = 10
    · have t10 : ((s[a].toNat : Int) == 10) = true := byte_eq (k := 10) (by omega) c10
      have HT : Hid (T = .got 3 [] 0 ((bl s).drop (a + 1))) := Lib.hid (by rw [← hT1, c10]; rfl)
      have HE := Lib.hid (end_at (s := s) (k := a + 1) hlt)
      clear hT1 c10
      have r0 := Blk.fresh w 31 #[.int .i64 0, .string ⟨#[]⟩, .int .i64 0, .int .i64 0]
      have t0 := r0.at 0
      have t1 := r0.at 1
      have t2 := r0.at 2
      have t3 := r0.at 3
      have f0 := r0.thaw 0
      have f1 := r0.thaw 1
      have f2 := r0.thaw 2
      have f3 := r0.thaw 3
      clear r0
      go_enter Tryd.func24, Tryd.ntmps24
      go_wp2_with fail
      exact bodyPost_ret (v := .tuple #[Tk.val ⟨3, [], 0, 0⟩, .int .i64 ((a + 1 : Nat) : Int), .int .i64 0]) (by simp [results, Tryd.results24, go_sem, t0, t1, t2, t3]) rfl (qend_got HT.out HE.out ((Below.refl _ _).alloc (Nat.le_refl _) _))
    · have t10 : ((s[a].toNat : Int) == 10) = false := byte_ne (k := 10) (by omega) c10
      by_cases c34 : s[a] = 34
      · have t34 : ((s[a].toNat : Int) == 34) = true := byte_eq (k := 34) (by omega) c34
        have hq : textT ((bl s).drop (a + 1)) = T := by rw [← hT1, c34]; rfl
        have HQ := Lib.hid (fun w => rquoted_any s a w hs hlt c34)
        rw [hq] at HQ
        clear hT1 c10 hq c34
        cases T with
        | bad er =>
          go_enter Tryd.func24, Tryd.ntmps24
          go_wp2_with (first
            | (go_at_call 39; refine (HQ.out _).mono ?_; rintro e w5 ⟨b5, z, rfl⟩
               have r5 := HR.out.under b5 HR.out.inside
               have B5 := Lib.hid (HB.out.trans (b5.mono HB.out.size))
               have t0 := r5.at 0
               have t1 := r5.at 1
               have t2 := r5.at 2
               have t3 := r5.at 3
               have f0 := r5.thaw 0
               have f1 := r5.thaw 1
               have f2 := r5.thaw 2
               have f3 := r5.thaw 3
               clear b5 r5))
          exact bodyPost_ret (v := .tuple #[zeroTk, .int .i64 z, .int .i64 er]) (by simp [results, Tryd.results24, go_sem, t0, t1, t2, t3]) rfl (qend_bad rfl (b_poke4 B5.out (Nat.le_refl _) _ _ _ _))
        | got kind text m rest =>
          go_enter Tryd.func24, Tryd.ntmps24
          go_wp2_with (first
            | (go_at_call 39; refine (HQ.out _).mono ?_; rintro e w5 ⟨b5, rfl⟩
               have r5 := HR.out.under b5 HR.out.inside
               have B5 := Lib.hid (HB.out.trans (b5.mono HB.out.size))
               have t0 := r5.at 0
               have t1 := r5.at 1
               have t2 := r5.at 2
               have t3 := r5.at 3
               have f0 := r5.thaw 0
               have f1 := r5.thaw 1
               have f2 := r5.thaw 2
               have f3 := r5.thaw 3
               clear b5 r5))
          exact bodyPost_ret (v := .tuple #[Tk.val ⟨kind, text, m, 0⟩, .int .i64 ((s.size - rest.length : Nat) : Int), .int .i64 0]) (by simp [results, Tryd.results24, go_sem, t0, t1, t2, t3]) rfl (qend_got rfl rfl (b_poke4 B5.out (Nat.le_refl _) _ _ _ _))
      · have t34 : ((s[a].toNat : Int) == 34) = false := byte_ne (k := 34) (by omega) c34
        have HL := Lib.hid (fun w => letter_any s[a] w)
        have HG := Lib.hid (fun w => digit9_any s[a] w)
        cases hc : (isL s[a] || isD s[a]) with
        | false =>
          rw [Bool.or_eq_false_iff] at hc
          rw [hc.1] at HL
          rw [hc.2] at HG
          have HT : Hid (T = .bad 11) := Lib.hid (by rw [← hT1]; unfold tok; rw [if_neg c10, if_neg c34, hc.1, hc.2]; rfl)
          clear hT1 c10 c34 hc
          have r0 := Blk.fresh w 31 #[.int .i64 0, .string ⟨#[]⟩, .int .i64 0, .int .i64 0]
          have t0 := r0.at 0
          have t1 := r0.at 1
          have t2 := r0.at 2
          have t3 := r0.at 3
          have f0 := r0.thaw 0
          have f1 := r0.thaw 1
          have f2 := r0.thaw 2
          have f3 := r0.thaw 3
          clear r0
          go_enter Tryd.func24, Tryd.ntmps24
          go_wp2_with (first
            | (go_at_call 30; refine (HL.out _).mono ?_; rintro e w1 ⟨rfl, rfl⟩)
            | (go_at_call 40; refine (HG.out _).mono ?_; rintro e w1 ⟨rfl, rfl⟩))
          exact bodyPost_ret (v := .tuple #[zeroTk, .int .i64 0, .int .i64 11]) (by simp [results, Tryd.results24, go_sem, t0, t1, t2, t3]) rfl (qend_bad HT.out ((Below.refl _ _).alloc (Nat.le_refl _) _))
        | true =>
          have hT2 : wordT (((bl s).drop a).takeWhile isP) (((bl s).drop a).dropWhile isP) = T := by rw [drop_at hlt, ← tok_won hc]; exact hT1
          have hpa := isP_of hc
          have HW : Hid (∀ k w, a ≤ k → k ≤ s.size → a < k → ((bl s).drop a).dropWhile isP = (bl s).drop k → Calls Tryd.prog 41 #[.string (s.extract a k)] w (QOut w T)) := Lib.hid fun k w h1 h2 h3 h4 => by
            have hx := word_cut h1 h2 h4
            rw [← hT2, ← hx, h4]
            refine rwordT_any (s.extract a k) w (by rw [ByteArray.size_extract]; omega) _ ⟨s[a], ((bl s).drop (a + 1)).takeWhile isP, ?_, hc⟩
            rw [hx, drop_at hlt, List.takeWhile_cons_of_pos hpa]
          have HPA := Lib.hid hpa
          have HLG : Hid ((isL s[a] || isD s[a]) = true) := Lib.hid hc
          have HTW0 := Lib.hid hT2
          have HTB : Hid (tok s[a] ((bl s).drop (a + 1)) = T) := Lib.hid hT1
          clear hT1 hT2 hpa c10 c34
          generalize hg1 : isL s[a] = bl1 at HL hc HLG
          generalize hg2 : isD s[a] = bd1 at HG hc HLG
          clear hg1 hg2 hc
          have HD0 : Hid (((bl s).drop a).dropWhile isP = ((bl s).drop (a + 1)).dropWhile isP) := Lib.hid (by rw [drop_at hlt, List.dropWhile_cons_of_pos HPA.out])
          have HTW : Hid (wordT (((bl s).drop a).takeWhile isP) (((bl s).drop a).dropWhile isP) = T) := HTW0
          cases bl1 with
          | false =>
            obtain rfl : bd1 = true := HLG.out
            go_enter Tryd.func24, Tryd.ntmps24
            go_wp2_with (first
              | (go_at_call 30; refine (HL.out _).mono ?_; rintro e w1 ⟨rfl, rfl⟩)
              | (go_at_call 40; refine (HG.out _).mono ?_; rintro e w1 ⟨rfl, rfl⟩))
            have HB1 := HB
            clear HB
            generalize w.alloc (.cells #[.int .i64 0, .string ⟨#[]⟩, .int .i64 0, .int .i64 0] 31) = W1 at HB1 HR ⊢
            have HB := HB1
            clear HB1
            go_loopw [8] (fun iv wr => (∃ k : Nat, iv = .int .i64 k ∧ a ≤ k ∧ k ≤ s.size ∧ Hid (((bl s).drop a).dropWhile isP = ((bl s).drop k).dropWhile isP)) ∧ W1 = wr) (fun iv _ => s.size - (intOf iv).toNat)
            case atStart => exact ⟨⟨a, rfl, Nat.le_refl _, ha, Lib.hid rfl⟩, rfl⟩
            case round =>
              obtain ⟨⟨k, rfl, hak0, hk, HN⟩, rfl⟩ := hrel
              by_cases hkl : k < s.size
              · have HP := Lib.hid (fun w => part9_any s[k] w)
                cases hp : isP s[k] with
                | true =>
                  rw [hp] at HP
                  have HN2 : Hid (((bl s).drop a).dropWhile isP = ((bl s).drop (k + 1)).dropWhile isP) := Lib.hid (by rw [HN.out, drop_at hkl, List.dropWhile_cons_of_pos hp])
                  clear hp HN
                  go_wp2_with (go_at_call 31; refine (HP.out _).mono ?_; rintro e w5 ⟨rfl, rfl⟩)
                  go_roundw
                  case rel => exact ⟨⟨k + 1, by simp, by omega, hkl, HN2⟩, trivial⟩
                  case measure => simp [intOf]; omega
                | false =>
                  rw [hp] at HP
                  have HK : Hid (((bl s).drop a).dropWhile isP = (bl s).drop k) := Lib.hid (by rw [HN.out, drop_at hkl, List.dropWhile_cons_of_neg (by rw [hp]; decide)])
                  have hak : a < k := by
                    rcases Nat.lt_or_ge a k with h | h
                    · exact h
                    · obtain rfl : a = k := by omega
                      rw [HPA.out] at hp
                      cases hp
                  clear hp HN
                  have HWK : Hid (∀ w, Calls Tryd.prog 41 #[.string (s.extract a k)] w (QOut w T)) := Lib.hid fun w => HW.out k w (by omega) hk hak HK.out
                  have hcut : (0 : Int) ≤ (a : Int) ∧ (a : Int) ≤ (k : Int) ∧ (k : Int) ≤ (s.size : Int) := by omega
                  have HRST : Hid (∀ kind text m rest, T = .got kind text m rest → rest = (bl s).drop k) := Lib.hid fun kind text m rest hT => by
                    have := HTW.out
                    rw [HK.out, hT] at this
                    exact (wordT_rest [] this).1
                  cases T with
                  | bad er =>
                    go_wp2_with (first
                      | (go_at_call 31; refine (HP.out _).mono ?_; rintro e w5 ⟨rfl, rfl⟩)
                      | (go_at_call 41; refine (HWK.out _).mono ?_; rintro e w6 ⟨b6, rfl⟩
                         have r6 := HR.out.under b6 HR.out.inside
                         have B6 := Lib.hid (HB.out.trans (b6.mono HB.out.size))
                         have t0 := fun o => (r6.kept o).at 0
                         have t1 := fun o => (r6.kept o).at 1
                         have t2 := fun o => (r6.kept o).at 2
                         have t3 := fun o => (r6.kept o).at 3
                         have f0 := fun o => (r6.kept o).thaw 0
                         have f1 := fun o => (r6.kept o).thaw 1
                         have f2 := fun o => (r6.kept o).thaw 2
                         have f3 := fun o => (r6.kept o).thaw 3
                         clear b6 r6))
                    exact bodyPost_ret (v := .tuple #[zeroTk, .int .i64 (k : Int), .int .i64 er]) (by simp [results, Tryd.results24, go_sem, t0, t1, t2, t3]) rfl (qend_bad rfl (b_poke4 (b_more B6.out) (Nat.le_refl _) _ _ _ _))
                  | got kind text m rest =>
                    have HE : Hid (k = s.size - rest.length) := Lib.hid (by rw [HRST.out _ _ _ _ rfl]; exact end_at hk)
                    go_wp2_with (first
                      | (go_at_call 31; refine (HP.out _).mono ?_; rintro e w5 ⟨rfl, rfl⟩)
                      | (go_at_call 41; refine (HWK.out _).mono ?_; rintro e w6 ⟨b6, rfl⟩
                         have r6 := HR.out.under b6 HR.out.inside
                         have B6 := Lib.hid (HB.out.trans (b6.mono HB.out.size))
                         have t0 := fun o => (r6.kept o).at 0
                         have t1 := fun o => (r6.kept o).at 1
                         have t2 := fun o => (r6.kept o).at 2
                         have t3 := fun o => (r6.kept o).at 3
                         have f0 := fun o => (r6.kept o).thaw 0
                         have f1 := fun o => (r6.kept o).thaw 1
                         have f2 := fun o => (r6.kept o).thaw 2
                         have f3 := fun o => (r6.kept o).thaw 3
                         clear b6 r6))
                    exact bodyPost_ret (v := .tuple #[Tk.val ⟨kind, text, m, 0⟩, .int .i64 (k : Int), .int .i64 0]) (by simp [results, Tryd.results24, go_sem, t0, t1, t2, t3]) rfl (qend_got rfl HE.out (b_poke4 (b_more B6.out) (Nat.le_refl _) _ _ _ _))
              · obtain rfl : k = s.size := by omega
                have HK : Hid (((bl s).drop a).dropWhile isP = (bl s).drop s.size) := Lib.hid (by rw [HN.out, drop_end (Nat.le_refl _)]; rfl)
                have hak : a < s.size := hlt
                clear HN
                have HWK : Hid (∀ w, Calls Tryd.prog 41 #[.string (s.extract a s.size)] w (QOut w T)) := Lib.hid fun w => HW.out s.size w (by omega) hk hak HK.out
                have hcut : (0 : Int) ≤ (a : Int) ∧ (a : Int) ≤ (s.size : Int) ∧ (s.size : Int) ≤ (s.size : Int) := by omega
                have HRST : Hid (∀ kind text m rest, T = .got kind text m rest → rest = (bl s).drop s.size) := Lib.hid fun kind text m rest hT => by
                  have := HTW.out
                  rw [HK.out, hT] at this
                  exact (wordT_rest [] this).1
                cases T with
                | bad er =>
                  go_wp2_with (first
                    | (go_at_call 41; refine (HWK.out _).mono ?_; rintro e w6 ⟨b6, rfl⟩
                       have r6 := HR.out.under b6 HR.out.inside
                       have B6 := Lib.hid (HB.out.trans (b6.mono HB.out.size))
                       have t0 := fun o => (r6.kept o).at 0
                       have t1 := fun o => (r6.kept o).at 1
                       have t2 := fun o => (r6.kept o).at 2
                       have t3 := fun o => (r6.kept o).at 3
                       have f0 := fun o => (r6.kept o).thaw 0
                       have f1 := fun o => (r6.kept o).thaw 1
                       have f2 := fun o => (r6.kept o).thaw 2
                       have f3 := fun o => (r6.kept o).thaw 3
                       clear b6 r6))
                  exact bodyPost_ret (v := .tuple #[zeroTk, .int .i64 (s.size : Int), .int .i64 er]) (by simp [results, Tryd.results24, go_sem, t0, t1, t2, t3]) rfl (qend_bad rfl (b_poke4 (b_more B6.out) (Nat.le_refl _) _ _ _ _))
                | got kind text m rest =>
                  have HE : Hid (s.size = s.size - rest.length) := Lib.hid (by rw [HRST.out _ _ _ _ rfl]; exact end_at hk)
                  go_wp2_with (first
                    | (go_at_call 41; refine (HWK.out _).mono ?_; rintro e w6 ⟨b6, rfl⟩
                       have r6 := HR.out.under b6 HR.out.inside
                       have B6 := Lib.hid (HB.out.trans (b6.mono HB.out.size))
                       have t0 := fun o => (r6.kept o).at 0
                       have t1 := fun o => (r6.kept o).at 1
                       have t2 := fun o => (r6.kept o).at 2
                       have t3 := fun o => (r6.kept o).at 3
                       have f0 := fun o => (r6.kept o).thaw 0
                       have f1 := fun o => (r6.kept o).thaw 1
                       have f2 := fun o => (r6.kept o).thaw 2
                       have f3 := fun o => (r6.kept o).thaw 3
                       clear b6 r6))
                  exact bodyPost_ret (v := .tuple #[Tk.val ⟨kind, text, m, 0⟩, .int .i64 (s.size : Int), .int .i64 0]) (by simp [results, Tryd.results24, go_sem, t0, t1, t2, t3]) rfl (qend_got rfl HE.out (b_poke4 (b_more B6.out) (Nat.le_refl _) _ _ _ _))
          | true =>
            go_enter Tryd.func24, Tryd.ntmps24
            go_wp2_with (go_at_call 30; refine (HL.out _).mono ?_; rintro e w1 ⟨rfl, rfl⟩)
            have HB1 := HB
            clear HB
            generalize w.alloc (.cells #[.int .i64 0, .string ⟨#[]⟩, .int .i64 0, .int .i64 0] 31) = W1 at HB1 HR ⊢
            have HB := HB1
            clear HB1
            go_loopw [8] (fun iv wr => (∃ k : Nat, iv = .int .i64 k ∧ a ≤ k ∧ k ≤ s.size ∧ Hid (((bl s).drop a).dropWhile isP = ((bl s).drop k).dropWhile isP)) ∧ W1 = wr) (fun iv _ => s.size - (intOf iv).toNat)
            case atStart => exact ⟨⟨a, rfl, Nat.le_refl _, ha, Lib.hid rfl⟩, rfl⟩
            case round =>
              obtain ⟨⟨k, rfl, hak0, hk, HN⟩, rfl⟩ := hrel
              by_cases hkl : k < s.size
              · have HP := Lib.hid (fun w => part9_any s[k] w)
                cases hp : isP s[k] with
                | true =>
                  rw [hp] at HP
                  have HN2 : Hid (((bl s).drop a).dropWhile isP = ((bl s).drop (k + 1)).dropWhile isP) := Lib.hid (by rw [HN.out, drop_at hkl, List.dropWhile_cons_of_pos hp])
                  clear hp HN
                  go_wp2_with (go_at_call 31; refine (HP.out _).mono ?_; rintro e w5 ⟨rfl, rfl⟩)
                  go_roundw
                  case rel => exact ⟨⟨k + 1, by simp, by omega, hkl, HN2⟩, trivial⟩
                  case measure => simp [intOf]; omega
                | false =>
                  rw [hp] at HP
                  have HK : Hid (((bl s).drop a).dropWhile isP = (bl s).drop k) := Lib.hid (by rw [HN.out, drop_at hkl, List.dropWhile_cons_of_neg (by rw [hp]; decide)])
                  have hak : a < k := by
                    rcases Nat.lt_or_ge a k with h | h
                    · exact h
                    · obtain rfl : a = k := by omega
                      rw [HPA.out] at hp
                      cases hp
                  clear hp HN
                  have HWK : Hid (∀ w, Calls Tryd.prog 41 #[.string (s.extract a k)] w (QOut w T)) := Lib.hid fun w => HW.out k w (by omega) hk hak HK.out
                  have hcut : (0 : Int) ≤ (a : Int) ∧ (a : Int) ≤ (k : Int) ∧ (k : Int) ≤ (s.size : Int) := by omega
                  have HRST : Hid (∀ kind text m rest, T = .got kind text m rest → rest = (bl s).drop k) := Lib.hid fun kind text m rest hT => by
                    have := HTW.out
                    rw [HK.out, hT] at this
                    exact (wordT_rest [] this).1
                  cases T with
                  | bad er =>
                    go_wp2_with (first
                      | (go_at_call 31; refine (HP.out _).mono ?_; rintro e w5 ⟨rfl, rfl⟩)
                      | (go_at_call 41; refine (HWK.out _).mono ?_; rintro e w6 ⟨b6, rfl⟩
                         have r6 := HR.out.under b6 HR.out.inside
                         have B6 := Lib.hid (HB.out.trans (b6.mono HB.out.size))
                         have t0 := fun o => (r6.kept o).at 0
                         have t1 := fun o => (r6.kept o).at 1
                         have t2 := fun o => (r6.kept o).at 2
                         have t3 := fun o => (r6.kept o).at 3
                         have f0 := fun o => (r6.kept o).thaw 0
                         have f1 := fun o => (r6.kept o).thaw 1
                         have f2 := fun o => (r6.kept o).thaw 2
                         have f3 := fun o => (r6.kept o).thaw 3
                         clear b6 r6))
                    exact bodyPost_ret (v := .tuple #[zeroTk, .int .i64 (k : Int), .int .i64 er]) (by simp [results, Tryd.results24, go_sem, t0, t1, t2, t3]) rfl (qend_bad rfl (b_poke4 (b_more B6.out) (Nat.le_refl _) _ _ _ _))
                  | got kind text m rest =>
                    have HE : Hid (k = s.size - rest.length) := Lib.hid (by rw [HRST.out _ _ _ _ rfl]; exact end_at hk)
                    go_wp2_with (first
                      | (go_at_call 31; refine (HP.out _).mono ?_; rintro e w5 ⟨rfl, rfl⟩)
                      | (go_at_call 41; refine (HWK.out _).mono ?_; rintro e w6 ⟨b6, rfl⟩
                         have r6 := HR.out.under b6 HR.out.inside
                         have B6 := Lib.hid (HB.out.trans (b6.mono HB.out.size))
                         have t0 := fun o => (r6.kept o).at 0
                         have t1 := fun o => (r6.kept o).at 1
                         have t2 := fun o => (r6.kept o).at 2
                         have t3 := fun o => (r6.kept o).at 3
                         have f0 := fun o => (r6.kept o).thaw 0
                         have f1 := fun o => (r6.kept o).thaw 1
                         have f2 := fun o => (r6.kept o).thaw 2
                         have f3 := fun o => (r6.kept o).thaw 3
                         clear b6 r6))
                    exact bodyPost_ret (v := .tuple #[Tk.val ⟨kind, text, m, 0⟩, .int .i64 (k : Int), .int .i64 0]) (by simp [results, Tryd.results24, go_sem, t0, t1, t2, t3]) rfl (qend_got rfl HE.out (b_poke4 (b_more B6.out) (Nat.le_refl _) _ _ _ _))
              · obtain rfl : k = s.size := by omega
                have HK : Hid (((bl s).drop a).dropWhile isP = (bl s).drop s.size) := Lib.hid (by rw [HN.out, drop_end (Nat.le_refl _)]; rfl)
                have hak : a < s.size := hlt
                clear HN
                have HWK : Hid (∀ w, Calls Tryd.prog 41 #[.string (s.extract a s.size)] w (QOut w T)) := Lib.hid fun w => HW.out s.size w (by omega) hk hak HK.out
                have hcut : (0 : Int) ≤ (a : Int) ∧ (a : Int) ≤ (s.size : Int) ∧ (s.size : Int) ≤ (s.size : Int) := by omega
                have HRST : Hid (∀ kind text m rest, T = .got kind text m rest → rest = (bl s).drop s.size) := Lib.hid fun kind text m rest hT => by
                  have := HTW.out
                  rw [HK.out, hT] at this
                  exact (wordT_rest [] this).1
                cases T with
                | bad er =>
                  go_wp2_with (first
                    | (go_at_call 41; refine (HWK.out _).mono ?_; rintro e w6 ⟨b6, rfl⟩
                       have r6 := HR.out.under b6 HR.out.inside
                       have B6 := Lib.hid (HB.out.trans (b6.mono HB.out.size))
                       have t0 := fun o => (r6.kept o).at 0
                       have t1 := fun o => (r6.kept o).at 1
                       have t2 := fun o => (r6.kept o).at 2
                       have t3 := fun o => (r6.kept o).at 3
                       have f0 := fun o => (r6.kept o).thaw 0
                       have f1 := fun o => (r6.kept o).thaw 1
                       have f2 := fun o => (r6.kept o).thaw 2
                       have f3 := fun o => (r6.kept o).thaw 3
                       clear b6 r6))
                  exact bodyPost_ret (v := .tuple #[zeroTk, .int .i64 (s.size : Int), .int .i64 er]) (by simp [results, Tryd.results24, go_sem, t0, t1, t2, t3]) rfl (qend_bad rfl (b_poke4 (b_more B6.out) (Nat.le_refl _) _ _ _ _))
                | got kind text m rest =>
                  have HE : Hid (s.size = s.size - rest.length) := Lib.hid (by rw [HRST.out _ _ _ _ rfl]; exact end_at hk)
                  go_wp2_with (first
                    | (go_at_call 41; refine (HWK.out _).mono ?_; rintro e w6 ⟨b6, rfl⟩
                       have r6 := HR.out.under b6 HR.out.inside
                       have B6 := Lib.hid (HB.out.trans (b6.mono HB.out.size))
                       have t0 := fun o => (r6.kept o).at 0
                       have t1 := fun o => (r6.kept o).at 1
                       have t2 := fun o => (r6.kept o).at 2
                       have t3 := fun o => (r6.kept o).at 3
                       have f0 := fun o => (r6.kept o).thaw 0
                       have f1 := fun o => (r6.kept o).thaw 1
                       have f2 := fun o => (r6.kept o).thaw 2
                       have f3 := fun o => (r6.kept o).thaw 3
                       clear b6 r6))
                  exact bodyPost_ret (v := .tuple #[Tk.val ⟨kind, text, m, 0⟩, .int .i64 (s.size : Int), .int .i64 0]) (by simp [results, Tryd.results24, go_sem, t0, t1, t2, t3]) rfl (qend_got rfl HE.out (b_poke4 (b_more B6.out) (Nat.le_refl _) _ _ _ _))
  · obtain rfl : a = s.size := by omega
    have HT : Hid (T = .got 4 [] 0 []) := Lib.hid (by rw [← hT, drop_end (Nat.le_refl _)]; rfl)
    have HE := Lib.hid (end_here (n := s.size) rfl)
    clear hT
    have r0 := Blk.fresh w 31 #[.int .i64 0, .string ⟨#[]⟩, .int .i64 0, .int .i64 0]
    have t0 := r0.at 0
    have t1 := r0.at 1
    have t2 := r0.at 2
    have t3 := r0.at 3
    have f0 := r0.thaw 0
    have f1 := r0.thaw 1
    have f2 := r0.thaw 2
    have f3 := r0.thaw 3
    clear r0
    go_enter Tryd.func24, Tryd.ntmps24
    go_wp2_with fail
    exact bodyPost_ret (v := .tuple #[Tk.val ⟨4, [], 0, 0⟩, .int .i64 (s.size : Int), .int .i64 0]) (by simp [results, Tryd.results24, go_sem, t0, t1, t2, t3]) rfl (qend_got HT.out HE.out ((Below.refl _ _).alloc (Nat.le_refl _) _))
end Lx
end Go.Proofs.YtjgaghapjlmcpaaDoor

/- The walk of DiskSurvives. -/
import Derived.Test.YtgaclibokapfaaaPlay
import Derived.Test.YtgaclibokapfaaaSur
import Derived.Deep.DeepCutAuto
namespace Go.Proofs.Ytgaclibokapfaaa
open Go.RowKit Wire
set_option linter.unusedVariables false
set_option linter.unusedSimpArgs false
open Txt
namespace Dsk

theorem read_all {S : St} (hd : S.down = false) {f : Int} (hf : isF f = true) : S.Read f 0 16777216 = (S.now.all f.toNat, 0) := by
  unfold St.Read
  rw [hd, hf]
  rfl
theorem row_none (W : World) (B : Nat) : Row W B none (([] : List Int).map (Value.int .i64)) := fun k u h => by simp at h
/-- A list of numbers laid just now, behind which nothing was written. -/
theorem row_lit (w : World) (ks : List Int) (t : TypeId) : Row (w.alloc (.cells (ks.map (Value.int .i64)).toArray t)) (w.alloc (.cells (ks.map (Value.int .i64)).toArray t)).heap.size (some ⟨w.heap.size, 0, none⟩) (ks.map (Value.int .i64)) := by
  intro k u hu
  refine ⟨_, _, rfl, by simp, ?_⟩
  rw [(Blk.fresh w _ _).at, Nat.zero_add, List.getElem?_toArray]
  exact hu
/-- A disk of a statement, as one of what came a moment ago. -/
theorem One.lately {W w : World} {p : Nat} {S : St} (h : One W w p S) : ∃ D, D.p = p ∧ DiskAt w D S := by
  obtain ⟨_, _, D, hp, hd, _⟩ := h
  exact ⟨D, hp, hd⟩

section
variable {W w : World} {p : Nat} {S : St}
theorem after_nil (h : One W w p S) (hd : S.down = false) {f : Int} (hf : isF f = true) :
    Calls Try.prog 23 #[ptr p, .int .i64 f, .slice none 0 0] w fun e w' => e = .returned (.tuple #[.string ⟨(S.last.all f.toNat).toArray⟩, .bool true]) ∧ Below w.heap.size w w' := by
  have := after_any h f none 0 [] (row_none _ _) (by decide)
  rw [crash_up hd, read_all rfl hf, dead_nil] at this
  exact this
theorem after_one (h : One W w p S) (hd : S.down = false) {f : Int} (hf : isF f = true) :
    Calls Try.prog 23 #[ptr p, .int .i64 f, .slice (some ⟨w.heap.size, 0, none⟩) 1 1] (w.alloc (.cells #[.int .i64 1] 3)) fun e w' => e = .returned (.tuple #[.string ⟨(S.now.all f.toNat).toArray⟩, .bool true]) ∧ Below w.heap.size w w' := by
  have hb : Below w.heap.size w (w.alloc (.cells #[.int .i64 1] 3)) := (Below.refl _ w).alloc (Nat.le_refl _) _
  have := after_any (h.keep hb) f (some ⟨w.heap.size, 0, none⟩) 1 [1] (row_lit w [1] 3) (by decide)
  rw [crash_up hd, read_all rfl hf, h.ok.all_eq] at this
  exact this.mono fun e w' ⟨he, hb2⟩ => ⟨he, next_below hb hb2⟩
theorem after_ks (h : One W w p S) (hd : S.down = false) {f : Int} (hf : isF f = true) (A : Option Addr) (c : Nat) (ks : List Int) (hr : Row W W.heap.size A (ks.map (Value.int .i64))) (hl : ks.length ≤ 1000000000) :
    Calls Try.prog 23 #[ptr p, .int .i64 f, .slice A ks.length c] w fun e w' => e = .returned (.tuple #[.string ⟨((S.dead ks).all f.toNat).toArray⟩, .bool true]) ∧ Below w.heap.size w w' := by
  have := after_any h f A c ks (hr.lift h.below) hl
  rw [crash_up hd, read_all rfl hf] at this
  exact this
end

theorem drew_two (w : World) (m n : Nat) : Below w.heap.size w ((w.drewN m).drewN n) := ⟨rfl, rfl, rfl, Nat.le_refl _, fun _ _ => rfl⟩
structure SecRel (w3 : World) (m : Nat) (nv : Value) (wr : World) (n : Nat) : Prop where
  nv : nv = .int .i64 n
  le : n ≤ m
  below : Below w3.heap.size w3 wr
/-- The inner round: what is asked of one sector. -/
structure InRel (w3 : World) (new : Bool) (m n : Nat) (bv ov iv : Value) (wr : World) (nb ob : Bool) (i : Nat) : Prop where
  bv : bv = .bool nb
  ov : ov = .bool ob
  iv : iv = .int .i64 i
  lo : 64 * n ≤ i
  hi : i ≤ 64 * n + 64
  say : if new then nb = true else ob = true
  below : Below w3.heap.size w3 wr

set_option maxRecDepth 100000 in
set_option maxHeartbeats 1000000 in
theorem survives_law (A : Option Addr) (c : Nat) (l : List Act) (f : Int) (A2 : Option Addr) (c2 : Nat) (ks : List Int) (w : World) (h : Acts w A l) (hr : Row w w.heap.size A2 (ks.map (Value.int .i64))) :
    Calls Try.prog 4 #[.slice A l.length c, .int .i64 f, .slice A2 ks.length c2] w fun e w' => e = .returned (.bool true) ∧ Below w.heap.size w w' := by
  have H := Lib.hid h
  have HR := Lib.hid hr
  clear h hr
  go_enter Try.func4, Try.ntmps4
  go_wp2_with (go_at_call 8; refine (small_any _).mono ?_; rintro e w1 ⟨rfl, b1⟩)
  have B1 := Lib.hid b1
  clear b1
  refine (few_any A c l H.out B1.out).mono ?_
  rintro e w2 ⟨b, rfl, hb, b2⟩
  have HB := Lib.hid hb
  have B2 := Lib.hid (next_below B1.out b2)
  clear hb b2
  cases b with
  | false =>
    go_wp2_with fail
    go_ret
    exact ⟨rfl, B2.out⟩
  | true =>
    obtain ⟨h40, hfew⟩ := HB.out rfl
    have HF := Lib.hid hfew
    clear hfew
    by_cases hk : ks.length ≤ 60
    · go_wp2_with fail
      refine (played_any A c l H.out B2.out HF.out).mono ?_
      rintro e w3 ⟨p, rfl, h3⟩
      generalize playL l St.new = S at h3
      have HD := Lib.hid h3.down
      have HS := Lib.hid (h3.size f)
      have B3 := Lib.hid h3.below
      have H3 := Lib.hid h3
      clear h3
      cases hd : S.down with
      | true =>
        rw [hd] at HD
        clear hd
        go_wp2_with (go_at_call 14; refine HD.out.mono ?_; rintro e w4 ⟨rfl, rfl⟩)
        go_ret
        exact ⟨rfl, B3.out⟩
      | false =>
        rw [hd] at HD
        by_cases hf0 : f < 0
        · clear hd
          go_wp2_with (go_at_call 14; refine HD.out.mono ?_; rintro e w4 ⟨rfl, rfl⟩)
          go_ret
          exact ⟨rfl, B3.out⟩
        · by_cases hf15 : 15 < f
          · clear hd
            go_wp2_with (go_at_call 14; refine HD.out.mono ?_; rintro e w4 ⟨rfl, rfl⟩)
            go_ret
            exact ⟨rfl, B3.out⟩
          · by_cases hs : 100000 < S.Size f
            · clear hd
              generalize S.Size f = z at *
              go_wp2_with (first
                | (go_at_call 14; refine HD.out.mono ?_; rintro e w4 ⟨rfl, rfl⟩)
                | (go_at_call 16; refine HS.out.mono ?_; rintro e w4 ⟨rfl, rfl⟩))
              go_ret
              exact ⟨rfl, B3.out⟩
            · have hf : isF f = true := by unfold isF; exact decide_eq_true (by omega)
              have hrd := fun w' (hb : Below w3.heap.size w3 w') => (H3.out.keep hb).read f 0 16777216 (by omega) (by omega)
              rw [read_all hd hf] at hrd
              unfold str at hrd
              have hT := H3.out.ok.torn3 ks f.toNat
              have hr3 := H3.out.ok.dead_ok ks
              have hz3 : (⟨((S.dead ks).all f.toNat).toArray⟩ : ByteArray).size ≤ 16777216 := by
                show ((S.dead ks).all f.toNat).toArray.size ≤ _
                rw [List.size_toArray, hr3.all_len]
                exact hr3.room _
              have HA := Lib.hid (fun w' (hb : Below w3.heap.size w3 w') => after_nil (H3.out.keep hb) hd hf)
              have HO := Lib.hid (fun w' (hb : Below w3.heap.size w3 w') => after_one (H3.out.keep hb) hd hf)
              have HE := Lib.hid (fun w' (hb : Below w3.heap.size w3 w') => after_ks (H3.out.keep hb) hd hf A2 c2 ks HR.out (by omega))
              have HRD := Lib.hid hrd
              clear hrd hd
              generalize S.Size f = z at *
              generalize (⟨(S.now.all f.toNat).toArray⟩ : ByteArray) = X1 at *
              generalize (⟨(S.last.all f.toNat).toArray⟩ : ByteArray) = X2 at *
              generalize (⟨((S.dead ks).all f.toNat).toArray⟩ : ByteArray) = X3 at *
              have hlo := hT.lo
              have hhi := hT.hi
              have T := Lib.hid hT
              clear hT hr3
              go_upto_region 13 with (first
                | (go_at_call 14; refine HD.out.mono ?_; rintro e w4 ⟨rfl, rfl⟩)
                | (go_at_call 16; refine HS.out.mono ?_; rintro e w4 ⟨rfl, rfl⟩)
                | (go_at_call 20; refine (HRD.out _ (Below.refl _ _)).mono ?_; rintro e w4 ⟨rfl, b4⟩; have C4 := Lib.hid b4; clear b4)
                | (go_at_call 23; ((with_reducible refine (HA.out w4 C4.out).mono ?_); rintro e w5 ⟨rfl, b5⟩; have C5 := Lib.hid (next_below C4.out b5); clear b5))
                | (go_at_call 23; ((with_reducible refine (HO.out w5 C5.out).mono ?_); rintro e w6 ⟨rfl, b6⟩; have C6 := Lib.hid (next_below C5.out b6); clear b6))
                | (go_at_call 23; ((with_reducible refine (HE.out w6 C6.out).mono ?_); rintro e w7 ⟨rfl, b7⟩; have C7 := Lib.hid (next_below C6.out b7); clear b7)))
              go_cut [110] (fun v110 wx => v110 = .bool false ∧ w7 = wx)
              case first =>
                go_wp2_with fail
                all_goals
                  go_meet
                  case rel => exact ⟨by rw [decide_eq_false (by omega : ¬ X3.size < X2.size), decide_eq_false (by omega : ¬ X1.size < X3.size)]; rfl, rfl⟩
              case rest =>
              obtain ⟨rfl, rfl⟩ := hcut
              go_upto_region 16 with (fail)
              clear HA HO HE HRD HS HD
              go_loopw [17, 18, 19, 20] (fun nv _ _ _ wr => ∃ n, SecRel w3 X3.size nv wr n) (fun nv _ _ _ _ => X3.size - (intOf nv).toNat)
              case atStart => exact ⟨0, rfl, Nat.zero_le _, C7.out⟩
              case round =>
                obtain ⟨n, ⟨rfl, hnm, hbel⟩⟩ := hrel
                have HBel := Lib.hid hbel
                clear hbel
                by_cases hn : 64 * n < X3.size
                · have hn' : decide (64 * (n : Int) < (X3.size : Int)) = true := decide_eq_true (by omega)
                  go_wp2_with fail
                  rcases T.out.sec n with hnew | hold
                  · have HN := Lib.hid hnew
                    clear hnew
                    go_loopw [18, 19, 20] (fun bv ov iv wr => ∃ nb ob i, InRel w3 true X3.size n bv ov iv wr nb ob i) (fun _ _ iv _ => 64 * n + 64 - (intOf iv).toNat)
                    case atStart => exact ⟨true, true, 64 * n, rfl, rfl, by simp, Nat.le_refl _, by omega, rfl, HBel.out⟩
                    case round =>
                      obtain ⟨nb, ob, i, ⟨rfl, rfl, rfl, hi1, hi2, hsay, hbl⟩⟩ := hrel
                      obtain rfl : nb = true := hsay
                      have HBL := Lib.hid hbl
                      clear hbl
                      by_cases hi3 : i < 64 * n + 64
                      · by_cases hi4 : i < X3.size
                        · have hq := HN.out i hi4 (by omega)
                          have hi5 : i < X1.size := by omega
                          have hq2 : ((X3[i].toNat : Int) == (X1[i].toNat : Int)) = true := by rw [hq]; exact beq_self_eq_true _
                          have HBZ := Lib.hid (fun w => (byteAt_any X2 i w).mono (fun e w' (h : e = _ ∧ w = w') => (⟨h.1, h.2.symm⟩ : e = _ ∧ w' = w)))
                          generalize byteZ (bl X2) i = y at *
                          clear hq
                          cases ob
                          all_goals
                            go_wp2_with fail
                            go_quiet (fail)
                            generalize hwq : wr.drewN _ = wq at *
                            have HWQ := Lib.hid hwq
                            clear hwq
                            go_wp2_with fail
                            go_quiet ((go_at_call 24; exact Calls.quiet_of_same (HBZ.out _)))
                            go_wp2_with fail
                            refine ⟨⟨_, _, i + 1, rfl, rfl, by simp, by omega, by omega, ?_, ?_⟩, ?_⟩
                            · rfl
                            · have := HWQ.out
                              subst this
                              exact next_below HBL.out (drew_two _ _ _)
                            · simp [intOf]
                              omega
                        · cases ob
                          all_goals
                            go_wp2_with fail
                            refine ⟨⟨n + 1, by simp, by omega, HBL.out⟩, ?_⟩
                            simp [intOf]
                            omega
                      · cases ob
                        all_goals
                          go_wp2_with fail
                          refine ⟨⟨n + 1, by simp, by omega, HBL.out⟩, ?_⟩
                          simp [intOf]
                          omega
                  · have HN := Lib.hid hold
                    clear hold
                    go_loopw [18, 19, 20] (fun bv ov iv wr => ∃ nb ob i, InRel w3 false X3.size n bv ov iv wr nb ob i) (fun _ _ iv _ => 64 * n + 64 - (intOf iv).toNat)
                    case atStart => exact ⟨true, true, 64 * n, rfl, rfl, by simp, Nat.le_refl _, by omega, rfl, HBel.out⟩
                    case round =>
                      obtain ⟨nb, ob, i, ⟨rfl, rfl, rfl, hi1, hi2, hsay, hbl⟩⟩ := hrel
                      obtain rfl : ob = true := hsay
                      have HBL := Lib.hid hbl
                      clear hbl
                      by_cases hi3 : i < 64 * n + 64
                      · by_cases hi4 : i < X3.size
                        · have hq := HN.out i hi4 (by omega)
                          have hi5 : i < X1.size := by omega
                          have hq2 : ((X3[i].toNat : Int) == ((byteZ (bl X2) i).toNat : Int)) = true := by rw [hq]; exact beq_self_eq_true _
                          have HBZ := Lib.hid (fun w => (byteAt_any X2 i w).mono (fun e w' (h : e = _ ∧ w = w') => (⟨h.1, h.2.symm⟩ : e = _ ∧ w' = w)))
                          generalize byteZ (bl X2) i = y at *
                          clear hq
                          cases nb
                          all_goals
                            go_wp2_with fail
                            go_quiet (fail)
                            generalize hwq : wr.drewN _ = wq at *
                            have HWQ := Lib.hid hwq
                            clear hwq
                            go_wp2_with fail
                            go_quiet ((go_at_call 24; exact Calls.quiet_of_same (HBZ.out _)))
                            go_wp2_with fail
                            refine ⟨⟨_, _, i + 1, rfl, rfl, by simp, by omega, by omega, ?_, ?_⟩, ?_⟩
                            · rfl
                            · have := HWQ.out
                              subst this
                              exact next_below HBL.out (drew_two _ _ _)
                            · simp [intOf]
                              omega
                        · cases nb
                          all_goals
                            go_wp2_with fail
                            refine ⟨⟨n + 1, by simp, by omega, HBL.out⟩, ?_⟩
                            simp [intOf]
                            omega
                      · cases nb
                        all_goals
                          go_wp2_with fail
                          refine ⟨⟨n + 1, by simp, by omega, HBL.out⟩, ?_⟩
                          simp [intOf]
                          omega
                · go_wp2_with fail
                  go_ret
                  exact ⟨rfl, next_below B3.out HBel.out⟩
    · go_wp2_with fail
      go_ret
      exact ⟨rfl, B2.out⟩
end Dsk
end Go.Proofs.Ytgaclibokapfaaa

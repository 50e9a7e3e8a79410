/- The walk of DiskArms. -/
import Derived.Test.YtgaclibokapfaaaPlay
import Derived.Test.YtgaclibokapfaaaArm
import Derived.Test.YtgaclibokapfaaaSurw
import Derived.Deep.DeepCutAuto
namespace Go.Proofs.Ytgaclibokapfaaa
open Go.RowKit Wire
set_option linter.unusedVariables false
set_option linter.unusedSimpArgs false
open Txt
namespace Dsk

theorem drew_one (w : World) (n : Nat) : Below w.heap.size w (w.drewN n) := ⟨rfl, rfl, rfl, Nat.le_refl _, fun _ _ => rfl⟩
theorem flip_same {P : Program} {f : FuncId} {args : Array Value} {w : World} {R : Ending} (h : Calls P f args w fun e w' => e = R ∧ w = w') : Calls P f args w fun e w' => e = R ∧ w' = w := h.mono fun e w' h => ⟨h.1, h.2.symm⟩
structure SameRel (w0 : World) (n : Nat) (iv : Value) (wr : World) (i : Nat) : Prop where
  iv : iv = .int .i64 i
  le : i ≤ n
  below : Below w0.heap.size w0 wr

set_option maxRecDepth 100000 in
set_option maxHeartbeats 1000000 in
theorem same_any {W w : World} {p q : Nat} {S T : St} (h : Two W w p q S T) (hdown : S.down = T.down) (hread : ∀ f, S.Read f 0 16777216 = T.Read f 0 16777216) (hsize : ∀ f, S.Size f = T.Size f)
    (A : Option Addr) (c : Nat) (l : List Act) (hl : Acts W A l) :
    Calls Try.prog 28 #[ptr p, ptr q, .slice A l.length c] w fun e w' => e = .returned (.bool true) ∧ Below w.heap.size w w' := by
  have H := Lib.hid h
  have HL := Lib.hid hl
  have hlen := hl.len
  have HD1 := Lib.hid h.left.down
  have hd2 := h.right.down
  rw [← hdown] at hd2
  have HD2 := Lib.hid hd2
  have HR := Lib.hid hread
  have HS := Lib.hid hsize
  clear h hl hdown hd2 hread hsize
  generalize S.down = dn at *
  go_enter Try.func28, Try.ntmps28
  go_wp2_with (first
    | (go_at_call 14; ((with_reducible refine HD1.out.mono ?_); rintro e w1 ⟨rfl, rfl⟩))
    | (go_at_call 14; ((with_reducible refine HD2.out.mono ?_); rintro e w1 ⟨rfl, rfl⟩)))
  go_loopw [7, 8, 9, 10, 11] (fun iv _ _ _ _ wr => ∃ i, SameRel w l.length iv wr i) (fun iv _ _ _ _ _ => l.length - (intOf iv).toNat)
  case atStart => exact ⟨0, rfl, Nat.zero_le _, Below.refl _ _⟩
  case round =>
    obtain ⟨i, ⟨rfl, hi, hbel⟩⟩ := hrel
    have HBel := Lib.hid hbel
    by_cases hlt : i < l.length
    · obtain ⟨b, o, A', c', ⟨rfl, k0, k1, k2, k3, k4, hr, hft⟩⟩ := HL.out.at (next_below H.out.below hbel) hlt
      generalize l[i] = a at *
      have t1 := H.out.keep hbel
      have r1 := t1.left.read a.f 0 16777216 (by omega) (by omega)
      have r2 := fun w' (hb : Below wr.heap.size wr w') => (t1.keep hb).right.read a.f 0 16777216 (by omega) (by omega)
      rw [HR.out] at r1
      have s1 := fun w' (hb : Below wr.heap.size wr w') => (t1.keep hb).left.size a.f
      have s2 := fun w' (hb : Below wr.heap.size wr w') => (t1.keep hb).right.size a.f
      rw [HS.out] at s1
      generalize T.Read a.f 0 16777216 = R at *
      generalize T.Size a.f = z at *
      unfold str at r1 r2
      generalize (⟨R.1.toArray⟩ : ByteArray) = X at *
      generalize R.2 = er at *
      have R1 := Lib.hid r1
      have R2 := Lib.hid r2
      have S1 := Lib.hid s1
      have S2 := Lib.hid s2
      have HL2 := Lib.hid (fun w' (hb : Below wr.heap.size wr w') => HL.out.at (next_below H.out.below (next_below hbel hb)) hlt)
      clear r1 r2 s1 s2 t1 hbel hr hft
      go_upto_region 8 with (first
        | (go_at_call 20; ((with_reducible refine R1.out.mono ?_); rintro e w3 ⟨rfl, b3⟩; have k1' := (b3.cell (p := ⟨b, o + i * 5 + 1, none⟩) (World.block_lt_of_cell? wr _ k1)).trans k1; have B3 := Lib.hid b3; clear b3))
        | (go_at_call 20; ((with_reducible refine (R2.out w3 B3.out).mono ?_); rintro e w4 ⟨rfl, b4⟩; have b5 := next_below B3.out b4; have k1'' := (b5.cell (p := ⟨b, o + i * 5 + 1, none⟩) (World.block_lt_of_cell? wr _ k1)).trans k1; have B5 := Lib.hid b5; clear b4 b5)))
      have Q1 := Lib.hid (fun n => flip_same (S1.out (w4.drewN n) (next_below B5.out (drew_one _ _))))
      have Q2 := Lib.hid (fun n => flip_same (S2.out (w4.drewN n) (next_below B5.out (drew_one _ _))))
      go_quiet (first
        | (go_at_call 16; with_reducible exact Calls.quiet_of_same (Q1.out _))
        | (go_at_call 16; with_reducible exact Calls.quiet_of_same (Q2.out _)))
      have hl3 : i + 1 ≤ l.length := hlt
      go_wp2_with fail
      go_roundw
      case rel => exact ⟨i + 1, by simp, hl3, next_below HBel.out (next_below B5.out (drew_one _ _))⟩
      case measure => simp [intOf]; omega
    · obtain rfl : l.length = i := by omega
      clear hbel
      go_wp2_with fail
      go_ret
      exact ⟨rfl, HBel.out⟩

/-- One of the acts, as every later world has it. -/
theorem Acts.all {W : World} {A : Option Addr} {l : List Act} (h : Acts W A l) {i : Nat} (hi : i < l.length) : ∃ b o A' c', ∀ w, Below W.heap.size W w → At W w A i l[i] b o A' c' := by
  obtain ⟨b, o, A', c', e, hlt, hc, hr⟩ := h.lie i l[i] (List.getElem?_eq_getElem hi)
  refine ⟨b, o, A', c', fun w hb => ?_⟩
  have g : ∀ j, w.cell? ⟨b, o + i * 5 + j, none⟩ = W.cell? ⟨b, o + i * 5 + j, none⟩ := fun j => hb.cell (p := ⟨b, o + i * 5 + j, none⟩) hlt
  exact ⟨e, (g 0).trans (hc 0 _ rfl), (g 1).trans (hc 1 _ rfl), (g 2).trans (hc 2 _ rfl), (g 3).trans (hc 3 _ rfl), (g 4).trans (hc 4 _ rfl), hr, h.fit _ (List.getElem_mem hi)⟩

section
variable {W w : World} {p q : Nat} {S T : St}
theorem Two.do1 (h : Two W w p q S T) (a : Act) (A : Option Addr) (c : Nat) (hf : a.fit) (hr : Row W W.heap.size A (a.keep.map (Value.int .i64))) (hl : a.keep.length ≤ 1000000000) :
    Calls Try.prog 12 #[ptr p, .agg (a.cells A c).toArray] w fun e w' => e = .returned (.int .i64 (a.run S).2) ∧ Two W w' p q (a.run S).1 T :=
  h.step1 (run_ok h.ok1 hf hl) (do_c h.below h.ok1 a A c hf hr hl)
theorem Two.do2 (h : Two W w p q S T) (a : Act) (A : Option Addr) (c : Nat) (hf : a.fit) (hr : Row W W.heap.size A (a.keep.map (Value.int .i64))) (hl : a.keep.length ≤ 1000000000) :
    Calls Try.prog 12 #[ptr q, .agg (a.cells A c).toArray] w fun e w' => e = .returned (.int .i64 (a.run T).2) ∧ Two W w' p q S (a.run T).1 :=
  h.step2 (run_ok h.ok2 hf hl) (do_c h.below h.ok2 a A c hf hr hl)
end

/-- Both disks, ahead of the crash or behind it. -/
structure ArmRel (w : World) (p q m n : Nat) (ks : List Int) (cv iv : Value) (wr : World) (i cnt : Nat) (D C : St) : Prop where
  cv : cv = .int .i64 cnt
  iv : iv = .int .i64 i
  le : i ≤ m
  few : cnt ≤ i
  two : Two w wr p q D C
  how : (∃ k, cnt + (k + 1) = n ∧ Ahead D C (k + 1) ks) ∨ (n ≤ cnt ∧ Behind D C)

theorem both_same {D C : St} {cnt n : Nat} {ks : List Int} (h : (∃ k, cnt + (k + 1) = n ∧ Ahead D C (k + 1) ks) ∨ (n ≤ cnt ∧ Behind D C)) : D.down = C.down ∧ (∀ f, D.Read f 0 16777216 = C.Read f 0 16777216) ∧ (∀ f, D.Size f = C.Size f) ∧ D.start.now = C.start.now := by
  rcases h with ⟨k, _, ha⟩ | ⟨_, hb⟩
  · exact ⟨by rw [ha.d], fun f => ha.read f _ _, fun f => ha.size f, by rw [ha.d]; rfl⟩
  · exact ⟨by rw [hb.d, hb.c], fun f => hb.read f _ _, fun f => hb.size f, hb.now⟩

set_option maxRecDepth 100000 in
set_option maxHeartbeats 2000000 in
theorem arms_law (A : Option Addr) (c : Nat) (l : List Act) (n : Int) (A2 : Option Addr) (c2 : Nat) (ks : List Int) (w : World) (h : Acts w A l) (hr : Row w w.heap.size A2 (ks.map (Value.int .i64))) :
    Calls Try.prog 6 #[.slice A l.length c, .int .i64 n, .slice A2 ks.length c2] w fun e w' => e = .returned (.bool true) ∧ Below w.heap.size w w' := by
  have H := Lib.hid h
  have HR := Lib.hid hr
  clear h hr
  go_enter Try.func6, Try.ntmps6
  go_wp2_with (go_at_call 8; refine (small_any _).mono ?_; rintro e w1 ⟨rfl, b1⟩)
  have B1 := Lib.hid b1
  clear b1
  refine (few_any A c l H.out B1.out).mono ?_
  rintro e w2 ⟨b, rfl, hb, b2⟩
  have HB := Lib.hid hb
  have B2 := Lib.hid (next_below B1.out b2)
  clear hb b2
  cases b with
  | false =>
    go_wp2_with fail
    go_ret
    exact ⟨rfl, B2.out⟩
  | true =>
    obtain ⟨h40, hfew⟩ := HB.out rfl
    have HF := Lib.hid hfew
    clear hfew HB
    by_cases hk : ks.length ≤ 60
    · by_cases hn1 : n < 1
      · go_wp2_with fail
        go_ret
        exact ⟨rfl, B2.out⟩
      · by_cases hn2 : n ≤ 60
        · obtain ⟨nn, rfl⟩ : ∃ k : Nat, n = k := ⟨n.toNat, by omega⟩
          obtain ⟨n1, rfl⟩ : ∃ k : Nat, nn = k + 1 := ⟨nn - 1, by omega⟩
          go_wp2_with fail
          refine (new_one B2.out).mono ?_
          rintro e w3 ⟨p, rfl, h3⟩
          go_wp2_with ((go_at_call 10; refine h3.another.mono ?_; rintro e w4 ⟨q, rfl, h4⟩; have H4 := Lib.hid h4; clear h4 h3))
          refine (H4.out.step1 (H4.out.ok1.arm (n := ((n1 + 1 : Nat) : Int)) (ks := ks) (by omega) (by omega)) (arm_c H4.out.below ((n1 + 1 : Nat) : Int) A2 c2 ks HR.out (by omega))).mono ?_
          rintro e w5 ⟨rfl, h5⟩
          have hah : Ahead (St.new.arm ((n1 + 1 : Nat) : Int) ks) St.new (n1 + 1) ks := ⟨by unfold St.arm; congr 1, rfl, rfl⟩
          have H5 := Lib.hid h5
          have HA := Lib.hid hah
          clear h5 hah
          go_wp2_with fail
          go_loopw [10, 11, 12, 13] (fun cv iv _ _ wr => ∃ i cnt D C, ArmRel w p q l.length (n1 + 1) ks cv iv wr i cnt D C) (fun _ iv _ _ _ => l.length - (intOf iv).toNat)
          case atStart => exact ⟨0, 0, _, _, rfl, rfl, Nat.zero_le _, Nat.le_refl _, H5.out, .inl ⟨n1, by omega, HA.out⟩⟩
          case round =>
            obtain ⟨i, cnt, D, C, ⟨rfl, rfl, hi, hcnt, htwo, hhow⟩⟩ := hrel
            by_cases hlt : i < l.length
            · obtain ⟨b, o, A', c', hat⟩ := H.out.all hlt
              have HK := Lib.hid (HF.out l[i] (List.getElem_mem hlt)).keep
              generalize l[i] = a at *
              obtain ⟨rfl, k0, k1, k2, k3, k4, hra, hfa⟩ := hat wr htwo.below
              have HAT := Lib.hid hat
              have hd1 := htwo.do1 a A' c' hfa hra (by have := HK.out; omega)
              have hd2 := fun w' (h : Two w w' p q (a.run D).1 C) => h.do2 a A' c' hfa hra (by have := HK.out; omega)
              unfold Act.cells at hd1 hd2
              have HB := Lib.hid htwo.below
              have hkd : a.kind = bits .and .i64 a.what 7 := rfl
              have HKD := Lib.hid hkd
              have hcap : cnt ≤ 40 := by omega
              by_cases hk4 : 4 < bits .and .i64 a.what 7
              · clear hat htwo hra hfa hkd hhow hd1 hd2
                go_wp2_with fail
                go_ret
                exact ⟨rfl, HB.out⟩
              · by_cases hk3 : bits .and .i64 a.what 7 < 4
                · rcases hhow with ⟨k, hcn, hahead⟩ | ⟨hcn, hbehind⟩
                  · cases k with
                    | succ k =>
                      obtain ⟨hah2, hsame⟩ := hahead.run (by omega) (a := a) hk3
                      rw [hsame] at hd1
                      have HD1 := Lib.hid hd1
                      have HD2 := Lib.hid hd2
                      have HA2 := Lib.hid hah2
                      clear hd1 hd2 hah2 hsame hahead hat htwo hra hfa hkd
                      generalize (a.run C).2 = er at *
                      go_wp2_with (first
                        | (go_at_call 12; ((with_reducible refine HD1.out.mono ?_); rintro e w6 ⟨rfl, h6⟩; obtain ⟨_, j0, j1, j2, j3, j4, _, _⟩ := HAT.out w6 h6.below; have H6 := Lib.hid h6; clear h6))
                        | (go_at_call 12; ((with_reducible refine (HD2.out w6 H6.out).mono ?_); rintro e w7 ⟨rfl, h7⟩; have H7 := Lib.hid h7; clear h7)))
                      go_roundw
                      case rel => exact ⟨i + 1, cnt + 1, _, _, by simp, by simp, hlt, by omega, H7.out, .inl ⟨k, by omega, HA2.out⟩⟩
                      case measure => simp [intOf]; omega
                    | zero =>
                      by_cases hk2 : bits .and .i64 a.what 7 < 2
                      · obtain ⟨hbe, h9⟩ := hahead.last2 (a := a) hk2
                        rw [h9] at hd1
                        have HD1 := Lib.hid hd1
                        have HD2 := Lib.hid hd2
                        have HBE := Lib.hid hbe
                        have HC := Lib.hid (fun w' (h : Two w w' p q (a.run D).1 (a.run C).1) => h.step2 (h.ok2.crash ks) (crash_c h.below h.ok2 A2 c2 ks HR.out (by omega)))
                        have hdn := hbe.d
                        have HDN := Lib.hid (fun w' (h : Two w w' p q (a.run D).1 ((a.run C).1.crash ks)) => h.left.down)
                        rw [hdn] at HDN
                        have HQ := Lib.hid (show cnt = n1 by omega)
                        obtain rfl : cnt = n1 := by omega
                        clear hd1 hd2 hbe h9 hahead hat htwo hra hfa hkd hdn
                        go_wp2_with (first
                          | (go_at_call 12; ((with_reducible refine HD1.out.mono ?_); rintro e w6 ⟨rfl, h6⟩; obtain ⟨_, j0, j1, j2, j3, j4, _, _⟩ := HAT.out w6 h6.below; have H6 := Lib.hid h6; clear h6))
                          | (go_at_call 12; ((with_reducible refine (HD2.out w6 H6.out).mono ?_); rintro e w7 ⟨rfl, h7⟩; have H7 := Lib.hid h7; clear h7))
                          | (go_at_call 25; refine (HC.out w7 H7.out).mono ?_; rintro e w8 ⟨rfl, h8⟩; have H8 := Lib.hid h8; clear h8)
                          | (go_at_call 14; refine (HDN.out w8 H8.out).mono ?_; rintro e w9 ⟨rfl, rfl⟩))
                        go_roundw
                        case rel => exact ⟨i + 1, cnt + 1, _, _, by simp, by simp, hlt, by omega, H8.out, .inr ⟨Nat.le_refl _, HBE.out⟩⟩
                        case measure => simp [intOf]; omega
                      · obtain ⟨hbe, h9⟩ := hahead.last4 (a := a) hk2 hk3
                        rw [h9] at hd1
                        have HD1 := Lib.hid hd1
                        have HBE := Lib.hid hbe
                        have HC := Lib.hid (fun w' (h : Two w w' p q (a.run D).1 C) => h.step2 (h.ok2.crash ks) (crash_c h.below h.ok2 A2 c2 ks HR.out (by omega)))
                        have hdn := hbe.d
                        have HDN := Lib.hid (fun w' (h : Two w w' p q (a.run D).1 (C.crash ks)) => h.left.down)
                        rw [hdn] at HDN
                        obtain rfl : cnt = n1 := by omega
                        clear hd1 hd2 hbe h9 hahead hat htwo hra hfa hkd hdn
                        go_wp2_with (first
                          | (go_at_call 12; ((with_reducible refine HD1.out.mono ?_); rintro e w6 ⟨rfl, h6⟩; obtain ⟨_, j0, j1, j2, j3, j4, _, _⟩ := HAT.out w6 h6.below; have H6 := Lib.hid h6; clear h6))
                          | (go_at_call 25; refine (HC.out w6 H6.out).mono ?_; rintro e w8 ⟨rfl, h8⟩; have H8 := Lib.hid h8; clear h8)
                          | (go_at_call 14; refine (HDN.out w8 H8.out).mono ?_; rintro e w9 ⟨rfl, rfl⟩))
                        go_roundw
                        case rel => exact ⟨i + 1, cnt + 1, _, _, by simp, by simp, hlt, by omega, H8.out, .inr ⟨Nat.le_refl _, HBE.out⟩⟩
                        case measure => simp [intOf]; omega
                  · have hrun := hbehind.run (a := a) hk3
                    rw [hrun] at hd1
                    have HD1 := Lib.hid hd1
                    have HBE := Lib.hid hbehind
                    have hdn := hbehind.d
                    have HDN := Lib.hid (fun w' (h : Two w w' p q D C) => h.left.down)
                    rw [hdn] at HDN
                    clear hd1 hd2 hbehind hrun hat htwo hra hfa hkd hdn
                    go_wp2_with (first
                      | (go_at_call 12; ((with_reducible refine HD1.out.mono ?_); rintro e w6 ⟨rfl, h6⟩; obtain ⟨_, j0, j1, j2, j3, j4, _, _⟩ := HAT.out w6 h6.below; have H6 := Lib.hid h6; clear h6))
                      | (go_at_call 14; refine (HDN.out w6 H6.out).mono ?_; rintro e w9 ⟨rfl, rfl⟩))
                    go_roundw
                    case rel => exact ⟨i + 1, cnt + 1, _, _, by simp, by simp, hlt, by omega, H6.out, .inr ⟨by omega, HBE.out⟩⟩
                    case measure => simp [intOf]; omega
                · have hk5 : bits .and .i64 a.what 7 = 4 := by omega
                  rcases hhow with ⟨k, hcn, hahead⟩ | ⟨hcn, hbehind⟩
                  · obtain ⟨hah2, hsame⟩ := hahead.run4 (a := a) hk5
                    rw [hsame] at hd1
                    have HD1 := Lib.hid hd1
                    have HD2 := Lib.hid hd2
                    have HA2 := Lib.hid hah2
                    clear hd1 hd2 hah2 hsame hahead hat htwo hra hfa hkd
                    generalize (a.run C).2 = er at *
                    go_wp2_with (first
                      | (go_at_call 12; ((with_reducible refine HD1.out.mono ?_); rintro e w6 ⟨rfl, h6⟩; obtain ⟨_, j0, j1, j2, j3, j4, _, _⟩ := HAT.out w6 h6.below; have H6 := Lib.hid h6; clear h6))
                      | (go_at_call 12; ((with_reducible refine (HD2.out w6 H6.out).mono ?_); rintro e w7 ⟨rfl, h7⟩; have H7 := Lib.hid h7; clear h7)))
                    go_roundw
                    case rel => exact ⟨i + 1, cnt, _, _, by simp, by simp, hlt, by omega, H7.out, .inl ⟨k, by omega, HA2.out⟩⟩
                    case measure => simp [intOf]; omega
                  · have hbe := hbehind.run4 (a := a) hk5
                    have HD1 := Lib.hid hd1
                    have HBE := Lib.hid hbe
                    have hdn := hbe.d
                    have HDN := Lib.hid (fun w' (h : Two w w' p q (a.run D).1 C) => h.left.down)
                    rw [hdn] at HDN
                    clear hd1 hd2 hbehind hbe hat htwo hra hfa hkd hdn
                    generalize (a.run D).2 = er at *
                    by_cases hcn2 : cnt = n1 + 1
                    · subst hcn2
                      go_wp2_with (first
                        | (go_at_call 12; ((with_reducible refine HD1.out.mono ?_); rintro e w6 ⟨rfl, h6⟩; obtain ⟨_, j0, j1, j2, j3, j4, _, _⟩ := HAT.out w6 h6.below; have H6 := Lib.hid h6; clear h6))
                        | (go_at_call 14; refine (HDN.out w6 H6.out).mono ?_; rintro e w9 ⟨rfl, rfl⟩))
                      go_roundw
                      case rel => exact ⟨i + 1, n1 + 1, _, _, by simp, by simp, hlt, by omega, H6.out, .inr ⟨by omega, HBE.out⟩⟩
                      case measure => simp [intOf]; omega
                    · go_wp2_with (first
                        | (go_at_call 12; ((with_reducible refine HD1.out.mono ?_); rintro e w6 ⟨rfl, h6⟩; obtain ⟨_, j0, j1, j2, j3, j4, _, _⟩ := HAT.out w6 h6.below; have H6 := Lib.hid h6; clear h6))
                        | (go_at_call 14; refine (HDN.out w6 H6.out).mono ?_; rintro e w9 ⟨rfl, rfl⟩))
                      go_roundw
                      case rel => exact ⟨i + 1, cnt, _, _, by simp, by simp, hlt, by omega, H6.out, .inr ⟨by omega, HBE.out⟩⟩
                      case measure => simp [intOf]; omega
            · obtain rfl : l.length = i := by omega
              obtain ⟨e1, e2, e3, hnow⟩ := both_same hhow
              have hs1 := same_any htwo e1 e2 e3 A c l H.out
              have HS1 := Lib.hid hs1
              have HT := Lib.hid htwo
              have HS2 := Lib.hid (fun w' (h : Two w w' p q D.start C.start) => same_any h rfl (fun f => by unfold St.Read; rw [hnow]; rfl) (fun f => by unfold St.Size; rw [hnow]) A c l H.out)
              clear hs1 hnow hhow htwo e1 e2 e3
              go_wp2_with (first
                | (go_at_call 28; ((with_reducible refine HS1.out.mono ?_); rintro e w6 ⟨rfl, b6⟩; have H6 := Lib.hid (HT.out.keep b6); clear b6))
                | (go_at_call 26; ((with_reducible refine (H6.out.step1 H6.out.ok1.start start_c).mono ?_); rintro e w7 ⟨rfl, h7⟩; have H7 := Lib.hid h7; clear h7))
                | (go_at_call 26; ((with_reducible refine (H7.out.step2 H7.out.ok2.start start_c).mono ?_); rintro e w8 ⟨rfl, h8⟩; have H8 := Lib.hid h8; clear h8))
                | (go_at_call 28; ((with_reducible refine (HS2.out w8 H8.out).mono ?_); rintro e w9 ⟨rfl, b9⟩; have B9 := Lib.hid (H8.out.keep b9).below; clear b9)))
              go_ret
              exact ⟨rfl, B9.out⟩
        · go_wp2_with fail
          go_ret
          exact ⟨rfl, B2.out⟩
    · go_wp2_with fail
      go_ret
      exact ⟨rfl, B2.out⟩
end Dsk
end Go.Proofs.Ytgaclibokapfaaa

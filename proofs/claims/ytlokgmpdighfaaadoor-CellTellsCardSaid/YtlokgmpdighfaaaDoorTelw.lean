/- CellTells: the walk. -/
import Derived.Test.YtlokgmpdighfaaaDoorDrk
import Derived.Test.YtlokgmpdighfaaaDoorOps
import Derived.Test.YtlokgmpdighfaaaDoorApa
namespace Go.Proofs.YtlokgmpdighfaaaDoor
open Go.RowKit Wire
set_option linter.unusedVariables false
set_option linter.unusedSimpArgs false
open Txt
namespace Dsk

section
variable {E : List (Nat × Obj)} {W w w' : World} {p q g : Nat} {S T S' T' : St} {f : FuncId} {args : Array Value} {r : Ending} {K L : List (Nat × Cl)} {c d c2 : Cl}
set_option maxHeartbeats 1000000 in
/-- A restart of the disk. -/
theorem DRK.again (h : DRK E W w p g S T K L) (A : Option Addr) (cp : Nat) (ks : List Int) (hr : Row W W.heap.size A (ks.map (Value.int .i64))) (hl : ks.length ≤ 1000000000) (he : opn (S.crash ks).start 3 = (0, some c2)) :
    Calls Tryd.prog 20 #[ptr p, .slice A ks.length cp] w fun e w' => ∃ q, e = .returned (.tuple #[ptr q, .int .i64 0]) ∧ DRK E W w' p g (S.crash ks).start T [(q, c2)] L := by
  have HCR := Lib.hid (h.crash1 A cp ks hr hl)
  have HST : Hid (∀ w', DRK E W w' p g (S.crash ks) T K L → Calls Tryd.prog 26 #[ptr p] w' fun e w2 => e = .returned (.tuple #[]) ∧ DRK E W w2 p g (S.crash ks).start T K L) := Lib.hid fun w' h => h.start1
  have HO := Lib.hid (fun w' (h : DRK E W w' p g (S.crash ks).start T K L) => h.open1_some he)
  clear h hr he
  go_enter Tryd.func20, Tryd.ntmps20
  go_wp2_with (first
    | (go_at_call 25; refine HCR.out.mono ?_; rintro e w1 ⟨rfl, h1⟩; have H1 := Lib.hid h1; clear h1)
    | (go_at_call 26; refine (HST.out _ H1.out).mono ?_; rintro e w2 ⟨rfl, h2⟩; have H2 := Lib.hid h2; clear h2)
    | (go_at_call 12; refine (HO.out _ H2.out).mono ?_; rintro e w3 ⟨q, rfl, h3⟩; have H3 := Lib.hid h3; clear h3))
  go_returns
  exact ⟨_, rfl, H3.out⟩
end

/-- The head of a round: both disks, and both cells, alike. -/
structure TlsRel (W : World) (p g : Nat) (l : List Opr) (av bv iv : Value) (wr : World) (q r i : Nat) (S : St) (c : Cl) : Prop where
  av : av = ptr q
  bv : bv = ptr r
  iv : iv = .int .i64 i
  le : i ≤ l.length
  both : DRK [] W wr p g S S [(q, c)] [(r, c)]
  rel : Rel 3 S c (fun _ => True)

set_option maxRecDepth 8000 in
set_option maxHeartbeats 4000000 in
theorem ctells_law (A : Option Addr) (cp : Nat) (l : List Opr) (W : World) (ho : Off W) (hl : Ops W A l) :
    Calls Tryd.prog 3 #[.slice A l.length cp] W fun e w' => e = .returned (.bool true) ∧ Below W.heap.size W w' := by
  have HSM := Lib.hid (csmall_any ho)
  have HOF := Lib.hid ho
  have HL := Lib.hid hl
  have hlen := hl.len
  have HN := Lib.hid (fun w p (h : One W w p St.new) => h.drk HOF.out)
  clear ho hl
  go_enter Tryd.func3, Tryd.ntmps3
  go_wp2_with (go_at_call 8; refine HSM.out.mono ?_; rintro e w1 ⟨rfl, h1⟩; have H1 := Lib.hid h1; clear h1 HSM)
  refine (few_any A cp l HL.out H1.out).mono ?_
  rintro e w2 ⟨b, rfl, hb, b2⟩
  have HB := Lib.hid hb
  have B2 := Lib.hid (next_below H1.out b2)
  clear hb b2 H1
  cases b with
  | false =>
    go_wp2_with fail
    go_ret
    exact ⟨rfl, B2.out⟩
  | true =>
    have HFW := Lib.hid (HB.out rfl).2
    clear HB
    obtain ⟨o1, r1⟩ := opn_new (f := 3) (by omega)
    have HO1 := Lib.hid (fun w p g (h : DRK [] W w p g St.new St.new [] []) => h.open1_some (f := 3) o1)
    have HO2 := Lib.hid (fun w p g K (h : DRK [] W w p g St.new St.new K []) => h.open2_some (f := 3) o1)
    have HRL := Lib.hid (r1.mono (B := fun _ => True) (fun _ _ => trivial))
    clear o1 r1
    go_wp2_with (first
      | (go_at_call 10; refine (new_one B2.out).mono ?_; rintro e w3 ⟨p, rfl, h3⟩; have H3 := Lib.hid h3; clear h3)
      | (go_at_call 11; refine (HN.out _ _ H3.out).mono ?_; rintro e w4 ⟨g, rfl, h4⟩; have H4 := Lib.hid h4; clear h4 H3)
      | (go_at_call 12; ((with_reducible refine (HO1.out _ _ _ H4.out).mono ?_); rintro e w5 ⟨q0, rfl, h5⟩; have H5 := Lib.hid h5; clear h5 H4))
      | (go_at_call 13; ((with_reducible refine (HO2.out _ _ _ _ H5.out).mono ?_); rintro e w6 ⟨r0, rfl, h6⟩; have H6 := Lib.hid h6; clear h6 H5)))
    clear HO1 HO2 HN
    go_loopw [7, 8, 9, 10, 11] (fun av _ bv _ iv wr => ∃ q r i S c, TlsRel W p g l av bv iv wr q r i S c) (fun _ _ _ _ iv _ => l.length - (intOf iv).toNat)
    case atStart => exact ⟨q0, r0, 0, _, _, rfl, rfl, rfl, Nat.zero_le _, H6.out, HRL.out⟩
    case round =>
      obtain ⟨q, r, i, S, c, ⟨rfl, rfl, rfl, hi, hboth, hrel2⟩⟩ := hrel
      have HRE := Lib.hid hrel2
      clear hrel2 HRL H6
      by_cases hlt : i < l.length
      · obtain ⟨b, o, A', c', hat⟩ := HL.out.all hlt
        obtain ⟨rfl, x0, x1, x2, x3, hrow, hfit⟩ := hat wr hboth.below
        have hfw := HFW.out l[i] (List.getElem_mem hlt)
        clear hat
        generalize l[i] = a at *
        have HK := Lib.hid hfw
        have HFI := Lib.hid hfit
        have HRO := Lib.hid hrow
        have HA := Lib.hid (hboth.alloc (.cells #[.int .i64 a.kind, .string a.s, .int .i64 a.n, .slice A' a.keep.length c'] 38))
        have HBO := Lib.hid hboth
        clear hfw hfit hrow hboth
        by_cases d0 : a.kind = 0
        · rw [d0] at x0 HA
          have HS1 := Lib.hid (fun w' (h : DRK [(wr.heap.size, .cells #[.int .i64 0, .string a.s, .int .i64 a.n, .slice A' a.keep.length c'] 38)] W w' p g S S [(q, c)] [(r, c)]) => h.set1 a.s HFI.out.s)
          have HS2 := Lib.hid (fun w' S' K (h : DRK [(wr.heap.size, .cells #[.int .i64 0, .string a.s, .int .i64 a.n, .slice A' a.keep.length c'] 38)] W w' p g S' S K [(r, c)]) => h.set2 a.s HFI.out.s)
          have HR := Lib.hid ((HRE.out.set (B := fun _ => True) (bl a.s) (by rw [bl_len]; have := HK.out.s; omega) (fun _ _ => trivial) (fun _ => trivial)).1)
          generalize c.set S (bl a.s) = X at *
          obtain ⟨er, c1, S1⟩ := X
          dsimp only at HS1 HS2 HR
          have HG1 := Lib.hid (fun w' q r (h : DRK [] W w' p g S1 S1 [(q, c1)] [(r, c1)]) => h.get1)
          have HG2 := Lib.hid (fun w' q r (h : DRK [] W w' p g S1 S1 [(q, c1)] [(r, c1)]) => h.get2)
          unfold str at HG1 HG2
          generalize (⟨c1.value.toArray⟩ : ByteArray) = vv at *
          generalize decide (c1.slot ≠ 0) = bb at *
          go_upto_region 17 with (fail)
          generalize wr.alloc (Obj.cells #[Value.int IntKind.i64 0, Value.string a.s, Value.int IntKind.i64 a.n, Value.slice A' a.keep.length c'] 38) = wa at *
          have HAd := Lib.hid (HA.out.keep (Below.refl _ wa).drew)
          clear HA
          go_region_held3 (fun w' => w'.cell? ⟨wr.heap.size, 1, none⟩ = some (.string a.s)) (first | exact (HAd.out.at 1).trans rfl | exact (h7.at 1).trans rfl | exact (h8.at 1).trans rfl | go_keep)
            (first
              | (go_at_call 14; refine (HS1.out _ HAd.out).mono ?_; rintro e w7 ⟨rfl, h7⟩)
              | (go_at_call 15; refine (HS2.out _ _ _ h7).mono ?_; rintro e w8 ⟨rfl, h8⟩))
          have HF := Lib.hid h8.free
          clear h7 h8 HAd HS1 HS2
          go_wp2_with (first
            | (go_at_call 23; ((with_reducible refine (HG1.out _ _ _ HF.out).mono ?_); rintro e w20 ⟨rfl, h20⟩; have H20 := Lib.hid h20; clear h20))
            | (go_at_call 24; ((with_reducible refine (HG2.out _ _ _ H20.out).mono ?_); rintro e w21 ⟨rfl, h21⟩; have H21 := Lib.hid h21; clear h21)))
          go_roundw
          case rel => exact ⟨q, r, i + 1, _, _, rfl, rfl, by simp, hlt, H21.out, HR.out⟩
          case measure => simp [intOf]; omega
        by_cases d1 : a.kind = 1
        · rw [d1] at x0 HA
          have HS1 := Lib.hid (fun w' (h : DRK [(wr.heap.size, .cells #[.int .i64 1, .string a.s, .int .i64 a.n, .slice A' a.keep.length c'] 38)] W w' p g S S [(q, c)] [(r, c)]) => h.lose1 HFI.out.n.2)
          have HS2 := Lib.hid (fun w' S' K (h : DRK [(wr.heap.size, .cells #[.int .i64 1, .string a.s, .int .i64 a.n, .slice A' a.keep.length c'] 38)] W w' p g S' S K [(r, c)]) => h.lose2 HFI.out.n.2)
          have HR := Lib.hid (HRE.out.lose HFI.out.n.2)
          generalize S.lose a.n = S1 at *
          have HG1 := Lib.hid (fun w' q r (h : DRK [] W w' p g S1 S1 [(q, c)] [(r, c)]) => h.get1)
          have HG2 := Lib.hid (fun w' q r (h : DRK [] W w' p g S1 S1 [(q, c)] [(r, c)]) => h.get2)
          unfold str at HG1 HG2
          generalize (⟨c.value.toArray⟩ : ByteArray) = vv at *
          generalize decide (c.slot ≠ 0) = bb at *
          go_wp2_with (first
            | (go_at_call 16; refine (HS1.out _ HA.out).mono ?_; rintro e w7 ⟨rfl, h7⟩; have H7 := Lib.hid h7; have y2 := (H7.out.at 2).trans rfl; clear h7)
            | (go_at_call 17; refine (HS2.out _ _ _ H7.out).mono ?_; rintro e w8 ⟨rfl, h8⟩; have HF := Lib.hid h8.free; clear h8 y2)
            | (go_at_call 23; ((with_reducible refine (HG1.out _ _ _ HF.out).mono ?_); rintro e w20 ⟨rfl, h20⟩; have H20 := Lib.hid h20; clear h20))
            | (go_at_call 24; ((with_reducible refine (HG2.out _ _ _ H20.out).mono ?_); rintro e w21 ⟨rfl, h21⟩; have H21 := Lib.hid h21; clear h21)))
          go_roundw
          case rel => exact ⟨q, r, i + 1, _, _, rfl, rfl, by simp, hlt, H21.out, HR.out⟩
          case measure => simp [intOf]; omega
        by_cases d2 : a.kind = 2
        · rw [d2] at x0 HA
          have hkl : a.keep.length ≤ 1000000000 := by have := HK.out.keep; omega
          have HS1 := Lib.hid (fun w' (h : DRK [(wr.heap.size, .cells #[.int .i64 2, .string a.s, .int .i64 a.n, .slice A' a.keep.length c'] 38)] W w' p g S S [(q, c)] [(r, c)]) => h.arm1 HFI.out.n.2 A' c' a.keep HRO.out hkl)
          have HS2 := Lib.hid (fun w' S' K (h : DRK [(wr.heap.size, .cells #[.int .i64 2, .string a.s, .int .i64 a.n, .slice A' a.keep.length c'] 38)] W w' p g S' S K [(r, c)]) => h.arm2 HFI.out.n.2 A' c' a.keep HRO.out hkl)
          have HR := Lib.hid (HRE.out.arm (ks := a.keep) HFI.out.n.2 hkl)
          generalize S.arm a.n a.keep = S1 at *
          have HG1 := Lib.hid (fun w' q r (h : DRK [] W w' p g S1 S1 [(q, c)] [(r, c)]) => h.get1)
          have HG2 := Lib.hid (fun w' q r (h : DRK [] W w' p g S1 S1 [(q, c)] [(r, c)]) => h.get2)
          unfold str at HG1 HG2
          generalize (⟨c.value.toArray⟩ : ByteArray) = vv at *
          generalize decide (c.slot ≠ 0) = bb at *
          go_wp2_with (first
            | (go_at_call 18; refine (HS1.out _ HA.out).mono ?_; rintro e w7 ⟨rfl, h7⟩; have H7 := Lib.hid h7; have y2 := (H7.out.at 2).trans rfl; have y3 := (H7.out.at 3).trans rfl; clear h7)
            | (go_at_call 19; refine (HS2.out _ _ _ H7.out).mono ?_; rintro e w8 ⟨rfl, h8⟩; have HF := Lib.hid h8.free; clear h8 y2 y3)
            | (go_at_call 23; ((with_reducible refine (HG1.out _ _ _ HF.out).mono ?_); rintro e w20 ⟨rfl, h20⟩; have H20 := Lib.hid h20; clear h20))
            | (go_at_call 24; ((with_reducible refine (HG2.out _ _ _ H20.out).mono ?_); rintro e w21 ⟨rfl, h21⟩; have H21 := Lib.hid h21; clear h21)))
          go_roundw
          case rel => exact ⟨q, r, i + 1, _, _, rfl, rfl, by simp, hlt, H21.out, HR.out⟩
          case measure => simp [intOf]; omega
        by_cases d3 : a.kind = 3
        · rw [d3] at x0 HA
          have hkl : a.keep.length ≤ 1000000000 := by have := HK.out.keep; omega
          obtain ⟨c1, o2, _, r2⟩ := HRE.out.can.again HRE.out.lt a.keep
          have HS1 := Lib.hid (fun w' (h : DRK [(wr.heap.size, .cells #[.int .i64 3, .string a.s, .int .i64 a.n, .slice A' a.keep.length c'] 38)] W w' p g S S [(q, c)] [(r, c)]) => h.again A' c' a.keep HRO.out hkl o2)
          have HS2 := Lib.hid (fun w' S' K (h : DRK [(wr.heap.size, .cells #[.int .i64 3, .string a.s, .int .i64 a.n, .slice A' a.keep.length c'] 38)] W w' p g S' S K [(r, c)]) => h.crash2 A' c' a.keep HRO.out hkl)
          have HS3 := Lib.hid (fun w' S' T K L (h : DRK [(wr.heap.size, .cells #[.int .i64 3, .string a.s, .int .i64 a.n, .slice A' a.keep.length c'] 38)] W w' p g S' T K L) => h.start2)
          have HS4 := Lib.hid (fun w' S' K L (h : DRK [(wr.heap.size, .cells #[.int .i64 3, .string a.s, .int .i64 a.n, .slice A' a.keep.length c'] 38)] W w' p g S' (S.crash a.keep).start K L) => h.open2_some o2)
          have HR := Lib.hid (r2.mono (B := fun _ => True) (fun _ _ => trivial))
          clear o2 r2
          generalize hS1 : (S.crash a.keep).start = S1 at *
          have HG1 := Lib.hid (fun w' q r (h : DRK [] W w' p g S1 S1 [(q, c1)] [(r, c1)]) => h.get1)
          have HG2 := Lib.hid (fun w' q r (h : DRK [] W w' p g S1 S1 [(q, c1)] [(r, c1)]) => h.get2)
          unfold str at HG1 HG2
          generalize (⟨c1.value.toArray⟩ : ByteArray) = vv at *
          generalize decide (c1.slot ≠ 0) = bb at *
          go_wp2_with (first
            | (go_at_call 20; refine (HS1.out _ HA.out).mono ?_; rintro e w7 ⟨q7, rfl, h7⟩; have H7 := Lib.hid h7; have y3 := (H7.out.at 3).trans rfl; clear h7)
            | (go_at_call 21; refine (HS2.out _ _ _ H7.out).mono ?_; rintro e w8 ⟨rfl, h8⟩; have H8 := Lib.hid h8; clear h8 y3)
            | (go_at_call 22; refine (HS3.out _ _ _ _ _ H8.out).mono ?_; rintro e w9 ⟨rfl, h9⟩; rw [hS1] at h9; have H9 := Lib.hid h9; clear h9)
            | (go_at_call 13; refine (HS4.out _ _ _ _ H9.out).mono ?_; rintro e w10 ⟨r10, rfl, h10⟩; have HF := Lib.hid h10.free; clear h10)
            | (go_at_call 23; ((with_reducible refine (HG1.out _ _ _ HF.out).mono ?_); rintro e w20 ⟨rfl, h20⟩; have H20 := Lib.hid h20; clear h20))
            | (go_at_call 24; ((with_reducible refine (HG2.out _ _ _ H20.out).mono ?_); rintro e w21 ⟨rfl, h21⟩; have H21 := Lib.hid h21; clear h21)))
          go_roundw
          case rel => exact ⟨q7, r10, i + 1, _, _, rfl, rfl, by simp, hlt, H21.out, HR.out⟩
          case measure => simp [intOf]; omega
        · have e0 := beq_eq_false_iff_ne.2 d0
          have e1 := beq_eq_false_iff_ne.2 d1
          have e2 := beq_eq_false_iff_ne.2 d2
          have e3 := beq_eq_false_iff_ne.2 d3
          have HG1 := Lib.hid (fun w' q r (h : DRK [] W w' p g S S [(q, c)] [(r, c)]) => h.get1)
          have HG2 := Lib.hid (fun w' q r (h : DRK [] W w' p g S S [(q, c)] [(r, c)]) => h.get2)
          unfold str at HG1 HG2
          generalize (⟨c.value.toArray⟩ : ByteArray) = vv at *
          generalize decide (c.slot ≠ 0) = bb at *
          have HF := Lib.hid HA.out.free
          have HR := HRE
          go_wp2_with (first
            | (go_at_call 23; ((with_reducible refine (HG1.out _ _ _ HF.out).mono ?_); rintro e w20 ⟨rfl, h20⟩; have H20 := Lib.hid h20; clear h20))
            | (go_at_call 24; ((with_reducible refine (HG2.out _ _ _ H20.out).mono ?_); rintro e w21 ⟨rfl, h21⟩; have H21 := Lib.hid h21; clear h21)))
          go_roundw
          case rel => exact ⟨q, r, i + 1, _, _, rfl, rfl, by simp, hlt, H21.out, HR.out⟩
          case measure => simp [intOf]; omega
      · have HR0 : Hid (Row W W.heap.size none (([] : List Int).map (Value.int .i64))) := Lib.hid (fun k u h => by simp at h)
        have HC1 : Hid (Calls Tryd.prog 25 #[ptr p, .slice none 0 0] wr fun e w2 => e = .returned (.tuple #[]) ∧ DRK [] W w2 p g (S.crash []) S [(q, c)] [(r, c)]) := Lib.hid (hboth.crash1 none 0 [] HR0.out (by simp))
        have HC2 : Hid (∀ w', DRK [] W w' p g (S.crash []) S [(q, c)] [(r, c)] → Calls Tryd.prog 26 #[ptr p] w' fun e w2 => e = .returned (.tuple #[]) ∧ DRK [] W w2 p g (S.crash []).start S [(q, c)] [(r, c)]) := Lib.hid fun w' h => h.start1
        have HC3 : Hid (∀ w' S', DRK [] W w' p g S' S [(q, c)] [(r, c)] → Calls Tryd.prog 21 #[ptr g, .slice none 0 0] w' fun e w2 => e = .returned (.tuple #[]) ∧ DRK [] W w2 p g S' (S.crash []) [(q, c)] [(r, c)]) := Lib.hid fun w' S' h => h.crash2 none 0 [] HR0.out (by simp)
        have HC4 : Hid (∀ w' S', DRK [] W w' p g S' (S.crash []) [(q, c)] [(r, c)] → Calls Tryd.prog 22 #[ptr g] w' fun e w2 => e = .returned (.tuple #[]) ∧ DRK [] W w2 p g S' (S.crash []).start [(q, c)] [(r, c)]) := Lib.hid fun w' S' h => h.start2
        have hz : (((S.crash []).start.Size 3 : Nat) : Int) ≤ 9223372036854775807 := by
          have := (HRE.out.ok.crash []).start.now.room 3
          unfold St.Size
          split
          · have e : (3 : Int).toNat = 3 := rfl
            rw [e]
            omega
          · omega
        have HD1 := Lib.hid (fun w' (h : DRK [] W w' p g (S.crash []).start (S.crash []).start [(q, c)] [(r, c)]) => h.size1 3)
        have HD2 := Lib.hid (fun w' (h : DRK [] W w' p g (S.crash []).start (S.crash []).start [(q, c)] [(r, c)]) => h.size2 3)
        have HD3 := Lib.hid (fun w' (h : DRK [] W w' p g (S.crash []).start (S.crash []).start [(q, c)] [(r, c)]) => h.read1 3 0 ((S.crash []).start.Size 3) (by omega) hz)
        have HD4 := Lib.hid (fun w' (h : DRK [] W w' p g (S.crash []).start (S.crash []).start [(q, c)] [(r, c)]) => h.read2 3 0 ((S.crash []).start.Size 3) (by omega) hz)
        clear hz hboth HRE HR0
        generalize (S.crash []).start = S5 at *
        generalize S.crash [] = S4 at *
        generalize S5.Size 3 = z at *
        generalize S5.Read 3 0 z = U at *
        obtain ⟨u, eu⟩ := U
        dsimp only at HD3 HD4
        unfold str at HD3 HD4
        generalize (⟨u.toArray⟩ : ByteArray) = vv at *
        go_wp2_with (first
          | (go_at_call 25; refine HC1.out.mono ?_; rintro e w7 ⟨rfl, h7⟩; have H7 := Lib.hid h7; clear h7)
          | (go_at_call 26; refine (HC2.out _ H7.out).mono ?_; rintro e w8 ⟨rfl, h8⟩; have H8 := Lib.hid h8; clear h8)
          | (go_at_call 21; refine (HC3.out _ _ H8.out).mono ?_; rintro e w9 ⟨rfl, h9⟩; have H9 := Lib.hid h9; clear h9)
          | (go_at_call 22; refine (HC4.out _ _ H9.out).mono ?_; rintro e w10 ⟨rfl, h10⟩; have H10 := Lib.hid h10; clear h10)
          | (go_at_call 27; refine (HD1.out _ H10.out).mono ?_; rintro e w11 ⟨rfl, rfl⟩)
          | (go_at_call 28; refine (HD3.out _ H10.out).mono ?_; rintro e w12 ⟨rfl, h12⟩; have H12 := Lib.hid h12; clear h12)
          | (go_at_call 29; refine (HD4.out _ H12.out).mono ?_; rintro e w13 ⟨rfl, h13⟩; have H13 := Lib.hid h13; clear h13)
          | (go_at_call 30; refine (HD2.out _ H13.out).mono ?_; rintro e w14 ⟨rfl, h14⟩; have H14 := Lib.hid h14; clear h14))
        go_ret
        exact ⟨rfl, H14.out.below⟩
end Dsk
end Go.Proofs.YtlokgmpdighfaaaDoor

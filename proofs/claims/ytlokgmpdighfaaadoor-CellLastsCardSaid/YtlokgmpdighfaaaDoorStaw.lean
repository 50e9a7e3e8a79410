/- CellStays: the walk. -/
import Derived.Test.YtlokgmpdighfaaaDoorOps
import Derived.Test.YtlokgmpdighfaaaDoorApa
namespace Go.Proofs.YtlokgmpdighfaaaDoor
open Go.RowKit Wire
set_option linter.unusedVariables false
set_option linter.unusedSimpArgs false
open Txt
namespace Dsk

section
variable {W w w' : World} {p q : Nat} {S T S' : St} {f : FuncId} {args : Array Value} {R : Ending} {K : List (Nat × Cl)} {c c2 : Cl}
set_option maxHeartbeats 1000000 in
/-- A restart. -/
theorem Ones.again (h : Ones W w p S K) (A : Option Addr) (cp : Nat) (ks : List Int) (hr : Row W W.heap.size A (ks.map (Value.int .i64))) (hl : ks.length ≤ 1000000000) (he : opn (S.crash ks).start 3 = (0, some c2)) :
    Calls Tryd.prog 20 #[ptr p, .slice A ks.length cp] w fun e w' => ∃ q, e = .returned (.tuple #[ptr q, .int .i64 0]) ∧ Ones W w' p (S.crash ks).start [(q, c2)] := by
  have HCR : Hid (Calls Tryd.prog 25 #[ptr p, .slice A ks.length cp] w fun e w2 => e = .returned (.tuple #[]) ∧ Ones W w2 p (S.crash ks) []) := Lib.hid
    ((Ones.of h.one h.off).step (h.ok.crash ks) (crash_c h.below h.ok A cp ks hr hl))
  have HST : Hid (∀ w', Ones W w' p (S.crash ks) [] → Calls Tryd.prog 26 #[ptr p] w' fun e w2 => e = .returned (.tuple #[]) ∧ Ones W w2 p (S.crash ks).start []) := Lib.hid fun w' h => h.step h.ok.start start_c
  have HO := Lib.hid (fun w' (h : Ones W w' p (S.crash ks).start []) => h.open_some he)
  clear h hr he
  go_enter Tryd.func20, Tryd.ntmps20
  go_wp2_with (first
    | (go_at_call 25; refine HCR.out.mono ?_; rintro e w1 ⟨rfl, h1⟩; have H1 := Lib.hid h1; clear h1)
    | (go_at_call 26; refine (HST.out _ H1.out).mono ?_; rintro e w2 ⟨rfl, h2⟩; have H2 := Lib.hid h2; clear h2)
    | (go_at_call 12; refine (HO.out _ H2.out).mono ?_; rintro e w3 ⟨q, rfl, h3⟩; have H3 := Lib.hid h3; clear h3))
  go_returns
  exact ⟨_, rfl, H3.out⟩
theorem Ones.lose (h : Ones W w p S K) {n : Int} (hn : n ≤ 9223372036854775807) : Calls Tryd.prog 16 #[ptr p, .int .i64 n] w fun e w2 => e = .returned (.tuple #[]) ∧ Ones W w2 p (S.lose n) K :=
  h.step (h.ok.lose hn) (lose_c n)
theorem Ones.arm (h : Ones W w p S K) {n : Int} (hn : n ≤ 9223372036854775807) (A : Option Addr) (cp : Nat) (ks : List Int) (hr : Row W W.heap.size A (ks.map (Value.int .i64))) (hl : ks.length ≤ 1000000000) : Calls Tryd.prog 18 #[ptr p, .int .i64 n, .slice A ks.length cp] w fun e w2 => e = .returned (.tuple #[]) ∧ Ones W w2 p (S.arm n ks) K :=
  h.step (h.ok.arm hn hl) (arm_c h.below n A cp ks hr hl)
end

theorem made_byte (N j : Nat) (h : j < N) : (madeCells (Value.int .u8 0).cells N)[j]? = some (.int .u8 0) := by
  unfold madeCells
  have h2 : (Value.int .u8 0).cells = #[.int .u8 0] := rfl
  rw [h2]
  simp [h, Nat.mod_one]
/-- 'make([]byte, n)', and what string(..) of it is. -/
theorem wpList_make_str {w : World} {ops : Array Oper} {rest : List Oper} {o : Oper} {a : Act} {Q : Exit → Act → World → Prop} (hgd : o.guard = none) (l c : Operand) (hop : o.op = Op.makeSlice 54 l c) (n : Nat) (L M : Int) (hl : a.eval l = .int .i64 L) (hc : a.eval c = .int .i64 M) (hL : L = n) (hC : M = n) (hn : n ≤ 1000000000)
    (h : ∀ (w' : World) (ls : ByteArray), ls.size = n → Below w.heap.size w w' → (convert 54 9 (.slice (some ⟨w.heap.size, 0, none⟩) n n)).run Tryd.prog w' = .ok (.string ls) w' → wpList Tryd.prog ops Q rest (a.put o.dst (.slice (some ⟨w.heap.size, 0, none⟩) n n)) w') :
    wpList Tryd.prog ops Q (o :: rest) a w := by
  refine wpList_plain hgd fun K hK' => ?_
  obtain ⟨i0, hi0, hi1, hi2, hi3⟩ := info_parts info_byte
  have hrun := run_make (P := Tryd.prog) w 54 5 i0 (.int .u8 0) Tryd.underlying54 hi0 hi1 .i64 .i64 (n : Int) (n : Int) (by omega) (by omega) (by rw [hi3]; omega) (by omega)
  have e : ((n : Int)).toNat = n := by omega
  rw [e, hi2, Nat.mul_one] at hrun
  subst hL
  subst hC
  have hb : Blk (w.alloc (.cells (madeCells (Value.int .u8 0).cells n) 5)) w.heap.size _ _ := Blk.fresh w _ _
  have hcv := run_convert_bytes_back (P := Tryd.prog) (w.alloc (.cells (madeCells (Value.int .u8 0).cells n) 5)) 54 9 5 ⟨w.heap.size, 0, none⟩ n (List.replicate n 0) Tryd.underlying54 Tryd.underlying5 Tryd.underlying9 (fun j hj => by
    rw [List.length_replicate] at hj
    rw [row_add', Nat.zero_add, hb.at, made_byte _ _ hj, List.getElem_replicate]
    rfl)
  rw [List.length_replicate] at hcv
  unfold Oper.wp
  simp [execOp, hop, hl, hc, hrun, Result.andThen]
  exact hK' _ _ (h _ _ (by rw [bytes_size, List.length_replicate]) ((Below.refl _ w).alloc (Nat.le_refl _) _) hcv)

/-- The head of a round of the first loop: a disk, and the cell that is open. -/
structure StaRel (W : World) (p : Nat) (l : List Opr) (cv iv : Value) (wr : World) (q i : Nat) (S : St) (c : Cl) : Prop where
  cv : cv = ptr q
  iv : iv = .int .i64 i
  le : i ≤ l.length
  ones : Ones W wr p S [(q, c)]
  rel : Rel 3 S c (fun _ => True)
/-- .. of the second one. -/
structure KepRel (W : World) (p : Nat) (s : List UInt8) (cv iv : Value) (wr : World) (q i : Nat) (S : St) (c : Cl) : Prop where
  cv : cv = ptr q
  iv : iv = .int .i64 i
  le : i ≤ 2
  ones : Ones W wr p S [(q, c)]
  rel : Rel 3 S c (fun z => ∃ k, z = some (k, s))
  slot : c.slot ≠ 0
  value : c.value = s
theorem kept_next {s : List UInt8} {S : St} {c : Cl} (h : Rel 3 S c (fun z => ∃ k, z = some (k, s))) (ks : List Int) : ∃ c2, opn (S.crash ks).start 3 = (0, some c2) ∧ Rel 3 (S.crash ks).start c2 (fun z => ∃ k, z = some (k, s)) ∧ c2.slot ≠ 0 ∧ c2.value = s := by
  obtain ⟨c2, h1, ⟨k, h2⟩, h3⟩ := h.can.again h.lt ks
  exact ⟨c2, h1, h3.mono (fun z hz => ⟨k, hz.trans h2⟩), (nm_some h2).1, (nm_some h2).2⟩

set_option maxRecDepth 8000 in
set_option maxHeartbeats 2000000 in
theorem stays_law (A : Option Addr) (cp : Nat) (l : List Opr) (s : ByteArray) (A1 : Option Addr) (cp1 : Nat) (k1 : List Int) (A2 : Option Addr) (cp2 : Nat) (k2 : List Int) (W : World) (ho : Off W) (hl : Ops W A l) (hs : s.size ≤ maxLen) (hr1 : Row W W.heap.size A1 (k1.map (Value.int .i64))) (hr2 : Row W W.heap.size A2 (k2.map (Value.int .i64))) :
    Calls Tryd.prog 6 #[.slice A l.length cp, .string s, .slice A1 k1.length cp1, .slice A2 k2.length cp2] W fun e w' => e = .returned (.bool true) ∧ Below W.heap.size W w' := by
  have HSM := Lib.hid (csmall_any ho)
  have HOF := Lib.hid ho
  have HR1 : Hid (Row W W.heap.size A1 (k1.map (Value.int .i64))) := Lib.hid hr1
  have HR2 : Hid (Row W W.heap.size A2 (k2.map (Value.int .i64))) := Lib.hid hr2
  have HL := Lib.hid hl
  have hlen := hl.len
  clear ho hr1 hr2 hl
  go_enter Tryd.func6, Tryd.ntmps6
  go_wp2_with (go_at_call 8; refine HSM.out.mono ?_; rintro e w1 ⟨rfl, h1⟩; have H1 := Lib.hid h1; clear h1 HSM)
  refine (few_any A cp l HL.out H1.out).mono ?_
  rintro e w2 ⟨b, rfl, hb, b2⟩
  have HB := Lib.hid hb
  have B2 := Lib.hid (next_below H1.out b2)
  clear hb b2 H1
  cases b with
  | false =>
    go_wp2_with fail
    go_ret
    exact ⟨rfl, B2.out⟩
  | true =>
    have HFW := Lib.hid (HB.out rfl).2
    clear HB
    by_cases b1 : 400 < s.size
    · go_wp2_with fail
      go_ret
      exact ⟨rfl, B2.out⟩
    by_cases b3 : 100 < k1.length
    · go_wp2_with fail
      go_ret
      exact ⟨rfl, B2.out⟩
    by_cases b4 : 100 < k2.length
    · go_wp2_with fail
      go_ret
      exact ⟨rfl, B2.out⟩
    obtain ⟨o1, r1⟩ := opn_new (f := 3) (by omega)
    have HO1 := Lib.hid (fun w p (h : Ones W w p St.new []) => h.open_some (f := 3) o1)
    have HRL := Lib.hid (r1.mono (B := fun _ => True) (fun _ _ => trivial))
    clear o1 r1
    go_wp2_with (first
      | (go_at_call 10; refine (new_one B2.out).mono ?_; rintro e w3 ⟨p, rfl, h3⟩; have H3 := Lib.hid (Ones.of h3 HOF.out); clear h3)
      | (go_at_call 12; ((with_reducible refine (HO1.out _ _ H3.out).mono ?_); rintro e w4 ⟨q0, rfl, h4⟩; have H4 := Lib.hid h4; clear h4 H3)))
    clear HO1
    go_loopw [12, 13, 14] (fun cv _ iv wr => ∃ q i S c, StaRel W p l cv iv wr q i S c) (fun _ _ iv _ => l.length - (intOf iv).toNat)
    case atStart => exact ⟨q0, 0, _, _, rfl, rfl, Nat.zero_le _, H4.out, HRL.out⟩
    case round =>
      obtain ⟨q, i, S, c, ⟨rfl, rfl, hi, hones, hrel2⟩⟩ := hrel
      have HON := Lib.hid hones
      have HRE := Lib.hid hrel2
      clear hones hrel2 HRL H4
      by_cases hlt : i < l.length
      · obtain ⟨b, o, A', c', hat⟩ := HL.out.all hlt
        obtain ⟨rfl, x0, x1, x2, x3, hrow, hfit⟩ := hat wr HON.out.below
        have hfw := HFW.out l[i] (List.getElem_mem hlt)
        clear hat
        generalize l[i] = a at *
        have HK := Lib.hid hfw
        have HFI := Lib.hid hfit
        have HRO := Lib.hid hrow
        clear hfw hfit hrow
        by_cases d0 : a.kind = 0
        · have HS := Lib.hid (HON.out.set a.s HFI.out.s)
          have HR := Lib.hid ((HRE.out.set (B := fun _ => True) (bl a.s) (by rw [bl_len]; have := HK.out.s; omega) (fun _ _ => trivial) (fun _ => trivial)).1)
          rw [d0] at x0
          generalize c.set S (bl a.s) = X at *
          go_wp2_with (go_at_call 14; refine HS.out.mono ?_; rintro e w5 ⟨rfl, h5⟩; have H5 := Lib.hid h5; clear h5)
          go_roundw
          case rel => exact ⟨q, i + 1, _, _, rfl, by simp, hlt, H5.out, HR.out⟩
          case measure => simp [intOf]; omega
        by_cases d1 : a.kind = 1
        · have HS := Lib.hid (HON.out.lose HFI.out.n.2)
          have HR := Lib.hid (HRE.out.lose HFI.out.n.2)
          rw [d1] at x0
          go_wp2_with (go_at_call 16; refine HS.out.mono ?_; rintro e w5 ⟨rfl, h5⟩; have H5 := Lib.hid h5; clear h5)
          go_roundw
          case rel => exact ⟨q, i + 1, _, _, rfl, by simp, hlt, H5.out, HR.out⟩
          case measure => simp [intOf]; omega
        by_cases d3 : a.kind = 3
        · obtain ⟨c2, o2, _, r2⟩ := HRE.out.can.again HRE.out.lt a.keep
          have HS := Lib.hid (HON.out.again A' c' a.keep HRO.out (by have := HK.out.keep; omega) o2)
          have HR := Lib.hid (r2.mono (B := fun _ => True) (fun _ _ => trivial))
          clear o2 r2
          rw [d3] at x0
          go_wp2_with (go_at_call 20; refine HS.out.mono ?_; rintro e w5 ⟨q5, rfl, h5⟩; have H5 := Lib.hid h5; clear h5)
          go_roundw
          case rel => exact ⟨q5, i + 1, _, _, rfl, by simp, hlt, H5.out, HR.out⟩
          case measure => simp [intOf]; omega
        · have e0 := beq_eq_false_iff_ne.2 d0
          have e1 := beq_eq_false_iff_ne.2 d1
          have e3 := beq_eq_false_iff_ne.2 d3
          go_wp2_with fail
          go_roundw
          case rel => exact ⟨q, i + 1, _, _, rfl, by simp, hlt, HON.out, HRE.out⟩
          case measure => simp [intOf]; omega
      · have HS := Lib.hid (HON.out.set s hs)
        have HR := Lib.hid ((HRE.out.set (B := fun _ => True) (bl s) (by rw [bl_len]; omega) (fun _ _ => trivial) (fun _ => trivial)).2)
        generalize c.set S (bl s) = X at *
        obtain ⟨er, c1, S1⟩ := X
        dsimp only at HS HR
        clear HON HRE HFW HL
        by_cases e1 : er = 0
        case neg =>
          have q1 : (er == 0) = false := beq_eq_false_iff_ne.2 e1
          have q2 := bne_of q1
          go_wp2_with (go_at_call 14; refine HS.out.mono ?_; rintro e w5 ⟨rfl, h5⟩; have H5 := Lib.hid h5; clear h5)
          go_ret
          exact ⟨rfl, H5.out.below⟩
        subst e1
        obtain ⟨_, sl, va, rl⟩ := HR.out rfl
        have HRL := Lib.hid rl
        clear rl HR
        have HS2 : Hid (∀ w' (ls : ByteArray), ls.size = 65537 → Ones W w' p S1 [(q, c1)] → Calls Tryd.prog 14 #[ptr q, .string ls] w' fun e w2 => e = .returned (.int .i64 6) ∧ Ones W w2 p S1 [(q, c1)]) := Lib.hid fun w' ls hz h => by
          have h2 := h.set ls (small_max (by omega))
          have e : c1.set S1 (bl ls) = (6, c1, S1) := by unfold Cl.set; rw [if_pos (by rw [bl_len]; omega)]
          rw [e] at h2
          exact h2
        go_wp2_with (first
          | (go_at_call 14; ((with_reducible refine HS.out.mono ?_); rintro e w5 ⟨rfl, h5⟩; have H5 := Lib.hid h5; clear h5 HS))
          | (at_make; refine wpList_make_str rfl _ _ rfl 65537 _ _ rfl rfl (by omega) (by omega) (by omega) ?_; intro w6 ls hz hb6 hcv; have H6 := Lib.hid (H5.out.keep hb6); clear hb6)
          | (go_at_call 14; ((with_reducible refine (HS2.out _ ls hz H6.out).mono ?_); rintro e w7 ⟨rfl, h7⟩; have H7 := Lib.hid h7; clear h7)))
        clear hcv hz HS2 H5 H6
        go_loopw [12, 13, 16, 17, 18, 19] (fun cv _ iv _ _ _ wr => ∃ q i S c, KepRel W p (bl s) cv iv wr q i S c) (fun _ _ iv _ _ _ _ => 2 - (intOf iv).toNat)
        case atStart => exact ⟨q, 0, _, _, rfl, rfl, by omega, H7.out, HRL.out, sl, va⟩
        case round =>
          obtain ⟨q, i, S, c, ⟨rfl, rfl, hi2, hones, hrel2, hsl, hva⟩⟩ := hrel
          clear H7 HRL sl va
          have HG := hones.get
          rw [hva, decide_eq_true hsl] at HG
          have HGG : Hid (Calls Tryd.prog 23 #[ptr q] wr fun e w' => e = .returned (.tuple #[.string s, .bool true]) ∧ Ones W w' p S [(q, c)]) := Lib.hid HG
          clear HG hsl hva hones
          rcases (by omega : i = 0 ∨ i = 1 ∨ i = 2) with rfl | rfl | rfl
          · obtain ⟨c2, o2, r2, sl2, va2⟩ := kept_next hrel2 k1
            have HS3 := Lib.hid (fun w' (h : Ones W w' p S [(q, c)]) => h.again A1 cp1 k1 HR1.out (by omega) o2)
            have HRR := Lib.hid r2
            clear o2 r2 hrel2
            go_wp2_with (first
              | (go_at_call 23; refine HGG.out.mono ?_; rintro e w8 ⟨rfl, h8⟩; have H8 := Lib.hid h8; clear h8)
              | (go_at_call 20; ((with_reducible refine (HS3.out _ H8.out).mono ?_); rintro e w9 ⟨q9, rfl, h9⟩; have H9 := Lib.hid h9; clear h9)))
            exact ⟨⟨q9, 1, _, _, rfl, rfl, by omega, H9.out, HRR.out, sl2, va2⟩, by simp [intOf]⟩
          · obtain ⟨c2, o2, r2, sl2, va2⟩ := kept_next hrel2 k2
            have HS3 := Lib.hid (fun w' (h : Ones W w' p S [(q, c)]) => h.again A2 cp2 k2 HR2.out (by omega) o2)
            have HRR := Lib.hid r2
            clear o2 r2 hrel2
            go_wp2_with (first
              | (go_at_call 23; refine HGG.out.mono ?_; rintro e w8 ⟨rfl, h8⟩; have H8 := Lib.hid h8; clear h8)
              | (go_at_call 20; ((with_reducible refine (HS3.out _ H8.out).mono ?_); rintro e w9 ⟨q9, rfl, h9⟩; have H9 := Lib.hid h9; clear h9)))
            exact ⟨⟨q9, 2, _, _, rfl, rfl, by omega, H9.out, HRR.out, sl2, va2⟩, by simp [intOf]⟩
          · clear hrel2
            go_wp2_with (go_at_call 23; refine HGG.out.mono ?_; rintro e w8 ⟨rfl, h8⟩; have H8 := Lib.hid h8; clear h8)
            go_ret
            exact ⟨rfl, H8.out.below⟩
end Dsk
end Go.Proofs.YtlokgmpdighfaaaDoor

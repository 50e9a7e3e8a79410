/- Package lex: Lex. -/
import Derived.Test.YtibeangcjfjeiaaDoorMgU
namespace Go.Proofs.YtibeangcjfjeiaaDoor
open Go.RowKit Wire Txt
set_option linter.unusedVariables false
set_option maxRecDepth 100000
set_option linter.unusedSimpArgs false
namespace Lx

/-- What Lex answers. -/
def LPost (w : World) (x : Lr) (e : Ending) (w' : World) : Prop := Below w.heap.size w w' ∧
  match x with
  | .bad er k => e = .returned (.tuple #[.slice none 0 0, .int .i64 er, .int .i64 k])
  | .ok l => ∃ v, e = .returned (.tuple #[v, .int .i64 0, .int .i64 0]) ∧ Has w' v l
theorem lpost_bad {w w' : World} {x : Lr} {er k : Nat} (hx : x = .bad er k) (b : Below w.heap.size w w') : LPost w x (.returned (.tuple #[.slice none 0 0, .int .i64 er, .int .i64 k])) w' := by
  subst hx
  exact ⟨b, rfl⟩
theorem lpost_ok {w w' : World} {x : Lr} {l : List Tk} {v : Value} (hx : x = .ok l) (b : Below w.heap.size w w') (h : Has w' v l) : LPost w x (.returned (.tuple #[v, .int .i64 0, .int .i64 0])) w' := by
  subst hx
  exact ⟨b, v, rfl, h⟩

structure LexRel (W : World) (src : List UInt8) (tv : Value) (w : World) (rest : List UInt8) (L : Nat) (T : List Tk) : Prop where
  rd : RD w W.heap.size rest L
  row : Grow w (W.heap.size + 1) 4 tv T.length (tks T)
  told : lexP src 1 = (lexP rest L).join T
  line : L + rest.length ≤ src.length + 1
  count : T.length + rest.length ≤ src.length
  below : Below W.heap.size W w
def lenV : Value → Nat
  | .slice _ n _ => n
  | _ => 0

theorem below_ch {W w w1 : World} (h : Below W.heap.size W w) (g : w.grownBy w1 (some W.heap.size)) : Below W.heap.size W w1 := h.grown g h.size (fun k hk => by injection hk with hk; omega)
theorem grow_ch {W w w1 : World} {tv : Value} {n : Nat} {xs : List Value} (h : Grow w (W.heap.size + 1) 4 tv n xs) (g : w.grownBy w1 (some W.heap.size)) : Grow w1 (W.heap.size + 1) 4 tv n xs :=
  h.grown g (.inr fun e => by have := (h.block _ e).1; omega)

theorem lex_step {W wr w3 w6 : World} {src rest rest' : List UInt8} {tv v6 : Value} {L kind : Nat} {T : List Tk} {c : UInt8} {r text : List UInt8} {n : Int} {o o2 : Obj} (hR : LexRel W src tv wr rest L T) (hs : skip rest = c :: r) (ht : tok c r = .got kind text n rest')
    (g3 : wr.grownBy w3 (some W.heap.size)) (h3 : RD w3 W.heap.size rest' (nxt kind L)) (hown : Grow w6 (W.heap.size + 1) 4 v6 (T.length + 1) (tks T ++ [.int .i64 kind, str text, .int .i64 n, .int .i64 L])) (g6 : ((w3.alloc o).alloc o2).grownBy w6 tv.ownBlock) :
    LexRel W src v6 w6 rest' (nxt kind L) (T ++ [⟨kind, text, n, L⟩]) := by
  have hl := tok_len ht
  have hsk := skip_len rest
  rw [hs, List.length_cons] at hsk
  have hh := skip_head hs
  have hline := hR.line
  have hcount := hR.count
  have hn : nxt kind L ≤ L + 1 := by unfold nxt; split <;> omega
  have b3 := below_ch hR.below g3
  have b5 := (b3.alloc b3.size o).alloc (by have := b3.size; simp; omega) o2
  have hrow := grow_ch hR.row g3
  refine ⟨?_, ?_, ?_, by omega, by simp; omega, b5.grown g6 b5.size (fun k hk => by have := (hrow.block k hk).1; omega)⟩
  · exact Blk.past (Blk.kept (Blk.kept h3 o) o2) g6 (fun e => by have := (hrow.block _ e.symm).1; omega)
  · rw [List.length_append, tks_append]
    exact hown
  · rw [hR.told, ← lexP_skip rest, hs, lexP_got hh.1 hh.2 ht, push_join, join_join]
theorem lex_stop {W wr : World} {src rest : List UInt8} {tv : Value} {L e : Nat} {T : List Tk} {c : UInt8} {r : List UInt8} (hR : LexRel W src tv wr rest L T) (hs : skip rest = c :: r) (ht : tok c r = .bad e) : lexP src 1 = .bad e L := by
  have hh := skip_head hs
  rw [hR.told, ← lexP_skip rest, hs, lexP_bad hh.1 hh.2 ht]
  rfl
theorem lex_end {W wr : World} {src rest : List UInt8} {tv : Value} {L : Nat} {T : List Tk} (hR : LexRel W src tv wr rest L T) (hs : skip rest = []) : lexP src 1 = .ok (T ++ [fin L]) := by
  rw [hR.told, ← lexP_skip rest, hs]
  rfl

theorem lex_has {w : World} {B : Nat} {v : Value} {T : List Tk} {L : Nat} (h : Grow w B 4 v (T.length + 1) (tks T ++ [.int .i64 4, .string ⟨#[]⟩, .int .i64 0, .int .i64 L])) : Has w v (T ++ [fin L]) := by
  refine ⟨Grow.tks (B := B) ?_⟩
  rw [tks_append, List.length_append]
  exact h
theorem room4 {n : Nat} (h : n ≤ 1000000) : n + 1 ≤ maxLen ∧ (n + 1) * 40 ≤ 140737488355328 := ⟨small_max (by omega), by omega⟩
theorem lex_out {W w1 w4 : World} {tv : Value} {n : Nat} {xs : List Value} {o : Obj} (b1 : Below W.heap.size W w1) (hrow : Grow w1 (W.heap.size + 1) 4 tv n xs) (g : (w1.alloc o).grownBy w4 tv.ownBlock) : Below W.heap.size W w4 :=
  (b1.alloc b1.size o).grown g (b1.alloc b1.size o).size (fun k hk => by have := (hrow.block k hk).1; omega)
theorem lex_out2 {W w1 : World} (b1 : Below W.heap.size W w1) (o : Obj) : Below W.heap.size W (w1.alloc o) := b1.alloc b1.size o
theorem new_cells4 (w : World) (o : Obj) (t : TypeId) (xs : List Value) : ∀ j u, xs[j]? = some u → ((w.alloc o).alloc (.cells xs.toArray t)).cell? ((⟨w.heap.size + 1, 0, none⟩ : Addr).add j) = some u := by
  intro j u hu
  have h := new_cells (w.alloc o) t xs j u hu
  rw [show (w.alloc o).heap.size = w.heap.size + 1 from by simp] at h
  exact h
theorem tok_bad {c : UInt8} {r : List UInt8} {e : Nat} (h : tok c r = .bad e) : e = 3 ∨ e = 11 := by
  unfold tok at h
  split at h
  · cases h
  · split at h
    · unfold textT at h
      split at h
      · cases h
        exact .inr rfl
      · split at h
        · cases h
        · cases h
          exact .inr rfl
    · split at h
      · unfold wordT at h
        split at h
        · cases h
        · split at h
          · cases h
          · split at h
            · cases h
              exact .inl rfl
            · cases h
              exact .inr rfl
      · cases h
        exact .inr rfl
theorem below_n {B : Nat} {W w : World} (h : Below B W w) (n : Nat) : Below B W (w.drewN n) := h.trans ⟨rfl, rfl, rfl, Nat.le_refl _, fun _ _ => rfl⟩
theorem i_mf (P : Program) (fn : Fn) (first cap : Array Value) (w : World) : (Instr.makeFunc fn first cap).run P w = .ok (.func fn first cap) w := rfl

set_option maxRecDepth 8000 in
set_option maxHeartbeats 4000000 in
theorem lex_any (src : List UInt8) (w : World) (hl : src.length ≤ 1000000) :
    Calls Tryd.prog 17 #[str src] w (LPost w (lexAll src)) := by
  obtain ⟨s, rfl⟩ := mk_bl src
  obtain ⟨i0, hi0, hi1, hi2, hi3⟩ := info_parts info_tk
  rw [bl_len] at hl
  have hmf := i_mf Tryd.prog
  by_cases hf : 20000 < s.size
  · have HX : Hid (lexAll (bl s) = .bad 6 0) := Lib.hid (by unfold lexAll; rw [bl_len, if_pos hf])
    generalize lexAll (bl s) = X at HX ⊢
    rw [str_bl]
    go_enter Tryd.func17, Tryd.ntmps17
    go_wp2_with fail
    go_step3
    go_wp2_with fail
    go_returns
    exact lpost_bad HX.out (Below.refl _ _)
  · have HX : Hid (lexAll (bl s) = lexP (bl s) 1) := Lib.hid (by unfold lexAll; rw [bl_len, if_neg hf])
    generalize lexAll (bl s) = X at HX ⊢
    have HS := Lib.hid (bl_len s)
    rw [str_bl]
    go_enter Tryd.func17, Tryd.ntmps17
    go_wp2_with fail
    go_step3
    go_wp2_with fail
    go_step3
    go_wp2_with fail
    have hR0 : LexRel w (bl s) (.slice none 0 0) (w.alloc (.cells #[.string s, .int .i64 1] 75)) (bl s) 1 [] :=
      ⟨Blk.fresh w _ _, Grow.nil _ _ _, by rw [join_nil], by omega, by simp, (Below.refl _ _).alloc (Nat.le_refl _) _⟩
    go_loopw [2, 3, 4, 6, 7, 8, 9] (fun _ _ _ tv _ _ _ wr => ∃ rest L T, LexRel w (bl s) tv wr rest L T) (fun _ _ _ tv _ _ _ _ => s.size + 1 - lenV tv)
    case atStart => exact ⟨_, _, _, hR0⟩
    case round =>
      obtain ⟨rest, L, T, hR⟩ := hrel
      clear hR0
      have HR := Lib.hid hR
      obtain ⟨A, cp, rfl⟩ := hR.row.slice
      have hline := hR.line
      have hcount := hR.count
      rw [HS.out] at hline hcount
      have HK : Hid (∀ w1, RD w1 w.heap.size rest L → Calls Tryd.prog 41 #[ptr w.heap.size] w1 fun e w' => e = .returned (.tuple #[]) ∧ RD w' w.heap.size (skip rest) L ∧ w1.grownBy w' (some w.heap.size)) := Lib.hid fun w1 h1 => skipBlank_any h1 (by omega)
      clear hR
      cases hsk : skip rest with
      | nil =>
        have HE := Lib.hid (lex_end HR.out hsk)
        rw [hsk] at HK
        clear hsk
        have HBB := Lib.hid (room4 (n := T.length) (by omega))
        go_wp2_with (first
          | (go_at_call 41; refine (HK.out _ HR.out.rd).mono ?_; rintro e w1 ⟨rfl, h1, g1⟩
             have c0 := h1.at 0
             have c1 := h1.at 1
             have G1 := Lib.hid (below_ch HR.out.below g1)
             have HG := Lib.hid (grow_ch HR.out.row g1)
             have hs1 := G1.out.size
             clear h1 g1)
          | (at_builtin; refine wpList_append_src _ rfl _ _ _ _ rfl (w.heap.size + 1) 42 i0 _ 4 40 Tryd.underlying38 hi0 hi1 hi2 hi3 rfl (by omega) _ _ _ rfl (HG.out.alloc _) _ 1 [.int .i64 4, .string ⟨#[]⟩, .int .i64 0, .int .i64 L] rfl (Src.ofSlice _ Tryd.underlying38 ⟨w1.heap.size, 0, none⟩ 1 1 _ rfl (new_cells w1 _ _) (by simp [Value.oneCell'])) HBB.out.1 HBB.out.2 (by simp; omega) ?_; intro v4 w4 hown4 hg4 _
             have HV := Lib.hid (lex_has hown4)
             have HO := Lib.hid (lex_out G1.out HG.out hg4)
             clear hown4 hg4))
        go_returns
        exact lpost_ok (HX.out.trans HE.out) HO.out HV.out
      | cons c r =>
        obtain ⟨hw, h35⟩ := skip_head hsk
        have hsl := skip_len rest
        rw [hsk, List.length_cons] at hsl
        have HBB := Lib.hid (room4 (n := T.length) (by omega))
        obtain ⟨d, hd⟩ := mk_bl (c :: r)
        have hd0 : 0 < d.size := by rw [← bl_len, hd]; simp
        have hdc : d[0] = c := get_of hd 0 c rfl hd0
        have hl1 := not_empty hd0
        have hl2 := not_empty2 hd0
        have HD := Lib.hid hd
        have HSK := Lib.hid hsk
        rw [hsk] at HK
        have hbig : L ≤ 1000000000 ∧ r.length ≤ 900000000 := by omega
        clear hsk hd hsl
        by_cases c10 : c = 10
        · subst c10
          have t10 : ((d[0].toNat : Int) == 10) = true := byte_eq (k := 10) (by omega) hdc
          have HT : Hid (∀ w1, RD w1 w.heap.size (10 :: r) L → Calls Tryd.prog 42 #[ptr w.heap.size] w1 (ROut w1 w.heap.size L (.got 3 [] 0 r))) := Lib.hid fun w1 h1 => lineFeed_any h1 hbig.2 hbig.1
          have HTK : Hid (tok 10 r = .got 3 [] 0 r) := Lib.hid rfl
          clear hw h35 hdc hbig
          go_wp2_with (first
            | (go_at_call 41; refine (HK.out _ HR.out.rd).mono ?_; rintro e w1 ⟨rfl, h1, g1⟩
               have c0 : w1.cell? ⟨w.heap.size, 0, none⟩ = some (.string d) := by have := h1.at 0; rw [← HD.out] at this; exact this
               have c1 := h1.at 1
               have H1 := Lib.hid h1
               have G1 := Lib.hid g1
               clear h1 g1)
            | (go_at_call 42; refine (HT.out _ H1.out).mono ?_; rintro e w3 ⟨g3, rfl, h3⟩
               have H3 := Lib.hid h3
               have G3 := Lib.hid (grown_trans G1.out g3)
               have HG := Lib.hid (grow_ch HR.out.row G3.out)
               have hs3 := (below_ch HR.out.below G3.out).size
               clear h3 g3)
            | (at_builtin; refine wpList_append_src _ rfl _ _ _ _ rfl (w.heap.size + 1) 42 i0 _ 4 40 Tryd.underlying38 hi0 hi1 hi2 hi3 rfl (by omega) _ _ _ rfl ((HG.out.alloc _).alloc _) _ 1 [.int .i64 3, .string ⟨#[]⟩, .int .i64 0, .int .i64 L] rfl (Src.ofSlice _ Tryd.underlying38 ⟨w3.heap.size + 1, 0, none⟩ 1 1 _ rfl (new_cells4 w3 _ _ _) (by simp [Value.oneCell'])) HBB.out.1 HBB.out.2 (by simp; omega) ?_; intro v4 w4 hown4 hg4 _
               obtain ⟨A4, cp4, rfl⟩ := hown4.slice
               have H4 := Lib.hid (lex_step HR.out HSK.out HTK.out G3.out H3.out hown4 hg4)
               clear hown4 hg4))
          go_roundw
          case rel => exact ⟨_, _, _, H4.out⟩
          case measure => simp [lenV]; omega
        · have t10 : ((d[0].toNat : Int) == 10) = false := byte_ne (k := 10) (by omega) (by rw [hdc]; exact c10)
          by_cases c34 : c = 34
          · subst c34
            have t34 : ((d[0].toNat : Int) == 34) = true := byte_eq (k := 34) (by omega) hdc
            have HT : Hid (∀ w1, RD w1 w.heap.size (34 :: r) L → Calls Tryd.prog 43 #[ptr w.heap.size] w1 (ROut w1 w.heap.size L (tok 34 r))) := Lib.hid fun w1 h1 => text_any h1 hbig.2
            clear hw h35 hdc hbig c10
            cases ht : tok 34 r with
            | got kind text n rest' =>
              rw [ht] at HT
              have HTK := Lib.hid ht
              clear ht
              go_wp2_with (first
                | (go_at_call 41; refine (HK.out _ HR.out.rd).mono ?_; rintro e w1 ⟨rfl, h1, g1⟩
                   have c0 : w1.cell? ⟨w.heap.size, 0, none⟩ = some (.string d) := by have := h1.at 0; rw [← HD.out] at this; exact this
                   have c1 := h1.at 1
                   have H1 := Lib.hid h1
                   have G1 := Lib.hid g1
                   clear h1 g1)
                | (go_at_call 43; refine (HT.out _ H1.out).mono ?_; rintro e w3 ⟨g3, rfl, h3⟩
                   have H3 := Lib.hid h3
                   have G3 := Lib.hid (grown_trans G1.out g3)
                   have HG := Lib.hid (grow_ch HR.out.row G3.out)
                   have hs3 := (below_ch HR.out.below G3.out).size
                   clear h3 g3)
                | (at_builtin; refine wpList_append_src _ rfl _ _ _ _ rfl (w.heap.size + 1) 42 i0 _ 4 40 Tryd.underlying38 hi0 hi1 hi2 hi3 rfl (by omega) _ _ _ rfl ((HG.out.alloc _).alloc _) _ 1 [.int .i64 kind, str text, .int .i64 n, .int .i64 L] rfl (Src.ofSlice _ Tryd.underlying38 ⟨w3.heap.size + 1, 0, none⟩ 1 1 _ rfl (new_cells4 w3 _ _ _) (by simp [Value.oneCell'])) HBB.out.1 HBB.out.2 (by simp; omega) ?_; intro v4 w4 hown4 hg4 _
                   obtain ⟨A4, cp4, rfl⟩ := hown4.slice
                   have H4 := Lib.hid (lex_step HR.out HSK.out HTK.out G3.out H3.out hown4 hg4)
                   clear hown4 hg4))
              go_roundw
              case rel => exact ⟨_, _, _, H4.out⟩
              case measure => simp [lenV]; omega
            | bad er =>
              rw [ht] at HT
              have HTX := Lib.hid (lex_stop HR.out HSK.out ht)
              rcases tok_bad ht with rfl | rfl
              · clear ht
                go_wp2_with (first
                  | (go_at_call 41; refine (HK.out _ HR.out.rd).mono ?_; rintro e w1 ⟨rfl, h1, g1⟩
                     have c0 : w1.cell? ⟨w.heap.size, 0, none⟩ = some (.string d) := by have := h1.at 0; rw [← HD.out] at this; exact this
                     have c1 := h1.at 1
                     have H1 := Lib.hid h1
                     have G1 := Lib.hid g1
                     clear h1 g1)
                  | (go_at_call 43; refine (HT.out _ H1.out).mono ?_; rintro e w3 ⟨g3, rfl, l3, h3⟩
                     have d1 := h3.at 1
                     have hlt3 := h3.inside
                     have B3 := Lib.hid (below_ch HR.out.below (grown_trans G1.out g3))
                     have hs3 := B3.out.size
                     clear h3 g3))
                go_quiet (fail)
                go_wp2_with fail
                go_returns
                exact lpost_bad (HX.out.trans HTX.out) (below_n (lex_out2 B3.out _) _)
              · clear ht
                go_wp2_with (first
                  | (go_at_call 41; refine (HK.out _ HR.out.rd).mono ?_; rintro e w1 ⟨rfl, h1, g1⟩
                     have c0 : w1.cell? ⟨w.heap.size, 0, none⟩ = some (.string d) := by have := h1.at 0; rw [← HD.out] at this; exact this
                     have c1 := h1.at 1
                     have H1 := Lib.hid h1
                     have G1 := Lib.hid g1
                     clear h1 g1)
                  | (go_at_call 43; refine (HT.out _ H1.out).mono ?_; rintro e w3 ⟨g3, rfl, l3, h3⟩
                     have d1 := h3.at 1
                     have hlt3 := h3.inside
                     have B3 := Lib.hid (below_ch HR.out.below (grown_trans G1.out g3))
                     have hs3 := B3.out.size
                     clear h3 g3))
                go_quiet (fail)
                go_wp2_with fail
                go_returns
                exact lpost_bad (HX.out.trans HTX.out) (below_n (lex_out2 B3.out _) _)
          · have t34 : ((d[0].toNat : Int) == 34) = false := byte_ne (k := 34) (by omega) (by rw [hdc]; exact c34)
            have HH := Lib.hid (fun w => hasHead_any d[0] w)
            rw [hdc] at HH
            have hc0 : d[0].toNat = c.toNat := by rw [hdc]
            cases hc : (isL c || isD c) with
            | true =>
              rw [hc] at HH
              have HT : Hid (∀ w1, RD w1 w.heap.size (c :: r) L → Calls Tryd.prog 45 #[ptr w.heap.size] w1 (ROut w1 w.heap.size L (tok c r))) := Lib.hid fun w1 h1 => wordOrNumber_any h1 hc hbig.2
              clear hw h35 hdc hbig c10 c34 hc
              cases ht : tok c r with
              | got kind text n rest' =>
                rw [ht] at HT
                have HTK := Lib.hid ht
                clear ht
                go_wp2_with (first
                  | (go_at_call 41; refine (HK.out _ HR.out.rd).mono ?_; rintro e w1 ⟨rfl, h1, g1⟩
                     have c0 : w1.cell? ⟨w.heap.size, 0, none⟩ = some (.string d) := by have := h1.at 0; rw [← HD.out] at this; exact this
                     have c1 := h1.at 1
                     have H1 := Lib.hid h1
                     have G1 := Lib.hid g1
                     clear h1 g1)
                  | (go_at_call 44; refine (HH.out _).mono ?_; rintro e w2 ⟨rfl, rfl⟩)
                  | (go_at_call 45; refine (HT.out _ H1.out).mono ?_; rintro e w3 ⟨g3, rfl, h3⟩
                     have H3 := Lib.hid h3
                     have G3 := Lib.hid (grown_trans G1.out g3)
                     have HG := Lib.hid (grow_ch HR.out.row G3.out)
                     have hs3 := (below_ch HR.out.below G3.out).size
                     clear h3 g3)
                  | (at_builtin; refine wpList_append_src _ rfl _ _ _ _ rfl (w.heap.size + 1) 42 i0 _ 4 40 Tryd.underlying38 hi0 hi1 hi2 hi3 rfl (by omega) _ _ _ rfl ((HG.out.alloc _).alloc _) _ 1 [.int .i64 kind, str text, .int .i64 n, .int .i64 L] rfl (Src.ofSlice _ Tryd.underlying38 ⟨w3.heap.size + 1, 0, none⟩ 1 1 _ rfl (new_cells4 w3 _ _ _) (by simp [Value.oneCell'])) HBB.out.1 HBB.out.2 (by simp; omega) ?_; intro v4 w4 hown4 hg4 _
                     obtain ⟨A4, cp4, rfl⟩ := hown4.slice
                     have H4 := Lib.hid (lex_step HR.out HSK.out HTK.out G3.out H3.out hown4 hg4)
                     clear hown4 hg4))
                go_roundw
                case rel => exact ⟨_, _, _, H4.out⟩
                case measure => simp [lenV]; omega
              | bad er =>
                rw [ht] at HT
                have HTX := Lib.hid (lex_stop HR.out HSK.out ht)
                rcases tok_bad ht with rfl | rfl
                · clear ht
                  go_wp2_with (first
                    | (go_at_call 41; refine (HK.out _ HR.out.rd).mono ?_; rintro e w1 ⟨rfl, h1, g1⟩
                       have c0 : w1.cell? ⟨w.heap.size, 0, none⟩ = some (.string d) := by have := h1.at 0; rw [← HD.out] at this; exact this
                       have c1 := h1.at 1
                       have H1 := Lib.hid h1
                       have G1 := Lib.hid g1
                       clear h1 g1)
                    | (go_at_call 44; refine (HH.out _).mono ?_; rintro e w2 ⟨rfl, rfl⟩)
                    | (go_at_call 45; refine (HT.out _ H1.out).mono ?_; rintro e w3 ⟨g3, rfl, l3, h3⟩
                       have d1 := h3.at 1
                       have hlt3 := h3.inside
                       have B3 := Lib.hid (below_ch HR.out.below (grown_trans G1.out g3))
                       have hs3 := B3.out.size
                       clear h3 g3))
                  go_quiet (fail)
                  go_wp2_with fail
                  go_returns
                  exact lpost_bad (HX.out.trans HTX.out) (below_n (lex_out2 B3.out _) _)
                · clear ht
                  go_wp2_with (first
                    | (go_at_call 41; refine (HK.out _ HR.out.rd).mono ?_; rintro e w1 ⟨rfl, h1, g1⟩
                       have c0 : w1.cell? ⟨w.heap.size, 0, none⟩ = some (.string d) := by have := h1.at 0; rw [← HD.out] at this; exact this
                       have c1 := h1.at 1
                       have H1 := Lib.hid h1
                       have G1 := Lib.hid g1
                       clear h1 g1)
                    | (go_at_call 44; refine (HH.out _).mono ?_; rintro e w2 ⟨rfl, rfl⟩)
                    | (go_at_call 45; refine (HT.out _ H1.out).mono ?_; rintro e w3 ⟨g3, rfl, l3, h3⟩
                       have d1 := h3.at 1
                       have hlt3 := h3.inside
                       have B3 := Lib.hid (below_ch HR.out.below (grown_trans G1.out g3))
                       have hs3 := B3.out.size
                       clear h3 g3))
                  go_quiet (fail)
                  go_wp2_with fail
                  go_returns
                  exact lpost_bad (HX.out.trans HTX.out) (below_n (lex_out2 B3.out _) _)
            | false =>
              rw [hc] at HH
              have HTX := Lib.hid (lex_stop HR.out HSK.out (show tok c r = .bad 11 by unfold tok; rw [if_neg c10, if_neg c34, if_neg (by rw [hc]; decide)]))
              clear hw h35 hdc hbig c10 c34 hc
              go_wp2_with (first
                | (go_at_call 41; refine (HK.out _ HR.out.rd).mono ?_; rintro e w1 ⟨rfl, h1, g1⟩
                   have c0 : w1.cell? ⟨w.heap.size, 0, none⟩ = some (.string d) := by have := h1.at 0; rw [← HD.out] at this; exact this
                   have c1 := h1.at 1
                   have H1 := Lib.hid h1
                   have G1 := Lib.hid g1
                   clear h1 g1)
                | (go_at_call 44; refine (HH.out _).mono ?_; rintro e w2 ⟨rfl, rfl⟩))
              go_quiet (fail)
              go_wp2_with fail
              go_returns
              exact lpost_bad (HX.out.trans HTX.out) (below_n (below_ch HR.out.below G1.out) _)
end Lx
end Go.Proofs.YtibeangcjfjeiaaDoor

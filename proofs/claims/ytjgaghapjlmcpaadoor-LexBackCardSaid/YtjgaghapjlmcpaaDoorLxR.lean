/- Package lex: the reader's lineFeed and text. -/
import Derived.Test.YtjgaghapjlmcpaaDoorLxQ
import Derived.Test.YtjgaghapjlmcpaaDoorUnqt
namespace Go.Proofs.YtjgaghapjlmcpaaDoor
open Go.RowKit Wire Txt
set_option linter.unusedVariables false
set_option linter.unusedSimpArgs false
namespace Lx

section
variable {w w1 w2 : World} {b : Nat} {row : Option Nat}
theorem ch_alloc (h : w.grownBy w1 row) (o : Obj) : w.grownBy (w1.alloc o) row := grown_trans h (below_none ((Below.refl _ _).alloc (Nat.le_refl _) _) _)
theorem ch_below (h : w.grownBy w1 row) (b1 : Below w1.heap.size w1 w2) : w.grownBy w2 row := grown_trans h (below_none b1 _)
theorem ch_refl (w : World) (row : Option Nat) : w.grownBy w row := below_none (Below.refl _ _) _
theorem ch_poke (h : w.grownBy w1 (some b)) {r : Nat} (hr : w.heap.size ≤ r) (i : Nat) (u : Value) : w.grownBy (w1.setCell ⟨r, i, none⟩ u) (some b) := by
  refine ⟨h.os, h.tape, h.output, by have := h.size; simp [World.setCell]; exact this, fun k hk hne => ?_⟩
  rw [← h.block k hk hne]
  exact Below.heap_setCell _ _ _ _ (fun e => by have : k = r := e; omega)
theorem rd_lt {l : List UInt8} {L : Nat} (h : RD w b l L) : b < w.heap.size := h.inside
theorem rd_alloc {l : List UInt8} {L : Nat} (h : RD w b l L) (o : Obj) : RD (w.alloc o) b l L := h.kept o
theorem rd_below {l : List UInt8} {L : Nat} (h : RD w b l L) (b1 : Below w.heap.size w w1) : RD w1 b l L := h.under b1 h.inside
theorem rd_poke {l : List UInt8} {L r : Nat} (h : RD w b l L) (hr : b ≠ r) (i : Nat) (u : Value) : RD (w.setCell ⟨r, i, none⟩ u) b l L := h.aside (p := ⟨r, i, none⟩) hr u
theorem ch_poke4 (h : w.grownBy w1 (some b)) {r : Nat} (hr : w.heap.size ≤ r) (u0 u1 u2 u3 : Value) : w.grownBy ((((w1.setCell ⟨r, 0, none⟩ u0).setCell ⟨r, 1, none⟩ u1).setCell ⟨r, 2, none⟩ u2).setCell ⟨r, 3, none⟩ u3) (some b) := ch_poke (ch_poke (ch_poke (ch_poke h hr 0 u0) hr 1 u1) hr 2 u2) hr 3 u3
theorem rd_poke4 {l : List UInt8} {L r : Nat} (h : RD w b l L) (hr : b ≠ r) (u0 u1 u2 u3 : Value) : RD ((((w.setCell ⟨r, 0, none⟩ u0).setCell ⟨r, 1, none⟩ u1).setCell ⟨r, 2, none⟩ u2).setCell ⟨r, 3, none⟩ u3) b l L := rd_poke (rd_poke (rd_poke (rd_poke h hr 0 u0) hr 1 u1) hr 2 u2) hr 3 u3
/-- A token's block that is not the reader's. -/
abbrev TB (w : World) (r : Nat) (cs : Array Value) : Prop := Blk w r 31 cs
theorem tb_past {r : Nat} {cs : Array Value} (h : TB w r cs) (g : w.grownBy w1 (some b)) (hr : r ≠ b) : TB w1 r cs := h.past g (fun e => hr (Option.some.inj e))
end

abbrev zeroTk : Value := .agg #[.int .i64 0, .string ⟨#[]⟩, .int .i64 0, .int .i64 0]
/-- What reading one token leaves. -/
def ROut (w : World) (b L : Nat) (T : Tr) (e : Ending) (w' : World) : Prop := w.grownBy w' (some b) ∧
  match T with
  | .bad er => e = .returned (.tuple #[zeroTk, .int .i64 er]) ∧ ∃ l, RD w' b l L
  | .got kind text n rest => e = .returned (.tuple #[Tk.val ⟨kind, text, n, L⟩, .int .i64 0]) ∧ RD w' b rest (nxt kind L)

set_option maxHeartbeats 1000000 in
theorem lineFeed_any {w : World} {b : Nat} {r : List UInt8} {L : Nat} (h : RD w b (10 :: r) L) (hl : r.length ≤ 900000000) (hL : L ≤ 1000000000) :
    Calls Tryd.prog 20 #[ptr b] w (ROut w b L (.got 3 [] 0 r)) := by
  have hlt := rd_lt h
  have c1 : w.cell? ⟨b, 1, none⟩ = some (.int .i64 L) := h.at 1
  have HR : Hid (∀ o o2, RD ((w.alloc o).alloc o2) b (10 :: r) L) := Lib.hid fun o o2 => rd_alloc (rd_alloc h o) o2
  have HT : Hid (∀ w1, RD w1 b (10 :: r) L → Calls Tryd.prog 35 #[ptr b, .int .i64 1] w1 fun e w' => e = .returned (str [10]) ∧ RD w' b r L ∧ w1.grownBy w' (some b)) := Lib.hid fun w1 h1 => take_any h1 (n := 1) (by simp) (by simp only [List.length_cons]; omega)
  clear h
  go_enter Tryd.func20, Tryd.ntmps20
  go_wp2_with (go_at_call 35; refine (HT.out _ (HR.out _ _)).mono ?_; rintro e w3 ⟨rfl, h3, g3⟩
               have H3 := Lib.hid h3
               have G3 := Lib.hid (grown_trans (ch_alloc (ch_alloc (ch_refl w (some b)) _) _) g3)
               have r3 := tb_past (Blk.kept (Blk.fresh w _ _) _) g3 (by omega)
               have q3 := tb_past (r := w.heap.size + 1) (by have := Blk.fresh (w.alloc (.cells #[.int .i64 0, .string ⟨#[]⟩, .int .i64 0, .int .i64 0] 31)) 31 #[.int .i64 3, .string ⟨#[]⟩, .int .i64 0, .int .i64 L]; simpa using this) g3 (by omega)
               have d1 := h3.at 1
               have e1 := h3.thaw 1
               have t0 := r3.at 0
               have t1 := r3.at 1
               have t2 := r3.at 2
               have t3 := r3.at 3
               have f0 := r3.thaw 0
               have f1 := r3.thaw 1
               have f2 := r3.thaw 2
               have f3 := r3.thaw 3
               have k0 := q3.at 0
               have k1 := q3.at 1
               have k2 := q3.at 2
               have k3 := q3.at 3
               clear h3 g3 r3 q3)
  have hz : RD (w3.setCell ⟨b, 1, none⟩ (.int .i64 ((L : Int) + 1))) b r (L + 1) := Blk.put H3.out 1 (.int .i64 ((L : Int) + 1))
  have hg : w.grownBy (w3.setCell ⟨b, 1, none⟩ (.int .i64 ((L : Int) + 1))) (some b) := grown_trans G3.out only_set
  exact bodyPost_ret (v := .tuple #[Tk.val ⟨3, [], 0, L⟩, .int .i64 0]) (by simp [results, Tryd.results20, go_sem, t0, t1, t2, t3]) rfl ⟨ch_poke4 hg (Nat.le_refl _) _ _ _ _, rfl, rd_poke4 hz (by omega) _ _ _ _⟩

/-- A text, by the number of bytes that the program takes. -/
theorem text_n (r : List UInt8) : ∃ n, tsz (r.length + 1) 1 (clo false r) = n ∧ n ≤ r.length + 1 ∧ textT r = if unqB ((34 :: r).take n) = true then .got 2 (unqV ((34 :: r).take n)) 0 ((34 :: r).drop n) else .bad 11 := by
  unfold textT
  cases hk : clo false r with
  | none =>
    refine ⟨r.length + 1, rfl, Nat.le_refl _, ?_⟩
    have e : (34 :: r).take (r.length + 1) = 34 :: r := List.take_of_length_le (by simp)
    rw [e, if_neg (by rw [clo_none hk]; decide)]
  | some k =>
    have := clo_le _ _ _ hk
    refine ⟨1 + k, rfl, by omega, ?_⟩
    rw [Nat.add_comm 1 k]
    rfl

set_option maxHeartbeats 1000000 in
theorem text_any {w : World} {b : Nat} {r : List UInt8} {L : Nat} (h : RD w b (34 :: r) L) (hl : r.length ≤ 900000000) :
    Calls Tryd.prog 21 #[ptr b] w (ROut w b L (textT r)) := by
  obtain ⟨n, hz, hn, hT⟩ := text_n r
  rw [hT]
  obtain ⟨s, hs⟩ := mk_bl (34 :: r)
  have hsz : s.size = r.length + 1 := by rw [← bl_len, hs]; rfl
  have hlt := rd_lt h
  have c0 : w.cell? ⟨b, 0, none⟩ = some (.string s) := by have := h.at 0; rw [← hs] at this; exact this
  have c1 : w.cell? ⟨b, 1, none⟩ = some (.int .i64 L) := h.at 1
  have HS := Lib.hid (fun w => textSize_any s w (by omega) (by omega))
  rw [show (bl s).drop 1 = r by rw [hs]; rfl, hsz, hz] at HS
  obtain ⟨x, hx⟩ := mk_bl ((34 :: r).take n)
  have hxl : x.size ≤ r.length + 1 := by rw [← bl_len, hx, List.length_take]; simp; omega
  have HR : Hid (∀ o, RD (w.alloc o) b (34 :: r) L) := Lib.hid fun o => rd_alloc h o
  have HT : Hid (∀ w1, RD w1 b (34 :: r) L → Calls Tryd.prog 35 #[ptr b, .int .i64 n] w1 fun e w' => e = .returned (.string x) ∧ RD w' b ((34 :: r).drop n) L ∧ w1.grownBy w' (some b)) := Lib.hid fun w1 h1 => by
    have := take_any h1 (n := n) (by simp only [List.length_cons]; omega) (by simp only [List.length_cons]; omega)
    rw [← hx] at this
    exact this
  have HU := Lib.hid (fun w => unquote_any x (by omega) w)
  rw [← hx]
  generalize (34 :: r).drop n = rest at HT ⊢
  generalize unqB (bl x) = ub at HU ⊢
  generalize unqV (bl x) = uv at HU ⊢
  have HLT := Lib.hid hlt
  clear h hs hsz hz hn hT hx hxl hl
  cases ub with
  | false =>
    go_enter Tryd.func21, Tryd.ntmps21
    go_wp2_with (first
      | (go_at_call 37; refine (HS.out _).mono ?_; rintro e w2 ⟨rfl, rfl⟩)
      | (go_at_call 35; refine (HT.out _ (HR.out _)).mono ?_; rintro e w3 ⟨rfl, h3, g3⟩
         have H3 := Lib.hid h3
         have G3 := Lib.hid (grown_trans (ch_alloc (ch_refl w (some b)) _) g3)
         have R3 := Lib.hid (tb_past (Blk.fresh w _ _) g3 (by omega))
         clear h3 g3)
      | (go_at_call 36; refine (HU.out _).mono ?_; rintro e w4 ⟨rfl, b4⟩
         have H4 := Lib.hid (rd_below H3.out b4)
         have G4 := Lib.hid (ch_below G3.out b4)
         have r4 := R3.out.under b4 R3.out.inside
         have d1 := H4.out.at 1
         have t0 := r4.at 0
         have t1 := r4.at 1
         have t2 := r4.at 2
         have t3 := r4.at 3
         have f0 := r4.thaw 0
         have f1 := r4.thaw 1
         have f2 := r4.thaw 2
         have f3 := r4.thaw 3
         clear b4 r4))
    exact bodyPost_ret (v := .tuple #[zeroTk, .int .i64 11]) (by simp [results, Tryd.results21, go_sem, t0, t1, t2, t3, zeroTk]) rfl ⟨ch_poke4 G4.out (Nat.le_refl _) _ _ _ _, rfl, _, rd_poke4 H4.out (by have := HLT.out; omega) _ _ _ _⟩
  | true =>
    go_enter Tryd.func21, Tryd.ntmps21
    go_wp2_with (first
      | (go_at_call 37; refine (HS.out _).mono ?_; rintro e w2 ⟨rfl, rfl⟩)
      | (go_at_call 35; refine (HT.out _ (HR.out _)).mono ?_; rintro e w3 ⟨rfl, h3, g3⟩
         have H3 := Lib.hid h3
         have G3 := Lib.hid (grown_trans (ch_alloc (ch_refl w (some b)) _) g3)
         have R3 := Lib.hid (tb_past (Blk.fresh w _ _) g3 (by omega))
         clear h3 g3)
      | (go_at_call 36; refine (HU.out _).mono ?_; rintro e w4 ⟨rfl, b4⟩
         have H4 := Lib.hid (rd_below H3.out b4)
         have G4 := Lib.hid (ch_below G3.out b4)
         have r4 := R3.out.under b4 R3.out.inside
         have d1 := H4.out.at 1
         have t0 := r4.at 0
         have t1 := r4.at 1
         have t2 := r4.at 2
         have t3 := r4.at 3
         have f0 := r4.thaw 0
         have f1 := r4.thaw 1
         have f2 := r4.thaw 2
         have f3 := r4.thaw 3
         clear b4 r4))
    exact bodyPost_ret (v := .tuple #[Tk.val ⟨2, uv, 0, L⟩, .int .i64 0]) (by simp [results, Tryd.results21, go_sem, t0, t1, t2, t3]) rfl ⟨ch_poke4 G4.out (Nat.le_refl _) _ _ _ _, rfl, rd_poke4 H4.out (by have := HLT.out; omega) _ _ _ _⟩
end Lx
end Go.Proofs.YtjgaghapjlmcpaaDoor

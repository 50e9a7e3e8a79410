/- JournalCuts: two journals on one calm disk. -/
import Derived.Test.YtpogoalbnbekaaaDoorJsw
namespace Go.Proofs.YtpogoalbnbekaaaDoor
open Go.RowKit Wire
set_option linter.unusedVariables false
set_option linter.unusedSimpArgs false
open Txt
open Sls (strs)
namespace Dsk
section
variable {F G : Nat → Prop} {W w w' w1 : World} {p g k f q : Nat} {La Lb Lc : List ByteArray} {fn : Nat} {args : Array Value} {R : Ending}
theorem Jj.onw {S S2 : St} {x y y2 : Nat × Jl} (h : Jj F W w p S x y) (k : ∀ F2, (∀ b, F b → F2 b) → Js F2 W w p S (some y) → Calls Tryd.prog fn args w1 fun e w' => e = R ∧ Js F2 W w' p S2 (some y2) ∧ SameF F2 w w') :
    Calls Tryd.prog fn args w1 fun e w' => e = R ∧ Jj F W w' p S2 x y2 ∧ SameF F w w' := by
  obtain ⟨O, h1, h2, h3, hj⟩ := h
  refine (k _ (fun b hb => .inl hb) hj).mono ?_
  rintro e w' ⟨he, hj2, hs⟩
  exact ⟨he, ⟨O, h1, h2.still hs.size (fun b hb => hs.same b (.inr hb)), h3, hj2⟩, hs.size, fun b hb => hs.same b (.inl hb)⟩
/-- Two journals, their files apart, on a disk where nothing fails. -/
structure Tw (F : Nat → Prop) (W w : World) (p f g q k : Nat) (La Lb : List ByteArray) : Prop where
  far : (f = 0 ∧ q = 2) ∨ (f = 2 ∧ q = 0)
  ex : ∃ S J K, Jj F W w p S (g, J) (k, K) ∧ Calm S ∧ RelJ f S J ∧ RelJ q S K ∧ J.L = La ∧ K.L = Lb
theorem Tw.swap (h : Tw F W w p f g q k La Lb) : Tw F W w p q k f g Lb La := by
  obtain ⟨hx, S, J, K, h1, h2, h3, h4, h5, h6⟩ := h
  exact ⟨by omega, S, K, J, h1.swap, h2, h4, h3, h6, h5⟩
theorem Tw.below (h : Tw F W w p f g q k La Lb) : Below W.heap.size W w := by
  obtain ⟨_, S, J, K, h1, _⟩ := h
  exact h1.right.below
theorem Tw.keep (h : Tw F W w p f g q k La Lb) (b : Below w.heap.size w w') : Tw F W w' p f g q k La Lb := by
  obtain ⟨hx, S, J, K, h1, h2⟩ := h
  exact ⟨hx, S, J, K, h1.keep b, h2⟩
theorem Tw.more (h : Tw F W w p f g q k La Lb) (b : Below w.heap.size w w') (hG : ∀ x, G x → F x ∨ (w.heap.size ≤ x ∧ x < w'.heap.size)) : Tw G W w' p f g q k La Lb := by
  obtain ⟨hx, S, J, K, h1, h2⟩ := h
  exact ⟨hx, S, J, K, h1.more b hG, h2⟩
theorem Tw.app (h : Tw F W w p f g q k La Lb) (A : Option Addr) (cp : Nat) (l : List ByteArray) (hr : Row w w.heap.size A (strs l)) (hc : ∀ b o, A = some ⟨b, o, none⟩ → l ≠ [] → b < W.heap.size ∨ F b) (hn : l.length ≤ 1099511627776) (hf : (form (Lb ++ l)).length ≤ 1048576) :
    Calls Tryd.prog 13 #[ptr k, .slice A l.length cp] w fun e w' => e = .returned (.int .i64 0) ∧ Tw F W w' p f g q k La (Lb ++ l) ∧ SameF F w w' := by
  obtain ⟨hx, S, J, K, h1, h2, h3, h4, rfl, rfl⟩ := h
  obtain ⟨a1, a2, a3, a4⟩ := h4.append_calm h2 l hf
  have b3 := h3.append_other h4 h2 (by omega) l hf
  refine (h1.on (S2 := (K.append S l).2.2) (y2 := (k, (K.append S l).2.1)) (R := .returned (.int .i64 (K.append S l).1)) fun F2 hF hj => hj.append A cp l hr (fun b o e hl => (hc b o e hl).imp_right (hF b)) hn).mono ?_
  rintro e w' ⟨rfl, j, s⟩
  exact ⟨by rw [a1], ⟨hx, _, J, _, j, a4, b3, a3, rfl, a2⟩, s⟩
theorem Tw.app_lit (h : Tw F W w p f g q k La Lb) (l : List ByteArray) (t : TypeId) (cp : Nat) (hn : l.length ≤ 1099511627776) (hf : (form (Lb ++ l)).length ≤ 1048576) :
    Calls Tryd.prog 13 #[ptr k, .slice (some ⟨w.heap.size, 0, none⟩) l.length cp] (w.alloc (.cells (strs l).toArray t)) fun e w' => e = .returned (.int .i64 0) ∧ Tw F W w' p f g q k La (Lb ++ l) ∧ SameF F w w' := by
  obtain ⟨hx, S, J, K, h1, h2, h3, h4, rfl, rfl⟩ := h
  obtain ⟨a1, a2, a3, a4⟩ := h4.append_calm h2 l hf
  have b3 := h3.append_other h4 h2 (by omega) l hf
  refine (h1.onw (S2 := (K.append S l).2.2) (y2 := (k, (K.append S l).2.1)) (R := .returned (.int .i64 (K.append S l).1)) fun F2 hF hj => hj.append_lit l t cp hn).mono ?_
  rintro e w' ⟨rfl, j, s⟩
  exact ⟨by rw [a1], ⟨hx, _, J, _, j, a4, b3, a3, rfl, a2⟩, s⟩
theorem Tw.big_lit (h : Tw F W w p f g q k La Lb) (s : ByteArray) (hs : 1048576 ≤ s.size) (t : TypeId) (cp : Nat) :
    Calls Tryd.prog 13 #[ptr k, .slice (some ⟨w.heap.size, 0, none⟩) 1 cp] (w.alloc (.cells #[.string s] t)) fun e w' => e = .returned (.int .i64 6) ∧ Tw F W w' p f g q k La Lb ∧ SameF F w w' := by
  obtain ⟨hx, S, J, K, h1, h2, h3, h4, rfl, rfl⟩ := h
  have a1 := h4.append_full [s] (by simp) (form_big hs K.L)
  refine (h1.onw (S2 := S) (y2 := (k, K)) (R := .returned (.int .i64 6)) fun F2 hF hj => ?_).mono ?_
  · have := hj.append_lit [s] t cp (by simp)
    rw [a1] at this
    exact this
  · rintro e w' ⟨rfl, j, s⟩
    exact ⟨rfl, ⟨hx, _, J, _, j, h2, h3, h4, rfl, rfl⟩, s⟩
theorem Tw.cut_in (h : Tw F W w p f g q k La Lb) (n : Int) (h0 : 0 ≤ n) (hn : n ≤ Lb.length) (hm : n ≤ 9223372036854775807) :
    Calls Tryd.prog 14 #[ptr k, .int .i64 n] w fun e w' => e = .returned (.int .i64 0) ∧ Tw F W w' p f g q k La (Lb.take n.toNat) ∧ SameF F w w' := by
  obtain ⟨hx, S, J, K, h1, h2, h3, h4, rfl, rfl⟩ := h
  obtain ⟨a1, a2, a3, a4⟩ := h4.cut_calm h2 n h0 hn
  have b3 := h3.cut_calm_other h4 h2 (by omega) n
  refine (h1.on (S2 := (K.cut S n).2.2) (y2 := (k, (K.cut S n).2.1)) (R := .returned (.int .i64 (K.cut S n).1)) fun F2 hF hj => hj.cut n (by omega) hm).mono ?_
  rintro e w' ⟨rfl, j, s⟩
  exact ⟨by rw [a1], ⟨hx, _, J, _, j, a4, b3, a3, rfl, a2⟩, s⟩
theorem Tw.cut_off (h : Tw F W w p f g q k La Lb) (n : Int) (hm1 : -9223372036854775808 ≤ n) (hm : n ≤ 9223372036854775807) (ho : n < 0 ∨ (Lb.length : Int) < n) :
    Calls Tryd.prog 14 #[ptr k, .int .i64 n] w fun e w' => e = .returned (.int .i64 1) ∧ Tw F W w' p f g q k La Lb ∧ SameF F w w' := by
  obtain ⟨hx, S, J, K, h1, h2, h3, h4, rfl, rfl⟩ := h
  have a1 := h4.cut_out n ho
  refine (h1.on (S2 := S) (y2 := (k, K)) (R := .returned (.int .i64 1)) fun F2 hF hj => ?_).mono ?_
  · have := hj.cut n hm1 hm
    rw [a1] at this
    exact this
  · rintro e w' ⟨rfl, j, s⟩
    exact ⟨rfl, ⟨hx, _, J, _, j, h2, h3, h4, rfl, rfl⟩, s⟩
theorem Tw.get (h : Tw F W w p f g q k La Lb) (i : Int) (hi : i ≤ 9223372036854775807) : Calls Tryd.prog 29 #[ptr k, .int .i64 i] w fun e w' => e = .returned (.string (getV Lb i)) ∧ w = w' := by
  obtain ⟨hx, S, J, K, h1, h2, h3, h4, rfl, rfl⟩ := h
  exact h1.right.get i hi
theorem Tw.all (h : Tw F W w p f g q k La Lb) : Calls Tryd.prog 17 #[ptr k] w fun e w' => ∃ v', e = .returned v' ∧ Grow w' w.heap.size 1 v' Lb.length (strs Lb) ∧ Below w.heap.size w w' := by
  obtain ⟨hx, S, J, K, h1, h2, h3, h4, rfl, rfl⟩ := h
  exact h1.right.all
theorem wpList_wanted {ops : Array Oper} {rest : List Oper} {o : Oper} {a : Act} {w : World} {Q : Exit → Act → World → Prop} {P : Program} (hg : Region.wanted o (yielded ops a.tmps) = true)
    (h : ∀ K : Act → World → Prop, (∀ a w, wpList P ops Q rest a w → K a w) → o.wp P a w K Q) : wpList P ops Q (o :: rest) a w :=
  wpList_step fun K hK => by rw [if_pos hg]; exact h K hK
theorem wpList_make_str' {w : World} {ops : Array Oper} {rest : List Oper} {o : Oper} {a : Act} {Q : Exit → Act → World → Prop} (hgd : Region.wanted o (yielded ops a.tmps) = true) (l c : Operand) (hop : o.op = Op.makeSlice 50 l c) (n : Nat) (L M : Int) (hl : a.eval l = .int .i64 L) (hc : a.eval c = .int .i64 M) (hL : L = n) (hC : M = n) (hn : n ≤ 1000000000)
    (h : ∀ (w' : World) (ls : ByteArray), ls.size = n → Below w.heap.size w w' → (convert 50 9 (.slice (some ⟨w.heap.size, 0, none⟩) n n)).run Tryd.prog w' = .ok (.string ls) w' → wpList Tryd.prog ops Q rest (a.put o.dst (.slice (some ⟨w.heap.size, 0, none⟩) n n)) w') :
    wpList Tryd.prog ops Q (o :: rest) a w := by
  refine wpList_wanted hgd fun K hK' => ?_
  obtain ⟨i0, hi0, hi1, hi2, hi3⟩ := info_parts info_byte
  have hrun := run_make (P := Tryd.prog) w 50 5 i0 (.int .u8 0) Tryd.underlying50 hi0 hi1 .i64 .i64 (n : Int) (n : Int) (by omega) (by omega) (by rw [hi3]; omega) (by omega)
  have e : ((n : Int)).toNat = n := by omega
  rw [e, hi2, Nat.mul_one] at hrun
  subst hL
  subst hC
  have hb : Blk (w.alloc (.cells (madeCells (Value.int .u8 0).cells n) 5)) w.heap.size _ _ := Blk.fresh w _ _
  have hcv := run_convert_bytes_back (P := Tryd.prog) (w.alloc (.cells (madeCells (Value.int .u8 0).cells n) 5)) 50 9 5 ⟨w.heap.size, 0, none⟩ n (List.replicate n 0) Tryd.underlying50 Tryd.underlying5 Tryd.underlying9 (fun j hj => by
    rw [List.length_replicate] at hj
    rw [row_add', Nat.zero_add, hb.at, made_byte _ _ hj, List.getElem_replicate]
    rfl)
  rw [List.length_replicate] at hcv
  unfold Oper.wp
  simp [execOp, hop, hl, hc, hrun, Result.andThen]
  exact hK' _ _ (h _ _ (by rw [bytes_size, List.length_replicate]) ((Below.refl _ w).alloc (Nat.le_refl _) _) hcv)
theorem getV_at {L : List ByteArray} {i : Nat} (h : i < L.length) : getV L i = L[i] := by
  unfold getV
  rw [if_neg (by omega), Int.toNat_natCast, List.getD_eq_getElem?_getD, List.getElem?_eq_getElem h]
  rfl
theorem getV_end (L : List ByteArray) : getV L (L.length : Int) = ⟨#[]⟩ := by
  unfold getV
  rw [if_neg (by omega), Int.toNat_natCast, List.getD_eq_getElem?_getD, List.getElem?_eq_none (Nat.le_refl _)]
  rfl
theorem getV_neg (L : List ByteArray) : getV L (-1) = ⟨#[]⟩ := if_pos (by omega)
/-- The two journals opened on a new disk. -/
theorem Tw.open1 : ∃ J0 S0, jopn St.new 0 = (0, some J0, S0) ∧ J0.L = [] ∧ RelJ 0 S0 J0 ∧ Calm S0 ∧ ∃ K0 S1, jopn S0 2 = (0, some K0, S1) ∧ K0.L = [] ∧ RelJ 2 S1 K0 ∧ Calm S1 ∧ RelJ 0 S1 J0 := by
  obtain ⟨J0, h1, h2, h3, h4, h5⟩ := (CanJ.new (f := 0) (by omega)).opn_calm (by omega) Calm.new
  have hcan : CanJ 2 (jopn St.new ((0 : Nat) : Int)).2.2 (fun X => X = []) := (CanJ.new (f := 2) (by omega)).opn_other Calm.new (g := 0) (by omega)
  obtain ⟨K0, k1, k2, k3, k4, k5⟩ := hcan.opn_calm (by omega) h5
  exact ⟨J0, (jopn St.new ((0 : Nat) : Int)).2.2, by rw [← h1, ← h2]; rfl, h3, h4, h5, K0, _, by rw [← k1, ← k2]; rfl, k3, k4, k5, h4.opn_other h5 (g := 2) (by omega) (by omega)⟩
theorem Tw.open2 {F : Nat → Prop} {S : St} {J K : Jl} {S2 : St} (h : Js F W w p S (some (g, J))) (hJ : RelJ 0 S2 J) (he : jopn S 2 = (0, some K, S2)) (hK : RelJ 2 S2 K) (hc : Calm S2) :
    Calls Tryd.prog 10 #[ptr p, .int .i64 2] w fun e w' => ∃ k, e = .returned (.tuple #[ptr k, .int .i64 0]) ∧ Tw F W w' p 0 g 2 k J.L K.L := by
  obtain ⟨O, h1, h2, h3, hj⟩ := h.part
  refine (hj.open_some (n := 2) (by omega) he).mono ?_
  rintro e w' ⟨k, rfl, hj2, hs⟩
  exact ⟨k, rfl, .inl ⟨rfl, rfl⟩, S2, J, K, ⟨O, h1, h2.still hs.size (fun b hb => hs.same b (.inr hb)), h3, hj2⟩, hc, hJ, hK, rfl, rfl⟩
end
end Dsk
end Go.Proofs.YtpogoalbnbekaaaDoor

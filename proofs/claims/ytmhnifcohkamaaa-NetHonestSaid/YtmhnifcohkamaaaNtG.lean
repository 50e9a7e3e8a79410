/- Deliver and Send of package net. -/
import Derived.Test.YtmhnifcohkamaaaNtF
namespace Go.Proofs.Ytmhnifcohkamaaa
open Go.RowKit Wire
open Txt (Row)
open Dsk (Only below_of_grown Grow.bare)
set_option linter.unusedVariables false
set_option linter.unusedSimpArgs false
namespace Ntw
set_option maxHeartbeats 1000000 in
theorem nSend_any {w : World} {p : Nat} {S : Nt} {F : Nat → Prop} (h : NetAt 56 w p S F) (a b : Int) (s : ByteArray) :
    Calls Try.prog 20 #[ptr p, .int .i64 a, .int .i64 b, .string s] w fun e w' => e = .returned (.int .i64 (S.send a b s).1) ∧ NPost 56 p (S.send a b s).2 F w w' := by
  have e1 := isEnd_any a
  have e2 := isEnd_any b
  have HQ : Hid (NPost 56 p S F w w) := Lib.hid (NPost.below h (Below.refl _ _))
  unfold Nt.send
  cases hA : isEnd a
  · rw [hA] at e1
    rw [if_pos (.inl (by rfl))]
    clear h e2
    go_enter Try.func20, Try.ntmps20
    go_wp2_with (go_at_call 31; refine (e1 _).mono ?_; rintro e w1 ⟨rfl, rfl⟩)
    go_ret
    exact ⟨rfl, HQ.out⟩
  · rw [hA] at e1
    cases hB : isEnd b
    · rw [hB] at e2
      rw [if_pos (.inl (by rfl))]
      clear h
      go_enter Try.func20, Try.ntmps20
      go_wp2_with (first | (go_at_call 31; with_reducible refine (e1 _).mono ?_; rintro e w1 ⟨rfl, rfl⟩) | (go_at_call 31; with_reducible refine (e2 _).mono ?_; rintro e w1 ⟨rfl, rfl⟩))
      go_ret
      exact ⟨rfl, HQ.out⟩
    · rw [hB] at e2
      by_cases hab : a = b
      · rw [if_pos (.inr hab)]
        subst hab
        clear h e2
        go_enter Try.func20, Try.ntmps20
        go_wp2_with (go_at_call 31; refine (e1 _).mono ?_; rintro e w1 ⟨rfl, rfl⟩)
        go_ret
        exact ⟨rfl, HQ.out⟩
      · rw [if_neg (by rintro (e | e); cases e; exact hab e)]
        have HH := nHear_any h a b
        cases hH : S.hear a b
        · rw [hH] at HH
          rw [if_pos rfl]
          clear h hH
          go_enter Try.func20, Try.ntmps20
          go_wp2_with (first | (go_at_call 31; with_reducible refine (e1 _).mono ?_; rintro e w1 ⟨rfl, rfl⟩) | (go_at_call 31; with_reducible refine (e2 _).mono ?_; rintro e w1 ⟨rfl, rfl⟩) | (go_at_call 15; refine HH.mono ?_; rintro e w1 ⟨rfl, rfl⟩))
          go_ret
          exact ⟨rfl, HQ.out⟩
        · rw [hH] at HH
          rw [if_neg (by simp)]
          have HADD : Hid (Calls Try.prog 35 #[ptr p, .agg #[.int .i64 a, .int .i64 b, .string s]] w fun e w2 => e = .returned (.int .i64 (if 500 ≤ S.L.length then ((6 : Int), S) else (0, { S with L := S.L ++ [⟨a, b, s⟩] })).1) ∧ NPost 56 p (if 500 ≤ S.L.length then ((6 : Int), S) else (0, { S with L := S.L ++ [⟨a, b, s⟩] })).2 F w w2) := Lib.hid (by
            by_cases hl : 500 ≤ S.L.length
            · rw [if_pos hl]
              exact (nadd_full h ⟨a, b, s⟩ hl).mono fun e w2 ⟨he, hb⟩ => ⟨he, NPost.below h hb⟩
            · rw [if_neg hl]
              exact nadd_ok h ⟨a, b, s⟩ (by omega) ⟨hA, hB, hab⟩)
          clear h hH HQ
          generalize (if 500 ≤ S.L.length then ((6 : Int), S) else (0, { S with L := S.L ++ [⟨a, b, s⟩] })) = D at *
          go_enter Try.func20, Try.ntmps20
          go_wp2_with (first | (go_at_call 31; with_reducible refine (e1 _).mono ?_; rintro e w1 ⟨rfl, rfl⟩) | (go_at_call 31; with_reducible refine (e2 _).mono ?_; rintro e w1 ⟨rfl, rfl⟩) | (go_at_call 15; refine HH.mono ?_; rintro e w1 ⟨rfl, rfl⟩) | (go_at_call 35; refine HADD.out.mono ?_; rintro e w1 ⟨rfl, h1⟩; have H1 := Lib.hid h1; clear h1))
          go_ret
          exact ⟨rfl, H1.out⟩
/-- A block of a packet. -/
theorem pk_facts {w : World} {g : Nat} {t : TypeId} {q : Pk} (h : Blk w g t #[.int .i64 q.src, .int .i64 q.dst, .string q.body]) : w.cell? ⟨g, 0, none⟩ = some (.int .i64 q.src) ∧ w.cell? ⟨g, 1, none⟩ = some (.int .i64 q.dst) ∧ w.cell? ⟨g, 2, none⟩ = some (.string q.body) ∧ w.frozen? ⟨g, 0, none⟩ = false ∧ w.frozen? ⟨g, 1, none⟩ = false ∧ w.frozen? ⟨g, 2, none⟩ = false :=
  ⟨h.at 0, h.at 1, h.at 2, h.thaw 0, h.thaw 1, h.thaw 2⟩
theorem NPost.poke {ty : TypeId} {w w1 w2 w3 : World} {p r : Nat} {S' : Nt} {F : Nat → Prop} (b : Below w.heap.size w w1) (hF : ∀ x, F x → x < w.heap.size) (h : NPost ty p S' F w1 w2) (h0 : w.heap.size ≤ r) (h1 : r < w1.heap.size) (o : Only (fun x => x = r) w2 w3) : NPost ty p S' F w w3 := by
  obtain ⟨F', h2, h3, h4⟩ := NPost.after b hF h
  obtain ⟨F2, g2, g3, g4⟩ := h
  have hs := b.size
  have hs2 := g4.size
  have hs3 := o.size
  refine ⟨F2, g2.keep (fun x hx => o.block x (g2.lt x hx) (fun e => ?_)) hs3, fun x hx => ?_, h4.trans o fun x hx => .inr (by omega)⟩
  · rcases g3 x hx with g5 | g5
    · have := hF x g5; omega
    · omega
  · rcases g3 x hx with g5 | g5
    · exact .inl g5
    · exact .inr (by omega)
theorem set3 (w : World) (r : Nat) (a b c : Value) : Only (fun x => x = r) w (((w.setCell ⟨r, 0, none⟩ a).setCell ⟨r, 1, none⟩ b).setCell ⟨r, 2, none⟩ c) :=
  ((Only.set (fun x => x = r) w ⟨r, 0, none⟩ a rfl).same (Only.set (fun x => x = r) _ ⟨r, 1, none⟩ b rfl)).same (Only.set (fun x => x = r) _ ⟨r, 2, none⟩ c rfl)
set_option maxHeartbeats 1000000 in
theorem nDeliver_none {w : World} {p : Nat} {S : Nt} {F : Nat → Prop} (h : NetAt 56 w p S F) (i : Int) (hi : S.has i = false) :
    Calls Try.prog 21 #[ptr p, .int .i64 i] w fun e w' => e = .returned (.tuple #[Pk.zero.val, .int .i64 4]) ∧ Below w.heap.size w w' := by
  have b : ∀ w1, Below w.heap.size w w1 → ∀ o, Below w.heap.size w (w1.alloc o) := fun w1 b o => b.alloc b.size o
  have HB := Lib.hid b
  have HA : Hid (∀ w1, Below w.heap.size w w1 → Calls Try.prog 36 #[ptr p, .int .i64 i] w1 fun e w' => e = .returned Pk.zero.val ∧ Below w1.heap.size w1 w') := Lib.hid (fun w' b => nat_none (h.below b) i hi)
  have HD := Lib.hid (fun w' (b : Below w.heap.size w w') => nDrop_none (h.below b) i hi)
  clear h hi b
  go_enter Try.func21, Try.ntmps21
  go_wp2_with (first
    | (go_at_call 36; refine (HA.out _ (HB.out _ (Below.refl _ _) _)).mono ?_; rintro e w1 ⟨rfl, b1⟩; have B1 := Lib.hid (next_below (HB.out _ (Below.refl _ _) _) b1); have R1 := Lib.hid ((Blk.fresh w _ _).under b1 (by simp)); have hs1 := Lib.hid b1.size; clear b1)
    | (go_at_call 25; refine (HD.out _ (HB.out _ B1.out _)).mono ?_; rintro e w2 ⟨rfl, b2⟩; have B2 := Lib.hid (next_below (HB.out _ B1.out _) b2); have R2 := Lib.hid ((R1.out.kept _).under b2 (by have := hs1.out; simp at this ⊢; omega)); clear b2; have t0 := R2.out.at 0; have t1 := R2.out.at 1; have t2 := R2.out.at 2; have f0 := R2.out.thaw 0; have f1 := R2.out.thaw 1; have f2 := R2.out.thaw 2))
  have HZ := Lib.hid (fun a b c => (set3 w2 w.heap.size a b c).below B2.out.size (fun x hx => by omega))
  exact bodyPost_ret (v := .tuple #[.agg #[.int .i64 0, .int .i64 0, .string ⟨#[]⟩], .int .i64 4]) (by simp [results, Try.results21, go_sem, t0, t1, t2]) rfl ⟨rfl, B2.out.trans (HZ.out _ _ _)⟩
set_option maxHeartbeats 1000000 in
theorem nDeliver_some {w : World} {p : Nat} {S : Nt} {F : Nat → Prop} (h : NetAt 56 w p S F) (i : Nat) (q : Pk) (hq : S.L[i]? = some q) :
    Calls Try.prog 21 #[ptr p, .int .i64 i] w fun e w' => e = .returned (.tuple #[((S.deliver i).1.getD Pk.zero).val, .int .i64 (S.deliver i).2.1]) ∧ NPost 56 p (S.deliver i).2.2 F w w' := by
  have b : ∀ w1, Below w.heap.size w w1 → ∀ o, Below w.heap.size w (w1.alloc o) := fun w1 b o => b.alloc b.size o
  have HB := Lib.hid b
  have hlt := (List.getElem?_eq_some_iff.1 hq).1
  have hF := h.lt
  have hhas : S.has i = true := decide_eq_true (by omega)
  have HA : Hid (∀ w1, Below w.heap.size w w1 → Calls Try.prog 36 #[ptr p, .int .i64 i] w1 fun e w' => e = .returned q.val ∧ Below w1.heap.size w1 w') := Lib.hid (fun w' b => nat_some (h.below b) i q hq)
  have HD := Lib.hid (fun w' (b : Below w.heap.size w w') => nDrop_some (h.below b) i q hq)
  have HK : Hid (∀ w1 w2 (o : Obj), Below w.heap.size w w1 → NPost 56 p { S with L := S.L.eraseIdx i } F (w1.alloc o) w2 → ∀ t q, Blk (w1.alloc o) w1.heap.size t q → Blk w2 w1.heap.size t q) := Lib.hid fun w1 w2 o b ⟨F', _, _, h4⟩ t q hb => by
    unfold Blk at hb ⊢
    rw [h4.block w1.heap.size (by simp) (fun e => by have := hF _ e; have := b.size; omega)]
    exact hb
  have HK0 : Hid (∀ w1 w2 (o : Obj), Below w.heap.size w w1 → w.heap.size < w1.heap.size → NPost 56 p { S with L := S.L.eraseIdx i } F (w1.alloc o) w2 → ∀ t q, Blk w1 w.heap.size t q → Blk w2 w.heap.size t q) := Lib.hid fun w1 w2 o b hlt ⟨F', _, _, h4⟩ t q hb => by
    unfold Blk at hb ⊢
    rw [h4.block w.heap.size (by simp; omega) (fun e => by have := hF _ e; omega)]
    exact Blk.kept (show Blk w1 w.heap.size t q from hb) o
  have HH : Hid (∀ w1 w2, NPost 56 p { S with L := S.L.eraseIdx i } F w1 w2 → Calls Try.prog 15 #[ptr p, .int .i64 q.src, .int .i64 q.dst] w2 fun e w' => e = .returned (.bool (S.hear q.src q.dst)) ∧ w2 = w') := Lib.hid fun w1 w2 ⟨F', h1, _, _⟩ => nHear_any h1 q.src q.dst
  have HP : Hid (∀ w1 w2 w3, Below w.heap.size w w1 → NPost 56 p { S with L := S.L.eraseIdx i } F w1 w2 → w.heap.size < w1.heap.size → Only (fun x => x = w.heap.size) w2 w3 → NPost 56 p { S with L := S.L.eraseIdx i } F w w3) := Lib.hid (fun w1 w2 w3 b h h1 o => NPost.poke b hF h (Nat.le_refl _) h1 o)
  unfold Nt.deliver
  rw [if_neg (by simp [hhas])]
  have e2 : (i : Int).toNat = i := by simp
  simp only [e2, hq]
  clear h hq hlt hhas hF b e2
  cases hH : S.hear q.src q.dst
  · rw [hH] at HH
    simp only [Bool.false_eq_true, if_false, Option.getD_none]
    clear hH
    go_enter Try.func21, Try.ntmps21
    go_wp2_with (first
      | (go_at_call 36; refine (HA.out _ (HB.out _ (Below.refl _ _) _)).mono ?_; rintro e w1 ⟨rfl, b1⟩; have B1 := Lib.hid (next_below (HB.out _ (Below.refl _ _) _) b1); have R1 := Lib.hid ((Blk.fresh w _ _).under b1 (by simp)); have hs1 := Lib.hid (show w.heap.size < w1.heap.size from by have := b1.size; simp at this; omega); clear b1)
      | (go_at_call 25; refine (HD.out _ (HB.out _ B1.out _)).mono ?_; rintro e w2 ⟨rfl, h2⟩; have H2 := Lib.hid h2; have Q2 := Lib.hid (pk_facts (HK.out _ _ _ B1.out h2 _ _ (Blk.fresh w1 _ _))); have R2 := Lib.hid (HK0.out _ _ _ B1.out hs1.out h2 _ _ R1.out); clear h2; obtain ⟨k0, k1, k2, _⟩ := Q2.out; have t0 := R2.out.at 0; have t1 := R2.out.at 1; have t2 := R2.out.at 2; have f0 := R2.out.thaw 0; have f1 := R2.out.thaw 1; have f2 := R2.out.thaw 2)
      | (go_at_call 15; refine (HH.out _ _ H2.out).mono ?_; rintro e w3 ⟨rfl, rfl⟩))
    have hls := hs1.out
    exact bodyPost_ret (v := .tuple #[.agg #[.int .i64 0, .int .i64 0, .string ⟨#[]⟩], .int .i64 10]) (by simp [results, Try.results21, go_sem, t0, t1, t2]) rfl ⟨rfl, HP.out _ _ _ (HB.out _ B1.out _) H2.out (by simp; omega) (set3 _ _ _ _ _)⟩
  · rw [hH] at HH
    simp only [if_true, Option.getD_some]
    clear hH
    go_enter Try.func21, Try.ntmps21
    go_wp2_with (first
      | (go_at_call 36; refine (HA.out _ (HB.out _ (Below.refl _ _) _)).mono ?_; rintro e w1 ⟨rfl, b1⟩; have B1 := Lib.hid (next_below (HB.out _ (Below.refl _ _) _) b1); have R1 := Lib.hid ((Blk.fresh w _ _).under b1 (by simp)); have hs1 := Lib.hid (show w.heap.size < w1.heap.size from by have := b1.size; simp at this; omega); clear b1)
      | (go_at_call 25; refine (HD.out _ (HB.out _ B1.out _)).mono ?_; rintro e w2 ⟨rfl, h2⟩; have H2 := Lib.hid h2; have Q2 := Lib.hid (pk_facts (HK.out _ _ _ B1.out h2 _ _ (Blk.fresh w1 _ _))); have R2 := Lib.hid (HK0.out _ _ _ B1.out hs1.out h2 _ _ R1.out); clear h2; obtain ⟨k0, k1, k2, _⟩ := Q2.out; have t0 := R2.out.at 0; have t1 := R2.out.at 1; have t2 := R2.out.at 2; have f0 := R2.out.thaw 0; have f1 := R2.out.thaw 1; have f2 := R2.out.thaw 2)
      | (go_at_call 15; refine (HH.out _ _ H2.out).mono ?_; rintro e w3 ⟨rfl, rfl⟩))
    have hls := hs1.out
    exact bodyPost_ret (v := .tuple #[.agg #[.int .i64 q.src, .int .i64 q.dst, .string q.body], .int .i64 0]) (by simp [results, Try.results21, go_sem, t0, t1, t2]) rfl ⟨rfl, HP.out _ _ _ (HB.out _ B1.out _) H2.out (by simp; omega) (set3 _ _ _ _ _)⟩
end Ntw
end Go.Proofs.Ytmhnifcohkamaaa

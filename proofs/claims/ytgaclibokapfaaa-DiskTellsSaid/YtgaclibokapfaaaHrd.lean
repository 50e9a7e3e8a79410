/- Reading a disk; a sector is put into the durable part. -/
import Derived.Test.YtgaclibokapfaaaSma
namespace Go.Proofs.Ytgaclibokapfaaa
open Go.RowKit Wire
set_option linter.unusedVariables false
set_option linter.unusedSimpArgs false
open Txt
namespace Dsk

section
variable {w w' : World} {D : Own} {S : St}

theorem con_keeps {g o m o2 n2 : Nat} {C : Con} (h : ConAt w g o m C) (hk : Keeps w w' g o2 n2) (hd : o + 17 ≤ o2 ∨ o2 + n2 ≤ o) (e : w'.heap[m]? = w.heap[m]?) : ConAt w' g o m C := by
  refine ⟨fun j u hu => ?_, fun j hj => ?_, h.map.keep e⟩
  · have hj : j < 17 := by have := (List.getElem?_eq_some_iff.1 hu).1; rwa [conL_len] at this
    exact (hk (o + j) (by omega)).1.trans (h.cells j u hu)
  · have := h.there j hj
    rw [← (hk (o + j) (by omega)).1, ← (hk (o + j) (by omega)).2] at this
    exact this
theorem que_keeps {g o mh o2 n2 : Nat} {v : Value} {l : List (Nat × Nat)} (h : QueAt w g o mh v l) (hk : Keeps w w' g o2 n2) (hd : o + 2 ≤ o2 ∨ o2 + n2 ≤ o) (hs : w.heap.size ≤ w'.heap.size) (e : w'.heap[mh]? = w.heap[mh]?) (r : ∀ b, v.ownBlock = some b → w'.heap[b]? = w.heap[b]?) : QueAt w' g o mh v l := by
  refine ⟨(hk o (by omega)).1.trans h.ptr, (hk (o + 1) (by omega)).1.trans h.has, fun j hj => ?_, h.row.keep hs r, h.map.keep e⟩
  have := h.there j hj
  rw [← (hk (o + j) (by omega)).1, ← (hk (o + j) (by omega)).2] at this
  exact this

theorem DiskAt.put_last {L : Con} (h : DiskAt w D S) (hp : PutPost D.p 17 D.m2 L w w') : DiskAt w' D { S with last := L } := by
  have e : ∀ b, b ≠ D.p → b ≠ D.m2 → b < w.heap.size → w'.heap[b]? = w.heap[b]? := fun b h1 h2 h3 => hp.only.block b h3 fun e => by rcases e with e | e; exact h1 e; exact h2 e
  have c : ∀ j, 34 ≤ j → w'.cell? ⟨D.p, j, none⟩ = w.cell? ⟨D.p, j, none⟩ := fun j hj => (hp.keep j (by omega)).1
  refine ⟨con_keeps h.now hp.keep (by omega) (e _ (fun e => h.sep.p1 e.symm) h.sep.m12 h.now.map.lt), hp.con, que_keeps h.que hp.keep (by omega) hp.only.size (e _ (fun e => h.sep.ph e.symm) (fun e => h.sep.m2h e.symm) h.que.map.lt) (fun b hb => e b (h.sep.q b hb).1 (h.sep.q b hb).2.2.1 (h.que.row.block b hb).2),
    (c 36 (by omega)).trans h.down, (c 37 (by omega)).trans h.lost, (c 38 (by omega)).trans h.calls, (c 39 (by omega)).trans h.keep, h.kept.keep hp.only.size (fun b hb => e b (h.sep.k b hb).1 (h.sep.k b hb).2.2.1 (h.kept.block b hb).2), fun j hj => ?_, h.sep⟩
  rw [Nat.zero_add]
  by_cases hj2 : j < 17 ∨ 34 ≤ j
  · have := h.there j hj
    rw [Nat.zero_add, ← (hp.keep j (by omega)).1, ← (hp.keep j (by omega)).2] at this
    exact this
  · have := hp.con.there (j - 17) (by omega)
    rw [show 17 + (j - 17) = j from by omega] at this
    exact this
theorem DiskAt.put_now {C : Con} (h : DiskAt w D S) (hp : PutPost D.p 0 D.m1 C w w') : DiskAt w' D { S with now := C } := by
  have e : ∀ b, b ≠ D.p → b ≠ D.m1 → b < w.heap.size → w'.heap[b]? = w.heap[b]? := fun b h1 h2 h3 => hp.only.block b h3 fun e => by rcases e with e | e; exact h1 e; exact h2 e
  have c : ∀ j, 34 ≤ j → w'.cell? ⟨D.p, j, none⟩ = w.cell? ⟨D.p, j, none⟩ := fun j hj => (hp.keep j (by omega)).1
  refine ⟨hp.con, con_keeps h.last hp.keep (by omega) (e _ (fun e => h.sep.p2 e.symm) (fun e => h.sep.m12 e.symm) h.last.map.lt), que_keeps h.que hp.keep (by omega) hp.only.size (e _ (fun e => h.sep.ph e.symm) (fun e => h.sep.m1h e.symm) h.que.map.lt) (fun b hb => e b (h.sep.q b hb).1 (h.sep.q b hb).2.1 (h.que.row.block b hb).2),
    (c 36 (by omega)).trans h.down, (c 37 (by omega)).trans h.lost, (c 38 (by omega)).trans h.calls, (c 39 (by omega)).trans h.keep, h.kept.keep hp.only.size (fun b hb => e b (h.sep.k b hb).1 (h.sep.k b hb).2.1 (h.kept.block b hb).2), fun j hj => ?_, h.sep⟩
  rw [Nat.zero_add]
  by_cases hj2 : 17 ≤ j
  · have := h.there j hj
    rw [Nat.zero_add, ← (hp.keep j (by omega)).1, ← (hp.keep j (by omega)).2] at this
    exact this
  · have := hp.con.there j (by omega)
    rw [Nat.zero_add] at this
    exact this
theorem post_last {L : Con} (h : DiskAt w D S) (hp : PutPost D.p 17 D.m2 L w w') : Post D { S with last := L } w w' :=
  ⟨⟨D, h.put_last hp, rfl, fun _ h => .inl h⟩, hp.only.mono fun x hx => .inl (by rcases hx with e | e; exact .inl e; exact .inr (.inr (.inl e)))⟩
theorem post_now {C : Con} (h : DiskAt w D S) (hp : PutPost D.p 0 D.m1 C w w') : Post D { S with now := C } w w' :=
  ⟨⟨D, h.put_now hp, rfl, fun _ h => .inl h⟩, hp.only.mono fun x hx => .inl (by rcases hx with e | e; exact .inl e; exact .inr (.inl e))⟩

set_option maxHeartbeats 1000000 in
theorem size_any (h : DiskAt w D S) (f : Int) : Calls Try.prog 16 #[.pointer (some ⟨D.p, 0, none⟩), .int .i64 f] w fun e w' => e = .returned (.int .i64 (S.Size f)) ∧ w = w' := by
  cases hf : isF f with
  | false =>
    have hs : (S.Size f : Int) = 0 := by unfold St.Size; rw [hf]; rfl
    rw [hs]
    have hfc := isFile_any f
    rw [hf] at hfc
    clear hf h
    go_enter Try.func16, Try.ntmps16
    go_wp2_with ((go_at_call 41; refine (hfc _).mono ?_; rintro e w' ⟨rfl, rfl⟩))
    go_ret
    exact ⟨rfl, rfl⟩
  | true =>
    obtain ⟨h0, h16, hn, hc⟩ := isF_nat hf
    have hs : (S.Size f : Int) = S.now.size f.toNat := by unfold St.Size; rw [hf]; rfl
    rw [hs]
    have hfc := isFile_any f
    rw [hf] at hfc
    have hix := fun w' => index_siz w' D.p 1 hn
    rw [hc] at hix
    have hcell : w.cell? ⟨D.p, 1 + f.toNat, none⟩ = some (.int .i64 (S.now.size f.toNat)) := by have := h.now.siz hn; rwa [Nat.zero_add] at this
    clear hf h hc
    generalize S.now.size f.toNat = z at *
    go_enter Try.func16, Try.ntmps16
    go_wp2_with ((go_at_call 41; refine (hfc _).mono ?_; rintro e w' ⟨rfl, rfl⟩))
    go_ret
    exact ⟨rfl, rfl⟩

set_option maxHeartbeats 1000000 in
theorem diskRead_any (h : DiskAt w D S) (hk : S.ok) (f a n : Int) (ha : a ≤ 9223372036854775807) (hn : n ≤ 9223372036854775807) :
    Calls Try.prog 20 #[.pointer (some ⟨D.p, 0, none⟩), .int .i64 f, .int .i64 a, .int .i64 n] w fun e w' => e = .returned (.tuple #[str (S.Read f a n).1, .int .i64 (S.Read f a n).2]) ∧ Below w.heap.size w w' := by
  have hdn := h.down
  cases hd : S.down with
  | true =>
    have e : S.Read f a n = ([], 9) := by unfold St.Read; rw [if_pos hd]
    rw [e]
    rw [hd] at hdn
    clear h
    go_enter Try.func20, Try.ntmps20
    go_wp2_with fail
    go_ret2
    exact ⟨rfl, Below.refl _ _⟩
  | false =>
    rw [hd] at hdn
    have hfc := isFile_any f
    have e0 : S.Read f a n = if !isF f || decide (a < 0) || decide (n < 0) then ([], 1) else (S.now.read f.toNat a.toNat n.toNat, 0) := by unfold St.Read; rw [hd]; rfl
    have bad : (!isF f || decide (a < 0) || decide (n < 0)) = true → S.Read f a n = ([], 1) := fun h => by rw [e0, if_pos h]
    have BAD := Lib.hid bad
    have E0 := Lib.hid e0
    have HD := Lib.hid hd
    clear e0 bad hd
    cases hf : isF f with
    | false =>
      rw [BAD.out (by rw [hf]; rfl)]
      rw [hf] at hfc
      clear h hf
      go_enter Try.func20, Try.ntmps20
      go_wp2_with ((go_at_call 41; refine (hfc _).mono ?_; rintro e w' ⟨rfl, rfl⟩))
      go_ret2
      exact ⟨rfl, Below.refl _ _⟩
    | true =>
      rw [hf] at hfc
      have HF := Lib.hid hf
      clear hf
      by_cases h1 : a < 0
      · rw [BAD.out (by rw [HF.out]; simp [h1])]
        clear h
        go_enter Try.func20, Try.ntmps20
        go_wp2_with ((go_at_call 41; refine (hfc _).mono ?_; rintro e w' ⟨rfl, rfl⟩))
        go_ret2
        exact ⟨rfl, Below.refl _ _⟩
      · by_cases h2 : n < 0
        · rw [BAD.out (by rw [HF.out]; simp [h2])]
          clear h
          go_enter Try.func20, Try.ntmps20
          go_wp2_with ((go_at_call 41; refine (hfc _).mono ?_; rintro e w' ⟨rfl, rfl⟩))
          go_ret2
          exact ⟨rfl, Below.refl _ _⟩
        · obtain ⟨h0, h16, hn16, hc⟩ := isF_nat HF.out
          have e1 : S.Read f a n = (S.now.read f.toNat a.toNat n.toNat, 0) := by rw [E0.out, if_neg]; rw [HF.out]; simp; omega
          rw [e1]
          obtain ⟨fn, rfl⟩ : ∃ k : Nat, f = k := ⟨f.toNat, by omega⟩
          obtain ⟨an, rfl⟩ : ∃ k : Nat, a = k := ⟨a.toNat, by omega⟩
          obtain ⟨nn, rfl⟩ : ∃ k : Nat, n = k := ⟨n.toNat, by omega⟩
          simp only [Int.toNat_natCast] at *
          have HR := Lib.hid (read_any D.p 0 D.m1 fn an nn S.now w h.now (hk.now.room fn) hn16 (by omega) (by omega))
          clear h e1
          go_enter Try.func20, Try.ntmps20
          go_wp2_with (first
            | (go_at_call 41; refine (hfc _).mono ?_; rintro e w' ⟨rfl, rfl⟩)
            | (go_at_call 48; refine HR.out.mono ?_; rintro e w' ⟨rfl, hb⟩))
          go_ret2
          exact ⟨rfl, hb⟩
end
end Dsk
end Go.Proofs.Ytgaclibokapfaaa

import Derived.Test.YtionidjhfcmgiaaOpen
import Derived.Test.YtionidjhfcmgiaaItems
import Derived.Deep.RegionHeld3
namespace Go.Proofs.Ytionidjhfcmgiaa
open Go.RowKit
set_option linter.unusedVariables false
set_option linter.unusedSimpArgs false
namespace Wire

/-- The kind of a value. -/
def kd (k : Int) : Int := if k.tmod 5 < 0 then k.tmod 5 + 5 else k.tmod 5
theorem kd_range (k : Int) : kd k = 0 ∨ kd k = 1 ∨ kd k = 2 ∨ kd k = 3 ∨ kd k = 4 := by
  have h1 : k.tmod 5 < 5 := Int.tmod_lt_of_pos k (by omega)
  have h2 : -5 < k.tmod 5 := Int.lt_tmod_of_pos k (by omega)
  unfold kd
  split <;> omega

set_option maxHeartbeats 400000 in
theorem kind_any (k n : Int) (s : ByteArray) (A : Option Addr) (m c : Nat) (A' : Option Addr) (m' c' : Nat) (hk : Fits k) (d : Int) (hd : kd k = d) (w : World) :
    Calls Try.prog 23 #[.agg #[.int .i64 k, .int .i64 n, .string s, .slice A m c, .slice A' m' c']] w fun e w' => e = .returned (.int .i64 d) ∧ Below w.heap.size w w' := by
  obtain ⟨hk1, hk2⟩ := hk
  have h1 : k.tmod 5 < 5 := Int.tmod_lt_of_pos k (by omega)
  have h2 : -5 < k.tmod 5 := Int.lt_tmod_of_pos k (by omega)
  have HD := Lib.hid hd
  clear hd
  by_cases h0 : k.tmod 5 < 0
  · have HE : Hid (kd k = k.tmod 5 + 5) := if_pos h0
    go_enter Try.func23, Try.ntmps23
    go_wp2_with fail
    go_ret
    exact ⟨congrArg (fun x => Ending.returned (.int .i64 x)) (HE.out.symm.trans HD.out), (Below.refl _ _).alloc (Nat.le_refl _) _⟩
  · have HE : Hid (kd k = k.tmod 5) := if_neg h0
    go_enter Try.func23, Try.ntmps23
    go_wp2_with fail
    go_ret
    exact ⟨congrArg (fun x => Ending.returned (.int .i64 x)) (HE.out.symm.trans HD.out), (Below.refl _ _).alloc (Nat.le_refl _) _⟩

def numOf (n : Int) : Nat := if n < 0 then (-(n + 1)).toNat else n.toNat
theorem numOf_le {n : Int} (h : Fits n) : numOf n ≤ 9223372036854775807 := by
  obtain ⟨h1, h2⟩ := h
  unfold numOf
  split <;> omega

set_option maxHeartbeats 400000 in
theorem number_any (n : Int) (hn : Fits n) (w : World) :
    Calls Try.prog 60 #[.int .i64 n] w fun e w' => e = .returned (.int .i64 (numOf n : Nat)) ∧ w = w' := by
  obtain ⟨h1, h2⟩ := hn
  by_cases h0 : n < 0
  · have HE : Hid (-(n + 1) = (numOf n : Int)) := by
      show _ = _
      unfold numOf
      rw [if_pos h0]
      omega
    go_enter Try.func60, Try.ntmps60
    go_wp2_with fail
    go_ret
    exact ⟨congrArg (fun x => Ending.returned (.int .i64 x)) HE.out, rfl⟩
  · have HE : Hid (n = (numOf n : Int)) := by
      show _ = _
      unfold numOf
      rw [if_neg h0]
      omega
    go_enter Try.func60, Try.ntmps60
    go_wp2_with fail
    go_ret
    exact ⟨congrArg (fun x => Ending.returned (.int .i64 x)) HE.out, rfl⟩

/-- The encoding of a value, of its kind. -/
def encOf (v : Val) : List UInt8 :=
  if kd v.kind = 0 then dec (numOf v.n) ++ [59] else if kd v.kind = 1 then encInt v.n else if kd v.kind = 2 then encText v.s else if kd v.kind = 3 then encList encInt v.l else encList encText v.t

/-- What is known of a value that came in, in the world w: its lists lie below block B. -/
structure Came (w : World) (B : Nat) (v : Val) (A : Option Addr) (A' : Option Addr) : Prop where
  l : Row w B A (v.l.map (Value.int .i64))
  t : Row w B A' (v.t.map Value.string)
  inB : B ≤ w.heap.size
  k : Fits v.kind
  n : Fits v.n
  z : ∀ z ∈ v.l, Fits z
  few : v.s.size ≤ 400 ∧ v.l.length ≤ 400 ∧ v.t.length ≤ 400 ∧ (v.t.flatMap encText).length ≤ 20000

theorem Row.more {w : World} {B B' : Nat} {A : Option Addr} {xs : List Value} (h : Row w B A xs) (hB : B ≤ B') : Row w B' A xs := fun k u hu => by
  obtain ⟨b, o, e, h1, h2⟩ := h k u hu
  exact ⟨b, o, e, by omega, h2⟩
theorem Came.lift {w w' : World} {B : Nat} {v : Val} {A A' : Option Addr} (h : Came w B v A A') (hb : Below B w w') : Came w' B v A A' := ⟨h.l.below hb, h.t.below hb, Nat.le_trans h.inB hb.size, h.k, h.n, h.z, h.few⟩
theorem Came.up {w w' : World} {B : Nat} {v : Val} {A A' : Option Addr} (h : Came w B v A A') (hb : Below w.heap.size w w') : Came w' B v A A' := h.lift (hb.mono h.inB)
theorem Came.rowL {w : World} {B : Nat} {v : Val} {A A' : Option Addr} (h : Came w B v A A') : Row w w.heap.size A (v.l.map (Value.int .i64)) := h.l.more h.inB
theorem Came.rowT {w : World} {B : Nat} {v : Val} {A A' : Option Addr} (h : Came w B v A A') : Row w w.heap.size A' (v.t.map Value.string) := h.t.more h.inB

theorem box_alloc {w w1 : World} {o : Obj} (b : Below (w.alloc o).heap.size (w.alloc o) w1) : Below w.heap.size w w1 := ((Below.refl _ w).alloc (Nat.le_refl _) _).trans (b.mono (by simp))

set_option maxHeartbeats 2000000 in
theorem write_any (v : Val) (A : Option Addr) (c : Nat) (A' : Option Addr) (c' : Nat) (w : World) (B : Nat) (h : Came w B v A A') :
    Calls Try.prog 42 #[.agg #[.int .i64 v.kind, .int .i64 v.n, .string v.s, .slice A v.l.length c, .slice A' v.t.length c']] w fun e w' => e = .returned (str (encOf v)) ∧ Below w.heap.size w w' := by
  have H := Lib.hid h
  clear h
  rcases kd_range v.kind with hd | hd | hd | hd | hd
  · have HE : Hid (encOf v = dec (numOf v.n) ++ [59]) := if_pos hd
    have HD := Lib.hid hd
    clear hd
    go_enter Try.func42, Try.ntmps42
    go_wp2_with (first
      | (go_at_call 23; refine (kind_any _ _ _ _ _ _ _ _ _ H.out.k 0 HD.out _).mono ?_; rintro e w1 ⟨rfl, b1⟩; have K := (Blk.fresh w _ _).under b1 (by simp); have k1 := K.at 1; have q1 := Lib.hid (box_alloc b1); clear K b1)
      | (go_at_call 60; refine (number_any _ H.out.n _).mono ?_; rintro e w2 ⟨rfl, rfl⟩)
      | (go_at_call 11; refine (num_any _ (numOf_le H.out.n) _).mono ?_; rintro e w3 ⟨rfl, b3⟩))
    go_ret
    exact ⟨by rw [HE.out]; rfl, next_below q1.out b3⟩
  · have HE : Hid (encOf v = encInt v.n) := by
      show _ = _
      unfold encOf
      rw [hd]
      rfl
    have HD := Lib.hid hd
    clear hd
    go_enter Try.func42, Try.ntmps42
    go_wp2_with (first
      | (go_at_call 23; refine (kind_any _ _ _ _ _ _ _ _ _ H.out.k 1 HD.out _).mono ?_; rintro e w1 ⟨rfl, b1⟩; have K := (Blk.fresh w _ _).under b1 (by simp); have k1 := K.at 1; have q1 := Lib.hid (box_alloc b1); clear K b1)
      | (go_at_call 13; refine (int_any _ H.out.n.1 H.out.n.2 _).mono ?_; rintro e w3 ⟨rfl, b3⟩))
    go_ret
    exact ⟨by rw [HE.out]; rfl, next_below q1.out b3⟩
  · have HE : Hid (encOf v = encText v.s) := by
      show _ = _
      unfold encOf
      rw [hd]
      rfl
    have HD := Lib.hid hd
    clear hd
    go_enter Try.func42, Try.ntmps42
    go_wp2_with (first
      | (go_at_call 23; refine (kind_any _ _ _ _ _ _ _ _ _ H.out.k 2 HD.out _).mono ?_; rintro e w1 ⟨rfl, b1⟩; have K := (Blk.fresh w _ _).under b1 (by simp); have k1 := K.at 2; have q1 := Lib.hid (box_alloc b1); clear K b1)
      | (go_at_call 15; refine (text_any _ (Nat.le_trans H.out.few.1 (by omega)) _).mono ?_; rintro e w3 ⟨rfl, b3⟩))
    go_ret
    exact ⟨by rw [HE.out]; rfl, next_below q1.out b3⟩
  · have HE : Hid (encOf v = encList encInt v.l) := by
      show _ = _
      unfold encOf
      rw [hd]
      rfl
    have HD := Lib.hid hd
    clear hd
    go_enter Try.func42, Try.ntmps42
    go_wp2_with (first
      | (go_at_call 23; refine (kind_any _ _ _ _ _ _ _ _ _ H.out.k 3 HD.out _).mono ?_; rintro e w1 ⟨rfl, b1⟩; have K := (Blk.fresh w _ _).under b1 (by simp); have k1 := K.at 3; have q1 := Lib.hid (box_alloc b1); clear K b1)
      | (go_at_call 17; refine (nums_any A c v.l _ (H.out.up q1.out).rowL H.out.z (Nat.le_trans H.out.few.2.1 (by omega))).mono ?_; rintro e w3 ⟨rfl, b3⟩))
    go_ret
    exact ⟨by rw [HE.out]; rfl, next_below q1.out b3⟩
  · have HE : Hid (encOf v = encList encText v.t) := by
      show _ = _
      unfold encOf
      rw [hd]
      rfl
    have HD := Lib.hid hd
    clear hd
    go_enter Try.func42, Try.ntmps42
    go_wp2_with (first
      | (go_at_call 23; refine (kind_any _ _ _ _ _ _ _ _ _ H.out.k 4 HD.out _).mono ?_; rintro e w1 ⟨rfl, b1⟩; have K := (Blk.fresh w _ _).under b1 (by simp); have k1 := K.at 4; have q1 := Lib.hid (box_alloc b1); clear K b1)
      | (go_at_call 19; refine (texts_any A' c' v.t _ (H.out.up q1.out).rowT (Nat.le_trans H.out.few.2.2.2 (by omega)) (Nat.le_trans H.out.few.2.2.1 (by omega))).mono ?_; rintro e w3 ⟨rfl, b3⟩))
    go_ret
    exact ⟨by rw [HE.out]; rfl, next_below q1.out b3⟩
end Wire
end Go.Proofs.Ytionidjhfcmgiaa

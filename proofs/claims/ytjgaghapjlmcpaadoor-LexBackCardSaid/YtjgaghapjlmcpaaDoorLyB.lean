/- The reference's Write. -/
import Derived.Test.YtjgaghapjlmcpaaDoorLxV
import Derived.Test.YtjgaghapjlmcpaaDoorRquo
namespace Go.Proofs.YtjgaghapjlmcpaaDoor
open Go.RowKit Wire Txt
set_option linter.unusedVariables false
set_option linter.unusedSimpArgs false
namespace Lx

theorem bl_cat (x y : ByteArray) : bl (x ++ y) = bl x ++ bl y := by
  obtain ⟨⟨a⟩⟩ := x
  obtain ⟨⟨b⟩⟩ := y
  exact congrArg bl (cat_bytes a b)

structure VRel (W : World) (A : Option Addr) (l : List Tk) (sv iv : Value) (w : World) (i : Nat) (u : ByteArray) : Prop where
  sv : sv = .string u
  iv : iv = .int .i64 i
  told : Hid (bl u = wrP (l.take i))
  row : Row w W.heap.size A (tks l)
  le : i ≤ l.length
  below : Below W.heap.size W w
theorem VRel.next {W w w1 : World} {A : Option Addr} {l : List Tk} {i : Nat} {t : Tk} {u v : ByteArray} {sv sv' : Value} (h : VRel W A l sv (.int .i64 i) w i u) (ht : l[i]? = some t) (hv : bl v = bl u ++ wr1 t) (b : Below W.heap.size w w1) (hs : sv' = .string v) (iv : Value) (hi : iv = .int .i64 ((i + 1 : Nat) : Int)) : VRel W A l sv' iv w1 (i + 1) v :=
  ⟨hs, hi, Lib.hid (by rw [hv, h.told.out, wr_next ht]), h.row.below b, (List.getElem?_eq_some_iff.1 ht).1, h.below.trans b⟩

set_option maxRecDepth 8000 in
set_option maxHeartbeats 4000000 in
theorem rwrite_any (v : Value) (l : List Tk) (w : World) (hv : Has w v l) (hl : Short l) :
    Calls Tryd.prog 13 #[v] w fun e w' => e = .returned (str (wrP l)) ∧ Below w.heap.size w w' := by
  obtain ⟨A, cp, rfl, hcp, hrow⟩ := hv.is
  have HROOM := Lib.hid (fun i => wr_room hl i)
  have HSH := Lib.hid hl.2
  have hlen := hl.1
  have HROW := Lib.hid hrow
  clear hv hl hrow
  go_enter Tryd.func13, Tryd.ntmps13
  go_wp2_with fail
  go_loopw [3, 4, 16, 27, 38] (fun sv iv _ _ _ wr => ∃ i u, VRel w A l sv iv wr i u) (fun _ iv _ _ _ _ => l.length - (intOf iv).toNat)
  case atStart => exact ⟨0, ByteArray.empty, rfl, rfl, Lib.hid rfl, HROW.out, Nat.zero_le _, Below.refl _ _⟩
  case round =>
    obtain ⟨i, u, hR⟩ := hrel
    obtain rfl := hR.sv
    obtain rfl := hR.iv
    have HR := Lib.hid hR
    have hle := hR.le
    have hus : u.size ≤ 40001000000 := by rw [← bl_len, hR.told.out]; exact HROOM.out i
    clear HROW hR
    by_cases hlt : i < l.length
    · obtain ⟨t, ht⟩ : ∃ t, l[i]? = some t := ⟨_, List.getElem?_eq_getElem hlt⟩
      obtain ⟨b, o', rfl, hb, k0, k1, k2, k3⟩ := row_tk HR.out.row ht
      have hsh := HSH.out t (List.mem_of_getElem? ht)
      obtain ⟨kind, text, n, line⟩ := t
      obtain ⟨x, rfl⟩ := mk_bl text
      rw [str_bl] at k1
      simp only at k0 k1 k2 k3 hsh
      rw [bl_len] at hsh
      have hk : kind = 0 ∨ kind = 1 ∨ kind = 2 ∨ kind = 3 ∨ kind = 4 := by omega
      have hxs := hsh.1
      clear hsh
      rcases hk with rfl | rfl | rfl | rfl | rfl
      · have HN := Lib.hid (HR.out.next ht (v := u ++ x ++ ⟨#[32]⟩) (by rw [bl_cat, bl_cat, List.append_assoc]; rfl) (Below.refl _ _) rfl (.int .i64 ((i : Int) + 1)) rfl)
        have q0 : wr.cell? ⟨b, o' + i * 4, none⟩ = some (.int .i64 0) := k0
        clear k0
        go_wp2_with fail
        go_roundw
        case rel => exact ⟨_, _, HN.out⟩
        case measure => simp [intOf]; omega
      · have HN := Lib.hid (HR.out.next ht (v := u ++ x ++ ⟨#[32]⟩) (by rw [bl_cat, bl_cat, List.append_assoc]; rfl) (Below.refl _ _) rfl (.int .i64 ((i : Int) + 1)) rfl)
        have q0 : wr.cell? ⟨b, o' + i * 4, none⟩ = some (.int .i64 1) := k0
        clear k0
        go_wp2_with fail
        go_roundw
        case rel => exact ⟨_, _, HN.out⟩
        case measure => simp [intOf]; omega
      · obtain ⟨y, hy⟩ := mk_bl (quo (bl x))
        have hyl : y.size ≤ 400002 := by rw [← bl_len, hy]; have := quo_len (bl x); rw [bl_len] at this; omega
        have HQ := Lib.hid (fun w => rquote_any x (by omega) w)
        rw [← hy, str_bl] at HQ
        have HNN : Hid (∀ w1, Below wr.heap.size wr w1 → VRel w (some ⟨b, o', none⟩) l (.string (u ++ y ++ ⟨#[32]⟩)) (.int .i64 ((i : Int) + 1)) w1 (i + 1) (u ++ y ++ ⟨#[32]⟩)) := Lib.hid fun w1 b1 => HR.out.next ht (by rw [bl_cat, bl_cat, hy, List.append_assoc]; rfl) (b1.mono HR.out.below.size) rfl _ rfl
        have q0 : wr.cell? ⟨b, o' + i * 4, none⟩ = some (.int .i64 2) := k0
        clear k0
        clear hy
        go_wp2_with (first
          | (go_at_call 28; refine (HQ.out _).mono ?_; rintro e w3 ⟨rfl, b3⟩
             have HN := Lib.hid (HNN.out _ b3)
             clear b3))
        go_roundw
        case rel => exact ⟨_, _, HN.out⟩
        case measure => simp [intOf]; omega
      · have HN := Lib.hid (HR.out.next ht (v := u ++ ⟨#[10]⟩) (by rw [bl_cat]; rfl) (Below.refl _ _) rfl (.int .i64 ((i : Int) + 1)) rfl)
        have q0 : wr.cell? ⟨b, o' + i * 4, none⟩ = some (.int .i64 3) := k0
        clear k0
        go_wp2_with fail
        go_roundw
        case rel => exact ⟨_, _, HN.out⟩
        case measure => simp [intOf]; omega
      · have HN := Lib.hid (HR.out.next ht (v := u) (by show bl u = bl u ++ []; rw [List.append_nil]) (Below.refl _ _) rfl (.int .i64 ((i : Int) + 1)) rfl)
        have q0 : wr.cell? ⟨b, o' + i * 4, none⟩ = some (.int .i64 4) := k0
        clear k0
        go_wp2_with fail
        go_roundw
        case rel => exact ⟨_, _, HN.out⟩
        case measure => simp [intOf]; omega
    · obtain rfl : i = l.length := by omega
      have HO : Hid (Value.string u = str (wrP l)) := Lib.hid (by rw [← str_bl, HR.out.told.out, List.take_length])
      go_wp2_with fail
      go_ret
      exact ⟨by rw [← HO.out]; rfl, HR.out.below⟩
end Lx
end Go.Proofs.YtjgaghapjlmcpaaDoor

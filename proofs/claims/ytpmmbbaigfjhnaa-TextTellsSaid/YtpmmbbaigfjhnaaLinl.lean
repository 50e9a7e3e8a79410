import Derived.Test.YtpmmbbaigfjhnaaSmal
import Derived.Test.YtpmmbbaigfjhnaaUnls
import Derived.Test.YtpmmbbaigfjhnaaSame
import Derived.Deep.DeepCutAuto
namespace Go.Proofs.Ytpmmbbaigfjhnaa
open Go.RowKit Wire
set_option linter.unusedVariables false
set_option linter.unusedSimpArgs false
namespace Txt

/-- No LF in it. -/
def noLf (x : List UInt8) : Bool := x.all fun c => c != 10
def plainB (t : List (List UInt8)) (k : Nat) : Bool := (t.take k).all noLf
theorem plainB_succ (t : List (List UInt8)) (k : Nat) (h : k < t.length) : plainB t (k + 1) = (plainB t k && noLf t[k]) := by
  unfold plainB
  rw [List.take_succ_eq_append_getElem h, List.all_append]
  simp
theorem plainB_all {t : List (List UInt8)} (h : plainB t t.length = true) : ∀ x ∈ t, 10 ∉ x := by
  unfold plainB at h
  rw [List.take_length, List.all_eq_true] at h
  intro x hx hc
  have := h x hx
  unfold noLf at this
  rw [List.all_eq_true] at this
  have := this 10 hc
  simp at this
def noLfTo (s : ByteArray) (j : Nat) : Bool := noLf ((bl s).take j)
theorem noLfTo_succ (s : ByteArray) (j : Nat) (h : j < s.size) : noLfTo s (j + 1) = (noLfTo s j && (s[j] != 10)) := by
  unfold noLfTo noLf
  rw [take_at h, List.all_append]
  simp
theorem noLfTo_end (s : ByteArray) : noLfTo s s.size = noLf (bl s) := by
  unfold noLfTo
  rw [List.take_of_length_le (by rw [bl_len]; exact Nat.le_refl _)]

theorem unlines_small (t : List (List UInt8)) (h : ∀ x ∈ t, x.length ≤ 100) : (unlines t).length ≤ t.length * 101 := by
  induction t with
  | nil => simp [unlines]
  | cons x t ih =>
    have h1 := h x (by simp)
    have h2 := ih (fun y hy => h y (by simp [hy]))
    have e : unlines (x :: t) = x ++ [10] ++ unlines t := by simp [unlines]
    rw [e]
    simp only [List.length_append, List.length_cons, List.length_nil]
    omega

/-- An element of a list that came in, as a string. -/
theorem Row.str_at {w W : World} {A : Option Addr} {t : List (List UInt8)} {k : Nat} (h : Row w w.heap.size A (t.map str)) (hb : Below w.heap.size w W) (hk : k < t.length) : ∃ b o s, A = some ⟨b, o, none⟩ ∧ W.cell? ⟨b, o + k, none⟩ = some (.string s) ∧ bl s = t[k] := by
  obtain ⟨b, o, e, h1⟩ := h.at hb hk
  exact ⟨b, o, _, e, h1, rfl⟩

def needLf (s : ByteArray) : Bool := decide (bl s ≠ [] ∧ (bl s).getLast? ≠ some 10)
def wantS (s : ByteArray) : ByteArray := if needLf s = true then s ++ (⟨#[10]⟩ : ByteArray) else s
theorem bl_app (a b : ByteArray) : bl (a ++ b) = bl a ++ bl b := by
  obtain ⟨⟨a⟩⟩ := a
  obtain ⟨⟨b⟩⟩ := b
  rw [show (⟨⟨a⟩⟩ : ByteArray) = ⟨a.toArray⟩ from rfl, show (⟨⟨b⟩⟩ : ByteArray) = ⟨b.toArray⟩ from rfl, cat_bytes]
theorem want_is (s : ByteArray) : bl (wantS s) = unlines (lines (bl s)) := by
  rw [unlines_lines]
  unfold wantS ended needLf
  by_cases h : bl s ≠ [] ∧ (bl s).getLast? ≠ some 10
  · rw [if_pos (decide_eq_true h), if_pos h, bl_app]
  · rw [if_neg (by rw [decide_eq_false h]; simp), if_neg h]
theorem s_cases (s : ByteArray) : (¬ 0 < s.size ∧ needLf s = false) ∨ (∃ h : 0 < s.size, ((s[s.size - 1].toNat : Int) != 10) = true ∧ needLf s = true) ∨ (∃ h : 0 < s.size, ((s[s.size - 1].toNat : Int) != 10) = false ∧ needLf s = false) := by
  by_cases h : 0 < s.size
  · have hl : (bl s).getLast? = some s[s.size - 1] := by rw [List.getLast?_eq_getElem?, bl_len, bl_get (by omega)]
    have hne : bl s ≠ [] := by
      intro e
      have := bl_len s
      rw [e] at this
      simp at this
      omega
    by_cases hc : s[s.size - 1] = 10
    · refine .inr (.inr ⟨h, by rw [hc]; rfl, ?_⟩)
      unfold needLf
      rw [decide_eq_false]
      rw [hl, hc]
      simp
    · refine .inr (.inl ⟨h, by rw [bne, show ((s[s.size - 1].toNat : Int) == 10) = false from byte_ne (k := 10) (by omega) hc]; rfl, ?_⟩)
      unfold needLf
      rw [decide_eq_true]
      exact ⟨hne, by rw [hl]; exact fun e => hc (Option.some.inj e)⟩
  · refine .inl ⟨h, ?_⟩
    unfold needLf
    rw [decide_eq_false]
    have : bl s = [] := List.eq_nil_of_length_eq_zero (by rw [bl_len]; omega)
    rw [this]
    simp

structure LinRel1 (W : World) (t : List (List UInt8)) (pv iv : Value) (w : World) (k : Nat) : Prop where
  pv : pv = .bool (plainB t k)
  iv : iv = .int .i64 k
  le : k ≤ t.length
  low : ∀ j (h : j < t.length), j < k → t[j].length ≤ 100
  below : Below W.heap.size W w

theorem fldA_size (l : List UInt8) : ∀ cur, ∀ x ∈ fldA cur l, x.length ≤ cur.length + l.length := by
  induction l with
  | nil =>
    intro cur x hx
    unfold fldA at hx
    split at hx
    · simp at hx
    · obtain rfl : x = cur := by simpa using hx
      simp
  | cons c l ih =>
    intro cur x hx
    unfold fldA at hx
    split at hx
    · split at hx
      · have := ih [] x hx
        simp at this
        simp
        omega
      · rcases List.mem_cons.1 hx with rfl | hx
        · omega
        · have := ih [] x hx
          simp at this
          simp
          omega
    · have := ih (cur ++ [c]) x hx
      simp at this
      simp
      omega
theorem fields_size (l : List UInt8) : ∀ x ∈ fields l, x.length ≤ l.length := by
  intro x hx
  have := fldA_size l [] x hx
  simpa using this

structure LinRel2 (W : World) (X : List (List UInt8)) (ov iv : Value) (w : World) (k : Nat) : Prop where
  iv : iv = .int .i64 k
  le : k ≤ X.length
  own : Strs w W.heap.size ov ((X.take k).flatMap fields)
  below : Below W.heap.size W w

theorem flat_snoc (X : List (List UInt8)) (k : Nat) (h : k < X.length) : (X.take (k + 1)).flatMap fields = (X.take k).flatMap fields ++ fields X[k] := by
  rw [List.take_succ_eq_append_getElem h, List.flatMap_append]
  simp
theorem flat_take (X : List (List UInt8)) (k : Nat) : ((X.take k).flatMap fields).length ≤ (X.flatMap fields).length := by
  conv => rhs; rw [← List.take_append_drop k X]
  rw [List.flatMap_append, List.length_append]
  omega
theorem no_at {x : ByteArray} {j : Nat} (h : 10 ∉ bl x) (hj : j < x.size) : x[j] ≠ 10 := by
  intro e
  apply h
  rw [← e]
  have := drop_at hj
  exact List.mem_of_mem_drop (i := j) (by rw [this]; simp)
theorem mem_at {x : ByteArray} {j : Nat} (hj : j < x.size) : x[j] ∈ bl x := by
  have := drop_at hj
  exact List.mem_of_mem_drop (i := j) (by rw [this]; simp)
theorem white_no {c : UInt8} (h : white c = false) : ((c.toNat : Int) == 32) = false ∧ ((c.toNat : Int) == 9) = false ∧ ((c.toNat : Int) == 10) = false := by
  have h' : c ≠ 32 ∧ c ≠ 9 ∧ c ≠ 10 := by
    simp [white] at h
    exact ⟨h.1.1, h.1.2, h.2⟩
  exact ⟨byte_ne (k := 32) (by omega) h'.1, byte_ne (k := 9) (by omega) h'.2.1, byte_ne (k := 10) (by omega) h'.2.2⟩
theorem unlines_bound {s : ByteArray} {X : List (List UInt8)} (h : bl (wantS s) = unlines X) : (unlines X).length ≤ s.size + 1 := by
  rw [← h]
  unfold wantS
  split
  · rw [bl_app, List.length_append, bl_len]
    exact Nat.le_refl _
  · rw [bl_len]
    omega
theorem LinRel2.step {W wr w4 w5 : World} {X : List (List UInt8)} {ov v5 : Value} {k : Nat} {f : List (List UInt8)} (hlt : k < X.length) (hsn : (X.take (k + 1)).flatMap fields = (X.take k).flatMap fields ++ f)
    (hown : Strs wr W.heap.size ov ((X.take k).flatMap fields)) (hbel : Below W.heap.size W wr) (b4 : Below wr.heap.size wr w4)
    (hown5 : Grow w5 W.heap.size 1 v5 (((X.take k).flatMap fields).length + f.length) (((X.take k).flatMap fields).map str ++ f.map str)) (hg5 : w4.grownBy w5 ov.ownBlock) : LinRel2 W X v5 (.int .i64 ((k : Int) + 1)) w5 (k + 1) := by
  refine ⟨by simp, hlt, ?_, (hbel.trans (b4.mono hbel.size)).grown hg5 (Nat.le_trans hbel.size b4.size) fun g hg => (hown.block g hg).1⟩
  unfold Strs
  rw [hsn, List.length_append, List.map_append]
  exact hown5

set_option maxRecDepth 100000 in
set_option maxHeartbeats 4000000 in
theorem linl_any (A : Option Addr) (c : Nat) (t : List (List UInt8)) (s : ByteArray) (ht : t.length ≤ 9223372036854775807) (hs : s.size ≤ 9223372036854775807) (w : World) (hr : Row w w.heap.size A (t.map str))
    (hz : ∀ x ∈ t, x.length ≤ 9223372036854775807) :
    Calls Try.prog 5 #[.slice A t.length c, .string s] w fun e w' => e = .returned (.bool true) ∧ Below w.heap.size w w' := by
  obtain ⟨i0, hi0, hi1, hi2, hi3⟩ := info_parts info_str
  have HR := Lib.hid hr
  have HZ := Lib.hid hz
  clear hr hz
  by_cases ht1 : t.length ≤ 30
  · by_cases hs1 : s.size ≤ 300
    · go_enter Try.func5, Try.ntmps5
      go_wp2_with (go_at_call 8; refine (small_any _).mono ?_; rintro e w1 ⟨rfl, b1⟩)
      go_loopw [6, 7] (fun pv iv wr => ∃ k, LinRel1 w t pv iv wr k) (fun _ iv _ => t.length - (intOf iv).toNat)
      case atStart => exact ⟨0, rfl, rfl, Nat.zero_le _, fun j _ hj => absurd hj (by omega), b1⟩
      case round =>
        clear b1
        obtain ⟨k, ⟨rfl, rfl, hk, hlow, hbel⟩⟩ := hrel
        have HLow := Lib.hid hlow
        clear hlow
        by_cases hlt : k < t.length
        · obtain ⟨b, o, x, rfl, hcell, hx⟩ := HR.out.str_at hbel hlt
          have HP := Lib.hid (plainB_succ t k hlt)
          have HX := Lib.hid hx
          have hxs : x.size ≤ 9223372036854775807 := by have := HZ.out _ (List.getElem_mem hlt); rw [← hx, bl_len] at this; exact this
          clear hx
          by_cases hx100 : x.size ≤ 100
          · go_wp2_with fail
            go_loopw [6, 8] (fun pv iv wx => (∃ j : Nat, pv = .bool (plainB t k && noLfTo x j) ∧ iv = .int .i64 j ∧ j ≤ x.size) ∧ wr = wx) (fun _ iv _ => x.size - (intOf iv).toNat)
            case atStart => exact ⟨⟨0, by simp [noLfTo, noLf], rfl, Nat.zero_le _⟩, rfl⟩
            case round =>
              obtain ⟨⟨j, rfl, rfl, hj⟩, rfl⟩ := hrel
              by_cases hjl : j < x.size
              · have HN := Lib.hid (noLfTo_succ x j hjl)
                generalize plainB t k = P at *
                generalize noLfTo x j = Q at *
                cases hPQ : (P && Q) with
                | false =>
                  have HF : Hid (false = (P && noLfTo x (j + 1))) := Lib.hid (by rw [HN.out, ← Bool.and_assoc, hPQ]; rfl)
                  clear hPQ
                  go_wp2_with fail
                  go_roundw
                  case rel => exact ⟨⟨j + 1, congrArg Value.bool HF.out, by simp, hjl⟩, trivial⟩
                  case measure => simp [intOf]; omega
                | true =>
                  by_cases hc : x[j] = 10
                  · have hb : ((x[j].toNat : Int) != 10) = false := by rw [hc]; rfl
                    have HF : Hid (false = (P && noLfTo x (j + 1))) := Lib.hid (by rw [HN.out, ← Bool.and_assoc, hPQ, hc]; rfl)
                    clear hPQ hc
                    go_wp2_with fail
                    go_roundw
                    case rel => exact ⟨⟨j + 1, congrArg Value.bool HF.out, by simp, hjl⟩, trivial⟩
                    case measure => simp [intOf]; omega
                  · have hb : ((x[j].toNat : Int) != 10) = true := by rw [bne, show ((x[j].toNat : Int) == 10) = false from byte_ne (k := 10) (by omega) hc]; rfl
                    have HF : Hid (true = (P && noLfTo x (j + 1))) := Lib.hid (by rw [HN.out, ← Bool.and_assoc, hPQ]; simp [hc])
                    clear hPQ hc
                    go_wp2_with fail
                    go_roundw
                    case rel => exact ⟨⟨j + 1, congrArg Value.bool HF.out, by simp, hjl⟩, trivial⟩
                    case measure => simp [intOf]; omega
              · obtain rfl : j = x.size := by omega
                have HE : Hid ((plainB t k && noLfTo x x.size) = plainB t (k + 1)) := Lib.hid (by rw [HP.out, noLfTo_end, HX.out])
                have HL2 : Hid (∀ j (h : j < t.length), j < k + 1 → t[j].length ≤ 100) := Lib.hid (fun j h hj => by
                  by_cases e : j = k
                  · subst e
                    rw [← HX.out, bl_len]
                    exact hx100
                  · exact HLow.out j h (by omega))
                go_wp2_with fail
                go_roundw
                case rel => exact ⟨k + 1, ⟨by rw [HE.out], by simp, hlt, HL2.out, hbel⟩⟩
                case measure => simp [intOf]; omega
          · go_wp2_with fail
            go_ret
            exact ⟨rfl, hbel⟩
        · obtain rfl : t.length = k := by omega
          have HAll := Lib.hid (plainB_all (t := t))
          have hlen : ∀ x ∈ t, x.length ≤ 100 := by
            intro x hx
            obtain ⟨j, hj, e⟩ := List.mem_iff_getElem.1 hx
            rw [← e]
            exact HLow.out j hj hj
          have hul := unlines_small t hlen
          have hul2 : (unlines t).length ≤ 3030 := by omega
          clear hlen hul
          go_upto_region 14 with (fail)
          go_cut [6, 67] (fun v6 v67 wx => (∃ b6, v6 = .bool b6) ∧ v67 = .bool false ∧ Below w.heap.size w wx)
          case first =>
            cases hB : plainB t t.length with
            | false =>
              clear hB
              go_wp2_with fail
              go_meet
              exact ⟨⟨_, rfl⟩, rfl, hbel⟩
            | true =>
              have HTL := Lib.hid (lines_unlines t (HAll.out hB))
              have d1 := Lib.hid (unlines_any A c t wr (HR.out.lift hbel) (by omega) (by omega))
              have d2 := Lib.hid (lines_any ⟨(unlines t).toArray⟩ (by rw [bytes_size]; omega))
              clear hB
              go_wp2_with (first
                | (go_at_call 20; ((with_reducible refine d1.out.mono ?_); rintro e w2 ⟨rfl, b2⟩))
                | (go_at_call 18; ((with_reducible refine (d2.out _).mono ?_); rintro e w3 ⟨v3, rfl, hs3, b3⟩; rw [bl_mk, HTL.out] at hs3; obtain ⟨A3, c3, rfl, hr3⟩ := hs3.row; have HR3 := Lib.hid hr3; have b13 := next_below (next_below hbel b2) b3; have HRL := Lib.hid (HR.out.lift b13); clear hs3 hr3))
                | (go_at_call 17; refine (same_yes A3 A c3 c t (by omega) _ HR3.out HRL.out).mono ?_; rintro e w4 ⟨rfl, b4⟩))
              go_meet
              exact ⟨⟨_, rfl⟩, rfl, next_below b13 b4⟩
          case rest =>
            clear hbel
            obtain ⟨⟨b6, rfl⟩, rfl, hbel⟩ := hcut
            have d1 := Lib.hid (lines_any s (by omega))
            go_upto_region 18 with (first
              | (go_at_call 18; refine (d1.out _).mono ?_; rintro e w2 ⟨v2, rfl, hs2, b2⟩; obtain ⟨A2, c2, rfl, hr2⟩ := hs2.row))
            go_cut [80] (fun v80 wx => v80 = .bool (needLf s) ∧ w2 = wx)
            case first =>
              rcases s_cases s with ⟨h0, hn⟩ | ⟨h0, h10, hn⟩ | ⟨h0, h10, hn⟩
              · have q1 := is_empty h0
                have q2 : s.toList.isEmpty = true := by rw [is_empty h0]; rfl
                have HN := Lib.hid hn
                clear hn
                go_wp2_with fail
                go_meet
                exact ⟨by rw [HN.out], rfl⟩
              · have q1 := not_empty h0
                have q2 := not_empty2 h0
                have HN := Lib.hid hn
                clear hn
                go_wp2_with fail
                go_meet
                exact ⟨by rw [HN.out], rfl⟩
              · have q1 := not_empty h0
                have q2 := not_empty2 h0
                have HN := Lib.hid hn
                clear hn
                go_wp2_with fail
                go_meet
                exact ⟨by rw [HN.out], rfl⟩
            case rest =>
              obtain ⟨rfl, rfl⟩ := hcut
              go_upto_if 80 with (fail)
              go_cut [10] (fun v10 wx => v10 = .string (wantS s) ∧ w2 = wx)
              case first =>
                have HW : Hid (wantS s = if needLf s = true then s ++ (⟨#[10]⟩ : ByteArray) else s) := Lib.hid rfl
                cases hn : needLf s with
                | true =>
                  rw [hn] at HW
                  clear hn
                  go_wp2_with fail
                  go_meet
                  exact ⟨by rw [HW.out]; rfl, rfl⟩
                | false =>
                  rw [hn] at HW
                  clear hn
                  go_wp2_with fail
                  go_meet
                  exact ⟨by rw [HW.out]; rfl, rfl⟩
              case rest =>
                obtain ⟨rfl, rfl⟩ := hcut
                go_wp2_with fail
                have HX1 := Lib.hid (lines_plain (bl s))
                have HX2 := Lib.hid (fields_lines (bl s))
                have HX3 := Lib.hid (want_is s)
                have HX4 := Lib.hid (lines_size (bl s))
                have hX5 := lines_len (bl s)
                have hF5 := fields_len (bl s)
                have hlb := bl_len s
                have HF1 := Lib.hid (fields_plain (bl s))
                have HF4 := Lib.hid (fields_size (bl s))
                have d2 := Lib.hid (fields_any s (by omega))
                have hX6 : (lines (bl s)).length ≤ 301 := by omega
                have hF6 : (fields (bl s)).length ≤ 301 := by omega
                have hb2' := next_below hbel b2
                have HR2 := Lib.hid hr2
                clear hX5 hF5 hs2 hr2 hbel b2 d1
                rw [hlb] at HX4 HF4
                generalize lines (bl s) = X at *
                generalize fields (bl s) = F at *
                go_loopw [11, 12] (fun ov iv wr => ∃ k, LinRel2 w2 X ov iv wr k) (fun _ iv _ => X.length - (intOf iv).toNat)
                case atStart => exact ⟨0, rfl, Nat.zero_le _, Grow.nil _ _ _, Below.refl _ _⟩
                case round =>
                  obtain ⟨k, ⟨rfl, hk, hown, hbel⟩⟩ := hrel
                  by_cases hlt : k < X.length
                  · obtain ⟨b, o, x, rfl, hcell, hx⟩ := HR2.out.str_at hbel hlt
                    have HXx := Lib.hid hx
                    have HNo := Lib.hid (HX1.out _ (List.getElem_mem hlt))
                    have hxs : x.size ≤ 300 := by have := HX4.out _ (List.getElem_mem hlt); rw [← hx, bl_len] at this; omega
                    have HSn := Lib.hid (flat_snoc X k hlt)
                    have hsn : ((X.take (k + 1)).flatMap fields).length ≤ 301 := by
                      have := flat_take X (k + 1)
                      rw [HX2.out] at this
                      omega
                    have d4 := Lib.hid (fields_any x (by omega))
                    rw [← hx] at HNo HSn
                    have hsn2 : ((X.take k).flatMap fields).length + (fields (bl x)).length ≤ 301 := by
                      have e := HSn.out
                      rw [e, List.length_append] at hsn
                      exact hsn
                    have HB := Lib.hid (room16 (n := ((X.take k).flatMap fields).length) (m := (fields (bl x)).length) (by omega))
                    have HO := Lib.hid hown
                    clear hx hsn hsn2
                    go_wp2_with fail
                    go_loopw [13] (fun iv wx => (∃ j : Nat, iv = .int .i64 j ∧ j ≤ x.size) ∧ wr = wx) (fun iv _ => x.size - (intOf iv).toNat)
                    case atStart => exact ⟨⟨0, rfl, Nat.zero_le _⟩, rfl⟩
                    case round =>
                      obtain ⟨⟨j, rfl, hj⟩, rfl⟩ := hrel
                      by_cases hjl : j < x.size
                      · have hb : ((x[j].toNat : Int) == 10) = false := byte_ne (k := 10) (by omega) (no_at HNo.out hjl)
                        go_wp2_with fail
                        go_roundw
                        case rel => exact ⟨⟨j + 1, by simp, hjl⟩, trivial⟩
                        case measure => simp [intOf]; omega
                      · obtain rfl : j = x.size := by omega
                        go_wp2_with (first
                          | (go_at_call 22; refine (d4.out _).mono ?_; rintro e w4 ⟨v4, rfl, hs4, b4⟩)
                          | (at_builtin; refine wpList_append_src _ rfl (.tmp 105) (.tmp 110) _ _ rfl w2.heap.size 9 i0 _ 1 16 Try.underlying22 hi0 hi1 hi2 hi3 rfl (by omega) _ _ _ rfl (Grow.below HO.out b4) _ _ _ rfl (hs4.src Try.underlying22) HB.out.1 HB.out.2 (Nat.le_trans hbel.size b4.size) ?_; intro v5 w5 hown5 hg5 _))
                        have HS := Lib.hid (LinRel2.step hlt HSn.out HO.out hbel b4 hown5 hg5)
                        go_roundw
                        case rel => exact ⟨k + 1, HS.out⟩
                        case measure => simp [intOf]; omega
                  · obtain rfl : X.length = k := by omega
                    have hcl : (X.take X.length).flatMap fields = F := by rw [List.take_length]; exact HX2.out
                    rw [hcl] at hown
                    obtain ⟨A11, c11, rfl, hr11⟩ := hown.row
                    have HR11 := Lib.hid hr11
                    have hul := unlines_bound HX3.out
                    have d7 : Hid (Calls Try.prog 20 #[.slice A2 X.length c2] wr fun e w' => e = .returned (.string (wantS s)) ∧ Below wr.heap.size wr w') := Lib.hid (by
                      have g := unlines_any A2 c2 X wr (HR2.out.lift hbel) (by omega) (by omega)
                      rw [← HX3.out] at g
                      exact g)
                    have hb3' := next_below hb2' hbel
                    clear hcl hr11 hown hul hbel
                    go_wp2_with fail
                    go_loopw [14] (fun iv wx => (∃ k : Nat, iv = .int .i64 k ∧ k ≤ F.length) ∧ wr = wx) (fun iv _ => F.length - (intOf iv).toNat)
                    case atStart => exact ⟨⟨0, rfl, Nat.zero_le _⟩, rfl⟩
                    case round =>
                      obtain ⟨⟨k, rfl, hk2⟩, rfl⟩ := hrel
                      by_cases hlt2 : k < F.length
                      · obtain ⟨b, o, x, rfl, hcell, hx⟩ := HR11.out.str_at (Below.refl _ _) hlt2
                        have hpl := HF1.out _ (List.getElem_mem hlt2)
                        rw [← hx] at hpl
                        have HPl := Lib.hid hpl.2
                        have hx0 : 0 < x.size := by
                          rcases Nat.eq_zero_or_pos x.size with h | h
                          · exact absurd (List.eq_nil_of_length_eq_zero (by rw [bl_len]; exact h)) hpl.1
                          · exact h
                        have q1 := not_empty hx0
                        have q2 := not_empty2 hx0
                        have hxs : x.size ≤ 300 := by have := HF4.out _ (List.getElem_mem hlt2); rw [← hx, bl_len] at this; omega
                        clear hpl hx
                        go_wp2_with fail
                        go_loopw [15] (fun iv wx => (∃ j : Nat, iv = .int .i64 j ∧ j ≤ x.size) ∧ wr = wx) (fun iv _ => x.size - (intOf iv).toNat)
                        case atStart => exact ⟨⟨0, rfl, Nat.zero_le _⟩, rfl⟩
                        case round =>
                          obtain ⟨⟨j, rfl, hj⟩, rfl⟩ := hrel
                          by_cases hjl : j < x.size
                          · obtain ⟨e1, e2, e3⟩ := white_no (HPl.out _ (mem_at hjl))
                            go_wp2_with fail
                            go_roundw
                            case rel => exact ⟨⟨j + 1, by simp, hjl⟩, trivial⟩
                            case measure => simp [intOf]; omega
                          · obtain rfl : j = x.size := by omega
                            go_wp2_with fail
                            go_roundw
                            case rel => exact ⟨⟨k + 1, by simp, hlt2⟩, trivial⟩
                            case measure => simp [intOf]; omega
                      · obtain rfl : F.length = k := by omega
                        go_wp2_with (first
                          | (go_at_call 20; refine d7.out.mono ?_; rintro e w6 ⟨rfl, b6⟩)
                          | (go_at_call 22; refine (d2.out _).mono ?_; rintro e w7 ⟨v7, rfl, hs7, b7⟩; obtain ⟨A7, c7, rfl, hr7⟩ := hs7.row)
                          | (go_at_call 17; refine (same_yes A7 A11 c7 c11 F (by omega) _ hr7 ((HR11.out.lift b6).lift b7)).mono ?_; rintro e w8 ⟨rfl, b8⟩))
                        go_ret
                        exact ⟨rfl, next_below (next_below (next_below hb3' b6) b7) b8⟩
    · go_enter Try.func5, Try.ntmps5
      go_wp2_with (go_at_call 8; refine (small_any _).mono ?_; rintro e w1 ⟨rfl, b1⟩)
      go_ret
      exact ⟨rfl, b1⟩
  · go_enter Try.func5, Try.ntmps5
    go_wp2_with (go_at_call 8; refine (small_any _).mono ?_; rintro e w1 ⟨rfl, b1⟩)
    go_ret
    exact ⟨rfl, b1⟩
end Txt
end Go.Proofs.Ytpmmbbaigfjhnaa

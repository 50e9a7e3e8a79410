/- JournalCuts: the walk. -/
import Derived.Test.YtpogoalbnbekaaaDoorJct
import Derived.Deep.DeepCutAuto
namespace Go.Proofs.YtpogoalbnbekaaaDoor
open Go.RowKit Wire
set_option linter.unusedVariables false
set_option linter.unusedSimpArgs false
open Txt
open Sls (strs)
namespace Dsk
theorem grow_cap' {w : World} {B s n c : Nat} {A : Option Addr} {xs : List Value} (h : Grow w B s (.slice A n c) n xs) : n ≤ c := by
  rcases h.form with ⟨e, _⟩ | ⟨g, cap, e, _, _, hc, _⟩
  · cases e
    exact Nat.le_refl _
  · injection e with _ _ e
    omega
theorem form_small {L : List ByteArray} (h : ∀ s ∈ L, s.size ≤ 200) (hl : L.length ≤ 16) : (form L).length ≤ 1048576 := by
  have := form_bound h
  omega
theorem strs_at {a : List ByteArray} {i : Nat} (h : i < a.length) : (strs a)[i]? = some (.string a[i]) := by
  unfold Sls.strs
  rw [List.getElem?_map, List.getElem?_eq_getElem h]
  rfl
theorem take_next {a : List ByteArray} {i : Nat} (h : i < a.length) : a.take i ++ [a[i]] = a.take (i + 1) := by
  rw [List.take_add_one, List.getElem?_eq_getElem h]
  rfl

set_option maxRecDepth 8000 in
set_option maxHeartbeats 8000000 in
theorem jcuts_law (A : Option Addr) (cp : Nat) (a : List ByteArray) (n : Int) (A2 : Option Addr) (cp2 : Nat) (b : List ByteArray) (W : World) (ho : Off W) (ha : Row W W.heap.size A (strs a)) (hal : a.length ≤ maxLen) (hn : Fits n) (hb : Row W W.heap.size A2 (strs b)) (hbl : b.length ≤ maxLen) (hcp : a.length ≤ cp) :
    Calls Tryd.prog 6 #[.slice A a.length cp, .int .i64 n, .slice A2 b.length cp2] W fun e w' => e = .returned (.bool true) ∧ Below W.heap.size W w' := by
  have HSM := Lib.hid (jsmall_any ho)
  have HOF := Lib.hid ho
  have HRA : Hid (Row W W.heap.size A (strs a)) := Lib.hid ha
  have HRB : Hid (Row W W.heap.size A2 (strs b)) := Lib.hid hb
  obtain ⟨hn1, hn2⟩ := hn
  unfold maxLen at hal hbl
  clear ho ha hb
  obtain ⟨i0, hi0, hi1, hi2, hi3⟩ := info_parts info_str
  obtain ⟨J0, S0, q0, q1, q2, q3, K0, S1, r0, r1, r2, r3, r4⟩ := Tw.open1
  have HO : Hid (∀ w' p, Js (fun _ => False) W w' p St.new none → Calls Tryd.prog 10 #[ptr p, .int .i64 0] w' fun e w2 => ∃ g, e = .returned (.tuple #[ptr g, .int .i64 0]) ∧ Js (fun _ => False) W w2 p S0 (some (g, J0)) ∧ SameF (fun _ => False) w' w2) := Lib.hid fun w' p h => h.open_some (n := 0) (by omega) q0
  have HO2 : Hid (∀ w' p g, Js (fun _ => False) W w' p S0 (some (g, J0)) → Calls Tryd.prog 10 #[ptr p, .int .i64 2] w' fun e w2 => ∃ k, e = .returned (.tuple #[ptr k, .int .i64 0]) ∧ Tw (fun _ => False) W w2 p 0 g 2 k [] []) := Lib.hid fun w' p g h => by
    have := Tw.open2 h r4 r0 r2 r3
    rwa [q1, r1] at this
  clear q0 q1 q2 q3 r0 r1 r2 r3 r4
  go_enter Tryd.func6, Tryd.ntmps6
  go_wp2_with (go_at_call 7; refine HSM.out.mono ?_; rintro e w1 ⟨rfl, h1⟩; have H1 := Lib.hid h1; clear h1 HSM)
  refine (short_any A cp a HRA.out H1.out (by omega)).mono ?_
  rintro e w2 ⟨x, rfl, hx, b2⟩
  have HSH := Lib.hid hx
  have B2 := Lib.hid (next_below H1.out b2)
  clear hx b2 H1
  cases x with
  | false =>
    go_wp2_with fail
    go_ret
    exact ⟨rfl, B2.out⟩
  | true =>
  obtain ⟨ha8, has⟩ := HSH.out rfl
  have HAS := Lib.hid has
  clear HSH has
  go_wp2_with fail
  refine (short_any A2 cp2 b HRB.out B2.out (by omega)).mono ?_
  rintro e w3 ⟨x, rfl, hx, b3⟩
  have HSH := Lib.hid hx
  have B3 := Lib.hid (next_below B2.out b3)
  clear hx b3 B2
  cases x with
  | false =>
    go_wp2_with fail
    go_ret
    exact ⟨rfl, B3.out⟩
  | true =>
  obtain ⟨hb8, hbs⟩ := HSH.out rfl
  have HBS := Lib.hid hbs
  clear HSH hbs
  go_wp2_with (first
    | (go_at_call 9; refine (new_one B3.out).mono ?_; rintro e w4 ⟨p, rfl, h4⟩; have H4 := Lib.hid (Js.of h4 HOF.out); clear h4)
    | (go_at_call 10; ((with_reducible refine (HO.out _ _ H4.out).mono ?_); rintro e w5 ⟨jg, rfl, h5, _⟩); have H5 := Lib.hid h5; clear h5 H4)
    | (go_at_call 10; refine (HO2.out _ _ _ H5.out).mono ?_; rintro e w6 ⟨jk, rfl, h6⟩; have H6 := Lib.hid h6; clear h6 H5)
    | (go_at_call 13; refine (H6.out.swap.app A cp a (HRA.out.lift H6.out.below) (fun b o e hl => .inl (row_old HRA.out b o e hl)) (by omega) (form_small (by rw [List.nil_append]; exact HAS.out) (by rw [List.nil_append]; omega))).mono ?_; rintro e w7 ⟨rfl, h7, _⟩; rw [List.nil_append] at h7; have H7 := Lib.hid h7.swap; clear h7 H6))
  clear HO HO2
  go_loopw [13] (fun iv wr => ∃ i : Nat, iv = .int .i64 i ∧ i ≤ a.length ∧ Tw (fun _ => False) W wr p 0 jg 2 jk a (a.take i)) (fun iv _ => a.length - (intOf iv).toNat)
  case atStart => exact ⟨0, rfl, Nat.zero_le _, H7.out⟩
  case round =>
    obtain ⟨i, rfl, hi, htw⟩ := hrel
    have HTW := Lib.hid htw
    clear htw H7
    by_cases hlt : i < a.length
    · obtain ⟨b', o', rfl, hbl', hce⟩ := (HRA.out.lift HTW.out.below) i _ (strs_at hlt)
      have HA : Hid (Calls Tryd.prog 13 #[ptr jk, .slice (some ⟨wr.heap.size, 0, none⟩) 1 1] (wr.alloc (.cells #[.string a[i]] 9)) fun e w2 => e = .returned (.int .i64 0) ∧ Tw (fun _ => False) W w2 p 0 jg 2 jk a (a.take (i + 1)) ∧ SameF (fun _ => False) wr w2) := Lib.hid (by
        have := HTW.out.app_lit [a[i]] 9 1 (by simp) (form_small (by rw [take_next hlt]; exact fun s hs => HAS.out s (List.mem_of_mem_take hs)) (by rw [take_next hlt, List.length_take]; omega))
        rw [take_next hlt] at this
        exact this)
      generalize a[i] = s at *
      go_wp2_with (go_at_call 13; refine HA.out.mono ?_; rintro e w8 ⟨rfl, h8, _⟩; have H8 := Lib.hid h8; clear h8)
      go_roundw
      case rel => exact ⟨i + 1, by simp, hlt, H8.out⟩
      case measure => simp [intOf]; omega
    · obtain ⟨T, hT⟩ : ∃ T, T = if 0 ≤ n ∧ n ≤ (a.length : Int) then a.take n.toNat else a := ⟨_, rfl⟩
      obtain rfl : i = a.length := by omega
      rw [List.take_length] at HTW
      have hT8 : T.length ≤ 8 := by
        rw [hT]
        split
        · rw [List.length_take]; omega
        · exact ha8
      have HTS : Hid (∀ s ∈ T, s.size ≤ 200) := Lib.hid (by
        rw [hT]
        split
        · exact fun s hs => HAS.out s (List.mem_of_mem_take hs)
        · exact HAS.out)
      have HT := Lib.hid hT
      clear hT
      go_upto_region 16 with fail
      obtain ⟨c, hc⟩ : ∃ c : Bool, c = decide (0 ≤ n ∧ n ≤ (a.length : Int)) := ⟨_, rfl⟩
      have HCC := Lib.hid hc
      clear hc
      go_cut [14] (fun v14 wx => v14 = .bool c ∧ wr = wx)
      case first =>
        by_cases h0 : 0 ≤ n
        · by_cases h1 : n ≤ (a.length : Int)
          · go_wp2_with fail
            go_meet
            case rel => exact ⟨by rw [HCC.out, decide_eq_true ⟨h0, h1⟩], rfl⟩
          · go_wp2_with fail
            go_meet
            case rel => exact ⟨by rw [HCC.out, decide_eq_false (by omega)], rfl⟩
        · go_wp2_with fail
          go_meet
          case rel => exact ⟨by rw [HCC.out, decide_eq_false (by omega)], rfl⟩
      case rest =>
        obtain ⟨rfl, rfl⟩ := hcut
        go_upto_region 17 with fail
        go_cut [87] (fun v87 wx => v87 = .bool false ∧ Tw (fun _ => False) W wx p 0 jg 2 jk T T)
        case first =>
          by_cases hin : 0 ≤ n ∧ n ≤ (a.length : Int)
          · obtain rfl : c = true := by rw [HCC.out, decide_eq_true hin]
            have hTT : a.take n.toNat = T := by rw [HT.out, if_pos hin]
            have C1 := Lib.hid (HTW.out.swap.cut_in n hin.1 hin.2 hn2)
            rw [hTT] at C1
            have C2 : Hid (∀ w', Tw (fun _ => False) W w' p 0 jg 2 jk T a → Calls Tryd.prog 14 #[ptr jk, .int .i64 n] w' fun e w2 => e = .returned (.int .i64 0) ∧ Tw (fun _ => False) W w2 p 0 jg 2 jk T T ∧ SameF (fun _ => False) w' w2) := Lib.hid fun w' h => by
              have := h.cut_in n hin.1 hin.2 hn2
              rwa [hTT] at this
            clear hTT
            go_wp2_with (first
              | (go_at_call 14; ((with_reducible refine C1.out.mono ?_); rintro e w8 ⟨rfl, h8, _⟩); have H8 := Lib.hid h8.swap; clear h8)
              | (go_at_call 14; refine (C2.out _ H8.out).mono ?_; rintro e w9 ⟨rfl, h9, _⟩; have H9 := Lib.hid h9; clear h9))
            go_meet
            case rel => exact ⟨rfl, H9.out⟩
          · obtain rfl : c = false := by rw [HCC.out, decide_eq_false hin]
            have hTT : a = T := by rw [HT.out, if_neg hin]
            have C1 := Lib.hid (HTW.out.swap.cut_off n hn1 hn2 (by omega))
            have C2 : Hid (∀ w', Tw (fun _ => False) W w' p 0 jg 2 jk a a → Calls Tryd.prog 14 #[ptr jk, .int .i64 n] w' fun e w2 => e = .returned (.int .i64 1) ∧ Tw (fun _ => False) W w2 p 0 jg 2 jk a a ∧ SameF (fun _ => False) w' w2) := Lib.hid fun w' h => h.cut_off n hn1 hn2 (by omega)
            have HTT := Lib.hid hTT
            clear hTT
            go_wp2_with (first
              | (go_at_call 14; ((with_reducible refine C1.out.mono ?_); rintro e w8 ⟨rfl, h8, _⟩); have H8 := Lib.hid h8.swap; clear h8)
              | (go_at_call 14; refine (C2.out _ H8.out).mono ?_; rintro e w9 ⟨rfl, h9, _⟩; have H9 := Lib.hid h9; clear h9))
            go_meet
            case rel => exact ⟨rfl, by have := H9.out; rwa [HTT.out] at this⟩
        case rest =>
          obtain ⟨rfl, htw⟩ := hcut
          have HT2 := Lib.hid htw
          clear htw HTW
          go_upto_region 19 with fail
          go_cut [15] (fun v15 wx => Grow wx wc.heap.size 1 v15 a.length (strs a) ∧ Below wc.heap.size wc wx)
          case first =>
            have hsz := HT2.out.below.size
            have bw4 : Below wc.heap.size wc (wc.alloc (.cells #[] 9)) := (Below.refl _ wc).alloc (Nat.le_refl _) _
            have HRT : Hid (Row wc wc.heap.size A (strs a)) := Lib.hid (HRA.out.lift HT2.out.below)
            have BW4 := Lib.hid bw4
            clear bw4
            go_wp2_with (at_builtin; go_must (refine wpList_append_src _ rfl (.tmp 88) (.tmp 89) _ _ rfl wc.heap.size 9 i0 _ 1 16 Tryd.underlying32 hi0 hi1 hi2 hi3 rfl (by omega) (.slice (some ⟨wc.heap.size, 0, none⟩) 0 0) 0 [] (by simp [go_sem]) (Grow.bare wc 9 1) (.slice A a.length cp) a.length (strs a) (by simp [go_sem]) (Sls.src_row' (HRT.out.lift BW4.out)) (small_max (by omega)) (by omega) BW4.out.size ?_; intro v8 w8 hown8 hg8 _; have BX := Lib.hid (BW4.out.grown hg8 BW4.out.size (fun k hk => by simp [Value.ownBlock] at hk; omega)); have GX := Lib.hid hown8; clear hown8 hg8))
            go_meet
            case rel => exact ⟨by have := GX.out; rwa [Nat.zero_add, List.nil_append] at this, BX.out⟩
          case rest =>
            obtain ⟨hg5, hb5⟩ := hcut
            obtain ⟨A5, c5, rfl⟩ := hg5.slice
            have hcap := grow_cap' hg5
            have HT3 : Hid (Tw (fun b => (Value.slice A5 a.length c5).ownBlock = some b) W wc p 0 jg 2 jk T T) := Lib.hid (HT2.out.more hb5 (fun x hx => .inr (hg5.block x hx)))
            have G5 : Hid (Grow wc W.heap.size 1 (.slice A5 a.length c5) a.length (strs a)) := Lib.hid (hg5.lower HT2.out.below.size)
            clear hg5 hb5 HT2
            go_upto_if 91 with fail
            go_cut [15] (fun v15 wx => Grow wx W.heap.size 1 v15 T.length (strs T) ∧ Below wc.heap.size wc wx ∧ ∀ x, v15.ownBlock = some x → (Value.slice A5 a.length c5).ownBlock = some x ∨ (wc.heap.size ≤ x ∧ x < wx.heap.size))
            case first =>
              by_cases hin : 0 ≤ n ∧ n ≤ (a.length : Int)
              · obtain rfl : c = true := by rw [HCC.out, decide_eq_true hin]
                have hTT : T = a.take n.toNat := by rw [HT.out, if_pos hin]
                have hm : T.length = n.toNat := by rw [hTT, List.length_take]; omega
                have hst : strs T = (strs a).take T.length := by rw [hm, hTT]; exact List.map_take
                have HM := Lib.hid hm
                have HST := Lib.hid hst
                have hsz := HT3.out.below.size
                have HRT : Hid (Row wc wc.heap.size A (strs T)) := Lib.hid (by
                  intro k u hu
                  rw [HST.out, List.getElem?_take] at hu
                  split at hu
                  · exact (HRA.out.lift HT3.out.below) k u hu
                  · cases hu)
                have bw4 : Below wc.heap.size wc (wc.alloc (.cells #[] 9)) := (Below.refl _ wc).alloc (Nat.le_refl _) _
                have BW4 := Lib.hid bw4
                clear bw4 hTT hm hst
                go_wp2_with (at_builtin; go_must (refine wpList_append_src _ rfl (.tmp 92) (.tmp 99) _ _ rfl wc.heap.size 9 i0 _ 1 16 Tryd.underlying32 hi0 hi1 hi2 hi3 rfl (by omega) (.slice (some ⟨wc.heap.size, 0, none⟩) 0 0) 0 [] (by simp [go_sem]) (Grow.bare wc 9 1) (.slice A T.length cp) T.length (strs T) (by have := HM.out; simp [go_sem]; omega) (Sls.src_row' (HRT.out.lift BW4.out)) (small_max (by omega)) (by omega) BW4.out.size ?_; intro v8 w8 hown8 hg8 _; have BX := Lib.hid (BW4.out.grown hg8 BW4.out.size (fun k hk => by simp [Value.ownBlock] at hk; omega)); have GX := Lib.hid hown8; clear hown8 hg8))
                all_goals first | (exfalso; omega) | skip
                all_goals
                  go_meet
                  case rel => exact ⟨by have := GX.out; rw [Nat.zero_add, List.nil_append] at this; exact this.lower hsz, BX.out, fun x hx => .inr (GX.out.block x hx)⟩
              · obtain rfl : c = false := by rw [HCC.out, decide_eq_false hin]
                have hTT : T = a := by rw [HT.out, if_neg hin]
                subst hTT
                go_wp2_with fail
                go_meet
                case rel => exact ⟨G5.out, Below.refl _ _, fun x hx => .inl hx⟩
            case rest =>
              obtain ⟨hg6, hb6, hx6⟩ := hcut
              obtain ⟨A6, c6, rfl⟩ := hg6.slice
              have HT4 : Hid (Tw (fun b => (Value.slice A6 T.length c6).ownBlock = some b) W wc p 0 jg 2 jk T T) := Lib.hid (HT3.out.more hb6 hx6)
              have G6 := Lib.hid hg6
              clear hg6 hb6 hx6 HT3 G5 hcap
              have hfb : (form (T ++ b)).length ≤ 1048576 := form_small (fun s hs => by rcases List.mem_append.1 hs with h | h; exact HTS.out s h; exact HBS.out s h) (by rw [List.length_append]; omega)
              have HFB := Lib.hid hfb
              clear hfb
              have C1 : Hid (Calls Tryd.prog 13 #[ptr jg, .slice A2 b.length cp2] wc fun e w2 => e = .returned (.int .i64 0) ∧ Tw (fun b => (Value.slice A6 T.length c6).ownBlock = some b) W w2 p 2 jk 0 jg T (T ++ b) ∧ SameF (fun b => (Value.slice A6 T.length c6).ownBlock = some b) wc w2) := Lib.hid (HT4.out.swap.app A2 cp2 b (HRB.out.lift HT4.out.below) (fun b o e hl => .inl (row_old HRB.out b o e hl)) (by omega) HFB.out)
              have C2 : Hid (∀ w', Tw (fun b => (Value.slice A6 T.length c6).ownBlock = some b) W w' p 0 jg 2 jk (T ++ b) T → Calls Tryd.prog 13 #[ptr jk, .slice A2 b.length cp2] w' fun e w2 => e = .returned (.int .i64 0) ∧ Tw (fun b => (Value.slice A6 T.length c6).ownBlock = some b) W w2 p 0 jg 2 jk (T ++ b) (T ++ b) ∧ SameF (fun b => (Value.slice A6 T.length c6).ownBlock = some b) w' w2) := Lib.hid fun w' h => h.app A2 cp2 b (HRB.out.lift h.below) (fun b o e hl => .inl (row_old HRB.out b o e hl)) (by omega) HFB.out
              have C3 : Hid (∀ w' ls, Tw (fun b => (Value.slice A6 T.length c6).ownBlock = some b) W w' p 0 jg 2 jk (T ++ b) (T ++ b) → ls.size = 1048576 → Calls Tryd.prog 13 #[ptr jg, .slice (some ⟨w'.heap.size, 0, none⟩) 1 1] (w'.alloc (.cells #[.string ls] 9)) fun e w2 => e = .returned (.int .i64 6) ∧ Tw (fun b => (Value.slice A6 T.length c6).ownBlock = some b) W w2 p 2 jk 0 jg (T ++ b) (T ++ b) ∧ SameF (fun b => (Value.slice A6 T.length c6).ownBlock = some b) w' w2) := Lib.hid fun w' ls h hs => h.swap.big_lit ls (by omega) 9 1
              clear HFB
              go_upto_region 22 with fail
              go_cut [118] (fun v118 wx => v118 = .bool false ∧ Tw (fun b => (Value.slice A6 T.length c6).ownBlock = some b) W wx p 0 jg 2 jk (T ++ b) (T ++ b) ∧ Grow wx W.heap.size 1 (.slice A6 T.length c6) T.length (strs T))
              case first =>
                go_wp2_with (first
                  | (go_at_call 13; ((with_reducible refine C1.out.mono ?_); rintro e w8 ⟨rfl, h8, s8⟩); have H8 := Lib.hid h8.swap; have G8 := Lib.hid (s8.row G6.out (fun b hb => hb)); clear h8 s8)
                  | (go_at_call 13; ((with_reducible refine (C2.out _ H8.out).mono ?_); rintro e w9 ⟨rfl, h9, s9⟩); have H9 := Lib.hid h9; have G9 := Lib.hid (s9.row G8.out (fun b hb => hb)); clear h9 s9)
                  | (at_make; go_must (refine wpList_make_str' (by simp [Region.wanted, yielded, go_sem]) _ _ rfl 1048576 _ _ rfl rfl (by omega) (by omega) (by omega) ?_; intro w10 ls hz hb10 hcv; have H10 := Lib.hid (H9.out.keep hb10); have G10 := Lib.hid (G9.out.below hb10); clear hb10))
                  | (go_at_call 13; go_must (refine (C3.out _ _ H10.out hz).mono ?_; rintro e w11 ⟨rfl, h11, s11⟩; have H11 := Lib.hid h11.swap; have G11 := Lib.hid (s11.row G10.out (fun b hb => hb)); clear h11 s11)))
                go_meet
                case rel => exact ⟨rfl, H11.out, G11.out⟩
              case rest =>
                obtain ⟨rfl, htw, hg7⟩ := hcut
                obtain ⟨_, S, J, K, jj, _, _, _, hJL, hKL⟩ := htw
                have HJ0 := Lib.hid jj.left
                have HK0 := Lib.hid jj.right
                have G7 := Lib.hid hg7
                have HRT : Hid (Row wc wc.heap.size A2 (strs b)) := Lib.hid (HRB.out.lift jj.left.below)
                have hsz := jj.left.below.size
                clear jj hg7 G6 HT4 C1 C2 C3 HTS HBS HT HCC HAS hcp
                go_upto_region 24 with fail
                go_cut [15] (fun v15 wx => Grow wx W.heap.size 1 v15 (T.length + b.length) (strs T ++ strs b) ∧ Js (fun x => v15.ownBlock = some x) W wx p S (some (jg, J)) ∧ Js (fun x => v15.ownBlock = some x) W wx p S (some (jk, K)))
                case first =>
                  go_wp2_with (at_builtin; go_must (refine wpList_append_src _ rfl (.tmp 119) (.tmp 120) _ _ rfl W.heap.size 9 i0 _ 1 16 Tryd.underlying32 hi0 hi1 hi2 hi3 rfl (by omega) (.slice A6 T.length c6) T.length (strs T) (by simp [go_sem]) G7.out (.slice A2 b.length cp2) b.length (strs b) (by simp [go_sem]) (Sls.src_row' HRT.out) (small_max (by omega)) (by omega) hsz ?_; intro v8 w8 hown8 hg8 hor8; have HL8 := Lib.hid (HJ0.out.grown hg8 (fun m hm => hm) (fun b hb => (G7.out.block b hb).1) hor8 (fun b hb => (hown8.block b hb).2)); have HR8 := Lib.hid (HK0.out.grown hg8 (fun m hm => hm) (fun b hb => (G7.out.block b hb).1) hor8 (fun b hb => (hown8.block b hb).2)); have GX := Lib.hid hown8; clear hown8 hg8 hor8))
                  go_meet
                  case rel => exact ⟨GX.out, HL8.out, HR8.out⟩
                case rest =>
                  obtain ⟨hg8, hl8, hr8⟩ := hcut
                  obtain ⟨U, hU⟩ : ∃ U, U = T ++ b := ⟨_, rfl⟩
                  have hUl : U.length = T.length + b.length := by rw [hU, List.length_append]
                  rw [← hUl, show strs T ++ strs b = strs U from by rw [hU]; exact List.map_append.symm] at hg8
                  rw [← hU] at hJL hKL
                  have hU16 : U.length ≤ 16 := by omega
                  clear hUl hU HJ0 HK0 G7 HRT
                  obtain ⟨A8, c8, rfl, hr⟩ := Sls.Grow.row hg8
                  have HJ8 := Lib.hid hl8
                  have HK8 := Lib.hid hr8
                  have HR8 := Lib.hid hr
                  have HJL := Lib.hid hJL
                  have HKL := Lib.hid hKL
                  clear hg8 hl8 hr8 hr hJL hKL
                  generalize hwe : wc = w9 at *
                  go_wp2_with fail
                  go_loopw [16] (fun iv wr => ∃ i : Nat, iv = .int .i64 i ∧ i ≤ U.length ∧ Below w9.heap.size w9 wr) (fun iv _ => U.length - (intOf iv).toNat)
                  case atStart => exact ⟨0, rfl, Nat.zero_le _, Below.refl _ _⟩
                  case round =>
                    obtain ⟨i, rfl, hi, hbw⟩ := hrel
                    have BW := Lib.hid hbw
                    clear hbw
                    by_cases hlt : i < U.length
                    · obtain ⟨b', o', rfl, hbl', hce⟩ := (HR8.out.lift BW.out) i _ (strs_at hlt)
                      have hced := ((Below.refl wr.heap.size wr).drew.cell (p := ⟨b', o' + i, none⟩) hbl').trans hce
                      have HG : Hid (Calls Tryd.prog 29 #[ptr jg, .int .i64 i] wr.drew fun e w2 => e = .returned (.string U[i]) ∧ wr.drew = w2) := Lib.hid (by
                        have := (HJ8.out.keep (BW.out.drew)).1.get i (by omega)
                        rwa [HJL.out, getV_at hlt] at this)
                      have BD := Lib.hid BW.out.drew
                      generalize U[i] = s at *
                      go_upto_region 28 with fail
                      try go_frame
                      refine wp_region_sorted (fun w' => w'.cell? ⟨b', o' + i, none⟩ = some (.string s)) [0, 1, 3, 4, 5, 6] [2, 7] (by kernel_rfl) (by kernel_rfl) hced ?_
                      repeat refine RD.next rfl rfl (by intro w' hS; go_simp; with_reducible rfl) ?_
                      refine RD.done ?_
                      refine CH.next rfl rfl fun K hK => ?_
                      go_simp
                      refine HG.out.mono ?_
                      rintro e w10 ⟨rfl, rfl⟩
                      refine hK _ _ hced ?_
                      clear hK
                      refine CH.next rfl rfl fun K hK => ?_
                      go_simp
                      refine hK _ _ hced ?_
                      clear hK
                      refine CH.done (NoPanic.normal ?_)
                      try go_frame
                      clear hced hce HG
                      go_wp2_with fail
                      go_roundw
                      case rel => exact ⟨i + 1, by simp, hlt, BD.out⟩
                      case measure => simp [intOf]; omega
                    · obtain rfl : i = U.length := by omega
                      have HJ9 := Lib.hid (HJ8.out.keep BW.out).1
                      have HK9 := Lib.hid (HK8.out.keep BW.out).1
                      have HR9 := Lib.hid (HR8.out.lift BW.out)
                      clear HJ8 HK8 HR8
                      have C1 := Lib.hid HJ9.out.all
                      have C2 : Hid (∀ w', Below wr.heap.size wr w' → Calls Tryd.prog 17 #[ptr jk] w' fun e w2 => ∃ v', e = .returned v' ∧ Grow w2 w'.heap.size 1 v' K.L.length (strs K.L) ∧ Below w'.heap.size w' w2) := Lib.hid fun w' h => (HK9.out.keep h).1.all
                      have C3 : Hid (∀ w', Below wr.heap.size wr w' → Calls Tryd.prog 29 #[ptr jg, .int .i64 U.length] w' fun e w2 => e = .returned (.string ⟨#[]⟩) ∧ w' = w2) := Lib.hid fun w' h => by
                        have := (HJ9.out.keep h).1.get U.length (by omega)
                        rwa [HJL.out, getV_end] at this
                      have C4 : Hid (∀ w', Below wr.heap.size wr w' → Calls Tryd.prog 29 #[ptr jg, .int .i64 (-1)] w' fun e w2 => e = .returned (.string ⟨#[]⟩) ∧ w' = w2) := Lib.hid fun w' h => by
                        have := (HJ9.out.keep h).1.get (-1) (by omega)
                        rwa [HJL.out, getV_neg] at this
                      have hJ16 : J.L.length ≤ 16 := by rw [HJL.out]; exact hU16
                      have hK16 : K.L.length ≤ 16 := by rw [HKL.out]; exact hU16
                      have HBW := Lib.hid HJ9.out.below
                      clear HJ9 HK9
                      go_wp2_with (first
                        | (go_at_call 17; ((with_reducible refine C1.out.mono ?_); rintro e w10 ⟨v10, rfl, g10, b10⟩); obtain ⟨A10, c10, rfl, r10⟩ := Sls.Grow.row g10; have R10 := Lib.hid r10; have B10 := Lib.hid b10; clear g10 b10 r10 C1)
                        | (go_at_call 16; ((with_reducible refine (same_rows R10.out HR9.out B10.out HJL.out (by omega)).mono ?_); rintro e w11 ⟨rfl, b11⟩); have B11 := Lib.hid (next_below B10.out b11); clear b11)
                        | (go_at_call 17; ((with_reducible refine (C2.out _ B11.out).mono ?_); rintro e w12 ⟨v12, rfl, g12, b12⟩); obtain ⟨A12, c12, rfl, r12⟩ := Sls.Grow.row g12; have R12 := Lib.hid r12; have B12 := Lib.hid (next_below B11.out b12); clear g12 b12 r12)
                        | (go_at_call 16; go_must (refine (same_rows R12.out HR9.out B12.out HKL.out (by omega)).mono ?_; rintro e w13 ⟨rfl, b13⟩; have B13 := Lib.hid (next_below B12.out b13); clear b13))
                        | (go_at_call 29; ((with_reducible refine (C3.out _ B13.out).mono ?_); rintro e w14 ⟨rfl, rfl⟩))
                        | (go_at_call 29; refine (C4.out _ B13.out).mono ?_; rintro e w15 ⟨rfl, rfl⟩))
                      go_ret
                      exact ⟨rfl, next_below HBW.out B13.out⟩
end Dsk
end Go.Proofs.YtpogoalbnbekaaaDoor

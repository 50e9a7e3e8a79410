/- The reference's spread within marks: breadth first. -/
import Derived.Test.YtgophgnfiboefaaGreatDoorMhO
import Derived.Test.YtgophgnfiboefaaGreatDoorRqA
import Derived.Test.YtgophgnfiboefaaGreatDoorFlH
namespace Go.Proofs.YtgophgnfiboefaaGreatDoor
open Go.RowKit Wire
open Txt (Row)
open Go.Proofs.YtgophgnfiboefaaGreatDoor.Own Flo
open Dsk (Only nth)
set_option linter.unusedVariables false
set_option linter.unusedSimpArgs false
namespace Rgn
theorem mem_ivn {a : List Nat} {c : Nat} : (c : Int) ∈ ivn a ↔ c ∈ a := by
  unfold ivn
  rw [List.mem_map]
  constructor
  · rintro ⟨y, hy, e⟩
    obtain rfl : y = c := by omega
    exact hy
  · exact fun h => ⟨c, h, rfl⟩
structure Sq1 (W : World) (g4 g10 n : Nat) (box : Array Value) (iv : Value) (wr : World) (i : Nat) (out : List Int) : Prop where
  iv : iv = .int .i64 i
  le : i ≤ n
  sp : Sp W wr [BlkT g4 24 box, RowT 1 (.slice (some ⟨g10, 0, none⟩) n n) n (ivs out)]
  lout : out.length = n
  outs : ∀ c : Nat, c < i → gt out c = -1
structure Sq3 (W : World) (g4 g10 n : Nat) (box : Array Value) (src : List Int) (S : Nat → Prop) (qv iv : Value) (wr : World) (i : Nat) (out : List Int) (q : List Nat) : Prop where
  iv : iv = .int .i64 i
  le : i ≤ src.length
  sp : Sp W wr [BlkT g4 24 box, RowT 1 (.slice (some ⟨g10, 0, none⟩) n n) n (ivs out), RowT 1 qv q.length (qvs q)]
  srcs : Srcs n S out q
  done : ∀ (j c : Nat), j < i → src.getD j 0 = c → S c → c ∈ q
structure Sq4 (W : World) (g4 g10 n : Nat) (box : Array Value) (S : Nat → Prop) (E : Nat → Nat → Prop) (qv iv : Value) (wr : World) (i : Nat) (out : List Int) (q : List Nat) : Prop where
  iv : iv = .int .i64 i
  le : i ≤ q.length
  sp : Sp W wr [BlkT g4 24 box, RowT 1 (.slice (some ⟨g10, 0, none⟩) n n) n (ivs out), RowT 1 qv q.length (qvs q)]
  bfs : Bfs n S E out q i
structure Sq5 (W : World) (f : Fl) (g4 g10 n : Nat) (box : Array Value) (IN : Nat → Bool) (S : Nat → Prop) (E : Nat → Nat → Prop) (back : Bool) (i c : Nat) (qv jv : Value) (wr : World) (j : Nat) (out : List Int) (q : List Nat) : Prop where
  jv : jv = .int .i64 j
  le : j ≤ 6
  sp : Sp W wr [BlkT g4 24 box, RowT 1 (.slice (some ⟨g10, 0, none⟩) n n) n (ivs out), RowT 1 qv q.length (qvs q)]
  bfs : Bfs n S E out q i
  at_ : q[i]? = some c
  seen : ∀ (d m : Nat), d < j → stp f back c d = some (m : Int) → IN m = true → 0 ≤ gt out m
set_option maxRecDepth 100000 in
set_option maxHeartbeats 8000000 in
theorem rspread_any {f : Fl} (ho : f.ok) (p : Pl) (M B : Option Addr) (cm cb : Nat) (a : List Nat) (src : List Int) (back : Bool) (w : World) (hin : FlIn w f p) (hm : Row w w.heap.size M (bvs (mkL (ivn a)))) (hs : Row w w.heap.size B (ivs src)) (hls : src.length ≤ 1000000) :
    Calls Tryz.prog 54 #[f.val p, .slice M 4096 cm, .slice B src.length cb, .bool back] w (SpreadPost f src (ivn (offR f a)) back w) := by
  have HSZ := Lib.hid (fun w => qSize_any ho p w)
  have HIS := Lib.hid (fun c w => qIs_any ho p c w)
  have HNX := Lib.hid (fun c d w' (b : Below w.heap.size w w') => qNext_any ho p c d w' (hin.lift b))
  have HBK := Lib.hid (fun c d w' (b : Below w.heap.size w w') => qBack_any ho p c d w' (hin.lift b))
  obtain ⟨IN, hIN⟩ : ∃ IN : Nat → Bool, IN = fun c : Nat => decide ((c : Int) ∈ ivn a) := ⟨_, rfl⟩
  obtain ⟨bm, om, rfl, hmc⟩ : ∃ b o, M = some ⟨b, o, none⟩ ∧ ∀ k, k < 4096 → ∀ w', Below w.heap.size w w' → w'.cell? ⟨b, o + k, none⟩ = some (.bool (IN k)) := by
    obtain ⟨b, o, e, _⟩ := hm 0 _ (bvs_at (l := mkL (ivn a)) (k := 0) (by rw [mkL_len]; omega))
    refine ⟨b, o, e, fun k hk w' hb => ?_⟩
    obtain ⟨b', o', e', hlt, hc⟩ := hm k _ (bvs_at (l := mkL (ivn a)) (k := k) (by rw [mkL_len]; exact hk))
    rw [e] at e'
    injection e' with e'
    injection e' with e1 e2
    subst e1
    subst e2
    rw [mkL_at (ivn a) hk] at hc
    rw [hIN]
    exact (hb.cell (p := ⟨b, o + k, none⟩) hlt).trans hc
  have HM := Lib.hid hmc
  have HSR : Hid (∀ k, k < src.length → ∃ b o, B = some ⟨b, o, none⟩ ∧ ∀ w', Below w.heap.size w w' → w'.cell? ⟨b, o + k, none⟩ = some (.int .i64 (src.getD k 0))) := Lib.hid fun k hk => row_val hs hk
  have HKI : Hid (∀ k, k < f.Kind.length → ∃ b o, p.A1 = some ⟨b, o, none⟩ ∧ ∀ w', Below w.heap.size w w' → w'.cell? ⟨b, o + k, none⟩ = some (.int .i64 (f.kindAt k))) := Lib.hid fun k hk => by
    have := row_val hin.kind hk
    have e : f.kindAt k = f.Kind.getD k 0 := by unfold Fl.kindAt; simp
    rw [e]
    exact this
  have hkn := ho.kinds
  have hn4 := ho.size
  have HIS2 : Hid (∀ c, f.is c = true ↔ (0 ≤ c ∧ c < f.Kind.length)) := Lib.hid fun c => by
    unfold Fl.is
    rw [decide_eq_true_iff, hkn]
  have HST : Hid (∀ (bk : Bool) (c j m : Int), stp f bk c j = some m → f.is m = true) := Lib.hid fun bk c j m h => by
    unfold stp at h
    split at h
    · exact (Fl.next_is (Fl.back_some ho h)).1
    · exact (Fl.next_is h).2.2.1
  have HSI : Hid (∀ c, spSrc f src (ivn (offR f a)) c ↔ c < f.Kind.length ∧ (c : Int) ∈ src ∧ IN c = true ∧ f.kindAt c ≠ 0) := Lib.hid fun c => by
    rw [hIN, spSrc_in ho, decide_eq_true_iff, mem_ivn]
  have HEI : Hid (∀ c n, spE f (ivn (offR f a)) back c n ↔ ∃ d : Nat, d < 6 ∧ stp f back c d = some (n : Int) ∧ IN n = true) := Lib.hid fun c n => by
    rw [hIN, spE_in ho]
    simp only [decide_eq_true_iff, mem_ivn]
  rw [← hkn] at HSZ
  have hn4' : f.Kind.length ≤ 4096 := by omega
  have HN4 := Lib.hid hn4'
  clear hkn hn4 hin hm hs hmc hIN ho
  obtain ⟨n, hn⟩ : ∃ n : Nat, n = f.Kind.length := ⟨_, rfl⟩
  have HPO : Hid (∀ w' cap l, Row w' w'.heap.size cap (ivs l) → IsDist n (spSrc f src (ivn (offR f a))) (spE f (ivn (offR f a)) back) l → Below w.heap.size w w' → ∀ c, SpreadPost f src (ivn (offR f a)) back w (.returned (.slice cap n c)) w') := Lib.hid fun w' A l hr hd b c => ⟨A, c, l, by rw [hn], hn ▸ hd, hr, b⟩
  generalize SpreadPost f src (ivn (offR f a)) back w = Q at *
  generalize spSrc f src (ivn (offR f a)) = SRC at *
  generalize spE f (ivn (offR f a)) back = EE at *
  have HSP0 : Hid (Sp w w []) := Lib.hid (Sp.nil (Below.refl _ w))
  obtain ⟨ii, hii, hii0, hii1, hii2⟩ := info_parts Dsk.info_int
  obtain ⟨A1, c1, A2, c2⟩ := p
  have HVAL : Hid (f.val ⟨A1, c1, A2, c2⟩ = .agg #[.int .i64 f.W, .int .i64 f.H, .int .i64 f.D, .slice A1 n c1, .slice A2 f.Out.length c2]) := Lib.hid (by rw [hn])
  rw [HVAL.out] at HSZ HIS HNX HBK ⊢
  rw [← hn] at HIS2 HSZ HKI HN4 HSI
  clear hn hn4' HVAL
  dsimp only at HKI
  generalize f.W = fW at *
  generalize f.H = fH at *
  generalize f.D = fD at *
  generalize f.Out.length = n2 at *
  generalize f.kindAt = KA at *
  have hn4 : (n : Int) ≤ 4096 := by have := HN4.out; omega
  go_enter Tryz.func54, Tryz.ntmps54
  go_wp2_with (first
    | (go_at_call 71; refine (HSZ.out _).mono ?_; rintro e w1 ⟨rfl, b1⟩; have H1 : Hid (Sp w w1 [BlkT w.heap.size 24 (boxV fW fH fD A1 n c1 A2 n2 c2)]) := Lib.hid ((HSP0.out.local 24 (boxV fW fH fD A1 n c1 A2 n2 c2)).keep b1); clear b1)
    | (refine wpList_make_row rfl _ _ 22 3 ii _ 8 rfl Tryz.underlying22 hii hii0 hii1 hii2 (by omega) rfl n (by have := HN4.out; omega) rfl rfl ?_; intro w4 g4 b4; have H4 : Hid (Sp w w4 [BlkT w.heap.size 24 (boxV fW fH fD A1 n c1 A2 n2 c2), RowT 1 (.slice (some ⟨w1.heap.size, 0, none⟩) n n) n (ivs (List.replicate n 0))]) := Lib.hid (by have := H1.out.new_row b4 g4; rwa [show ivs (List.replicate n 0) = List.replicate n (Value.int .i64 0) from List.map_replicate ..]); clear g4 b4))
  generalize hg10 : w1.heap.size = g10 at *
  have HG4 : Hid (∀ w' T, Sp w w' (BlkT w.heap.size 24 (boxV fW fH fD A1 n c1 A2 n2 c2) :: T) → ∀ w2, Below w'.heap.size w' w2 → BoxS w.heap.size fW fH fD A1 n c1 A2 n2 c2 w2) := Lib.hid fun w' T h w2 b => boxS ((h.blk 0 rfl).under b (h.blk 0 rfl).inside)
  clear hg10 H1 HSP0
  go_loopw [11] (fun iv wr => ∃ i out, Sq1 w w.heap.size g10 n (boxV fW fH fD A1 n c1 A2 n2 c2) iv wr i out) (fun iv _ => n - (intOf iv).toNat)
  case atStart => exact ⟨0, _, rfl, Nat.zero_le _, H4.out, List.length_replicate, fun c hc => by omega⟩
  case round =>
    clear H4
    obtain ⟨i, out, ⟨rfl, hi, hsp, hlout, houts⟩⟩ := hrel
    by_cases hlt : i < n
    · have hi4 : (i : Int) < 4096 := by have := HN4.out; omega
      have hin : (i : Int) < n := by omega
      obtain ⟨y0, y1⟩ := Grow.cell (hsp.grow 1 rfl) (ivs_at (l := out) (k := i) (by rw [hlout]; exact hlt))
      have HS2 : Hid (Sq1 w w.heap.size g10 n (boxV fW fH fD A1 n c1 A2 n2 c2) (.int .i64 ((i + 1 : Nat) : Int)) (wr.setCell ⟨g10, i, none⟩ (.int .i64 (-1))) (i + 1) (out.set i (-1))) := Lib.hid ⟨rfl, hlt, by
        have := hsp.store 1 rfl i hlt (.int .i64 (-1))
        rw [ivs_set] at this
        exact this, by rw [List.length_set]; exact hlout, fun c hc => by
        rw [gt_set (by rw [hlout]; exact hlt)]
        by_cases e : c = i
        · rw [if_pos e]
        · rw [if_neg e]; exact houts c (by omega)⟩
      clear hsp houts
      generalize gt out i = ov at *
      generalize out.set i (-1) = out2 at *
      go_wp2_with fail
      go_roundw
      case rel => exact ⟨i + 1, out2, by simpa using HS2.out⟩
      case measure => simp [intOf]; omega
    · obtain rfl : n = i := by omega
      have hout : out = List.replicate n (-1) := by
        refine List.ext_getElem? fun c => ?_
        by_cases hc : c < n
        · rw [gt_of (by omega), houts c hc, List.getElem?_replicate, if_pos hc]
        · rw [List.getElem?_eq_none (by omega), List.getElem?_eq_none (by rw [List.length_replicate]; omega)]
      subst hout
      have H5 : Hid (Sp w wr [BlkT w.heap.size 24 (boxV fW fH fD A1 n c1 A2 n2 c2), RowT 1 (.slice (some ⟨g10, 0, none⟩) n n) n (ivs (List.replicate n (-1))), RowT 1 (.slice none 0 0) ([] : List Nat).length (qvs [])]) := Lib.hid (hsp.nil_row 1)
      clear hsp hlout houts
      go_wp2_with fail
      go_loopw [12, 13, 14] (fun qv iv _ wr => ∃ i out q, Sq3 w w.heap.size g10 n (boxV fW fH fD A1 n c1 A2 n2 c2) src SRC qv iv wr i out q) (fun _ iv _ _ => src.length - (intOf iv).toNat)
      case atStart => exact ⟨0, _, [], rfl, Nat.zero_le _, H5.out, Srcs.nil n, fun j c hj => by omega⟩
      case round =>
        clear H5
        obtain ⟨i, out, q, ⟨rfl, hi, hsp, hsrcs, hdone⟩⟩ := hrel
        by_cases hlt : i < src.length
        · obtain ⟨b, o, rfl, hc⟩ := HSR.out i hlt
          have z := hc _ hsp.below
          have HSP := Lib.hid hsp
          have HSS := Lib.hid hsrcs
          have HDN := Lib.hid (fun (q' : List Nat) (h1 : ∀ c, c ∈ q → c ∈ q') h2 => done_next (q' := q') hdone h1 h2)
          have HQL : Hid (q.length ≤ n) := Lib.hid (nodup_len hsrcs.nodup hsrcs.lt)
          have HOL := Lib.hid hsrcs.len
          obtain ⟨k0, k1, k2, k3, k4⟩ := HG4.out _ _ HSP.out _ (Below.refl _ _)
          have HMEM : Hid (src.getD i 0 ∈ src) := Lib.hid (by rw [List.getD_eq_getElem?_getD, List.getElem?_eq_getElem hlt]; exact List.getElem_mem hlt)
          clear hc hsp hsrcs hdone HSR
          generalize hv : src.getD i 0 = v at *
          clear hv
          have HISV := Lib.hid (fun w => HIS.out v w)
          cases hisv : f.is v
          · rw [hisv] at HISV
            have HD2 : Hid (∀ (j c : Nat), j < i + 1 → src.getD j 0 = c → SRC c → c ∈ q) := Lib.hid (HDN.out q (fun c h => h) (fun c e hs => by
              have := (HIS2.out v).2 ⟨by omega, by have h1 := ((HSI.out c).1 hs).1; omega⟩
              rw [hisv] at this
              cases this))
            go_wp2_with (go_at_call 55; refine (HISV.out _).mono ?_; rintro e w5 ⟨rfl, b5⟩; have H5 := Lib.hid (HSP.out.keep b5); clear b5)
            go_roundw
            case rel => exact ⟨i + 1, out, q, by simp, hlt, H5.out, HSS.out, HD2.out⟩
            case measure => simp [intOf]; omega
          · rw [hisv] at HISV
            obtain ⟨hv0, hv1⟩ := (HIS2.out v).1 hisv
            obtain ⟨k, rfl⟩ : ∃ k : Nat, v = k := ⟨v.toNat, by omega⟩
            have hk : k < n := by omega
            have hkm : (k : Int) < 4096 := by omega
            have HOA := Lib.hid (ivs_at (l := out) (k := k) (by rw [HOL.out]; exact hk))
            have HMK := Lib.hid (HM.out k (by omega))
            obtain ⟨bk, ok, rfl, hkc⟩ := HKI.out k hk
            have HKC := Lib.hid hkc
            have HNO : Hid (¬ SRC k → ∀ (j c : Nat), j < i + 1 → src.getD j 0 = c → SRC c → c ∈ q) := Lib.hid fun hn => HDN.out q (fun c h => h) (fun c e hs => by
              obtain rfl : k = c := by omega
              exact absurd hs hn)
            have HSK : Hid (IN k = true → KA k ≠ 0 → SRC k) := Lib.hid fun h1 h2 => (HSI.out k).2 ⟨hk, HMEM.out, h1, h2⟩
            have HNI : Hid (IN k = false → ¬ SRC k) := Lib.hid fun h1 h2 => by
              have := ((HSI.out k).1 h2).2.2.1
              rw [h1] at this
              cases this
            have HNK : Hid (KA k = 0 → ¬ SRC k) := Lib.hid fun h1 h2 => ((HSI.out k).1 h2).2.2.2 h1
            clear hkc HMEM HKI HSI
            generalize KA k = kv at *
            generalize hgo : gt out k = ov at *
            cases hb : IN k
            · have HD2 := Lib.hid (HNO.out (HNI.out hb))
              rw [hb] at HMK
              clear HNO HNI HNK HSK HDN
              go_wp2_with (go_at_call 55; refine (HISV.out _).mono ?_; rintro e w5 ⟨rfl, b5⟩; have H5 := Lib.hid (HSP.out.keep b5); clear b5; have x0 := HMK.out _ H5.out.below)
              go_roundw
              case rel => exact ⟨i + 1, out, q, by simp, hlt, H5.out, HSS.out, HD2.out⟩
              case measure => simp [intOf]; omega
            · rw [hb] at HMK
              by_cases hkv : kv = 0
              · have HD2 := Lib.hid (HNO.out (HNK.out hkv))
                clear HNO HNI HNK HSK HDN
                subst hkv
                go_wp2_with (go_at_call 55; refine (HISV.out _).mono ?_; rintro e w5 ⟨rfl, b5⟩; have H5 := Lib.hid (HSP.out.keep b5); obtain ⟨m0, m1, m2, m3, m4⟩ := HG4.out _ _ HSP.out _ b5; clear b5; have x0 := HMK.out _ H5.out.below; have x1 := HKC.out _ H5.out.below)
                go_roundw
                case rel => exact ⟨i + 1, out, q, by simp, hlt, H5.out, HSS.out, HD2.out⟩
                case measure => simp [intOf]; omega
              · have hkb : (kv != 0) = true := bne_iff_ne.2 hkv
                have HSK2 := Lib.hid (HSK.out hb hkv)
                by_cases hneg : ov < 0
                · have HADD := Lib.hid (HSS.out.add HSK2.out hk (by rw [hgo]; exact hneg))
                  have HD2 : Hid (∀ (j c : Nat), j < i + 1 → src.getD j 0 = c → SRC c → c ∈ q ++ [k]) := Lib.hid (HDN.out _ (fun c h => List.mem_append_left _ h) (fun c e hs => List.mem_append_right _ (by have hkc : k = c := (by omega); simp [hkc])))
                  clear HNO HNI HNK HSK HDN
                  go_upto_region 15 with ((go_at_call 55; refine (HISV.out _).mono ?_; rintro e w5 ⟨rfl, b5⟩; have H5 := Lib.hid (HSP.out.keep b5); obtain ⟨m0, m1, m2, m3, m4⟩ := HG4.out _ _ HSP.out _ b5; clear b5; have x0 := HMK.out _ H5.out.below; have x1 := HKC.out _ H5.out.below; obtain ⟨y0, y1⟩ := Grow.cell (H5.out.grow 1 rfl) HOA.out; have H6 : Hid (Sp w (w5.setCell ⟨g10, k, none⟩ (.int .i64 0)) [BlkT w.heap.size 24 (boxV fW fH fD (some ⟨bk, ok, none⟩) n c1 A2 n2 c2), RowT 1 (.slice (some ⟨g10, 0, none⟩) n n) n (ivs (out.set k 0)), RowT 1 u12 q.length (qvs q)]) := Lib.hid (by have := H5.out.store 1 rfl k hk (.int .i64 0); rw [ivs_set] at this; exact this)))
                  go_wp2_with ((at_builtin; obtain ⟨v7, w7, r7, h7⟩ := push_int H6.out 2 rfl k (by have := HQL.out; have := HN4.out; omega) 3; have H7 := Lib.hid h7; refine wpList_append_run rfl _ _ _ _ rfl (by simp [go_sem]) (by simp [go_sem]) r7 ?_; clear r7 h7))
                  go_roundw
                  case rel => exact ⟨i + 1, out.set k 0, q ++ [k], by simp, hlt, H7.out, HADD.out, HD2.out⟩
                  case measure => simp [intOf]; omega
                · have HD2 : Hid (∀ (j c : Nat), j < i + 1 → src.getD j 0 = c → SRC c → c ∈ q) := Lib.hid (HDN.out q (fun c h => h) (fun c e hs => by
                    obtain rfl : k = c := by omega
                    exact HSS.out.has (by rw [hgo]; exact hneg)))
                  clear HNO HNI HNK HSK HDN
                  go_wp2_with (go_at_call 55; refine (HISV.out _).mono ?_; rintro e w5 ⟨rfl, b5⟩; have H5 := Lib.hid (HSP.out.keep b5); obtain ⟨m0, m1, m2, m3, m4⟩ := HG4.out _ _ HSP.out _ b5; clear b5; have x0 := HMK.out _ H5.out.below; have x1 := HKC.out _ H5.out.below; obtain ⟨y0, y1⟩ := Grow.cell (H5.out.grow 1 rfl) HOA.out)
                  go_roundw
                  case rel => exact ⟨i + 1, out, q, by simp, hlt, H5.out, HSS.out, HD2.out⟩
                  case measure => simp [intOf]; omega
        · obtain rfl : src.length = i := by omega
          have HALL : ∀ c, SRC c → c ∈ q := fun c hs => by
            obtain ⟨j, hj, e⟩ := List.getElem_of_mem ((HSI.out c).1 hs).2.1
            exact hdone j c hj (by rw [List.getD_eq_getElem?_getD, List.getElem?_eq_getElem hj]; exact e) hs
          have HBF : Hid (Bfs n SRC EE out q 0) := Lib.hid (hsrcs.start HALL)
          have HSP := Lib.hid hsp
          clear hsp hsrcs hdone HALL HSR HKI HSI
          go_wp2_with fail
          go_loopw [12, 15, 16, 17, 18, 19] (fun qv iv _ _ _ _ wr => ∃ i out q, Sq4 w w.heap.size g10 n (boxV fW fH fD A1 n c1 A2 n2 c2) SRC EE qv iv wr i out q) (fun _ iv _ _ _ _ _ => n - (intOf iv).toNat)
          case atStart => exact ⟨0, out, q, rfl, Nat.zero_le _, HSP.out, HBF.out⟩
          case round =>
            clear HSP HBF
            obtain ⟨i, out, q, ⟨rfl, hi, hsp, hbf⟩⟩ := hrel
            have hql := hbf.len_le
            by_cases hlt : i < q.length
            · have hcx : ∃ c, q[i]? = some c := ⟨_, List.getElem?_eq_getElem hlt⟩
              obtain ⟨c, hc⟩ := hcx
              obtain ⟨gq, cq, rfl, _⟩ := (hsp.grow 2 rfl).form.resolve_left (fun e => by omega)
              obtain ⟨x0, _⟩ := Grow.cell (hsp.grow 2 rfl) (show (qvs q)[i]? = some (.int .i64 (c : Int)) from by simp [hc])
              have HSP := Lib.hid hsp
              have HBF := Lib.hid hbf
              have HC := Lib.hid hc
              have hdt : decide ((i : Int) < (q.length : Int)) = true := decide_eq_true (by omega)
              have hcn : c < n := hbf.lt c (List.mem_of_getElem? hc)
              clear hsp hbf hc
              have HLT := Lib.hid hlt
              generalize hL : q.length = LL at hdt hlt ⊢
              have HL := Lib.hid hL
              clear hL
              go_wp2_with fail
              clear x0 hdt hlt
              obtain rfl := HL.out
              go_loopw [12, 17, 18, 19] (fun qv jv _ _ wr => ∃ j out q, Sq5 w f w.heap.size g10 n (boxV fW fH fD A1 n c1 A2 n2 c2) IN SRC EE back i c qv jv wr j out q) (fun _ jv _ _ _ => 6 - (intOf jv).toNat)
              case atStart => exact ⟨0, out, q, rfl, by omega, HSP.out, HBF.out, HC.out, fun d m hd => by omega⟩
              case round =>
                clear HSP HBF HC
                obtain ⟨j, out, q, ⟨rfl, hj, hsp, hbf, hc, hseen⟩⟩ := hrel
                have HSP := Lib.hid hsp
                have HBF := Lib.hid hbf
                have HC := Lib.hid hc
                have HSE := Lib.hid hseen
                clear hsp hbf hc hseen
                by_cases hj6 : j < 6
                · have HBB := Lib.hid (HG4.out _ _ HSP.out)
                  obtain ⟨k0, k1, k2, k3, k4⟩ := HBB.out _ (Below.refl _ _)
                  have HNXc := Lib.hid (HNX.out c j)
                  have HBKc := Lib.hid (HBK.out c j)
                  have HSN : Hid (∀ (out' : List Int), (∀ m, 0 ≤ gt out m → 0 ≤ gt out' m) → (∀ m : Nat, stp f back c j = some (m : Int) → IN m = true → 0 ≤ gt out' m) → ∀ (d m : Nat), d < j + 1 → stp f back c d = some (m : Int) → IN m = true → 0 ≤ gt out' m) := Lib.hid fun out' h1 h2 d m hd h3 h4 => by
                    by_cases e : d = j
                    · subst e
                      exact h2 m h3 h4
                    · exact h1 m (HSE.out d m (by omega) h3 h4)
                  have HSI : Hid (∀ m : Int, stp f back c j = some m → f.is m = true) := Lib.hid fun m h => HST.out back c j m h
                  have HED : Hid (∀ m : Nat, stp f back c j = some (m : Int) → IN m = true → EE c m) := Lib.hid fun m h1 h2 => (HEI.out c m).2 ⟨j, hj6, h1, h2⟩
                  have HCL := Lib.hid (ivs_at (l := out) (k := c) (by rw [HBF.out.len]; exact hcn))
                  have HC0 : Hid (0 ≤ gt out c ∧ gt out c ≤ 4096) := Lib.hid ⟨HBF.out.mem_iff.1 (List.mem_of_getElem? HC.out), by have h1 := HBF.out.idx i c HC.out; have h2 := (List.getElem?_eq_some_iff.1 HC.out).1; have h3 := HBF.out.len_le; have h4 := HN4.out; omega⟩
                  cases back
                  · have HSO : Hid (stp f false c j = f.next c j) := Lib.hid (by unfold stp; simp)
                    rw [HSO.out] at HSI HSN HED
                    clear HSO
                    generalize f.next c j = o at *
                    rcases o with _ | m
                    · have HS2 := Lib.hid (HSN.out out (fun m h => h) (fun m h => by cases h))
                      clear HSN HED HSI
                      dsimp only [resN, Option.getD, Option.isSome] at HNXc
                      go_wp2_with (go_at_call 52; refine (HNXc.out _ HSP.out.below).mono ?_; rintro e w5 ⟨rfl, b5⟩; have H5 := Lib.hid (HSP.out.keep b5); clear b5)
                      go_roundw
                      case rel => exact ⟨j + 1, out, q, by simp, by omega, H5.out, HBF.out, HC.out, HS2.out⟩
                      case measure => simp [intOf]; omega
                    · obtain ⟨hv0, hv1⟩ := (HIS2.out m).1 (HSI.out m rfl)
                      obtain ⟨k, rfl⟩ : ∃ k : Nat, m = k := ⟨m.toNat, by omega⟩
                      have hk : k < n := by omega
                      have hkm : (k : Int) < 4096 := by omega
                      have HMK := Lib.hid (HM.out k (by omega))
                      have HOA := Lib.hid (ivs_at (l := out) (k := k) (by rw [HBF.out.len]; exact hk))
                      dsimp only [resN, Option.getD, Option.isSome] at HNXc
                      cases hb : IN k
                      · rw [hb] at HMK
                        have HS2 := Lib.hid (HSN.out out (fun m h => h) (fun m h h2 => by
                          have e : m = k := by
                            injection h with h
                            omega
                          rw [e, hb] at h2
                          cases h2))
                        clear HC0 HSN HED HSI
                        go_wp2_with (go_at_call 52; refine (HNXc.out _ HSP.out.below).mono ?_; rintro e w5 ⟨rfl, b5⟩; have H5 := Lib.hid (HSP.out.keep b5); clear b5; have x0 := HMK.out _ H5.out.below)
                        go_roundw
                        case rel => exact ⟨j + 1, out, q, by simp, by omega, H5.out, HBF.out, HC.out, HS2.out⟩
                        case measure => simp [intOf]; omega
                      · rw [hb] at HMK
                        by_cases hneg : gt out k < 0
                        · have HVI := Lib.hid (HBF.out.visit HC.out (HED.out k rfl hb) hk hneg)
                          have HS2 := Lib.hid (HSN.out (out.set k (gt out c + 1)) (fun m h => by
                            rw [gt_set (by rw [HBF.out.len]; exact hk)]
                            split
                            · have := HC0.out.1
                              omega
                            · exact h) (fun m h _ => by
                            have e : m = k := by
                              injection h with h
                              omega
                            rw [e, HVI.out.2.1]
                            have := HC0.out.1
                            omega))
                          have HQL : Hid (q.length ≤ n) := Lib.hid HBF.out.len_le
                          have HC2 : Hid ((q ++ [k])[i]? = some c) := Lib.hid (by rw [List.getElem?_append_left (List.getElem?_eq_some_iff.1 HC.out).1]; exact HC.out)
                          obtain ⟨hc0, hc1⟩ := HC0.out
                          have HBV := Lib.hid HVI.out.1
                          clear HC0 HSN HED HSI HVI
                          generalize gt out k = ov at *
                          generalize gt out c = oc at *
                          go_upto_region 29 with (go_at_call 52; refine (HNXc.out _ HSP.out.below).mono ?_; rintro e w5 ⟨rfl, b5⟩; have H5 := Lib.hid (HSP.out.keep b5); clear b5; have x0 := HMK.out _ H5.out.below; obtain ⟨y0, y1⟩ := Grow.cell (H5.out.grow 1 rfl) HOA.out; obtain ⟨z0, z1⟩ := Grow.cell (H5.out.grow 1 rfl) HCL.out; have H6 : Hid (Sp w (w5.setCell ⟨g10, k, none⟩ (.int .i64 (oc + 1))) [BlkT w.heap.size 24 (boxV fW fH fD A1 n c1 A2 n2 c2), RowT 1 (.slice (some ⟨g10, 0, none⟩) n n) n (ivs (out.set k (oc + 1))), RowT 1 u12 q.length (qvs q)]) := Lib.hid (by have := H5.out.store 1 rfl k hk (.int .i64 (oc + 1)); rw [ivs_set] at this; exact this))
                          go_wp2_with ((at_builtin; obtain ⟨v7, w7, r7, h7⟩ := push_int H6.out 2 rfl k (by have := HQL.out; have := HN4.out; omega) 3; have H7 := Lib.hid h7; refine wpList_append_run rfl _ _ _ _ rfl (by simp [go_sem]) (by simp [go_sem]) r7 ?_; clear r7 h7))
                          go_roundw
                          case rel => exact ⟨j + 1, out.set k (oc + 1), q ++ [k], by simp, by omega, H7.out, HBV.out, HC2.out, HS2.out⟩
                          case measure => simp [intOf]; omega
                        · have HS2 := Lib.hid (HSN.out out (fun m h => h) (fun m h _ => by
                            have e : m = k := by
                              injection h with h
                              omega
                            rw [e]
                            omega))
                          clear HC0 HSN HED HSI
                          generalize gt out k = ov at *
                          go_wp2_with (go_at_call 52; refine (HNXc.out _ HSP.out.below).mono ?_; rintro e w5 ⟨rfl, b5⟩; have H5 := Lib.hid (HSP.out.keep b5); clear b5; have x0 := HMK.out _ H5.out.below; obtain ⟨y0, y1⟩ := Grow.cell (H5.out.grow 1 rfl) HOA.out)
                          go_roundw
                          case rel => exact ⟨j + 1, out, q, by simp, by omega, H5.out, HBF.out, HC.out, HS2.out⟩
                          case measure => simp [intOf]; omega
                  · have HSO : Hid (stp f true c j = f.back c j) := Lib.hid (by unfold stp; simp)
                    rw [HSO.out] at HSI HSN HED
                    clear HSO
                    generalize f.back c j = o at *
                    rcases o with _ | m
                    · have HS2 := Lib.hid (HSN.out out (fun m h => h) (fun m h => by cases h))
                      clear HSN HED HSI
                      dsimp only [resN, Option.getD, Option.isSome] at HBKc
                      go_wp2_with (first | (go_at_call 52; refine (HNXc.out _ HSP.out.below).mono ?_; rintro e w4 ⟨rfl, b4⟩; have H4 := Lib.hid (HSP.out.keep b4); obtain ⟨m0, m1, m2, m3, m4⟩ := HG4.out _ _ HSP.out _ b4; clear b4) | (go_at_call 72; refine (HBKc.out _ H4.out.below).mono ?_; rintro e w5 ⟨rfl, b5⟩; have H5 := Lib.hid (H4.out.keep b5); clear b5))
                      go_roundw
                      case rel => exact ⟨j + 1, out, q, by simp, by omega, H5.out, HBF.out, HC.out, HS2.out⟩
                      case measure => simp [intOf]; omega
                    · obtain ⟨hv0, hv1⟩ := (HIS2.out m).1 (HSI.out m rfl)
                      obtain ⟨k, rfl⟩ : ∃ k : Nat, m = k := ⟨m.toNat, by omega⟩
                      have hk : k < n := by omega
                      have hkm : (k : Int) < 4096 := by omega
                      have HMK := Lib.hid (HM.out k (by omega))
                      have HOA := Lib.hid (ivs_at (l := out) (k := k) (by rw [HBF.out.len]; exact hk))
                      dsimp only [resN, Option.getD, Option.isSome] at HBKc
                      cases hb : IN k
                      · rw [hb] at HMK
                        have HS2 := Lib.hid (HSN.out out (fun m h => h) (fun m h h2 => by
                          have e : m = k := by
                            injection h with h
                            omega
                          rw [e, hb] at h2
                          cases h2))
                        clear HC0 HSN HED HSI
                        go_wp2_with (first | (go_at_call 52; refine (HNXc.out _ HSP.out.below).mono ?_; rintro e w4 ⟨rfl, b4⟩; have H4 := Lib.hid (HSP.out.keep b4); obtain ⟨m0, m1, m2, m3, m4⟩ := HG4.out _ _ HSP.out _ b4; clear b4) | (go_at_call 72; refine (HBKc.out _ H4.out.below).mono ?_; rintro e w5 ⟨rfl, b5⟩; have H5 := Lib.hid (H4.out.keep b5); clear b5; have x0 := HMK.out _ H5.out.below))
                        go_roundw
                        case rel => exact ⟨j + 1, out, q, by simp, by omega, H5.out, HBF.out, HC.out, HS2.out⟩
                        case measure => simp [intOf]; omega
                      · rw [hb] at HMK
                        by_cases hneg : gt out k < 0
                        · have HVI := Lib.hid (HBF.out.visit HC.out (HED.out k rfl hb) hk hneg)
                          have HS2 := Lib.hid (HSN.out (out.set k (gt out c + 1)) (fun m h => by
                            rw [gt_set (by rw [HBF.out.len]; exact hk)]
                            split
                            · have := HC0.out.1
                              omega
                            · exact h) (fun m h _ => by
                            have e : m = k := by
                              injection h with h
                              omega
                            rw [e, HVI.out.2.1]
                            have := HC0.out.1
                            omega))
                          have HQL : Hid (q.length ≤ n) := Lib.hid HBF.out.len_le
                          have HC2 : Hid ((q ++ [k])[i]? = some c) := Lib.hid (by rw [List.getElem?_append_left (List.getElem?_eq_some_iff.1 HC.out).1]; exact HC.out)
                          obtain ⟨hc0, hc1⟩ := HC0.out
                          have HBV := Lib.hid HVI.out.1
                          clear HC0 HSN HED HSI HVI
                          generalize gt out k = ov at *
                          generalize gt out c = oc at *
                          go_upto_region 29 with (first | (go_at_call 52; refine (HNXc.out _ HSP.out.below).mono ?_; rintro e w4 ⟨rfl, b4⟩; have H4 := Lib.hid (HSP.out.keep b4); obtain ⟨m0, m1, m2, m3, m4⟩ := HG4.out _ _ HSP.out _ b4; clear b4) | (go_at_call 72; refine (HBKc.out _ H4.out.below).mono ?_; rintro e w5 ⟨rfl, b5⟩; have H5 := Lib.hid (H4.out.keep b5); clear b5; have x0 := HMK.out _ H5.out.below; obtain ⟨y0, y1⟩ := Grow.cell (H5.out.grow 1 rfl) HOA.out; obtain ⟨z0, z1⟩ := Grow.cell (H5.out.grow 1 rfl) HCL.out; have H6 : Hid (Sp w (w5.setCell ⟨g10, k, none⟩ (.int .i64 (oc + 1))) [BlkT w.heap.size 24 (boxV fW fH fD A1 n c1 A2 n2 c2), RowT 1 (.slice (some ⟨g10, 0, none⟩) n n) n (ivs (out.set k (oc + 1))), RowT 1 u12 q.length (qvs q)]) := Lib.hid (by have := H5.out.store 1 rfl k hk (.int .i64 (oc + 1)); rw [ivs_set] at this; exact this)))
                          go_wp2_with ((at_builtin; obtain ⟨v7, w7, r7, h7⟩ := push_int H6.out 2 rfl k (by have := HQL.out; have := HN4.out; omega) 3; have H7 := Lib.hid h7; refine wpList_append_run rfl _ _ _ _ rfl (by simp [go_sem]) (by simp [go_sem]) r7 ?_; clear r7 h7))
                          go_roundw
                          case rel => exact ⟨j + 1, out.set k (oc + 1), q ++ [k], by simp, by omega, H7.out, HBV.out, HC2.out, HS2.out⟩
                          case measure => simp [intOf]; omega
                        · have HS2 := Lib.hid (HSN.out out (fun m h => h) (fun m h _ => by
                            have e : m = k := by
                              injection h with h
                              omega
                            rw [e]
                            omega))
                          clear HC0 HSN HED HSI
                          generalize gt out k = ov at *
                          go_wp2_with (first | (go_at_call 52; refine (HNXc.out _ HSP.out.below).mono ?_; rintro e w4 ⟨rfl, b4⟩; have H4 := Lib.hid (HSP.out.keep b4); obtain ⟨m0, m1, m2, m3, m4⟩ := HG4.out _ _ HSP.out _ b4; clear b4) | (go_at_call 72; refine (HBKc.out _ H4.out.below).mono ?_; rintro e w5 ⟨rfl, b5⟩; have H5 := Lib.hid (H4.out.keep b5); clear b5; have x0 := HMK.out _ H5.out.below; obtain ⟨y0, y1⟩ := Grow.cell (H5.out.grow 1 rfl) HOA.out))
                          go_roundw
                          case rel => exact ⟨j + 1, out, q, by simp, by omega, H5.out, HBF.out, HC.out, HS2.out⟩
                          case measure => simp [intOf]; omega
                · obtain rfl : j = 6 := by omega
                  have HBN := Lib.hid (HBF.out.next HC.out (fun m hm => by
                    obtain ⟨d, hd, h1, h2⟩ := (HEI.out c m).1 hm
                    exact HSE.out d m hd h1 h2))
                  have HIL : Hid (i + 1 ≤ q.length) := Lib.hid (List.getElem?_eq_some_iff.1 HC.out).1
                  have HQN := Lib.hid HBF.out.len_le
                  have hi4 : (i : Int) < 4096 := by have := HIL.out; have := HQN.out; have := HN4.out; omega
                  go_wp2_with fail
                  go_roundw
                  case rel => exact ⟨i + 1, out, q, by simp, HIL.out, HSP.out, HBN.out⟩
                  case measure => have := HIL.out; have := HQN.out; simp [intOf]; omega
            · have HROW : Hid (Row wr wr.heap.size (some ⟨g10, 0, none⟩) (ivs out)) := Lib.hid (by
                obtain ⟨g', cap', e, _, h2, _, _, _, _, h7⟩ := (hsp.grow 1 rfl).form.resolve_left (fun e => by cases e.1)
                injection e with e
                injection e with e
                injection e with e
                subst e
                exact fun k u hu => ⟨_, 0, rfl, h2, by rw [Nat.zero_add]; exact h7 k u hu⟩)
              have HD := Lib.hid (hbf.dist (by omega))
              have HBW := Lib.hid hsp.below
              have hqi : q.length = i := by omega
              obtain ⟨ga, gc, rfl⟩ : ∃ g c, u12 = Value.slice g i c := by
                rcases (hsp.grow 2 rfl).form with h | ⟨g, c, h, _⟩
                · exact ⟨none, 0, by rw [h.1, ← hqi, h.2]⟩
                · exact ⟨_, c, by rw [h, hqi]⟩
              clear hsp hbf
              go_wp2_with fail
              exact HPO.out _ _ out HROW.out HD.out HBW.out _
end Rgn
end Go.Proofs.YtgophgnfiboefaaGreatDoor

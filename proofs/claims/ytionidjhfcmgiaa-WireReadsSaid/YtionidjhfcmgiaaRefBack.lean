import Derived.Test.YtionidjhfcmgiaaBackN
import Derived.Test.YtionidjhfcmgiaaItems
namespace Go.Proofs.Ytionidjhfcmgiaa
open Go.RowKit
set_option linter.unusedVariables false
set_option linter.unusedSimpArgs false
namespace Wire

def In64 (z : Int) : Prop := -9223372036854775808 ≤ z ∧ z ≤ 9223372036854775807
theorem wrap64_fits (z : Int) : In64 (wrap64 z) := by
  unfold In64 wrap64
  omega
theorem bk_fits (l : List UInt8) : In64 (bk 0 l) := by
  rcases List.eq_nil_or_concat l with rfl | ⟨t, c, rfl⟩
  · exact ⟨by show _ ≤ (0 : Int); omega, by show (0 : Int) ≤ _; omega⟩
  · rw [List.concat_eq_append, bk_snoc]
    exact wrap64_fits _

/-- Canonical: what Back accepts. -/
def Canon (s : List UInt8) (z : Int) : Prop := In64 z ∧ encS z = s

theorem canon_plus {s : List UInt8} {z : Int} (h : Canon s z) (hs : ∀ t, s ≠ 45 :: t) : (∀ c ∈ s, isDig c = true) ∧ s.length ≤ 20 ∧ wrap64 (-(bk 0 s)) = z := by
  obtain ⟨⟨h1, h2⟩, rfl⟩ := h
  obtain ⟨hn, hp⟩ := encS_head h1 h2
  have h0 : 0 ≤ z := by
    by_cases hz : 0 ≤ z
    · exact hz
    · obtain ⟨t, ht, _⟩ := hn (by omega)
      exact absurd ht (hs t)
  obtain ⟨he, _⟩ := hp h0
  rw [he]
  refine ⟨dec_digits (by omega), ?_, ?_⟩
  · have := (encS_len h1 h2).2
    rwa [he] at this
  · rw [bk_dec (by omega), IntWalk.wrap64_in _ ⟨by omega, by omega⟩]
    omega

theorem canon_minus {t : List UInt8} {z : Int} (h : Canon (45 :: t) z) : (∀ c ∈ t, isDig c = true) ∧ t.length ≤ 19 ∧ bk 0 t = z := by
  obtain ⟨⟨h1, h2⟩, he⟩ := h
  obtain ⟨hn, hp⟩ := encS_head h1 h2
  have h0 : z < 0 := by
    by_cases hz : 0 ≤ z
    · obtain ⟨_, c, t', hc, hne⟩ := hp hz
      rw [he] at hc
      injection hc with e1 _
      exact absurd e1.symm hne
    · omega
  obtain ⟨t', ht, hd⟩ := hn h0
  rw [he] at ht
  injection ht with _ e2
  subst e2
  refine ⟨by rw [hd]; exact dec_digits (by omega), ?_, ?_⟩
  · have := (encS_len h1 h2).2
    rw [he] at this
    simpa using this
  · rw [hd, bk_dec (by omega)]
    omega

def BackPost (s : List UInt8) (w : World) (e : Ending) (w' : World) : Prop :=
  ∃ x ok, e = .returned (.tuple #[.int .i64 x, .bool ok]) ∧ In64 x ∧ (ok = true → Canon s x) ∧ (∀ z, Canon s z → ok = true ∧ x = z) ∧ Below w.heap.size w w'

theorem BackPost.no {s : List UInt8} {w w' : World} (hb : Below w.heap.size w w') (h : ∀ z, ¬ Canon s z) : BackPost s w (.returned (.tuple #[.int .i64 0, .bool false])) w' :=
  ⟨0, false, rfl, ⟨by omega, by omega⟩, (fun h' => by cases h'), (fun z hz => absurd hz (h z)), hb⟩

theorem encS_inj_eq {x : Int} {s : List UInt8} (h : encInt x = s ++ [59]) : encS x = s := by
  rw [encS_int] at h
  exact List.append_cancel_right h

theorem BackPost.yes {s : List UInt8} {w w' : World} {x : Int} {b : Bool} (hx : In64 x) (hb : Below w.heap.size w w') (ht : b = (encInt x == s ++ [59])) (h : ∀ z, Canon s z → x = z) : BackPost s w (.returned (.tuple #[.int .i64 x, .bool b])) w' := by
  subst ht
  refine ⟨x, _, rfl, hx, fun h' => ⟨hx, encS_inj_eq (by simpa using h')⟩, fun z hz => ?_, hb⟩
  obtain rfl := h z hz
  refine ⟨?_, rfl⟩
  rw [encS_int, hz.2]
  simp

/-- What the digits from place F up to place i make. -/
def upto (F : Nat) (l : List UInt8) (i : Nat) : Int := bk 0 ((l.drop F).take (i - F))

theorem at_mem {S : ByteArray} {l : List UInt8} (hS : S = ⟨l.toArray⟩) {F i : Nat} (hF : F ≤ i) (h : i < S.size) : S[i] ∈ l.drop F := by
  subst hS
  have h' : i < l.length := h
  rw [List.mem_iff_getElem]
  refine ⟨i - F, by rw [List.length_drop]; omega, ?_⟩
  rw [List.getElem_drop]
  show l[F + (i - F)] = l[i]
  congr 1
  omega

theorem at_snoc {S : ByteArray} {l : List UInt8} (hS : S = ⟨l.toArray⟩) {F i : Nat} (hF : F ≤ i) (h : i < S.size) : (l.drop F).take (i + 1 - F) = (l.drop F).take (i - F) ++ [S[i]] := by
  subst hS
  have h' : i < l.length := h
  rw [show i + 1 - F = (i - F) + 1 from by omega, List.take_succ_eq_append_getElem (by rw [List.length_drop]; omega), List.getElem_drop]
  congr 2
  show l[F + (i - F)] = l[i]
  congr 1
  omega

structure BkRel (F : Nat) (s : List UInt8) (W : World) (nv iv : Value) (w : World) (i : Nat) : Prop where
  nv : nv = .int .i64 (upto F s i)
  iv : iv = .int .i64 i
  lo : F ≤ i
  le : i ≤ s.length
  same : W = w

set_option maxRecDepth 100000 in
set_option maxHeartbeats 2000000 in
theorem back_minus (S : ByteArray) (l t : List UInt8) (hS : S = ⟨l.toArray⟩) (hl : S.size ≤ 400) (c0 : UInt8) (hlt : l = c0 :: t) (hc0 : c0 = 45) (w : World) :
    Calls Try.prog 62 #[.string S] w (BackPost l w) := by
  have hsz : 0 < S.size := by subst hS hlt; show 0 < t.length + 1; omega
  have hb : ((S[0].toNat : Int) == 45) = true := by
    subst hS hlt
    subst hc0
    rfl
  have HS := Lib.hid hS
  have HL := Lib.hid hlt
  have HN : Hid (S.size = l.length) := by subst hS; rfl
  have HC : Hid (∀ z, Canon l z → (∀ c ∈ l.drop 1, isDig c = true) ∧ S.size ≤ 20 ∧ bk 0 (l.drop 1) = z) := by
    intro z hz
    have hn : S.size = l.length := HN.out
    subst hlt hc0
    have h := canon_minus hz
    have hn2 : S.size = t.length + 1 := hn
    exact ⟨h.1, by omega, h.2.2⟩
  clear hS hlt hc0
  go_enter Try.func62, Try.ntmps62
  go_wp2_with fail
  go_loopw [5, 6] (fun nv iv wr => ∃ i, BkRel 1 l w nv iv wr i) (fun _ iv _ => S.size - (intOf iv).toNat)
  case atStart => exact ⟨1, by simp [upto, bk], rfl, Nat.le_refl _, by have := HN.out; omega, rfl⟩
  case round =>
    obtain ⟨i, ⟨rfl, rfl, hlo, hle, rfl⟩⟩ := hrel
    have HLe := Lib.hid hle
    have hfit : In64 (upto 1 l i) := bk_fits _
    have HFit := Lib.hid hfit
    clear hle hfit
    by_cases hi : i < S.size
    · have HA := Lib.hid (at_mem HS.out hlo hi)
      have HB : Hid (upto 1 l (i + 1) = wrap64 (wrap64 (10 * upto 1 l i) - ((S[i].toNat : Int) - 48))) := by
        show bk 0 _ = _
        rw [at_snoc HS.out hlo hi, bk_snoc]
        rfl
      obtain ⟨c, hc⟩ : ∃ c, S[i] = c := ⟨_, rfl⟩
      have HCi := Lib.hid hc
      by_cases h48 : (48 : Int) ≤ (c.toNat : Int)
      · by_cases h57 : (c.toNat : Int) ≤ 57
        · by_cases h20 : i ≤ 20
          · go_wp2_with fail
            go_roundw
            case rel => exact ⟨i + 1, by rw [HB.out, HCi.out], by simp, by omega, by have := HN.out; omega, rfl⟩
            case measure => simp [intOf]; omega
          · go_wp2_with fail
            go_ret2
            exact BackPost.no (Below.refl _ _) fun z hz => by have := (HC.out z hz).2.1; omega
        · go_wp2_with fail
          go_ret2
          exact BackPost.no (Below.refl _ _) fun z hz => by
            have := (HC.out z hz).1 _ HA.out
            rw [HCi.out] at this
            simp only [isDig, Bool.and_eq_true, decide_eq_true_eq] at this
            omega
      · go_wp2_with fail
        go_ret2
        exact BackPost.no (Below.refl _ _) fun z hz => by
          have := (HC.out z hz).1 _ HA.out
          rw [HCi.out] at this
          simp only [isDig, Bool.and_eq_true, decide_eq_true_eq] at this
          omega
    · obtain rfl : i = S.size := by have := HN.out; have := HLe.out; omega
      have HX : Hid (upto 1 l S.size = bk 0 (l.drop 1)) := congrArg (bk 0) (List.take_of_length_le (by rw [List.length_drop]; have := HN.out; omega))
      rw [HX.out] at HFit ⊢
      generalize hk : bk 0 (l.drop 1) = k at *
      have HK := Lib.hid hk
      clear hk HX
      go_wp2_with (go_at_call 14; refine (refInt_any _ HFit.out.1 HFit.out.2 _).mono ?_; rintro e w3 ⟨rfl, b3⟩)
      go_ret2
      exact BackPost.yes HFit.out b3 (by rw [HS.out, show (⟨l.toArray⟩ : ByteArray) ++ ⟨#[59]⟩ = ⟨(l ++ [59]).toArray⟩ from cat_bytes _ [59]]; simp) fun z hz => (HC.out z hz).2.2

set_option maxRecDepth 100000 in
set_option maxHeartbeats 2000000 in
theorem back_plus (S : ByteArray) (l t : List UInt8) (hS : S = ⟨l.toArray⟩) (hl : S.size ≤ 400) (c0 : UInt8) (hlt : l = c0 :: t) (hc0 : c0 ≠ 45) (w : World) :
    Calls Try.prog 62 #[.string S] w (BackPost l w) := by
  have hsz : 0 < S.size := by subst hS hlt; show 0 < t.length + 1; omega
  have hb : ((S[0].toNat : Int) == 45) = false := by
    subst hS hlt
    rw [beq_eq_false_iff_ne]
    exact fun e => hc0 (UInt8.toNat_inj.1 (Int.ofNat_inj.1 e))
  have HS := Lib.hid hS
  have HL := Lib.hid hlt
  have HN : Hid (S.size = l.length) := by subst hS; rfl
  have HC : Hid (∀ z, Canon l z → (∀ c ∈ l.drop 0, isDig c = true) ∧ S.size ≤ 20 ∧ wrap64 (-(bk 0 (l.drop 0))) = z) := by
    intro z hz
    have h := canon_plus hz (fun t' e => by rw [hlt] at e; injection e with e1 _; exact hc0 e1)
    have hn : S.size = l.length := HN.out
    rw [List.drop_zero, hn]
    exact h
  clear hS hlt hc0
  go_enter Try.func62, Try.ntmps62
  go_wp2_with fail
  go_loopw [5, 6] (fun nv iv wr => ∃ i, BkRel 0 l w nv iv wr i) (fun _ iv _ => S.size - (intOf iv).toNat)
  case atStart => exact ⟨0, by simp [upto, bk], rfl, Nat.le_refl _, by have := HN.out; omega, rfl⟩
  case round =>
    obtain ⟨i, ⟨rfl, rfl, hlo, hle, rfl⟩⟩ := hrel
    have HLe := Lib.hid hle
    have hfit : In64 (upto 0 l i) := bk_fits _
    have HFit := Lib.hid hfit
    clear hle hfit
    by_cases hi : i < S.size
    · have HA := Lib.hid (at_mem HS.out hlo hi)
      have HB : Hid (upto 0 l (i + 1) = wrap64 (wrap64 (10 * upto 0 l i) - ((S[i].toNat : Int) - 48))) := by
        show bk 0 _ = _
        rw [at_snoc HS.out hlo hi, bk_snoc]
        rfl
      obtain ⟨c, hc⟩ : ∃ c, S[i] = c := ⟨_, rfl⟩
      have HCi := Lib.hid hc
      by_cases h48 : (48 : Int) ≤ (c.toNat : Int)
      · by_cases h57 : (c.toNat : Int) ≤ 57
        · by_cases h20 : i ≤ 20
          · go_wp2_with fail
            go_roundw
            case rel => exact ⟨i + 1, by rw [HB.out, HCi.out], by simp, by omega, by have := HN.out; omega, rfl⟩
            case measure => simp [intOf]; omega
          · go_wp2_with fail
            go_ret2
            exact BackPost.no (Below.refl _ _) fun z hz => by have := (HC.out z hz).2.1; omega
        · go_wp2_with fail
          go_ret2
          exact BackPost.no (Below.refl _ _) fun z hz => by
            have := (HC.out z hz).1 _ HA.out
            rw [HCi.out] at this
            simp only [isDig, Bool.and_eq_true, decide_eq_true_eq] at this
            omega
      · go_wp2_with fail
        go_ret2
        exact BackPost.no (Below.refl _ _) fun z hz => by
          have := (HC.out z hz).1 _ HA.out
          rw [HCi.out] at this
          simp only [isDig, Bool.and_eq_true, decide_eq_true_eq] at this
          omega
    · obtain rfl : i = S.size := by have := HN.out; have := HLe.out; omega
      have HX : Hid (upto 0 l S.size = bk 0 (l.drop 0)) := congrArg (bk 0) (List.take_of_length_le (by rw [List.length_drop]; have := HN.out; omega))
      rw [HX.out] at HFit ⊢
      generalize hk : bk 0 (l.drop 0) = k at *
      have HK := Lib.hid hk
      clear hk HX
      go_wp2_with (go_at_call 14; refine (refInt_any _ (wrap64_fits (-k)).1 (wrap64_fits (-k)).2 _).mono ?_; rintro e w3 ⟨rfl, b3⟩)
      go_ret2
      exact BackPost.yes (wrap64_fits (-k)) b3 (by rw [HS.out, show (⟨l.toArray⟩ : ByteArray) ++ ⟨#[59]⟩ = ⟨(l ++ [59]).toArray⟩ from cat_bytes _ [59]]; simp) fun z hz => (HC.out z hz).2.2
end Wire
end Go.Proofs.Ytionidjhfcmgiaa

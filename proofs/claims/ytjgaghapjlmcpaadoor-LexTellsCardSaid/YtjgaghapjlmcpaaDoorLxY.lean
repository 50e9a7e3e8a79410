/- The reference's quoted. -/
import Derived.Test.YtjgaghapjlmcpaaDoorLxX
import Derived.Test.YtjgaghapjlmcpaaDoorRquo
import Derived.Deep.DeepCutAuto
namespace Go.Proofs.YtjgaghapjlmcpaaDoor
open Go.RowKit Wire Txt
set_option linter.unusedVariables false
set_option linter.unusedSimpArgs false
namespace Lx

/-- What the reference's reading of one token answers, with the place behind it. -/
def QEnd (n : Nat) (w : World) (T : Tr) (e : Ending) (w' : World) : Prop := Below w.heap.size w w' ∧
  match T with
  | .bad er => ∃ z, e = .returned (.tuple #[zeroTk, .int .i64 z, .int .i64 er])
  | .got kind text m rest => e = .returned (.tuple #[Tk.val ⟨kind, text, m, 0⟩, .int .i64 ((n - rest.length : Nat) : Int), .int .i64 0])
theorem qend_got {n z : Nat} {w w' : World} {T : Tr} {k : Nat} {x rest : List UInt8} {m : Int} (hT : T = .got k x m rest) (hz : z = n - rest.length) (b : Below w.heap.size w w') : QEnd n w T (.returned (.tuple #[Tk.val ⟨k, x, m, 0⟩, .int .i64 z, .int .i64 0])) w' := by
  subst hT hz
  exact ⟨b, rfl⟩
theorem qend_bad {n : Nat} {z : Int} {w w' : World} {T : Tr} {er : Nat} (hT : T = .bad er) (b : Below w.heap.size w w') : QEnd n w T (.returned (.tuple #[zeroTk, .int .i64 z, .int .i64 er])) w' := by
  subst hT
  exact ⟨b, z, rfl⟩

/-- Where a text ends that is read from i on. -/
def sce (i : Nat) (o : Option Nat) : Option Nat := o.map (i + ·)
theorem sce_next (c : UInt8) (r : List UInt8) (odd : Bool) (h : ¬ (c = 34 ∧ odd = false)) (i : Nat) : sce i (clo odd (c :: r)) = sce (i + 1) (clo (c == 92 && !odd) r) := by
  conv => lhs; unfold clo
  rw [if_neg h]
  cases clo (c == 92 && !odd) r with
  | none => rfl
  | some k =>
    show some (i + (k + 1)) = some (i + 1 + k)
    congr 1
    omega
theorem par_next (n : Nat) : (!decide (n % 2 = 1)) = decide ((n + 1) % 2 = 1) := by
  rw [← decide_not]
  congr 1
  apply propext
  omega
theorem mod_two (n : Nat) : ((n : Int) % 2) = ((n % 2 : Nat) : Int) := by omega

structure QuoRel9 (s : ByteArray) (a : Nat) (z : Option Nat) (bv iv : Value) (i n : Nat) : Prop where
  bv : bv = .int .i64 n
  iv : iv = .int .i64 i
  lo : a + 1 ≤ i
  hi : i ≤ s.size
  cnt : n ≤ i
  told : Hid (sce i (clo (decide (n % 2 = 1)) ((bl s).drop i)) = z)

theorem text_at {s : ByteArray} {a : Nat} {T : Tr} (h : T = textT ((bl s).drop (a + 1))) (h34 : (bl s).drop a = 34 :: (bl s).drop (a + 1)) :
    (sce (a + 1) (clo false ((bl s).drop (a + 1))) = none → T = .bad 11) ∧ ∀ n, sce (a + 1) (clo false ((bl s).drop (a + 1))) = some n → a + 1 ≤ n ∧ n ≤ s.size ∧ T = if unqB (bl (s.extract a n)) = true then .got 2 (unqV (bl (s.extract a n))) 0 ((bl s).drop n) else .bad 11 := by
  subst h
  unfold textT sce
  cases hk : clo false ((bl s).drop (a + 1)) with
  | none => exact ⟨fun _ => rfl, fun n h => by cases h⟩
  | some k =>
    refine ⟨fun h => (by cases h), fun n h => ?_⟩
    have hl := clo_le _ _ _ hk
    rw [List.length_drop, bl_len] at hl
    obtain rfl : a + 1 + k = n := by simpa using h
    have e : bl (s.extract a (a + 1 + k)) = 34 :: ((bl s).drop (a + 1)).take k := by
      obtain ⟨⟨l⟩⟩ := s
      rw [show (⟨⟨l⟩⟩ : ByteArray) = ⟨l.toArray⟩ from rfl, bytes_extract, bl_mk, List.drop_take, show a + 1 + k - a = k + 1 from by omega]
      have : l.drop a = 34 :: l.drop (a + 1) := h34
      rw [this]
      rfl
    rw [e]
    refine ⟨by omega, by omega, ?_⟩
    simp only [List.drop_drop]

set_option maxHeartbeats 2000000 in
theorem rquoted_any (s : ByteArray) (a : Nat) (w : World) (hs : s.size ≤ 1000000) (ha : a < s.size) (h34 : s[a] = 34) :
    Calls Tryd.prog 39 #[.string s, .int .i64 a] w (QEnd s.size w (textT ((bl s).drop (a + 1)))) := by
  generalize hT : textT ((bl s).drop (a + 1)) = T
  obtain ⟨hno, hyes⟩ := text_at hT.symm (by rw [drop_at ha, h34])
  have HNO := Lib.hid hno
  have HYES := Lib.hid hyes
  generalize hz : sce (a + 1) (clo false ((bl s).drop (a + 1))) = z at HNO HYES
  have HZ := Lib.hid hz
  clear hT hno hyes hz h34
  go_enter Tryd.func39, Tryd.ntmps39
  go_wp2_with fail
  have hr := Blk.fresh w 31 #[.int .i64 0, .string ⟨#[]⟩, .int .i64 0, .int .i64 0]
  have hbel : Below w.heap.size w (w.alloc (.cells #[.int .i64 0, .string ⟨#[]⟩, .int .i64 0, .int .i64 0] 31)) := (Below.refl _ _).alloc (Nat.le_refl _) _
  generalize w.alloc (.cells #[.int .i64 0, .string ⟨#[]⟩, .int .i64 0, .int .i64 0] 31) = W1 at hr hbel ⊢
  have HB := Lib.hid hbel
  have HR := Lib.hid hr
  clear hr hbel
  go_loopw [5, 6, 7, 8, 9, 10] (fun _ _ bv iv _ _ wr => (∃ i n, QuoRel9 s a z bv iv i n) ∧ W1 = wr) (fun _ _ _ iv _ _ _ => s.size - (intOf iv).toNat)
  case atStart => exact ⟨⟨a + 1, 0, rfl, rfl, Nat.le_refl _, ha, Nat.zero_le _, HZ⟩, rfl⟩
  case round =>
    obtain ⟨⟨i, n, ⟨rfl, rfl, hlo, hi, hcnt, htold⟩⟩, rfl⟩ := hrel
    have hm := mod_two n
    by_cases hlt : i < s.size
    · have hN := htold.out
      rw [drop_at hlt] at hN
      clear htold
      by_cases c34 : s[i] = 34
      · have t34 : ((s[i].toNat : Int) == 34) = true := byte_eq (k := 34) (by omega) c34
        have t92 : ((s[i].toNat : Int) == 92) = false := byte_ne (k := 92) (by omega) (by rw [c34]; decide)
        by_cases hp : n % 2 = 1
        · have hm1 : ((n : Int) % 2 == 0) = false := by rw [hm, hp]; rfl
          rw [decide_eq_true hp, sce_next _ _ _ (by simp), show (s[i] == 92 && !true) = false by simp] at hN
          have HN := Lib.hid hN
          clear hN c34 hp hm
          go_wp2_with fail
          go_roundw
          case rel => exact ⟨⟨i + 1, 0, rfl, by simp, by omega, hlt, by omega, HN⟩, trivial⟩
          case measure => simp [intOf]; omega
        · have hm1 : ((n : Int) % 2 == 0) = true := by rw [hm, show n % 2 = 0 by omega]; rfl
          rw [decide_eq_false hp, clo_close _ _ _ c34 rfl] at hN
          obtain ⟨h1, h2, hT⟩ := HYES.out (i + 1) hN.symm
          have hx : (s.extract a (i + 1)).size ≤ s.size := by rw [ByteArray.size_extract]; omega
          have HU := Lib.hid (fun w => runquote_any (s.extract a (i + 1)) (by omega) w)
          generalize unqB (bl (s.extract a (i + 1))) = ub at HU hT
          generalize unqV (bl (s.extract a (i + 1))) = uv at HU hT
          have HT := Lib.hid hT
          have he : i + 1 = s.size - ((bl s).drop (i + 1)).length := by rw [List.length_drop, bl_len]; omega
          have HE := Lib.hid he
          clear hN c34 hp hm hT he
          have hcut : (0 : Int) ≤ (a : Int) ∧ (a : Int) ≤ (i : Int) + 1 ∧ (i : Int) + 1 ≤ (s.size : Int) := by omega
          cases ub with
          | false =>
            have HTB : Hid (T = .bad 11) := Lib.hid (by rw [HT.out]; rfl)
            clear HT
            go_wp2_with (first
              | (go_at_call 50; refine (HU.out _).mono ?_; rintro e w5 ⟨rfl, b5⟩
                 have r5 := HR.out.under b5 HR.out.inside
                 have B5 := Lib.hid (HB.out.trans (b5.mono HB.out.size))
                 have t0 := r5.at 0
                 have t1 := r5.at 1
                 have t2 := r5.at 2
                 have t3 := r5.at 3
                 have f0 := r5.thaw 0
                 have f1 := r5.thaw 1
                 have f2 := r5.thaw 2
                 have f3 := r5.thaw 3
                 clear b5 r5))
            exact bodyPost_ret (v := .tuple #[zeroTk, .int .i64 0, .int .i64 11]) (by simp [results, Tryd.results39, go_sem, t0, t1, t2, t3]) rfl (qend_bad HTB.out (b_poke4 B5.out (Nat.le_refl _) _ _ _ _))
          | true =>
            have HTB : Hid (T = .got 2 uv 0 ((bl s).drop (i + 1))) := Lib.hid (by rw [HT.out]; rfl)
            clear HT
            go_wp2_with (first
              | (go_at_call 50; refine (HU.out _).mono ?_; rintro e w5 ⟨rfl, b5⟩
                 have r5 := HR.out.under b5 HR.out.inside
                 have B5 := Lib.hid (HB.out.trans (b5.mono HB.out.size))
                 have t0 := r5.at 0
                 have t1 := r5.at 1
                 have t2 := r5.at 2
                 have t3 := r5.at 3
                 have f0 := r5.thaw 0
                 have f1 := r5.thaw 1
                 have f2 := r5.thaw 2
                 have f3 := r5.thaw 3
                 clear b5 r5))
            exact bodyPost_ret (v := .tuple #[Tk.val ⟨2, uv, 0, 0⟩, .int .i64 ((i + 1 : Nat) : Int), .int .i64 0]) (by simp [results, Tryd.results39, go_sem, t0, t1, t2, t3]) rfl (qend_got HTB.out HE.out (b_poke4 B5.out (Nat.le_refl _) _ _ _ _))
      · have t34 : ((s[i].toNat : Int) == 34) = false := byte_ne (k := 34) (by omega) c34
        rw [sce_next _ _ _ (fun e => c34 e.1)] at hN
        clear c34
        by_cases h92 : s[i] = 92
        · have t92 : ((s[i].toNat : Int) == 92) = true := byte_eq (k := 92) (by omega) h92
          rw [h92, show ((92 : UInt8) == 92 && !decide (n % 2 = 1)) = !decide (n % 2 = 1) from Bool.true_and _, par_next] at hN
          have HN := Lib.hid hN
          clear hN h92 hm
          go_wp2_with fail
          go_roundw
          case rel => exact ⟨⟨i + 1, n + 1, by simp, by simp, by omega, hlt, by omega, HN⟩, trivial⟩
          case measure => simp [intOf]; omega
        · have t92 : ((s[i].toNat : Int) == 92) = false := byte_ne (k := 92) (by omega) h92
          rw [show (s[i] == 92 && !decide (n % 2 = 1)) = false by simp [h92]] at hN
          have HN := Lib.hid hN
          clear hN h92 hm
          go_wp2_with fail
          go_roundw
          case rel => exact ⟨⟨i + 1, 0, rfl, by simp, by omega, hlt, by omega, HN⟩, trivial⟩
          case measure => simp [intOf]; omega
    · obtain rfl : i = s.size := by omega
      have HTB : Hid (T = .bad 11) := Lib.hid (HNO.out (by have := htold.out; rw [drop_end (Nat.le_refl _)] at this; exact this.symm))
      have r0 := HR.out
      have t0 := r0.at 0
      have t1 := r0.at 1
      have t2 := r0.at 2
      have t3 := r0.at 3
      have f0 := r0.thaw 0
      have f1 := r0.thaw 1
      have f2 := r0.thaw 2
      have f3 := r0.thaw 3
      clear r0 htold
      go_wp2_with fail
      exact bodyPost_ret (v := .tuple #[zeroTk, .int .i64 0, .int .i64 11]) (by simp [results, Tryd.results39, go_sem, t0, t1, t2, t3]) rfl (qend_bad HTB.out (b_poke4 HB.out (Nat.le_refl _) _ _ _ _))
end Lx
end Go.Proofs.YtjgaghapjlmcpaaDoor

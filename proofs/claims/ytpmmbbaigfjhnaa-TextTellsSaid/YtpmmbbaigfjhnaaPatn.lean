import Derived.Test.YtpmmbbaigfjhnaaMatc
import Derived.Deep.RegionHeld3
import Derived.Deep.LoopGhost
import Derived.WalkMore
import Derived.ScopeJumps
namespace Go.Proofs.Ytpmmbbaigfjhnaa
open Go.RowKit Wire
set_option linter.unusedVariables false
set_option linter.unusedSimpArgs false
namespace Txt

/-! The search of the program. -/

theorem part_at (p : ByteArray) (i : Nat) (h : i < p.size) : parse ((bl p).drop i) = partOf p i h :: parse ((bl p).drop (i + (partOf p i h).src.length)) := by
  rw [drop_at h, parse_cons, ← drop_at h, List.drop_drop]
  rfl

/-- The pattern from first on matches s from a byte of from on; if star is not set, from this very byte on. -/
def Goal (p s : ByteArray) (first frm : Nat) (star : Bool) : Prop :=
  ∃ k, frm ≤ k ∧ k ≤ s.size ∧ (star = false → k = frm) ∧ mt (parse ((bl p).drop first)) ((bl s).drop k) = true

/-- The parts between first and next take a byte each: those from a byte k on leave k + (i - from). -/
def Took (p s : ByteArray) (first frm next i : Nat) : Prop :=
  (∀ k, k ≤ s.size → mt (parse ((bl p).drop first)) ((bl s).drop k) = true → k + (i - frm) ≤ s.size ∧ mt (parse ((bl p).drop next)) ((bl s).drop (k + (i - frm))) = true) ∧
  (mt (parse ((bl p).drop next)) ((bl s).drop i) = true → mt (parse ((bl p).drop first)) ((bl s).drop frm) = true)

theorem Took.start (p s : ByteArray) (first frm : Nat) : Took p s first frm first frm :=
  ⟨fun k hk h => ⟨by omega, by rw [Nat.sub_self, Nat.add_zero]; exact h⟩, fun h => h⟩

theorem Took.step {p s : ByteArray} {first frm next i : Nat} (ht : Took p s first frm next i) (hf : frm ≤ i) (hi : i < s.size) (hn : next < p.size) (hk : (partOf p next hn).kind ≠ 2) (hm : fit (partOf p next hn) s[i] = true) :
    Took p s first frm (next + (partOf p next hn).src.length) (i + 1) := by
  refine ⟨fun k hks h => ?_, fun h => ht.2 ?_⟩
  · obtain ⟨h1, h2⟩ := ht.1 k hks h
    rw [part_at p next hn] at h2
    by_cases hlt : k + (i - frm) < s.size
    · rw [drop_at hlt, mt_one hk, Bool.and_eq_true] at h2
      rw [show k + (i + 1 - frm) = k + (i - frm) + 1 from by omega]
      exact ⟨by omega, h2.2⟩
    · rw [drop_end (s := s) (by omega), mt_end hk] at h2
      cases h2
  · rw [part_at p next hn, drop_at hi, mt_one hk, hm, h]
    rfl

/-- A star: it takes the place of the last one. -/
theorem Goal.star {p s : ByteArray} {first frm next i : Nat} {star : Bool} (ht : Took p s first frm next i) (hf : frm ≤ i) (hi : i ≤ s.size) (hn : next < p.size) (hk : (partOf p next hn).kind = 2) :
    Goal p s first frm star ↔ Goal p s (next + (partOf p next hn).src.length) i true := by
  have hp := part_at p next hn
  constructor
  · rintro ⟨k, h1, h2, _, h4⟩
    obtain ⟨h5, h6⟩ := ht.1 k h2 h4
    rw [hp] at h6
    obtain ⟨j, hj, h7⟩ := (mt_star hk _ _).1 h6
    rw [List.length_drop, bl_len] at hj
    rw [List.drop_drop] at h7
    exact ⟨k + (i - frm) + j, by omega, by omega, (fun h => by cases h), h7⟩
  · rintro ⟨k, h1, h2, _, h4⟩
    refine ⟨frm, Nat.le_refl _, by omega, fun _ => rfl, ht.2 ?_⟩
    rw [hp]
    refine (mt_star hk _ _).2 ⟨k - i, by rw [List.length_drop, bl_len]; omega, ?_⟩
    rw [List.drop_drop, show i + (k - i) = k from by omega]
    exact h4

/-- A part that fails at the byte i: not from frm on. -/
theorem Took.fails {p s : ByteArray} {first frm next i : Nat} (ht : Took p s first frm next i) (hf : frm ≤ i) (hi : i < s.size) (hn : next < p.size) (hk : (partOf p next hn).kind ≠ 2) (hm : fit (partOf p next hn) s[i] = false) :
    mt (parse ((bl p).drop first)) ((bl s).drop frm) = false := by
  cases h : mt (parse ((bl p).drop first)) ((bl s).drop frm) with
  | false => rfl
  | true =>
    obtain ⟨h1, h2⟩ := ht.1 frm (by omega) h
    rw [show frm + (i - frm) = i from by omega, part_at p next hn, drop_at hi, mt_one hk, hm] at h2
    cases h2

theorem Goal.next {p s : ByteArray} {first frm : Nat} (hf : frm < s.size) (h : mt (parse ((bl p).drop first)) ((bl s).drop frm) = false) : Goal p s first frm true ↔ Goal p s first (frm + 1) true := by
  constructor
  · rintro ⟨k, h1, h2, _, h4⟩
    refine ⟨k, ?_, h2, (fun h => by cases h), h4⟩
    rcases Nat.lt_or_ge frm k with h5 | h5
    · omega
    · have : k = frm := by omega
      subst this
      rw [h] at h4
      cases h4
  · rintro ⟨k, h1, h2, _, h4⟩
    exact ⟨k, by omega, h2, (fun h => by cases h), h4⟩

theorem Goal.none {p s : ByteArray} {first frm : Nat} (h : mt (parse ((bl p).drop first)) ((bl s).drop frm) = false) : ¬ Goal p s first frm false := by
  rintro ⟨k, _, _, h3, h4⟩
  rw [h3 rfl, h] at h4
  cases h4

/-- There is no byte left for a part. -/
theorem Goal.short {p s : ByteArray} {first frm next : Nat} {star : Bool} (ht : Took p s first frm next s.size) (hf : frm ≤ s.size) (hn : next < p.size) (hk : (partOf p next hn).kind ≠ 2) : ¬ Goal p s first frm star := by
  rintro ⟨k, h1, h2, _, h4⟩
  obtain ⟨h5, h6⟩ := ht.1 k h2 h4
  rw [part_at p next hn, drop_end (s := s) (by omega), mt_end hk] at h6
  cases h6

theorem Goal.done {p s : ByteArray} {first frm next : Nat} {star : Bool} (ht : Took p s first frm next s.size) (hf : frm ≤ s.size) (hn : p.size ≤ next) : Goal p s first frm star := by
  refine ⟨frm, Nat.le_refl _, hf, fun _ => rfl, ht.2 ?_⟩
  rw [drop_end hn, drop_end (Nat.le_refl _)]
  rfl
theorem Took.ends {p s : ByteArray} {first frm next i : Nat} (ht : Took p s first frm next i) (hf : frm ≤ i) (hi : i < s.size) (hn : p.size ≤ next) : mt (parse ((bl p).drop first)) ((bl s).drop frm) = false := by
  cases h : mt (parse ((bl p).drop first)) ((bl s).drop frm) with
  | false => rfl
  | true =>
    obtain ⟨h1, h2⟩ := ht.1 frm (by omega) h
    rw [show frm + (i - frm) = i from by omega, drop_end hn, drop_at hi] at h2
    cases h2

theorem Goal.whole (p s : ByteArray) : mt (parse (bl p)) (bl s) = true ↔ Goal p s 0 0 false := by
  constructor
  · intro h
    exact ⟨0, Nat.le_refl _, Nat.zero_le _, fun _ => rfl, h⟩
  · rintro ⟨k, _, _, h3, h4⟩
    rw [h3 rfl] at h4
    exact h4

structure PatRel (p s : ByteArray) (W : World) (fv rv sv : Value) (w : World) (first frm : Nat) (star : Bool) : Prop where
  fv : fv = .int .i64 first
  rv : rv = .int .i64 frm
  sv : sv = .bool star
  f : first ≤ p.size
  r : frm ≤ s.size
  told : mt (parse (bl p)) (bl s) = true ↔ Goal p s first frm star
  below : Below W.heap.size W w

structure InPat (p s : ByteArray) (W : World) (first frm : Nat) (iv nv : Value) (w : World) (i next : Nat) : Prop where
  iv : iv = .int .i64 i
  nv : nv = .int .i64 next
  il : i ≤ s.size
  fi : frm ≤ i
  nl : next ≤ p.size
  fn : first ≤ next
  took : Took p s first frm next i
  below : Below W.heap.size W w

/-- How far the search still is. -/
def msN (P S f r : Nat) : Nat := (P - f) * (S + 1) + (S - r)
theorem msN_star {P S f r f' r' : Nat} (h1 : f < f') (h2 : f' ≤ P) (h3 : r ≤ S) : msN P S f' r' < msN P S f r := by
  unfold msN
  have e : P - f = (P - f') + (f' - f) := by omega
  have h : (P - f') * (S + 1) + (S + 1) ≤ (P - f) * (S + 1) := by
    rw [e, Nat.add_mul]
    have : 1 * (S + 1) ≤ (f' - f) * (S + 1) := Nat.mul_le_mul_right _ (by omega)
    omega
  omega
theorem msN_next {P S f r : Nat} (h : r < S) : msN P S f (r + 1) < msN P S f r := by
  unfold msN
  omega

/-- The part at hand, in its box. -/
abbrev InBox (W w' : World) (g : Nat) (k : Nat) (a b : ByteArray) : Prop :=
  Below W.heap.size W w' ∧ g < w'.heap.size ∧ w'.cell? ⟨g, 0, none⟩ = some (.int .i64 k) ∧ w'.cell? ⟨g, 1, none⟩ = some (.string a) ∧ w'.cell? ⟨g, 2, none⟩ = some (.string b)
theorem InBox.drew {W w' : World} {g k : Nat} {a b : ByteArray} (h : InBox W w' g k a b) : InBox W w'.drew g k a b := ⟨h.1.drew, h.2⟩
theorem InBox.keep {W w' w'' : World} {g k : Nat} {a b : ByteArray} (h : InBox W w' g k a b) (hb : Below w'.heap.size w' w'') : InBox W w'' g k a b := by
  obtain ⟨h0, hlt, h1, h2, h3⟩ := h
  have e : ∀ j, w''.cell? ⟨g, j, none⟩ = w'.cell? ⟨g, j, none⟩ := fun j => hb.cell (p := ⟨g, j, none⟩) hlt
  exact ⟨next_below h0 hb, Nat.lt_of_lt_of_le hlt hb.size, (e 0).trans h1, (e 1).trans h2, (e 2).trans h3⟩

theorem box_below {W w w' : World} (h : Below W.heap.size W w) (k : Below w.heap.size w w') (o : Obj) : Below W.heap.size W (w'.alloc o) := (next_below h k).alloc (next_below h k).size _
theorem pat_yes {p s : ByteArray} {G : Prop} (h : mt (parse (bl p)) (bl s) = true ↔ G) (g : G) : true = mt (parse (bl p)) (bl s) := (h.2 g).symm
theorem pat_no {p s : ByteArray} {G : Prop} (h : mt (parse (bl p)) (bl s) = true ↔ G) (g : ¬ G) : false = mt (parse (bl p)) (bl s) := by
  cases hm : mt (parse (bl p)) (bl s) with
  | false => rfl
  | true => exact absurd (h.1 hm) g

set_option maxRecDepth 100000 in
set_option maxHeartbeats 2000000 in
theorem pattern_any (p s : ByteArray) (hp : p.size ≤ 1000000000) (hs : s.size ≤ 1000000000) (w : World) :
    Calls Try.prog 24 #[.string p, .string s] w fun e w' => e = .returned (.bool (mt (parse (bl p)) (bl s))) ∧ Below w.heap.size w w' := by
  go_enter Try.func24, Try.ntmps24
  go_wp2_with fail
  go_step3
  go_wp2_with (go_at_call 36; refine (last_any p hp _).mono ?_; rintro e w' ⟨z, rfl, hz, rfl⟩)
  have HZ := Lib.hid hz
  clear hz
  go_step3
  go_wp2_with fail
  go_loopg [6, 7, 8] (msN p.size s.size 0 0) (fun g fv rv sv wr => ∃ first frm star, PatRel p s w fv rv sv wr first frm star ∧ Hid (msN p.size s.size first frm = g))
  case atStart => exact ⟨0, 0, false, ⟨rfl, rfl, rfl, Nat.zero_le _, Nat.zero_le _, Goal.whole p s, Below.refl _ _⟩, Lib.hid rfl⟩
  case round =>
    obtain ⟨first, frm, star, ⟨rfl, rfl, rfl, hf, hr, htold, hbel⟩, HG⟩ := hrel
    have HT := Lib.hid htold
    clear htold
    go_wp2_with fail
    go_loopg [6, 7, 8, 9, 10] (p.size - first) (fun g fv rv sv iv nv wx => ∃ i next, (fv = .int .i64 first ∧ rv = .int .i64 frm ∧ sv = .bool star) ∧ InPat p s w first frm iv nv wx i next ∧ Hid (p.size - next = g))
    case atStart => exact ⟨frm, first, ⟨rfl, rfl, rfl⟩, ⟨rfl, rfl, hr, Nat.le_refl _, hf, Nat.le_refl _, Took.start p s first frm, hbel⟩, Lib.hid rfl⟩
    case round =>
      clear hbel
      obtain ⟨i, next, ⟨rfl, rfl, rfl⟩, ⟨rfl, rfl, hi, hfi, hnl, hfn, htook, hbel⟩, HI⟩ := hrel
      have HK := Lib.hid htook
      clear htook
      by_cases hn : next < p.size
      · have hsp := src_pos p next hn
        have hsl := set_len p next hn
        have HC := Lib.hid (partAt_any p hp next hn z HZ.out)
        have HP : Hid (partOf p next hn = partOf p next hn) := Lib.hid rfl
        obtain ⟨q, hq⟩ : ∃ q, q = partOf p next hn := ⟨_, rfl⟩
        have HM : q.kind ≠ 2 → ∀ c w, Calls Try.prog 38 #[ptV q, .int .u8 c.toNat] w fun r w' => r = .returned (.bool (fit q c)) ∧ Below w.heap.size w w' := fun h c w => matches_any q h (by rw [hq]; omega) (by rw [hq]; omega) (by rw [hq]; omega) (by rw [hq]; omega) c w
        have HM := Lib.hid HM
        rw [← hq] at HC hsp
        have HQ := Lib.hid hq
        clear hq HP hsl
        obtain ⟨k, a, b⟩ := q
        simp only at hsp
        obtain ⟨hs1, hs2, hs3⟩ := hsp
        by_cases hk : k = 2
        · have hks : ((k : Int) == 2) = true := by simp; omega
          have HS : Hid (Goal p s first frm star ↔ Goal p s (next + a.length) i true) := by
            have := Goal.star (star := star) HK.out hfi hi hn (by rw [← HQ.out]; exact hk)
            rw [← HQ.out] at this
            exact this
          clear hk
          go_wp2_with (go_at_call 37; refine (HC.out _).mono ?_; rintro e w3 ⟨rfl, hb3⟩)
          go_roundg (msN p.size s.size (next + a.length) i)
          case measure => rw [← HG.out]; exact msN_star (by omega) (by omega) hr
          case rel => exact ⟨next + a.length, i, true, ⟨by simp, rfl, rfl, by omega, hi, HT.out.trans HS.out, box_below hbel hb3 _⟩, Lib.hid rfl⟩
        · have hks : ((k : Int) == 2) = false := by simp; omega
          have hk2 : (partOf p next hn).kind ≠ 2 := by rw [← HQ.out]; exact hk
          have HK2 := Lib.hid hk2
          by_cases hil : i < s.size
          · have his : ((i : Int) == (s.size : Int)) = false := by simp; omega
            have HMM := Lib.hid (HM.out hk s[i])
            have hi1 : (0 : Int) ≤ (i : Int) := by omega
            have hi2 : (i : Int) < (s.size : Int) := by omega
            clear hk hk2
            cases hfit : fit ⟨k, a, b⟩ s[i] with
            | true =>
              have HS := Lib.hid (HK.out.step hfi hil hn HK2.out (by rw [← HQ.out]; exact hfit))
              rw [← HQ.out] at HS
              rw [hfit] at HMM
              clear hfit
              go_wp2_with (go_at_call 37; refine (HC.out _).mono ?_; rintro e w3 ⟨rfl, hb3⟩)
              have hbox : InBox w (w3.alloc (.cells #[.int .i64 k, str a, str b] 49)) w3.heap.size k ⟨a.toArray⟩ ⟨b.toArray⟩ := by
                have K := Blk.fresh w3 49 #[.int .i64 k, str a, str b]
                exact ⟨box_below hbel hb3 _, K.inside, K.at 0, K.at 1, K.at 2⟩
              go_region_held3 (fun w' => InBox w w' w3.heap.size k ⟨a.toArray⟩ ⟨b.toArray⟩) (first | exact InBox.drew hbox | exact InBox.keep ‹_› ‹_› | go_keep)
                (first
                  | (go_at_call 38; refine (HMM.out _).mono ?_; rintro e wk ⟨rfl, bk⟩))
              have hend : Below w.heap.size w _ := And.left ‹InBox w _ w3.heap.size k ⟨a.toArray⟩ ⟨b.toArray⟩›
              have HE := Lib.hid hend
              go_wp2_with fail
              go_roundg (p.size - (next + a.length))
              case measure => have := HI.out; omega
              case rel => exact ⟨i + 1, next + a.length, ⟨rfl, rfl, rfl⟩, ⟨by simp, by simp, hil, by omega, by omega, by omega, HS.out, HE.out⟩, Lib.hid rfl⟩
            | false =>
              have HF := Lib.hid (HK.out.fails hfi hil hn HK2.out (by rw [← HQ.out]; exact hfit))
              rw [hfit] at HMM
              clear hfit
              cases star with
              | true =>
                have HS := Lib.hid (Goal.next (by omega : frm < s.size) HF.out)
                go_wp2_with (go_at_call 37; refine (HC.out _).mono ?_; rintro e w3 ⟨rfl, hb3⟩)
                have hbox : InBox w (w3.alloc (.cells #[.int .i64 k, str a, str b] 49)) w3.heap.size k ⟨a.toArray⟩ ⟨b.toArray⟩ := by
                  have K := Blk.fresh w3 49 #[.int .i64 k, str a, str b]
                  exact ⟨box_below hbel hb3 _, K.inside, K.at 0, K.at 1, K.at 2⟩
                go_region_held3 (fun w' => InBox w w' w3.heap.size k ⟨a.toArray⟩ ⟨b.toArray⟩) (first | exact InBox.drew hbox | exact InBox.keep ‹_› ‹_› | go_keep)
                  (first
                    | (go_at_call 38; refine (HMM.out _).mono ?_; rintro e wk ⟨rfl, bk⟩))
                have hend : Below w.heap.size w _ := And.left ‹InBox w _ w3.heap.size k ⟨a.toArray⟩ ⟨b.toArray⟩›
                have HE := Lib.hid hend
                go_wp2_with fail
                go_roundg (msN p.size s.size first (frm + 1))
                case measure => rw [← HG.out]; exact msN_next (by omega)
                case rel => exact ⟨first, frm + 1, true, ⟨rfl, by simp, rfl, hf, by omega, HT.out.trans HS.out, HE.out⟩, Lib.hid rfl⟩
              | false =>
                have HS := Lib.hid (Goal.none HF.out)
                go_wp2_with (go_at_call 37; refine (HC.out _).mono ?_; rintro e w3 ⟨rfl, hb3⟩)
                have hbox : InBox w (w3.alloc (.cells #[.int .i64 k, str a, str b] 49)) w3.heap.size k ⟨a.toArray⟩ ⟨b.toArray⟩ := by
                  have K := Blk.fresh w3 49 #[.int .i64 k, str a, str b]
                  exact ⟨box_below hbel hb3 _, K.inside, K.at 0, K.at 1, K.at 2⟩
                go_region_held3 (fun w' => InBox w w' w3.heap.size k ⟨a.toArray⟩ ⟨b.toArray⟩) (first | exact InBox.drew hbox | exact InBox.keep ‹_› ‹_› | go_keep)
                  (first
                    | (go_at_call 38; refine (HMM.out _).mono ?_; rintro e wk ⟨rfl, bk⟩))
                have hend : Below w.heap.size w _ := And.left ‹InBox w _ w3.heap.size k ⟨a.toArray⟩ ⟨b.toArray⟩›
                have HE := Lib.hid hend
                go_wp2_with fail
                try rw [Exit.noGoto_ret]
                go_ret
                exact ⟨congrArg (fun b => Ending.returned (.bool b)) (pat_no HT.out HS.out), HE.out⟩
          · obtain rfl : i = s.size := by omega
            have his : ((s.size : Int) == (s.size : Int)) = true := by simp
            have HS := Lib.hid (Goal.short (star := star) HK.out hfi hn hk2)
            clear hk hk2
            go_wp2_with (go_at_call 37; refine (HC.out _).mono ?_; rintro e w3 ⟨rfl, hb3⟩)
            try rw [Exit.noGoto_ret]
            go_ret
            exact ⟨congrArg (fun b => Ending.returned (.bool b)) (pat_no HT.out HS.out), box_below hbel hb3 _⟩
      · by_cases hil : i < s.size
        · have his : ((i : Int) == (s.size : Int)) = false := by simp; omega
          have HF := Lib.hid (HK.out.ends hfi hil (by omega))
          cases star with
          | true =>
            have HS := Lib.hid (Goal.next (by omega : frm < s.size) HF.out)
            go_wp2_with fail
            go_roundg (msN p.size s.size first (frm + 1))
            case measure => rw [← HG.out]; exact msN_next (by omega)
            case rel => exact ⟨first, frm + 1, true, ⟨rfl, by simp, rfl, hf, by omega, HT.out.trans HS.out, hbel⟩, Lib.hid rfl⟩
          | false =>
            have HS := Lib.hid (Goal.none HF.out)
            go_wp2_with fail
            try rw [Exit.noGoto_ret]
            go_ret
            exact ⟨congrArg (fun b => Ending.returned (.bool b)) (pat_no HT.out HS.out), hbel⟩
        · obtain rfl : i = s.size := by omega
          have his : ((s.size : Int) == (s.size : Int)) = true := by simp
          have HS := Lib.hid (Goal.done (star := star) HK.out hfi (by omega))
          go_wp2_with fail
          try rw [Exit.noGoto_ret]
          go_ret
          exact ⟨congrArg (fun b => Ending.returned (.bool b)) (pat_yes HT.out HS.out), hbel⟩
end Txt
end Go.Proofs.Ytpmmbbaigfjhnaa

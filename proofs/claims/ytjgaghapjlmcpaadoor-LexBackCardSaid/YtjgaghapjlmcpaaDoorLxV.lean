/- Package lex: Write. -/
import Derived.Test.YtjgaghapjlmcpaaDoorLxU
import Derived.Test.YtjgaghapjlmcpaaDoorLxD
import Derived.Test.YtjgaghapjlmcpaaDoorQuot
namespace Go.Proofs.YtjgaghapjlmcpaaDoor
open Go.RowKit Wire Txt
set_option linter.unusedVariables false
set_option linter.unusedSimpArgs false
namespace Lx

/-- Tokens that are not too long. -/
def Short (l : List Tk) : Prop := l.length ≤ 100000 ∧ ∀ t ∈ l, t.text.length ≤ 100000 ∧ t.kind ≤ 4
theorem wr1_len {t : Tk} (h : t.text.length ≤ 100000) : (wr1 t).length ≤ 400010 := by
  have hq := quo_len t.text
  unfold wr1
  split
  · simp; omega
  · split
    · simp; omega
    · split <;> simp
theorem wr_room {l : List Tk} (h : Short l) (i : Nat) : (wrP (l.take i)).length ≤ 400010 * 100000 := by
  have key : ∀ (l : List Tk), (∀ t ∈ l, t.text.length ≤ 100000 ∧ t.kind ≤ 4) → (wrP l).length ≤ 400010 * l.length := by
    intro l
    induction l with
    | nil => intro _; simp [wrP]
    | cons t l ih =>
      intro h
      have h1 := wr1_len (h t (by simp)).1
      have h2 := ih fun u hu => h u (by simp [hu])
      show (wr1 t ++ wrP l).length ≤ _
      rw [List.length_append, List.length_cons]
      omega
  have h1 := key (l.take i) fun t ht => h.2 t (List.mem_of_mem_take ht)
  have h2 : (l.take i).length ≤ 100000 := by rw [List.length_take]; have := h.1; omega
  omega
theorem wr_next {l : List Tk} {i : Nat} {t : Tk} (h : l[i]? = some t) : wrP (l.take (i + 1)) = wrP (l.take i) ++ wr1 t := by
  obtain ⟨hi, rfl⟩ := List.getElem?_eq_some_iff.1 h
  rw [List.take_succ_eq_append_getElem hi]
  unfold wrP
  rw [List.flatMap_append]
  simp

structure WRel (W : World) (A : Option Addr) (l : List Tk) (w : World) (i : Nat) : Prop where
  out : Bld.Is W.heap.size W.heap.size (wrP (l.take i)) w
  row : Row w W.heap.size A (tks l)
  le : i ≤ l.length
  below : Below W.heap.size W w
theorem WRel.next {W w w1 : World} {A : Option Addr} {l : List Tk} {i : Nat} {t : Tk} {o : Obj} (h : WRel W A l w i) (ht : l[i]? = some t) (h1 : Bld.Is W.heap.size W.heap.size (wrP (l.take i) ++ wr1 t) w1) (b : Below W.heap.size (w.alloc o) w1) : WRel W A l w1 (i + 1) := by
  have hlt := (List.getElem?_eq_some_iff.1 ht).1
  have b2 : Below W.heap.size w w1 := ((Below.refl _ w).alloc h.below.size o).trans b
  refine ⟨by rw [wr_next ht]; exact h1, h.row.below b2, hlt, h.below.trans b2⟩
theorem WRel.same {W w : World} {A : Option Addr} {l : List Tk} {i : Nat} {t : Tk} {o : Obj} (h : WRel W A l w i) (ht : l[i]? = some t) (h4 : wr1 t = []) : WRel W A l (w.alloc o) (i + 1) := by
  have b2 : Below w.heap.size w (w.alloc o) := (Below.refl _ w).alloc (Nat.le_refl _) o
  refine h.next ht ?_ (Below.refl _ _) (o := o)
  rw [h4, List.append_nil]
  exact h.out.keep b2
theorem cat_b (x y : ByteArray) : Value.string (x ++ y) = str (bl x ++ bl y) := by
  obtain ⟨⟨a⟩⟩ := x
  obtain ⟨⟨b⟩⟩ := y
  exact congrArg Value.string (cat_bytes a b)

set_option maxRecDepth 8000 in
set_option maxHeartbeats 4000000 in
theorem write_any (v : Value) (l : List Tk) (w : World) (hv : Has w v l) (hl : Short l) :
    Calls Tryd.prog 12 #[v] w fun e w' => e = .returned (str (wrP l)) ∧ Below w.heap.size w w' := by
  obtain ⟨A, cp, rfl, hcp, hrow⟩ := hv.is
  have HROOM := Lib.hid (fun i => wr_room hl i)
  have HSH := Lib.hid hl.2
  have hlen := hl.1
  have HROW := Lib.hid hrow
  clear hv hl hrow
  go_enter Tryd.func12, Tryd.ntmps12
  go_wp2_with fail
  have hR0 : WRel w A l (w.alloc (.cells #[.pointer none, .slice none 0 0] 47)) 0 :=
    ⟨Bld.Is.fresh w, HROW.out.below ((Below.refl _ _).alloc (Nat.le_refl _) _), Nat.zero_le _, (Below.refl _ _).alloc (Nat.le_refl _) _⟩
  go_loopw [5, 8, 13, 14, 21, 28] (fun _ iv _ _ _ _ wr => ∃ i : Nat, iv = .int .i64 i ∧ WRel w A l wr i) (fun _ iv _ _ _ _ _ => l.length - (intOf iv).toNat)
  case atStart => exact ⟨0, rfl, hR0⟩
  case round =>
    obtain ⟨i, rfl, hR⟩ := hrel
    clear hR0 HROW
    have HR := Lib.hid hR
    have hle := hR.le
    clear hR
    by_cases hlt : i < l.length
    · obtain ⟨t, ht⟩ : ∃ t, l[i]? = some t := ⟨_, List.getElem?_eq_getElem hlt⟩
      obtain ⟨b, o', rfl, hb, k0, k1, k2, k3⟩ := row_tk HR.out.row ht
      have hsh := HSH.out t (List.mem_of_getElem? ht)
      obtain ⟨kind, text, n, line⟩ := t
      obtain ⟨x, rfl⟩ := mk_bl text
      rw [str_bl] at k1
      simp only at k0 k1 k2 k3 hsh
      rw [bl_len] at hsh
      have hk : kind = 0 ∨ kind = 1 ∨ kind = 2 ∨ kind = 3 ∨ kind = 4 := by omega
      have hxs := hsh.1
      clear hsh
      rcases hk with rfl | rfl | rfl | rfl | rfl
      · -- kind 0
        have HW : Hid (∀ o, Calls Tryd.prog 25 #[Bld.ptr w.heap.size, .string (x ++ ⟨#[32]⟩)] (wr.alloc o) fun e w' => (∃ z, e = .returned (.tuple #[.int .i64 z, .nilIface])) ∧ Bld.Is w.heap.size w.heap.size (wrP (l.take i) ++ wr1 ⟨0, bl x, n, line⟩) w' ∧ Below w.heap.size (wr.alloc o) w') := Lib.hid fun o => by
          rw [cat_b]
          refine (Bld.write_any _ (HR.out.out.keep ((Below.refl _ wr).alloc (Nat.le_refl _) o)) (by have := HROOM.out i; rw [List.length_append, bl_len, show (bl ⟨#[32]⟩).length = 1 from rfl]; omega) (Nat.le_trans HR.out.below.size (by simp))).mono ?_
          rintro e w' ⟨rfl, h1, h2⟩
          exact ⟨⟨_, rfl⟩, h1, h2⟩
        have q0 : wr.cell? ⟨b, o' + i * 4, none⟩ = some (.int .i64 0) := k0
        clear k0
        go_wp2_with (first
          | (go_at_call 25; refine (HW.out _).mono ?_; rintro e w2 ⟨⟨z, rfl⟩, h2, b2⟩
             have HN := Lib.hid (HR.out.next ht h2 b2)
             clear h2 b2))
        refine ⟨⟨_, rfl, HN.out⟩, ?_⟩
        simp [intOf]
        omega
      · -- kind 1
        have HW : Hid (∀ o, Calls Tryd.prog 25 #[Bld.ptr w.heap.size, .string (x ++ ⟨#[32]⟩)] (wr.alloc o) fun e w' => (∃ z, e = .returned (.tuple #[.int .i64 z, .nilIface])) ∧ Bld.Is w.heap.size w.heap.size (wrP (l.take i) ++ wr1 ⟨1, bl x, n, line⟩) w' ∧ Below w.heap.size (wr.alloc o) w') := Lib.hid fun o => by
          rw [cat_b]
          refine (Bld.write_any _ (HR.out.out.keep ((Below.refl _ wr).alloc (Nat.le_refl _) o)) (by have := HROOM.out i; rw [List.length_append, bl_len, show (bl ⟨#[32]⟩).length = 1 from rfl]; omega) (Nat.le_trans HR.out.below.size (by simp))).mono ?_
          rintro e w' ⟨rfl, h1, h2⟩
          exact ⟨⟨_, rfl⟩, h1, h2⟩
        have q0 : wr.cell? ⟨b, o' + i * 4, none⟩ = some (.int .i64 1) := k0
        clear k0
        go_wp2_with (first
          | (go_at_call 25; refine (HW.out _).mono ?_; rintro e w2 ⟨⟨z, rfl⟩, h2, b2⟩
             have HN := Lib.hid (HR.out.next ht h2 b2)
             clear h2 b2))
        refine ⟨⟨_, rfl, HN.out⟩, ?_⟩
        simp [intOf]
        omega
      · -- a text
        obtain ⟨y, hy⟩ := mk_bl (quo (bl x))
        have hyl : y.size ≤ 400002 := by rw [← bl_len, hy]; have := quo_len (bl x); rw [bl_len] at this; omega
        have HQ := Lib.hid (fun w => quote_any x (by omega) w)
        rw [← hy, str_bl] at HQ
        have HW : Hid (∀ o w2, Below (wr.alloc o).heap.size (wr.alloc o) w2 → Calls Tryd.prog 25 #[Bld.ptr w.heap.size, .string (y ++ ⟨#[32]⟩)] w2 fun e w' => (∃ z, e = .returned (.tuple #[.int .i64 z, .nilIface])) ∧ Bld.Is w.heap.size w.heap.size (wrP (l.take i) ++ wr1 ⟨2, bl x, n, line⟩) w' ∧ Below w.heap.size (wr.alloc o) w') := Lib.hid fun o w2 bq => by
          have hs : w.heap.size ≤ (wr.alloc o).heap.size := Nat.le_trans HR.out.below.size (by simp)
          rw [cat_b, hy]
          refine (Bld.write_any _ ((HR.out.out.keep ((Below.refl _ wr).alloc (Nat.le_refl _) o)).keep bq) (by have := HROOM.out i; rw [List.length_append, ← hy, bl_len, show (bl ⟨#[32]⟩).length = 1 from rfl]; omega) (Nat.le_trans hs bq.size)).mono ?_
          rintro e w' ⟨rfl, h1, h2⟩
          exact ⟨⟨_, rfl⟩, h1, (bq.mono hs).trans h2⟩
        have q0 : wr.cell? ⟨b, o' + i * 4, none⟩ = some (.int .i64 2) := k0
        clear k0
        clear hy
        go_wp2_with (first
          | (go_at_call 17; refine (HQ.out _).mono ?_; rintro e w3 ⟨rfl, b3⟩)
          | (go_at_call 25; refine (HW.out _ _ b3).mono ?_; rintro e w2 ⟨⟨z, rfl⟩, h2, b2⟩
             have HN := Lib.hid (HR.out.next ht h2 b2)
             clear h2 b2))
        refine ⟨⟨_, rfl, HN.out⟩, ?_⟩
        simp [intOf]
        omega
      · -- an LF
        have HW : Hid (∀ o, Calls Tryd.prog 26 #[Bld.ptr w.heap.size, .int .u8 10] (wr.alloc o) fun e w' => e = .returned .nilIface ∧ Bld.Is w.heap.size w.heap.size (wrP (l.take i) ++ wr1 ⟨3, bl x, n, line⟩) w' ∧ Below w.heap.size (wr.alloc o) w') := Lib.hid fun o =>
          Bld.byte_any 10 (HR.out.out.keep ((Below.refl _ wr).alloc (Nat.le_refl _) o)) (by have := HROOM.out i; omega) (Nat.le_trans HR.out.below.size (by simp))
        have q0 : wr.cell? ⟨b, o' + i * 4, none⟩ = some (.int .i64 3) := k0
        clear k0
        go_wp2_with (go_at_call 26; refine (HW.out _).mono ?_; rintro e w2 ⟨rfl, h2, b2⟩;
                     have HN := Lib.hid (HR.out.next ht h2 b2)
                     clear h2 b2)
        refine ⟨⟨_, rfl, HN.out⟩, ?_⟩
        simp [intOf]
        omega
      · -- the end
        have HW : Hid (∀ o, WRel w (some ⟨b, o', none⟩) l (wr.alloc o) (i + 1)) := Lib.hid fun o => HR.out.same ht rfl
        have q0 : wr.cell? ⟨b, o' + i * 4, none⟩ = some (.int .i64 4) := k0
        clear k0
        go_wp2_with fail
        refine ⟨⟨_, rfl, HW.out _⟩, ?_⟩
        simp [intOf]
        omega
    · obtain rfl : i = l.length := by omega
      have HO : Hid (Bld.Is w.heap.size w.heap.size (wrP l) wr) := Lib.hid (by have := HR.out.out; rwa [List.take_length] at this)
      go_wp2_with (go_at_call 27; refine (Bld.string_any HO.out HR.out.below.size).mono ?_; rintro e w2 ⟨rfl, b2⟩)
      go_ret
      exact ⟨rfl, HR.out.below.trans b2⟩
end Lx
end Go.Proofs.YtjgaghapjlmcpaaDoor

/- A cell as a plain value: what its calls do, what a crash leaves; how it lies in memory; settle. -/
import Derived.Test.YtpogoalbnbekaaaDoorPlA
import Derived.Test.YtpogoalbnbekaaaDoorDskD

namespace Go.Proofs.YtpogoalbnbekaaaDoor
set_option linter.unusedVariables false
namespace Dsk

/-- Where a slot begins. -/
def beg (k : Nat) : Nat := if k = 2 then 131072 else 64
/-- The other slot. -/
def othK (k : Nat) : Nat := if k = 1 then 2 else 1
/-- The header of a slot and a length. -/
def hdr (k n : Nat) : List UInt8 := [UInt8.ofNat k, UInt8.ofNat (n % 256), UInt8.ofNat (n / 256 % 256), UInt8.ofNat (n / 65536), 0]
/-- The length that a header names. -/
def hsize (h : List UInt8) : Nat := (h.getD 1 0).toNat + 256 * (h.getD 2 0).toNat + 65536 * (h.getD 3 0).toNat + 16777216 * (h.getD 4 0).toNat

theorem hdr_len (k n : Nat) : (hdr k n).length = 5 := rfl
theorem beg_lo (k : Nat) : 64 ≤ beg k := by unfold beg; split <;> omega
theorem beg_hi (k : Nat) : beg k ≤ 131072 := by unfold beg; split <;> omega
theorem othK_two (k : Nat) : othK k = 1 ∨ othK k = 2 := by unfold othK; split <;> simp
theorem othK_ne {k : Nat} (h : k = 1 ∨ k = 2) : othK k ≠ k := by unfold othK; split <;> omega
theorem hsize_hdr {k n : Nat} (h : n ≤ 65536) : hsize (hdr k n) = n := by
  unfold hsize hdr
  simp only [List.getD_cons_succ, List.getD_cons_zero, UInt8.toNat_ofNat']
  have : (0 : UInt8).toNat = 0 := rfl
  rw [this]
  omega

/-- A cell. -/
structure Cl where
  file : Int
  slot : Nat
  value : List UInt8
  sure : Bool

def Cl.settle (c : Cl) (S : St) : Int × Cl × St :=
  if c.sure = true ∨ c.slot = 0 then (0, c, S) else ((S.Sync c.file).2, { c with sure := (S.Sync c.file).2 == 0 }, (S.Sync c.file).1)
def Cl.replace (c : Cl) (S : St) (s : List UInt8) : Int × Cl × St :=
  if (S.Write c.file (beg (othK c.slot) : Nat) s).2 ≠ 0 then ((S.Write c.file (beg (othK c.slot) : Nat) s).2, c, (S.Write c.file (beg (othK c.slot) : Nat) s).1) else
  if ((S.Write c.file (beg (othK c.slot) : Nat) s).1.Sync c.file).2 ≠ 0 then (((S.Write c.file (beg (othK c.slot) : Nat) s).1.Sync c.file).2, c, ((S.Write c.file (beg (othK c.slot) : Nat) s).1.Sync c.file).1) else
  if (((S.Write c.file (beg (othK c.slot) : Nat) s).1.Sync c.file).1.Write c.file 0 (hdr (othK c.slot) s.length)).2 ≠ 0 then ((((S.Write c.file (beg (othK c.slot) : Nat) s).1.Sync c.file).1.Write c.file 0 (hdr (othK c.slot) s.length)).2, c, (((S.Write c.file (beg (othK c.slot) : Nat) s).1.Sync c.file).1.Write c.file 0 (hdr (othK c.slot) s.length)).1) else
  (0, ⟨c.file, othK c.slot, s, false⟩, (((S.Write c.file (beg (othK c.slot) : Nat) s).1.Sync c.file).1.Write c.file 0 (hdr (othK c.slot) s.length)).1)
def Cl.set (c : Cl) (S : St) (s : List UInt8) : Int × Cl × St :=
  if 65536 < s.length then (6, c, S) else
  if (c.settle S).1 ≠ 0 then c.settle S else
  if ((c.settle S).2.1.replace (c.settle S).2.2 s).1 ≠ 0 then (c.settle S).2.1.replace (c.settle S).2.2 s else
  ((c.settle S).2.1.replace (c.settle S).2.2 s).2.1.settle ((c.settle S).2.1.replace (c.settle S).2.2 s).2.2
/-- What Open returns. -/
def opn (S : St) (f : Int) : Int × Option Cl :=
  if (S.Read f 0 5).2 ≠ 0 then ((S.Read f 0 5).2, none) else
  if (S.Read f 0 5).1.getD 0 0 = 0 then (0, some ⟨f, 0, [], false⟩) else
  if (S.Read f 0 5).1.length ≠ 5 ∨ ((S.Read f 0 5).1.getD 0 0 ≠ 1 ∧ (S.Read f 0 5).1.getD 0 0 ≠ 2) ∨ 65536 < hsize (S.Read f 0 5).1 then (2, none) else
  if (S.Read f (beg ((S.Read f 0 5).1.getD 0 0).toNat : Nat) (hsize (S.Read f 0 5).1 : Nat)).2 ≠ 0 then ((S.Read f (beg ((S.Read f 0 5).1.getD 0 0).toNat : Nat) (hsize (S.Read f 0 5).1 : Nat)).2, none) else
  if (S.Read f (beg ((S.Read f 0 5).1.getD 0 0).toNat : Nat) (hsize (S.Read f 0 5).1 : Nat)).1.length ≠ hsize (S.Read f 0 5).1 then (2, none) else
  (0, some ⟨f, ((S.Read f 0 5).1.getD 0 0).toNat, (S.Read f (beg ((S.Read f 0 5).1.getD 0 0).toNat : Nat) (hsize (S.Read f 0 5).1 : Nat)).1, false⟩)

theorem Cl.settle_ok {c : Cl} {S : St} (h : S.ok) : (c.settle S).2.2.ok := by
  unfold Cl.settle
  split
  · exact h
  · exact h.Sync _
theorem Cl.replace_ok {c : Cl} {S : St} (h : S.ok) (s : List UInt8) : (c.replace S s).2.2.ok := by
  unfold Cl.replace
  have h1 := h.Write c.file (beg (othK c.slot) : Nat) s
  have h2 := h1.Sync c.file
  have h3 := h2.Write c.file 0 (hdr (othK c.slot) s.length)
  split
  · exact h1
  · split
    · exact h2
    · split
      · exact h3
      · exact h3
theorem Cl.set_ok {c : Cl} {S : St} (h : S.ok) (s : List UInt8) : (c.set S s).2.2.ok := by
  unfold Cl.set
  split
  · exact h
  · split
    · exact Cl.settle_ok h
    · split
      · exact Cl.replace_ok (Cl.settle_ok h) s
      · exact Cl.settle_ok (Cl.replace_ok (Cl.settle_ok h) s)
theorem Cl.settle_file (c : Cl) (S : St) : (c.settle S).2.1.file = c.file ∧ (c.settle S).2.1.slot = c.slot ∧ (c.settle S).2.1.value = c.value := by
  unfold Cl.settle
  split <;> exact ⟨rfl, rfl, rfl⟩
theorem Cl.replace_file (c : Cl) (S : St) (s : List UInt8) : (c.replace S s).2.1.file = c.file := by
  unfold Cl.replace
  split
  · rfl
  · split
    · rfl
    · split <;> rfl
theorem Cl.set_file (c : Cl) (S : St) (s : List UInt8) : (c.set S s).2.1.file = c.file := by
  unfold Cl.set
  split
  · rfl
  · split
    · exact (c.settle_file S).1
    · split
      · rw [Cl.replace_file, (c.settle_file S).1]
      · rw [(Cl.settle_file _ _).1, Cl.replace_file, (c.settle_file S).1]

/-! What lies in a file. -/
/-- File f has these bytes from a on. -/
structure Has (C : Con) (f a : Nat) (l : List UInt8) : Prop where
  byte : ∀ i, i < l.length → C.byte f (a + i) = l.getD i 0
  size : l ≠ [] → a + l.length ≤ C.size f

theorem Has.put_other {C : Con} {f a b g : Nat} {l m : List UInt8} (h : Has C f a l) (hd : g ≠ f ∨ b + m.length ≤ a ∨ a + l.length ≤ b) : Has (C.put g b m) f a l := by
  refine ⟨fun i hi => ?_, fun hl => ?_⟩
  · rw [Con.put_byte, if_neg (by omega)]
    exact h.byte i hi
  · have := h.size hl
    by_cases hm : m = []
    · rw [hm, Con.put_nil]
      exact this
    · rw [Con.put_size _ _ _ _ hm]
      split <;> omega
theorem Has.put_same (C : Con) (f a : Nat) (l : List UInt8) : Has (C.put f a l) f a l := by
  refine ⟨fun i hi => ?_, fun hl => ?_⟩
  · rw [Con.put_byte, if_pos ⟨rfl, by omega, by omega⟩]
    congr 1
    omega
  · rw [Con.put_size _ _ _ _ hl, if_pos rfl]
    omega
theorem Has.same {C D : Con} {f a : Nat} {l : List UInt8} (h : Has C f a l) (hs : D.size f = C.size f) (hb : ∀ i, D.byte f i = C.byte f i) : Has D f a l :=
  ⟨fun i hi => (hb _).trans (h.byte i hi), fun hl => by rw [hs]; exact h.size hl⟩
theorem Has.read {C : Con} {f a : Nat} {l : List UInt8} (h : Has C f a l) : C.read f a l.length = l := by
  by_cases hl : l = []
  · subst hl
    unfold Con.read
    simp
  · have hs := h.size hl
    apply List.ext_getElem?
    intro i
    by_cases hi : i < l.length
    · rw [Con.read_get _ _ _ _ _ (by omega), h.byte i hi, List.getD_eq_getElem?_getD, List.getElem?_eq_getElem hi]
      rfl
    · rw [List.getElem?_eq_none (by rw [Con.read_len]; omega), List.getElem?_eq_none (by omega)]
theorem Has.dead {S : St} (hk : S.ok) {f a : Nat} {l : List UInt8} (h1 : Has S.now f a l) (h2 : Has S.last f a l) (ks : List Int) : Has (S.dead ks) f a l := by
  refine ⟨fun i hi => ?_, fun hl => ?_⟩
  · rw [hk.dead_byte]
    split
    · exact h1.byte i hi
    · exact h2.byte i hi
  · exact Nat.le_trans (h2.size hl) (dead_ge ks f)

/-- What a header names: nothing, or a slot and a value. -/
abbrev Nm := Option (Nat × List UInt8)
def Head (C : Con) (f : Nat) : Nm → Prop
  | none => C.byte f 0 = 0
  | some (k, v) => Has C f 0 (hdr k v.length) ∧ (k = 1 ∨ k = 2) ∧ v.length ≤ 65536
def Body (C : Con) (f : Nat) : Nm → Prop
  | none => True
  | some (k, v) => Has C f (beg k) v

theorem Head.same {C D : Con} {f : Nat} {x : Nm} (h : Head C f x) (hs : D.size f = C.size f) (hb : ∀ i, D.byte f i = C.byte f i) : Head D f x := by
  cases x with
  | none => exact (hb 0).trans h
  | some p => exact ⟨h.1.same hs hb, h.2⟩
theorem Body.same {C D : Con} {f : Nat} {x : Nm} (h : Body C f x) (hs : D.size f = C.size f) (hb : ∀ i, D.byte f i = C.byte f i) : Body D f x := by
  cases x with
  | none => trivial
  | some p => exact Has.same h hs hb
theorem Head.put {C : Con} {f g b : Nat} {m : List UInt8} {x : Nm} (h : Head C f x) (hd : g ≠ f ∨ 5 ≤ b) : Head (C.put g b m) f x := by
  cases x with
  | none =>
    show (C.put g b m).byte f 0 = 0
    rw [Con.put_byte, if_neg (by omega)]
    exact h
  | some p => exact ⟨h.1.put_other (by rw [hdr_len]; omega), h.2⟩

/-- What the header of the file names (x), and what that of its durable part names (y); both values lie in both. -/
structure Inv (f : Nat) (S : St) (x y : Nm) : Prop where
  ok : S.ok
  hx : Head S.now f x
  hy : Head S.last f y
  xn : Body S.now f x
  xl : Body S.last f x
  yn : Body S.now f y
  yl : Body S.last f y

section
variable {f : Nat} {S T : St} {x y : Nm} {A B : Nm → Prop}

theorem Inv.same (h : Inv f S x y) (hk : T.ok) (hn : T.now.size f = S.now.size f ∧ ∀ i, T.now.byte f i = S.now.byte f i) (hl : T.last.size f = S.last.size f ∧ ∀ i, T.last.byte f i = S.last.byte f i) : Inv f T x y :=
  ⟨hk, h.hx.same hn.1 hn.2, h.hy.same hl.1 hl.2, h.xn.same hn.1 hn.2, h.xl.same hl.1 hl.2, h.yn.same hn.1 hn.2, h.yl.same hl.1 hl.2⟩
theorem Inv.both (hk : T.ok) (hx : Head T.now f x) (hy : Head T.last f x) (h1 : Body T.now f x) (h2 : Body T.last f x) : Inv f T x x := ⟨hk, hx, hy, h1, h2, h1, h2⟩

/-- What the durable header can be behind a crash. -/
theorem Inv.dead (h : Inv f S x y) (ks : List Int) : Head (S.dead ks) f x ∨ Head (S.dead ks) f y := by
  by_cases hl : live S ks (f, 0)
  · left
    have hb : ∀ i, i < 64 → (S.dead ks).byte f i = S.now.byte f i := fun i hi => by rw [h.ok.dead_byte, show i / 64 = 0 from by omega, if_pos hl]
    have hx := h.hx
    cases x with
    | none => exact (hb 0 (by omega)).trans hx
    | some p =>
      refine ⟨⟨fun i hi => ?_, fun hne => ?_⟩, hx.2⟩
      · rw [hb _ (by rw [hdr_len] at hi; omega)]
        exact hx.1.byte i hi
      · have h1 := hx.1.size hne
        have h2 := hardK_among (sel := fun i => surv i ks) (q := S.queue) h.ok.le (f := f) (s := 0) (by rw [hdr_len] at h1; omega) S.queue.length hl
        have h3 : (S.dead ks).size f = (hardK S.now (fun i => surv i ks) S.queue S.last S.queue.length).size f := rfl
        rw [hdr_len] at h1 ⊢
        omega
  · right
    have hb : ∀ i, i < 64 → (S.dead ks).byte f i = S.last.byte f i := fun i hi => by rw [h.ok.dead_byte, show i / 64 = 0 from by omega, if_neg hl]
    have hy := h.hy
    cases y with
    | none => exact (hb 0 (by omega)).trans hy
    | some p =>
      refine ⟨⟨fun i hi => ?_, fun hne => Nat.le_trans (hy.1.size hne) (dead_ge ks f)⟩, hy.2⟩
      rw [hb _ (by rw [hdr_len] at hi; omega)]
      exact hy.1.byte i hi
theorem body_dead (hk : S.ok) (h1 : Body S.now f x) (h2 : Body S.last f x) (ks : List Int) : Body (S.dead ks) f x := by
  cases x with
  | none => trivial
  | some p => exact Has.dead hk h1 h2 ks
theorem Inv.crash (h : Inv f S x y) (hd : S.down = false) (ks : List Int) : Inv f (S.crash ks) x x ∨ Inv f (S.crash ks) y y := by
  have hk := h.ok.crash ks
  rw [crash_up' hd] at hk ⊢
  rcases h.dead ks with h1 | h1
  · exact .inl (Inv.both hk h1 h1 (body_dead h.ok h.xn h.xl ks) (body_dead h.ok h.xn h.xl ks))
  · exact .inr (Inv.both hk h1 h1 (body_dead h.ok h.yn h.yl ks) (body_dead h.ok h.yn h.yl ks))

/-- The file names, now and durably, what A allows; when the machine is down, one name alone. -/
def Can (f : Nat) (S : St) (A : Nm → Prop) : Prop := ∃ x y, Inv f S x y ∧ A x ∧ A y ∧ (S.down = true → y = x)
theorem Can.mono (h : Can f S A) (hb : ∀ x, A x → B x) : Can f S B := by
  obtain ⟨x, y, h, ha, hb2, hd⟩ := h
  exact ⟨x, y, h, hb x ha, hb y hb2, hd⟩
theorem Can.ok (h : Can f S A) : S.ok := by
  obtain ⟨x, y, h, _⟩ := h
  exact h.ok
theorem Can.crash (h : Can f S A) (ks : List Int) : Can f (S.crash ks) A := by
  by_cases hd : S.down = true
  · rw [crash_down hd]
    exact h
  · obtain ⟨x, y, h, ha, hb, _⟩ := h
    rcases h.crash (by simpa using hd) ks with h1 | h1
    · exact ⟨x, x, h1, ha, ha, fun _ => rfl⟩
    · exact ⟨y, y, h1, hb, hb, fun _ => rfl⟩

/-- Behind a counted call the machine is up: nothing turned but the count. -/
theorem count_up (h : S.count.down = false) : S.down = false ∧ S.count.now = S.now ∧ S.count.last = S.last ∧ S.count.lost = S.lost := by
  unfold St.count at h ⊢
  split at h
  · rename_i h1
    rw [if_pos h1]
    exact ⟨h, rfl, rfl, rfl⟩
  · rename_i h1
    rw [if_neg h1]
    simp at h1
    split at h
    · unfold St.crash at h
      rw [if_neg (by show ¬ S.down = true; rw [h1.1]; simp)] at h
      simp at h
    · rename_i h2
      rw [if_neg h2]
      exact ⟨h1.1, rfl, rfl, rfl⟩
theorem Inv.count (h : Inv f S x y) (hd : S.count.down = false) : Inv f S.count x y := by
  obtain ⟨_, h1, h2, _⟩ := count_up hd
  exact h.same h.ok.count (by rw [h1]; exact ⟨rfl, fun _ => rfl⟩) (by rw [h2]; exact ⟨rfl, fun _ => rfl⟩)
theorem Can.count (h : Can f S A) : Can f S.count A := by
  have hk := h.ok.count
  unfold St.count at hk ⊢
  split
  · exact h
  · split
    · refine Can.crash ?_ _
      obtain ⟨x, y, h, ha, hb, hd⟩ := h
      exact ⟨x, y, h.same (h.ok.calls' ⟨by decide, by decide⟩) ⟨rfl, fun _ => rfl⟩ ⟨rfl, fun _ => rfl⟩, ha, hb, hd⟩
    · rename_i h1 h2
      rw [if_neg h1, if_neg h2] at hk
      obtain ⟨x, y, h, ha, hb, hd⟩ := h
      exact ⟨x, y, h.same hk ⟨rfl, fun _ => rfl⟩ ⟨rfl, fun _ => rfl⟩, ha, hb, hd⟩

/-! A sync. -/
theorem Inv.settle (h : Inv f S x y) : Inv f (S.settle f) x x := by
  have k := h.ok.settle f
  have hl : (S.settle f).last.size f = S.now.size f ∧ ∀ i, (S.settle f).last.byte f i = S.now.byte f i := ⟨by rw [h.ok.settle_size, if_pos rfl], fun i => by rw [h.ok.settle_last, if_pos rfl]⟩
  exact Inv.both k h.hx (h.hx.same hl.1 hl.2) h.xn (h.xn.same hl.1 hl.2)
theorem Inv.settle_other (h : Inv f S x y) {g : Nat} (hg : f ≠ g) : Inv f (S.settle g) x y :=
  h.same (h.ok.settle g) ⟨rfl, fun _ => rfl⟩ ⟨by rw [h.ok.settle_size, if_neg hg], fun i => by rw [h.ok.settle_last, if_neg hg]⟩
theorem Inv.lost (h : Inv f S x y) {c : Int} (hc : 0 ≤ c ∧ c ≤ 9223372036854775807) : Inv f { S with lost := c } x y := h.same (h.ok.lost' hc) ⟨rfl, fun _ => rfl⟩ ⟨rfl, fun _ => rfl⟩
theorem sync_up {g : Int} (hd : (S.Sync g).1.down = false) : S.count.down = false := by
  unfold St.Sync at hd
  split at hd
  · exact hd
  · rename_i h1
    simpa using h1
theorem Can.Sync (h : Can f S A) (g : Int) : Can f (S.Sync g).1 A := by
  have k := h.count
  unfold St.Sync
  split
  · exact k
  · rename_i h1
    split
    · exact k
    · split
      · rename_i hl
        obtain ⟨x, y, k, ha, hb, hd⟩ := k
        have := k.ok.lost
        exact ⟨x, y, k.lost ⟨by omega, by omega⟩, ha, hb, hd⟩
      · obtain ⟨x, y, k, ha, hb, hd⟩ := k
        by_cases hg : f = g.toNat
        · rw [← hg]
          exact ⟨x, x, k.settle, ha, ha, fun _ => rfl⟩
        · exact ⟨x, y, k.settle_other hg, ha, hb, hd⟩
/-- A sync that failed while the machine stayed up, or was of another file. -/
theorem Inv.Sync_not (h : Inv f S x y) {g : Int} (hd : (S.Sync g).1.down = false) (he : (S.Sync g).2 ≠ 0 ∨ g ≠ f) : Inv f (S.Sync g).1 x y := by
  have h1 := sync_up hd
  have k := h.count h1
  unfold St.Sync at he ⊢
  rw [if_neg (by rw [h1]; simp)] at he ⊢
  split
  · exact k
  · rename_i h2
    rw [if_neg h2] at he
    split
    · have := k.ok.lost
      exact k.lost ⟨by omega, by omega⟩
    · rename_i h3
      rw [if_neg h3] at he
      rcases he with he | he
      · simp at he
      · exact k.settle_other (isF_ne (by simpa using h2) he)
theorem Inv.Sync_good (h : Inv f S x y) (he : (S.Sync (f : Int)).2 = 0) : Inv f (S.Sync (f : Int)).1 x x ∧ (S.Sync (f : Int)).1.down = false := by
  obtain ⟨_, _, hd, hc⟩ := h.ok.synced he
  rw [show ((f : Int)).toNat = f from rfl] at hc
  exact ⟨Inv.both hc.ok (h.hx.same hc.now.1 hc.now.2) (h.hx.same hc.last.1 hc.last.2) (h.xn.same hc.now.1 hc.now.2) (h.xn.same hc.last.1 hc.last.2), hd⟩
/-- .. and what else the file has is durable then. -/
theorem Has.Sync_good {a : Nat} {l : List UInt8} (hk : S.ok) (h : Has S.now f a l) (he : (S.Sync (f : Int)).2 = 0) : Has (S.Sync (f : Int)).1.now f a l ∧ Has (S.Sync (f : Int)).1.last f a l := by
  obtain ⟨_, _, hd, hc⟩ := hk.synced he
  rw [show ((f : Int)).toNat = f from rfl] at hc
  exact ⟨h.same hc.now.1 hc.now.2, h.same hc.last.1 hc.last.2⟩

/-! A write. -/
theorem writeF_last : ∀ (k : Nat) (S : St) (f a : Nat) (l : List UInt8), (S.writeF k f a l).last = S.last ∧ (S.writeF k f a l).lost = S.lost
  | 0, S, f, a, l => ⟨rfl, rfl⟩
  | k + 1, S, f, a, l => by
    unfold St.writeF
    split
    · exact ⟨rfl, rfl⟩
    · have := writeF_last k { S with now := S.now.put f a (l.take (64 - a % 64)), queue := addL S.queue (f, a / 64) } f (a + (l.take (64 - a % 64)).length) (l.drop (64 - a % 64))
      exact this
theorem write_last (S : St) (f a : Nat) (l : List UInt8) : (S.write f a l).last = S.last := (writeF_last _ S f a l).1
theorem write_lost (S : St) (f a : Nat) (l : List UInt8) : (S.write f a l).lost = S.lost := (writeF_last _ S f a l).2
theorem Inv.write_other (h : Inv f S x y) {g a : Nat} {l : List UInt8} (hg : f ≠ g) (hf : g < 16) (hr : a + l.length ≤ 16777216) : Inv f (S.write g a l) x y := by
  obtain ⟨h1, _, _⟩ := write_now S g a l
  exact h.same (h.ok.write hf hr) (by rw [h1]; exact put_other _ _ hg) (by rw [write_last]; exact ⟨rfl, fun _ => rfl⟩)
theorem write_up {g a : Int} {l : List UInt8} (hd : (S.Write g a l).1.down = false) : S.down = false := by
  unfold St.Write at hd
  have h1 := (count_up hd).1
  split at h1
  · rw [(write_now _ _ _ _).2.1] at h1
    exact h1
  · exact h1
theorem Inv.Write_other (h : Inv f S x y) {g : Int} (hg : g ≠ f) (a : Int) (l : List UInt8) (hd : (S.Write g a l).1.down = false) : Inv f (S.Write g a l).1 x y := by
  unfold St.Write at hd ⊢
  refine Inv.count ?_ hd
  split
  · rename_i he
    obtain ⟨h1, h2, h3, h4⟩ := errW_ok he
    have := isF_nat h2
    exact h.write_other (isF_ne h2 hg) (by omega) (by omega)
  · exact h
/-- Whatever a Write does, by what it writes. -/
theorem Can.Write (h : Can f S A) {g a : Int} {l : List UInt8} (hw : S.errW g a l.length = 0 → Can f (S.write g.toNat a.toNat l) A) : Can f (S.Write g a l).1 A := by
  unfold St.Write
  refine Can.count ?_
  split
  · rename_i he
    exact hw he
  · exact h
theorem Can.Write_other (h : Can f S A) {g : Int} (hg : g ≠ f) (a : Int) (l : List UInt8) : Can f (S.Write g a l).1 A := by
  refine h.Write fun he => ?_
  obtain ⟨h1, h2, h3, h4⟩ := errW_ok he
  have := isF_nat h2
  obtain ⟨x, y, h, ha, hb, hd⟩ := h
  exact ⟨x, y, h.write_other (isF_ne h2 hg) (by omega) (by omega), ha, hb, fun e => hd (by rwa [(write_now _ _ _ _).2.1] at e)⟩
/-- A Write that returned OK. -/
theorem Write_good_up {g a : Int} {l : List UInt8} (he : (S.Write g a l).2 = 0) : (S.Write g a l).1.down = false ∧ S.errW g a l.length = 0 := by
  have e : (S.Write g a l).2 = if (S.Write g a l).1.down then 9 else S.errW g a l.length := rfl
  rw [e] at he
  cases hd : (S.Write g a l).1.down with
  | true => rw [hd] at he; simp at he
  | false => rw [hd] at he; exact ⟨rfl, by simpa using he⟩
/-- A Write that failed while the machine stayed up. -/
theorem Write_bad_up {g a : Int} {l : List UInt8} (he : (S.Write g a l).2 ≠ 0) (hd : (S.Write g a l).1.down = false) : S.errW g a l.length ≠ 0 := by
  unfold St.Write at he hd
  dsimp only at he hd
  rw [if_neg (by rw [hd]; simp)] at he
  exact he
/-- A value written into a slot that no header names. -/
theorem Inv.write_slot (h : Inv f S x x) {k : Nat} {s : List UInt8} (hf : f < 16) (hs : s.length ≤ 65536) (hk : ∀ j v, x = some (j, v) → beg j + v.length ≤ beg k ∨ beg k + s.length ≤ beg j) : Inv f (S.write f (beg k) s) x x ∧ Has (S.write f (beg k) s).now f (beg k) s := by
  obtain ⟨h1, _, _⟩ := write_now S f (beg k) s
  have h2 := write_last S f (beg k) s
  have hb := beg_lo k
  have hb2 := beg_hi k
  have hbody : Body (S.now.put f (beg k) s) f x := by
    have := h.xn
    cases x with
    | none => trivial
    | some p => exact Has.put_other this (.inr ((hk p.1 p.2 rfl).symm))
  refine ⟨Inv.both (h.ok.write hf (by omega)) (by rw [h1]; exact h.hx.put (.inr (by omega))) (by rw [h2]; exact h.hy) (by rw [h1]; exact hbody) (by rw [h2]; exact h.xl), ?_⟩
  rw [h1]
  exact Has.put_same _ _ _ _
/-- The header written. -/
theorem Inv.write_head (h : Inv f S x x) {k : Nat} {s : List UInt8} (hf : f < 16) (hs : s.length ≤ 65536) (hk : k = 1 ∨ k = 2) (h1 : Has S.now f (beg k) s) (h2 : Has S.last f (beg k) s) : Inv f (S.write f 0 (hdr k s.length)) (some (k, s)) x := by
  obtain ⟨e1, _, _⟩ := write_now S f 0 (hdr k s.length)
  have e2 := write_last S f 0 (hdr k s.length)
  have hb := beg_lo k
  refine ⟨h.ok.write hf (by rw [hdr_len]; omega), ?_, by rw [e2]; exact h.hy, ?_, by rw [e2]; exact h2, ?_, by rw [e2]; exact h.xl⟩
  · rw [e1]
    exact ⟨Has.put_same _ _ _ _, hk, hs⟩
  · rw [e1]
    exact h1.put_other (.inr (.inl (by rw [hdr_len]; omega)))
  · rw [e1]
    have := h.xn
    cases x with
    | none => trivial
    | some p =>
      have hb := beg_lo p.1
      exact Has.put_other this (.inr (.inl (by rw [hdr_len]; omega)))
theorem Inv.Write_not (h : Inv f S x y) {g a : Int} {l : List UInt8} (hd : (S.Write g a l).1.down = false) (he : S.errW g a l.length ≠ 0) : Inv f (S.Write g a l).1 x y := by
  unfold St.Write at hd ⊢
  simp only [if_neg he] at hd ⊢
  exact h.count hd
theorem Inv.Write_good {g a : Int} {l : List UInt8} (he : (S.Write g a l).2 = 0) (h : Inv f (S.write g.toNat a.toNat l) x y) : Inv f (S.Write g a l).1 x y := by
  obtain ⟨hd, h0⟩ := Write_good_up he
  unfold St.Write at hd ⊢
  simp only [if_pos h0] at hd ⊢
  exact h.count hd
theorem Has.Write_good {g a : Int} {l m : List UInt8} {b : Nat} (he : (S.Write g a l).2 = 0) (h : Has (S.write g.toNat a.toNat l).now f b m) : Has (S.Write g a l).1.now f b m := by
  obtain ⟨hd, h0⟩ := Write_good_up he
  unfold St.Write at hd ⊢
  simp only [if_pos h0] at hd ⊢
  obtain ⟨_, h1, _⟩ := count_up hd
  rw [h1]
  exact h

/-! A cell in memory, and its file. -/
/-- What its header names. -/
def Cl.nm (c : Cl) : Nm := if c.slot = 0 then none else some (c.slot, c.value)
/-- The file names what A allows; while the machine is up, now what the cell says, and durably, too, if it is sure. -/
structure Rel (f : Nat) (S : St) (c : Cl) (A : Nm → Prop) : Prop where
  file : c.file = f
  lt : f < 16
  can : Can f S A
  up : S.down = false → ∃ y, Inv f S c.nm y ∧ A c.nm ∧ A y ∧ (c.sure = true ∨ c.slot = 0 → y = c.nm)
variable {c : Cl}
theorem Rel.ok (h : Rel f S c A) : S.ok := h.can.ok
theorem Rel.mono (h : Rel f S c A) (hb : ∀ x, A x → B x) : Rel f S c B :=
  ⟨h.file, h.lt, h.can.mono hb, fun hd => by obtain ⟨y, h1, h2, h3, h4⟩ := h.up hd; exact ⟨y, h1, hb _ h2, hb _ h3, h4⟩⟩
theorem Rel.turn (h : Rel f S c A) (hk : T.ok) (e1 : T.now = S.now) (e2 : T.last = S.last) (e3 : T.down = S.down) : Rel f T c A := by
  have go : ∀ {x y}, Inv f S x y → Inv f T x y := fun h => h.same hk (by rw [e1]; exact ⟨rfl, fun _ => rfl⟩) (by rw [e2]; exact ⟨rfl, fun _ => rfl⟩)
  refine ⟨h.file, h.lt, ?_, fun hd => ?_⟩
  · obtain ⟨x, y, h, ha, hb, hd⟩ := h.can
    exact ⟨x, y, go h, ha, hb, fun e => hd (e3 ▸ e)⟩
  · obtain ⟨y, h1, h2⟩ := h.up (e3 ▸ hd)
    exact ⟨y, go h1, h2⟩
theorem Rel.lose (h : Rel f S c A) {n : Int} (hn : n ≤ 9223372036854775807) : Rel f (S.lose n) c A := h.turn (h.ok.lose hn) rfl rfl rfl
theorem Rel.arm (h : Rel f S c A) {n : Int} {ks : List Int} (hn : n ≤ 9223372036854775807) (hk : ks.length ≤ 1000000000) : Rel f (S.arm n ks) c A := h.turn (h.ok.arm hn hk) rfl rfl rfl
/-- The machine went down, or nothing that counts turned. -/
theorem Rel.of (h : Rel f S c A) (hc : Can f T B) (hab : ∀ z, A z → B z) (hu : T.down = false → S.down = false) (hi : T.down = false → ∀ y, Inv f S c.nm y → Inv f T c.nm y) : Rel f T c B :=
  ⟨h.file, h.lt, hc, fun hd => by obtain ⟨y, h1, h2, h3, h4⟩ := h.up (hu hd); exact ⟨y, hi hd y h1, hab _ h2, hab _ h3, h4⟩⟩

theorem nm_slots {C : Con} (h : Head C f c.nm) (s : List UInt8) (hs : s.length ≤ 65536) : ∀ j v, c.nm = some (j, v) → beg j + v.length ≤ beg (othK c.slot) ∨ beg (othK c.slot) + s.length ≤ beg j := by
  intro j v e
  rw [e] at h
  obtain ⟨_, hk, hv⟩ := h
  have ej : c.slot = j := by
    unfold Cl.nm at e
    split at e
    · cases e
    · injection e with e
      injection e
  rw [ej]
  unfold othK beg
  rcases hk with hk | hk
  · subst hk
    simp
    omega
  · subst hk
    simp
    omega

/-- It is now what it is durably. -/
def Fast (f : Nat) (S : St) (c : Cl) : Prop := S.down = false → Inv f S c.nm c.nm

theorem Rel.settle (h : Rel f S c A) : Rel f (c.settle S).2.2 (c.settle S).2.1 A ∧ ((c.settle S).1 = 0 → Fast f (c.settle S).2.2 (c.settle S).2.1) ∧ ((c.settle S).1 = 0 → c.sure = false → c.slot ≠ 0 → (c.settle S).2.2.down = false) := by
  have hfile := h.file
  unfold Cl.settle
  split
  · rename_i h1
    refine ⟨h, fun _ hd => ?_, fun _ e1 e2 => ?_⟩
    · obtain ⟨y, k1, k2, k3, k4⟩ := h.up hd
      rwa [k4 h1] at k1
    · rcases h1 with h1 | h1
      · rw [h1] at e1
        cases e1
      · exact absurd h1 e2
  · rename_i h1
    have hs : c.sure = false := by
      cases hq : c.sure with
      | false => rfl
      | true => exact absurd (.inl hq) h1
    have h0 : c.slot ≠ 0 := fun e => h1 (.inr e)
    rw [h.file]
    have hcan := h.can.Sync (f : Int)
    by_cases he : (S.Sync (f : Int)).2 = 0
    · obtain ⟨xs, ys, hi, ha, hb, _⟩ := h.can
      have hup : S.down = false := (h.ok.synced he).2.1
      obtain ⟨y, k1, k2, k3, k4⟩ := h.up hup
      obtain ⟨g1, g2⟩ := k1.Sync_good he
      exact ⟨⟨rfl, h.lt, hcan, fun _ => ⟨_, g1, k2, k2, fun _ => rfl⟩⟩, fun _ _ => g1, fun _ _ _ => g2⟩
    · have hb : ((S.Sync (f : Int)).2 == 0) = false := by simpa using he
      rw [hb]
      refine ⟨⟨rfl, h.lt, hcan, fun hd => ?_⟩, fun e => absurd e he, fun e => absurd e he⟩
      have hd' : (S.Sync (f : Int)).1.down = false := hd
      obtain ⟨y, k1, k2, k3, k4⟩ := h.up (count_up (sync_up hd')).1
      exact ⟨y, k1.Sync_not hd' (.inl he), k2, k3, fun e => by rcases e with e | e; cases e; exact absurd e h0⟩

theorem Rel.replace (h : Rel f S c A) (hf : Fast f S c) (s : List UInt8) (hs : s.length ≤ 65536) (hab : ∀ z, A z → B z) (hB : ∀ k, B (some (k, s))) :
    Rel f (c.replace S s).2.2 (c.replace S s).2.1 B ∧ ((c.replace S s).1 = 0 → (c.replace S s).2.1 = ⟨c.file, othK c.slot, s, false⟩) := by
  unfold Cl.replace
  have hf0 : isF (f : Int) = true := by unfold isF; have := h.lt; exact decide_eq_true (by omega)
  have hk := othK_two c.slot
  rw [h.file]
  generalize hW1 : S.Write (f : Int) (beg (othK c.slot) : Nat) s = W1
  have can1 : Can f W1.1 A := by
    rw [← hW1]
    refine h.can.Write fun he => ?_
    obtain ⟨hd, _⟩ := errW_ok he
    obtain ⟨y, _, k2, _⟩ := h.up hd
    have := (hf hd).write_slot (k := othK c.slot) (s := s) h.lt hs (nm_slots (hf hd).hx s hs)
    exact ⟨_, _, this.1, k2, k2, fun e => by rfl⟩
  by_cases e1 : W1.2 ≠ 0
  · rw [if_pos e1]
    refine ⟨h.of (can1.mono hab) hab (fun hd => ?_) (fun hd y k => ?_), fun e => absurd e e1⟩
    · subst hW1
      exact write_up hd
    · subst hW1
      exact k.Write_not hd (Write_bad_up e1 hd)
  rw [if_neg e1]
  have e1' : W1.2 = 0 := by simpa using e1
  have good1 : Inv f W1.1 c.nm c.nm ∧ Has W1.1.now f (beg (othK c.slot)) s ∧ W1.1.down = false ∧ A c.nm := by
    subst hW1
    obtain ⟨hd, h0⟩ := Write_good_up e1'
    have hup := (errW_ok h0).1
    obtain ⟨y, _, k2, _⟩ := h.up hup
    have := (hf hup).write_slot (k := othK c.slot) (s := s) h.lt hs (nm_slots (hf hup).hx s hs)
    exact ⟨Inv.Write_good e1' this.1, Has.Write_good e1' this.2, hd, k2⟩
  obtain ⟨i1, b1, d1, a1⟩ := good1
  have R1 : Rel f W1.1 c A := ⟨h.file, h.lt, can1, fun _ => ⟨_, i1, a1, a1, fun _ => rfl⟩⟩
  generalize hY1 : W1.1.Sync (f : Int) = Y1
  have can2 : Can f Y1.1 A := hY1 ▸ can1.Sync _
  by_cases e2 : Y1.2 ≠ 0
  · rw [if_pos e2]
    refine ⟨R1.of (can2.mono hab) hab (fun hd => d1) (fun hd y k => ?_), fun e => absurd e e2⟩
    subst hY1
    exact k.Sync_not hd (.inl e2)
  rw [if_neg e2]
  have e2' : Y1.2 = 0 := by simpa using e2
  have good2 : Inv f Y1.1 c.nm c.nm ∧ Has Y1.1.now f (beg (othK c.slot)) s ∧ Has Y1.1.last f (beg (othK c.slot)) s ∧ Y1.1.down = false := by
    subst hY1
    have g := i1.Sync_good e2'
    have g2 := b1.Sync_good i1.ok e2'
    exact ⟨g.1, g2.1, g2.2, g.2⟩
  obtain ⟨i2, b2, l2, d2⟩ := good2
  have R2 : Rel f Y1.1 c A := ⟨h.file, h.lt, can2, fun _ => ⟨_, i2, a1, a1, fun _ => rfl⟩⟩
  have hw := i2.write_head (k := othK c.slot) (s := s) h.lt hs hk b2 l2
  generalize hW2 : Y1.1.Write (f : Int) 0 (hdr (othK c.slot) s.length) = W2
  have can3 : Can f W2.1 B := by
    rw [← hW2]
    refine (can2.mono hab).Write fun he => ?_
    exact ⟨_, _, hw, hB _, hab _ a1, fun e => by rw [(write_now _ _ _ _).2.1, d2] at e; cases e⟩
  by_cases e3 : W2.2 ≠ 0
  · rw [if_pos e3]
    refine ⟨R2.of can3 hab (fun hd => d2) (fun hd y k => ?_), fun e => absurd e e3⟩
    subst hW2
    exact k.Write_not hd (Write_bad_up e3 hd)
  rw [if_neg e3]
  have e3' : W2.2 = 0 := by simpa using e3
  refine ⟨⟨rfl, h.lt, can3, fun _ => ⟨c.nm, ?_, ?_, hab _ a1, fun e => ?_⟩⟩, fun _ => rfl⟩
  · have : (⟨(f : Int), othK c.slot, s, false⟩ : Cl).nm = some (othK c.slot, s) := by unfold Cl.nm; rw [if_neg (by rcases hk with hk | hk <;> (show ¬ othK c.slot = 0; omega))]
    rw [this]
    subst hW2
    exact Inv.Write_good e3' hw
  · have : (⟨(f : Int), othK c.slot, s, false⟩ : Cl).nm = some (othK c.slot, s) := by unfold Cl.nm; rw [if_neg (by rcases hk with hk | hk <;> (show ¬ othK c.slot = 0; omega))]
    rw [this]
    exact hB _
  · rcases e with e | e
    · cases e
    · have : othK c.slot = 0 := e
      omega

/-- A set: whether it returns OK or not. -/
theorem Rel.set (h : Rel f S c A) (s : List UInt8) (hs : s.length ≤ 65536) (hab : ∀ z, A z → B z) (hB : ∀ k, B (some (k, s))) :
    Rel f (c.set S s).2.2 (c.set S s).2.1 B ∧ ((c.set S s).1 = 0 → (c.set S s).2.2.down = false ∧ (c.set S s).2.1.slot ≠ 0 ∧ (c.set S s).2.1.value = s ∧ Rel f (c.set S s).2.2 (c.set S s).2.1 (fun z => ∃ k, z = some (k, s))) := by
  unfold Cl.set
  rw [if_neg (by omega)]
  obtain ⟨h1, h2, _⟩ := h.settle
  by_cases e1 : (c.settle S).1 ≠ 0
  · rw [if_pos e1]
    exact ⟨h1.mono hab, fun e => absurd e e1⟩
  rw [if_neg e1]
  generalize c.settle S = X at *
  have e1' : X.1 = 0 := by simpa using e1
  obtain ⟨h3, h4⟩ := h1.replace (h2 e1') s hs hab hB
  by_cases e2 : (X.2.1.replace X.2.2 s).1 ≠ 0
  · rw [if_pos e2]
    exact ⟨h3, fun e => absurd e e2⟩
  rw [if_neg e2]
  have h5 := h4 (by simpa using e2)
  generalize X.2.1.replace X.2.2 s = Y at *
  have hk := othK_two X.2.1.slot
  have s0 : Y.2.1.slot ≠ 0 := by rw [h5]; show othK X.2.1.slot ≠ 0; omega
  obtain ⟨h6, h7, h8⟩ := h3.settle
  have hfl := Y.2.1.settle_file Y.2.2
  refine ⟨h6, fun e => ?_⟩
  have hd := h8 e (by rw [h5]) s0
  have hv : (Y.2.1.settle Y.2.2).2.1.value = s := by rw [hfl.2.2, h5]
  have hs1 : (Y.2.1.settle Y.2.2).2.1.slot ≠ 0 := by rw [hfl.2.1]; exact s0
  have hn : (Y.2.1.settle Y.2.2).2.1.nm = some ((Y.2.1.settle Y.2.2).2.1.slot, s) := by
    unfold Cl.nm
    rw [if_neg hs1, hv]
  have hi := h7 e hd
  refine ⟨hd, hs1, hv, ⟨h6.file, h6.lt, ⟨_, _, hi, ⟨_, hn⟩, ⟨_, hn⟩, fun _ => rfl⟩, fun _ => ⟨_, hi, ⟨_, hn⟩, ⟨_, hn⟩, fun _ => rfl⟩⟩⟩

/-! Cells in other files. -/
theorem Rel.Sync_other (h : Rel f S c A) {g : Int} (hg : g ≠ f) : Rel f (S.Sync g).1 c A :=
  h.of (h.can.Sync g) (fun _ h => h) (fun hd => (count_up (sync_up hd)).1) fun hd y k => k.Sync_not hd (.inr hg)
theorem Rel.Write_other (h : Rel f S c A) {g : Int} (hg : g ≠ f) (a : Int) (l : List UInt8) : Rel f (S.Write g a l).1 c A :=
  h.of (h.can.Write_other hg a l) (fun _ h => h) write_up fun hd y k => k.Write_other hg a l hd
theorem Rel.settle_other (h : Rel f S c A) (d : Cl) (hg : d.file ≠ f) : Rel f (d.settle S).2.2 c A := by
  unfold Cl.settle
  split
  · exact h
  · exact h.Sync_other hg
theorem Rel.replace_other (h : Rel f S c A) (d : Cl) (hg : d.file ≠ f) (s : List UInt8) : Rel f (d.replace S s).2.2 c A := by
  have h1 := h.Write_other hg (beg (othK d.slot) : Nat) s
  have h2 := h1.Sync_other hg
  have h3 := h2.Write_other hg 0 (hdr (othK d.slot) s.length)
  unfold Cl.replace
  split
  · exact h1
  · split
    · exact h2
    · split
      · exact h3
      · exact h3
theorem Rel.other (h : Rel f S c A) (d : Cl) (hg : d.file ≠ f) (s : List UInt8) : Rel f (d.set S s).2.2 c A := by
  have h1 := h.settle_other d hg
  have g1 : (d.settle S).2.1.file ≠ f := by rw [(d.settle_file S).1]; exact hg
  have h2 := h1.replace_other _ g1 s
  have g2 : ((d.settle S).2.1.replace (d.settle S).2.2 s).2.1.file ≠ f := by rw [Cl.replace_file]; exact g1
  have h3 := h2.settle_other _ g2
  unfold Cl.set
  split
  · exact h
  · split
    · exact h1
    · split
      · exact h2
      · exact h3

/-! Opening. -/
theorem read_first (C : Con) (f n : Nat) (h : C.byte f 0 = 0) : (C.read f 0 n).getD 0 0 = 0 := by
  rw [List.getD_eq_getElem?_getD]
  by_cases hi : 0 < min n (C.size f - 0)
  · rw [Con.read_get _ _ _ _ _ hi]
    exact h
  · rw [List.getElem?_eq_none (by rw [Con.read_len]; omega)]
    rfl
theorem opn_of {z : Nm} (hd : T.down = false) (hf : f < 16) (h1 : Head T.now f z) (h2 : Body T.now f z) : ∃ c, opn T f = (0, some c) ∧ c.nm = z ∧ c.file = f ∧ c.sure = false := by
  have hf0 : isF (f : Int) = true := by unfold isF; exact decide_eq_true (by omega)
  have hr : T.Read f 0 5 = (T.now.read f 0 5, 0) := Read_good hd hf0 (by omega) (by omega)
  unfold opn
  rw [hr]
  cases z with
  | none =>
    refine ⟨⟨f, 0, [], false⟩, ?_, rfl, rfl, rfl⟩
    rw [if_neg (by simp), if_pos (read_first _ _ _ h1)]
  | some p =>
    obtain ⟨k, v⟩ := p
    obtain ⟨hh, hk, hv⟩ := h1
    have e := hh.read
    rw [hdr_len] at e
    rw [e]
    have eb := Has.read h2
    have es := hsize_hdr (k := k) hv
    have hr2 : T.Read f (beg k : Nat) (hsize (hdr k v.length) : Nat) = (v, 0) := by
      rw [es, Read_good hd hf0 (by omega) (by omega)]
      exact congrArg (·, (0 : Int)) eb
    have e0 : (hdr k v.length).getD 0 0 = UInt8.ofNat k := rfl
    have en : (UInt8.ofNat k).toNat = k := by rcases hk with rfl | rfl <;> rfl
    refine ⟨⟨f, k, v, false⟩, ?_, by unfold Cl.nm; rw [if_neg (by show ¬ k = 0; omega)], rfl, rfl⟩
    simp only [e0, en, hr2]
    rw [if_neg (by simp), if_neg (by rcases hk with rfl | rfl <;> decide), if_neg (by rw [hdr_len, es]; rcases hk with rfl | rfl <;> simp <;> omega), if_neg (by simp), if_neg (by rw [es]; simp)]

/-- What stands there behind a restart. -/
theorem Can.again (h : Can f S A) (hf : f < 16) (ks : List Int) : ∃ c, opn (S.crash ks).start f = (0, some c) ∧ A c.nm ∧ Rel f (S.crash ks).start c (fun z => z = c.nm) := by
  have hi : ∃ z, Inv f (S.crash ks).start z z ∧ A z := by
    obtain ⟨x, y, h1, ha, hb, hd⟩ := h
    have st : ∀ {T : St} {z : Nm}, Inv f T z z → Inv f T.start z z := fun k => k.same k.ok.start ⟨rfl, fun _ => rfl⟩ ⟨rfl, fun _ => rfl⟩
    by_cases hs : S.down = true
    · rw [crash_down hs]
      rw [hd hs] at h1
      exact ⟨x, st h1, ha⟩
    · rcases h1.crash (by simpa using hs) ks with h2 | h2
      · exact ⟨x, st h2, ha⟩
      · exact ⟨y, st h2, hb⟩
  obtain ⟨z, hi, ha⟩ := hi
  have hd : (S.crash ks).start.down = false := rfl
  obtain ⟨c, h1, h2, h3, h4⟩ := opn_of hd hf hi.hx hi.xn
  subst h2
  exact ⟨c, h1, ha, ⟨h3, hf, ⟨_, _, hi, rfl, rfl, fun _ => rfl⟩, fun _ => ⟨_, hi, rfl, rfl, fun _ => rfl⟩⟩⟩

/-- A new disk. -/
theorem opn_new (hf : f < 16) : opn St.new f = (0, some ⟨f, 0, [], false⟩) ∧ Rel f St.new ⟨f, 0, [], false⟩ (fun z => z = none) := by
  have hi : Inv f St.new none none := Inv.both St.new_ok rfl rfl trivial trivial
  have hf0 : isF (f : Int) = true := by unfold isF; exact decide_eq_true (by omega)
  have hr : St.new.Read f 0 5 = (St.new.now.read f 0 5, 0) := Read_good rfl hf0 (by omega) (by omega)
  refine ⟨?_, ⟨rfl, hf, ⟨_, _, hi, rfl, rfl, fun _ => rfl⟩, fun _ => ⟨none, hi, rfl, rfl, fun _ => rfl⟩⟩⟩
  unfold opn
  rw [hr, if_neg (by simp), if_pos (read_first _ _ _ rfl)]

/-! Where nothing fails, a set returns OK. -/
structure Calm (S : St) : Prop where
  down : S.down = false
  calls : S.calls = 0
  lost : S.lost = 0
theorem Calm.Write (h : Calm S) {g a : Int} (hf : isF g = true) (ha : 0 ≤ a) (l : List UInt8) (hr : a + l.length ≤ 16777216) : (S.Write g a l).2 = 0 ∧ Calm (S.Write g a l).1 := by
  rw [Dsk.Write_good h.down h.calls hf ha l hr]
  obtain ⟨_, h2, h3⟩ := write_now S g.toNat a.toNat l
  exact ⟨rfl, h2.trans h.down, h3.trans h.calls, (write_lost _ _ _ _).trans h.lost⟩
theorem Calm.Sync (h : Calm S) {g : Int} (hf : isF g = true) : (S.Sync g).2 = 0 ∧ Calm (S.Sync g).1 := by
  have hc := count_none h.calls
  unfold St.Sync
  rw [hc, if_neg (by rw [h.down]; simp), if_neg (by rw [hf]; simp), if_neg (by rw [h.lost]; decide)]
  exact ⟨rfl, h.down, h.calls, h.lost⟩
theorem Calm.settle (h : Calm S) (hf : isF c.file = true) : (c.settle S).1 = 0 ∧ Calm (c.settle S).2.2 := by
  unfold Cl.settle
  split
  · exact ⟨rfl, h⟩
  · exact h.Sync hf
theorem Calm.replace (h : Calm S) (hf : isF c.file = true) (s : List UInt8) (hs : s.length ≤ 65536) : (c.replace S s).1 = 0 ∧ Calm (c.replace S s).2.2 := by
  have hb := beg_hi (othK c.slot)
  obtain ⟨e1, h1⟩ := h.Write hf (a := (beg (othK c.slot) : Nat)) (by omega) s (by omega)
  obtain ⟨e2, h2⟩ := h1.Sync hf
  obtain ⟨e3, h3⟩ := h2.Write hf (a := 0) (by omega) (hdr (othK c.slot) s.length) (by rw [hdr_len]; omega)
  unfold Cl.replace
  rw [if_neg (by simpa using e1), if_neg (by simpa using e2), if_neg (by simpa using e3)]
  exact ⟨rfl, h3⟩
theorem Calm.set (h : Calm S) (hf : isF c.file = true) (s : List UInt8) (hs : s.length ≤ 65536) : (c.set S s).1 = 0 ∧ Calm (c.set S s).2.2 := by
  obtain ⟨e1, h1⟩ := h.settle hf
  have hf1 : isF (c.settle S).2.1.file = true := by rw [(c.settle_file S).1]; exact hf
  obtain ⟨e2, h2⟩ := h1.replace hf1 s hs
  have hf2 : isF ((c.settle S).2.1.replace (c.settle S).2.2 s).2.1.file = true := by rw [Cl.replace_file]; exact hf1
  obtain ⟨e3, h3⟩ := h2.settle hf2
  unfold Cl.set
  rw [if_neg (by omega), if_neg (by simpa using e1), if_neg (by simpa using e2)]
  exact ⟨e3, h3⟩
end
end Dsk
end Go.Proofs.YtpogoalbnbekaaaDoor

namespace Go.Proofs.YtpogoalbnbekaaaDoor
open Go.RowKit Wire
set_option linter.unusedVariables false
set_option linter.unusedSimpArgs false
open Txt
namespace Dsk

/-- The five cells of a cell in block q; its disk is at p. -/
structure CellAt (w : World) (q p : Nat) (c : Cl) : Prop where
  k0 : w.cell? ⟨q, 0, none⟩ = some (ptr p)
  k1 : w.cell? ⟨q, 1, none⟩ = some (.int .i64 c.file)
  k2 : w.cell? ⟨q, 2, none⟩ = some (.int .i64 c.slot)
  k3 : w.cell? ⟨q, 3, none⟩ = some (str c.value)
  k4 : w.cell? ⟨q, 4, none⟩ = some (.bool c.sure)
  there : w.there q 0 5
/-- The offsets of the slots. -/
structure Off (w : World) : Prop where
  o0 : w.cell? ⟨0, 0, none⟩ = some (.int .i64 64)
  o1 : w.cell? ⟨0, 1, none⟩ = some (.int .i64 131072)

section
variable {w w' w0 : World} {q p : Nat} {c c' : Cl} {D : Own} {S S' : St}
theorem CellAt.lt (h : CellAt w q p c) : q < w.heap.size := World.block_lt_of_cell? w _ h.k0
theorem CellAt.free (h : CellAt w q p c) {j : Nat} (hj : j < 5) : w.frozen? ⟨q, j, none⟩ = false := by have := (h.there j hj).2; rwa [Nat.zero_add] at this
theorem CellAt.isSome (h : CellAt w q p c) {j : Nat} (hj : j < 5) : (w.cell? ⟨q, j, none⟩).isSome = true := by have := (h.there j hj).1; rwa [Nat.zero_add] at this
theorem CellAt.still (h : CellAt w q p c) (e : w'.heap[q]? = w.heap[q]?) : CellAt w' q p c :=
  ⟨(World.cell?_of_block (a := ⟨q, 0, none⟩) e).trans h.k0, (World.cell?_of_block (a := ⟨q, 1, none⟩) e).trans h.k1, (World.cell?_of_block (a := ⟨q, 2, none⟩) e).trans h.k2,
    (World.cell?_of_block (a := ⟨q, 3, none⟩) e).trans h.k3, (World.cell?_of_block (a := ⟨q, 4, none⟩) e).trans h.k4, there_keep h.there e⟩
theorem CellAt.below (h : CellAt w q p c) (b : Below w.heap.size w w') : CellAt w' q p c := h.still (b.block q h.lt)
theorem CellAt.only {F : Nat → Prop} (h : CellAt w q p c) (o : Only F w w') (hF : ¬ F q) : CellAt w' q p c := h.still (o.block q h.lt hF)
theorem CellAt.drew (h : CellAt w q p c) : CellAt w.drew q p c := h.still rfl
theorem CellAt.set_sure (h : CellAt w q p c) (b : Bool) : CellAt (w.setCell ⟨q, 4, none⟩ (.bool b)) q p { c with sure := b } :=
  ⟨by rw [set_cell_other (by omega)]; exact h.k0, by rw [set_cell_other (by omega)]; exact h.k1, by rw [set_cell_other (by omega)]; exact h.k2, by rw [set_cell_other (by omega)]; exact h.k3, set_cell_same (h.isSome (by omega)), there_put h.there _ _⟩
theorem CellAt.set_value (h : CellAt w q p c) (l : List UInt8) : CellAt (w.setCell ⟨q, 3, none⟩ (str l)) q p { c with value := l } :=
  ⟨by rw [set_cell_other (by omega)]; exact h.k0, by rw [set_cell_other (by omega)]; exact h.k1, by rw [set_cell_other (by omega)]; exact h.k2, set_cell_same (h.isSome (by omega)), by rw [set_cell_other (by omega)]; exact h.k4, there_put h.there _ _⟩
theorem CellAt.set_slot (h : CellAt w q p c) (k : Nat) : CellAt (w.setCell ⟨q, 2, none⟩ (.int .i64 k)) q p { c with slot := k } :=
  ⟨by rw [set_cell_other (by omega)]; exact h.k0, by rw [set_cell_other (by omega)]; exact h.k1, set_cell_same (h.isSome (by omega)), by rw [set_cell_other (by omega)]; exact h.k3, by rw [set_cell_other (by omega)]; exact h.k4, there_put h.there _ _⟩

theorem Off.lt (h : Off w) : 0 < w.heap.size := World.block_lt_of_cell? w _ h.o0
theorem Off.still (h : Off w) (e : w'.heap[0]? = w.heap[0]?) : Off w' :=
  ⟨(World.cell?_of_block (a := ⟨0, 0, none⟩) e).trans h.o0, (World.cell?_of_block (a := ⟨0, 1, none⟩) e).trans h.o1⟩
theorem Off.below {B : Nat} (h : Off w) (b : Below B w w') (hB : 0 < B) : Off w' := h.still (b.block _ hB)
theorem Off.only {F : Nat → Prop} (h : Off w) (o : Only F w w') (hF : ¬ F 0) : Off w' := h.still (o.block _ h.lt hF)

/-- A disk and one of its cells, as a call that began in w0 has them. -/
structure CC (D : Own) (q : Nat) (w0 w : World) (S : St) (c : Cl) : Prop where
  ok : S.ok
  disk : ∃ D', DiskAt w D' S ∧ D'.p = D.p ∧ ∀ b, D'.has b → D.has b ∨ w0.heap.size ≤ b
  cell : CellAt w q D.p c
  off : Off w
  only : Only (fun b => D.has b ∨ b = q) w0 w
  apart : ¬ D.has q
  old : q < w0.heap.size
  goff : ¬ D.has 0 ∧ q ≠ 0 ∧ 0 < w0.heap.size

theorem CC.init (hd : DiskAt w D S) (hk : S.ok) (hc : CellAt w q D.p c) (ho : Off w) (ha : ¬ D.has q) (hg : ¬ D.has 0) (hq : q ≠ 0) : CC D q w w S c :=
  ⟨hk, ⟨D, hd, rfl, fun _ h => .inl h⟩, hc, ho, Only.refl _ _, ha, hc.lt, hg, hq, ho.lt⟩
theorem CC.below (h : CC D q w0 w S c) (b : Below w.heap.size w w') : CC D q w0 w' S c := by
  obtain ⟨hk, ⟨D', hd, hp, hh⟩, hc, ho, hn, ha, hl, hg, hq, hgl⟩ := h
  exact ⟨hk, ⟨D', hd.below b, hp, hh⟩, hc.below b, ho.below b ho.lt, hn.same (Only.of_below b), ha, hl, hg, hq, hgl⟩
theorem CC.step {f : FuncId} {args : Array Value} {R : Ending} (h : CC D q w0 w S c) (hk : S'.ok) (hc : ∀ D', D'.p = D.p → DiskAt w D' S → Calls Tryd.prog f args w fun e w' => e = R ∧ Post D' S' w w') :
    Calls Tryd.prog f args w fun e w' => e = R ∧ CC D q w0 w' S' c := by
  obtain ⟨_, ⟨D', hd, hp, hh⟩, hcl, ho, hn, ha, hl, hg, hq, hgl⟩ := h
  refine (hc D' hp hd).mono ?_
  rintro e w' ⟨he, ⟨D2, hd2, hp2, hh2⟩, ho2⟩
  have hs := hn.size
  have nq : ¬ D'.has q := fun e => by rcases hh _ e with h1 | h1; exact ha h1; omega
  have ng : ¬ D'.has 0 := fun e => by rcases hh _ e with h1 | h1; exact hg h1; omega
  refine ⟨he, hk, ⟨D2, hd2, hp2.trans hp, fun b hb => ?_⟩, hcl.only ho2 nq, ho.only ho2 ng, hn.trans ho2 (fun x hx => ?_), ha, hl, hg, hq, hgl⟩
  · rcases hh2 b hb with h1 | h1
    · exact hh b h1
    · exact .inr (by omega)
  · rcases hh x hx with h1 | h1
    · exact .inl (.inl h1)
    · exact .inr h1
/-- A call that begins with just this disk. -/
theorem CC.call {f : FuncId} {args : Array Value} {R : Ending} (h : CC D q w0 w S c) (k : ∀ D', D'.p = D.p → DiskAt w D' S → S.ok → CellAt w q D'.p c → Off w → ¬ D'.has q → ¬ D'.has 0 → q ≠ 0 → Calls Tryd.prog f args w fun e w' => e = R ∧ CC D' q w w' S' c') :
    Calls Tryd.prog f args w fun e w' => e = R ∧ CC D q w0 w' S' c' := by
  obtain ⟨hk, ⟨D', hd, hp, hh⟩, hcl, ho, hn, ha, hl, hg, hq, hgl⟩ := h
  have hs := hn.size
  have nq : ¬ D'.has q := fun e => by rcases hh _ e with h1 | h1; exact ha h1; omega
  have ng : ¬ D'.has 0 := fun e => by rcases hh _ e with h1 | h1; exact hg h1; omega
  refine (k D' hp hd hk (by rw [hp]; exact hcl) ho nq ng hq).mono ?_
  rintro e w' ⟨he, ⟨hk2, ⟨D2, hd2, hp2, hh2⟩, hcl2, ho2, hn2, _, _, _, _, _⟩⟩
  refine ⟨he, hk2, ⟨D2, hd2, hp2.trans hp, fun b hb => ?_⟩, by rw [← hp]; exact hcl2, ho2, hn.trans hn2 (fun x hx => ?_), ha, hl, hg, hq, hgl⟩
  · rcases hh2 b hb with h1 | h1
    · exact hh b h1
    · exact .inr (by omega)
  · rcases hx with h1 | h1
    · rcases hh x h1 with h2 | h2
      · exact .inl (.inl h2)
      · exact .inr h2
    · exact .inl (.inr h1)
/-- What began a little earlier. -/
theorem CC.ahead {w1 : World} (h : CC D q w1 w S c) (b : Below w0.heap.size w0 w1) (hq : q < w0.heap.size) (hg : 0 < w0.heap.size) : CC D q w0 w S c := by
  obtain ⟨hk, ⟨D', hd, hp, hh⟩, hcl, ho, hn, ha, hl, hgg, hq2, hgl⟩ := h
  have hs := b.size
  exact ⟨hk, ⟨D', hd, hp, fun x hx => by rcases hh x hx with h1 | h1; exact .inl h1; exact .inr (by omega)⟩, hcl, ho, (Only.of_below b).same hn, ha, hq, hgg, hq2, hg⟩
theorem CC.put {i : Nat} {v : Value} (h : CC D q w0 w S c) (hc : CellAt (w.setCell ⟨q, i, none⟩ v) q D.p c') : CC D q w0 (w.setCell ⟨q, i, none⟩ v) S c' := by
  obtain ⟨hk, ⟨D', hd, hp, hh⟩, _, ho, hn, ha, hl, hg, hq, hgl⟩ := h
  have o : Only (fun b => b = q) w (w.setCell ⟨q, i, none⟩ v) := Only.set _ _ _ _ rfl
  have hs := hn.size
  refine ⟨hk, ⟨D', hd.only o (fun b hb e => ?_), hp, hh⟩, hc, ho.only o (fun e => hq e.symm), hn.trans o (fun x hx => .inl (.inr hx)), ha, hl, hg, hq, hgl⟩
  subst e
  rcases hh _ hb with h1 | h1
  · exact ha h1
  · omega

theorem CC.sync (h : CC D q w0 w S c) (f : Int) : Calls Tryd.prog 54 #[ptr D.p, .int .i64 f] w fun e w' => e = .returned (.int .i64 (S.Sync f).2) ∧ CC D q w0 w' (S.Sync f).1 c :=
  h.step (h.ok.Sync f) fun D' hp hd => by rw [← hp]; exact Sync_any w D' S hd h.ok f
theorem CC.write (h : CC D q w0 w S c) (f a : Int) (s : ByteArray) (hs : s.size ≤ maxLen) : Calls Tryd.prog 23 #[ptr D.p, .int .i64 f, .int .i64 a, .string s] w fun e w' => e = .returned (.int .i64 (S.Write f a (bl s)).2) ∧ CC D q w0 w' (S.Write f a (bl s)).1 c :=
  h.step (h.ok.Write f a (bl s)) fun D' hp hd => by rw [← hp]; exact Write_any w D' S hd h.ok f a s hs
end

theorem nm_some {c : Cl} {k : Nat} {v : List UInt8} (h : c.nm = some (k, v)) : c.slot ≠ 0 ∧ c.value = v := by
  unfold Cl.nm at h
  split at h
  · cases h
  · rename_i h0
    injection h with h
    injection h with h1 h2
    exact ⟨h0, h2⟩
theorem nm_none {c : Cl} (h : c.nm = none) : c.slot = 0 := by
  unfold Cl.nm at h
  split at h
  · assumption
  · cases h

theorem bne_of {a b : Int} (h : (a == b) = false) : (a != b) = true := by rw [bne, h]; rfl
theorem otherSlot_any (k : Nat) (w : World) : Calls Tryd.prog 80 #[.int .i64 k] w fun e w' => e = .returned (.int .i64 (othK k : Nat)) ∧ w = w' := by
  unfold othK
  by_cases h : k = 1
  · subst h
    rw [if_pos rfl]
    go_enter Tryd.func80, Tryd.ntmps80
    go_wp2_with fail
    go_ret
    exact ⟨rfl, rfl⟩
  · rw [if_neg h]
    have hq : ((k : Int) == 1) = false := beq_eq_false_iff_ne.2 (by omega)
    clear h
    go_enter Tryd.func80, Tryd.ntmps80
    go_wp2_with fail
    go_ret
    exact ⟨rfl, rfl⟩
theorem offset_any {w : World} (h : Off w) {k : Nat} (hk : k = 1 ∨ k = 2) : Calls Tryd.prog 71 #[.int .i64 k] w fun e w' => e = .returned (.int .i64 (beg k : Nat)) ∧ w = w' := by
  have h0 := h.o0
  have h1 := h.o1
  clear h
  rcases hk with rfl | rfl
  · rw [show beg 1 = 64 from rfl]
    go_enter Tryd.func71, Tryd.ntmps71
    go_wp2_with fail
    go_ret
    exact ⟨rfl, rfl⟩
  · rw [show beg 2 = 131072 from rfl]
    go_enter Tryd.func71, Tryd.ntmps71
    go_wp2_with fail
    go_ret
    exact ⟨rfl, rfl⟩

section
variable {w w' w0 : World} {q p : Nat} {c c' : Cl} {D : Own} {S S' : St}
/-- What the regions of a cell's calls read. -/
abbrev Two0 (q p : Nat) (f : Int) (w : World) : Prop := w.cell? ⟨q, 0, none⟩ = some (ptr p) ∧ w.cell? ⟨q, 1, none⟩ = some (.int .i64 f)
theorem CellAt.two (h : CellAt w q p c) : Two0 q p c.file w := ⟨h.k0, h.k1⟩

set_option maxHeartbeats 1000000 in
theorem settle_any' (h : CC D q w0 w S c) : Calls Tryd.prog 74 #[ptr q] w fun e w' => e = .returned (.int .i64 (c.settle S).1) ∧ CC D q w0 w' (c.settle S).2.2 (c.settle S).2.1 := by
  obtain ⟨k0, k1, k2, k3, k4, ht⟩ := h.cell
  clear ht k3
  have H := Lib.hid h
  clear h
  obtain ⟨R, hR⟩ : ∃ R, R = c.settle S := ⟨_, rfl⟩
  rw [← hR]
  have HRR := Lib.hid hR
  clear hR
  cases hs : c.sure with
  | true =>
    rw [hs] at k4
    have e : R = (0, c, S) := by rw [HRR.out]; unfold Cl.settle; rw [if_pos (.inl hs)]
    subst e
    clear hs HRR
    go_enter Tryd.func74, Tryd.ntmps74
    go_wp2_with fail
    go_ret
    exact ⟨rfl, H.out⟩
  | false =>
    rw [hs] at k4
    by_cases h0 : c.slot = 0
    · have e : R = (0, c, S) := by rw [HRR.out]; unfold Cl.settle; rw [if_pos (.inr h0)]
      subst e
      rw [h0] at k2
      clear hs HRR
      go_enter Tryd.func74, Tryd.ntmps74
      go_wp2_with fail
      go_ret
      exact ⟨rfl, H.out⟩
    · have e : R = ((S.Sync c.file).2, { c with sure := (S.Sync c.file).2 == 0 }, (S.Sync c.file).1) := by rw [HRR.out]; unfold Cl.settle; rw [if_neg (by rw [hs]; simp [h0])]
      subst e
      have hq : ((c.slot : Int) == 0) = false := beq_eq_false_iff_ne.2 (by omega)
      have H0 := Lib.hid (H.out.below ((Below.refl _ w).drew))
      have HSY := Lib.hid (fun w' (h : CC D q w0 w' S c) => h.sync c.file)
      have HTW := Lib.hid (H.out.cell.two)
      generalize (S.Sync c.file).2 = er at *
      generalize (S.Sync c.file).1 = S1 at *
      clear hs HRR h0
      go_enter Tryd.func74, Tryd.ntmps74
      go_upto_region 3 with (fail)
      go_region_held3 (fun w' => Two0 q D.p c.file w') (first | exact H0.out.cell.two | exact h5.cell.two | go_keep)
        (first
          | (go_at_call 54; refine (HSY.out _ H0.out).mono ?_; rintro e w5 ⟨rfl, h5⟩))
      have f5 := h5.cell.free (j := 4) (by omega)
      have i5 := h5.cell.k4
      have H5 := Lib.hid h5
      clear h5
      go_wp2_with fail
      go_ret
      exact ⟨rfl, H5.out.put (H5.out.cell.set_sure _)⟩
end
end Dsk
end Go.Proofs.YtpogoalbnbekaaaDoor

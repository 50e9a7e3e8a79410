/- A journal as a plain value: Open, Append, Cut, and what holds of them. -/
import Derived.Test.YtpogoalbnbekaaaDoorJnA
namespace Go.Proofs.YtpogoalbnbekaaaDoor
set_option linter.unusedVariables false
set_option linter.unusedSimpArgs false
namespace Dsk

/-- The form of a list. -/
def form (L : List ByteArray) : List UInt8 := L.flatMap Wr.encText
/-- What the cell says of a list. -/
def noteB (L : List ByteArray) : List UInt8 := Wr.encInt (form L).length ++ Wr.encInt L.length
/-- A journal. -/
structure Jl where
  base : Int
  c : Cl
  L : List ByteArray
  bad : Bool

/-- The two numbers of a cell's value. -/
def pairOf (v : List UInt8) : Option (Nat × Nat) :=
  match Wr.num 59 v with
  | some (b, r) => match Wr.num 59 r with
    | some (n, []) => some (b, n)
    | _ => none
  | none => none
/-- The list of n strings whose form this is. -/
def textsOf (n : Nat) (l : List UInt8) : Option (List ByteArray) :=
  match Wr.rep Wr.text n l with
  | some (xs, []) => some (xs.map fun x => ⟨x.toArray⟩)
  | _ => none
/-- What Open reads of the log, once the cell is there. -/
def jread (S : St) (f : Int) (c : Cl) : Int × Option Jl :=
  if c.slot = 0 then (0, some ⟨f, c, [], false⟩) else
  match pairOf c.value with
  | none => (2, none)
  | some (b, n) =>
    if (S.Read f 0 b).2 ≠ 0 then ((S.Read f 0 b).2, none) else
    if (S.Read f 0 b).1.length ≠ b then (2, none) else
    match textsOf n (S.Read f 0 b).1 with
    | none => (2, none)
    | some L => (0, some ⟨f, c, L, false⟩)
def jload (S : St) (f : Int) : Int × Option Jl :=
  match opn S (f + 1) with
  | (e, none) => (e, none)
  | (_, some c) => jread S f c
/-- What Open does. -/
def jopn (S : St) (f : Int) : Int × Option Jl × St :=
  if f < 0 ∨ 14 < f then (1, none, S) else
  if (S.Sync f).2 ≠ 0 then ((S.Sync f).2, none, (S.Sync f).1) else
  if ((S.Sync f).1.Sync (f + 1)).2 ≠ 0 then (((S.Sync f).1.Sync (f + 1)).2, none, ((S.Sync f).1.Sync (f + 1)).1) else
  ((jload ((S.Sync f).1.Sync (f + 1)).1 f).1, (jload ((S.Sync f).1.Sync (f + 1)).1 f).2, ((S.Sync f).1.Sync (f + 1)).1)
def Jl.note (J : Jl) (S : St) (L : List ByteArray) : Int × Jl × St :=
  if (J.c.set S (noteB L)).1 ≠ 0 then ((J.c.set S (noteB L)).1, { J with c := (J.c.set S (noteB L)).2.1, bad := true }, (J.c.set S (noteB L)).2.2) else
  (0, { J with c := (J.c.set S (noteB L)).2.1, L := L }, (J.c.set S (noteB L)).2.2)
def Jl.append (J : Jl) (S : St) (l : List ByteArray) : Int × Jl × St :=
  if J.bad = true then (7, J, S) else
  if l = [] then (0, J, S) else
  if 1048576 < (form (J.L ++ l)).length then (6, J, S) else
  if (S.Write J.base ((form J.L).length : Int) (form l)).2 ≠ 0 then ((S.Write J.base ((form J.L).length : Int) (form l)).2, { J with bad := true }, (S.Write J.base ((form J.L).length : Int) (form l)).1) else
  if ((S.Write J.base ((form J.L).length : Int) (form l)).1.Sync J.base).2 ≠ 0 then (((S.Write J.base ((form J.L).length : Int) (form l)).1.Sync J.base).2, { J with bad := true }, ((S.Write J.base ((form J.L).length : Int) (form l)).1.Sync J.base).1) else
  J.note ((S.Write J.base ((form J.L).length : Int) (form l)).1.Sync J.base).1 (J.L ++ l)
def Jl.cut (J : Jl) (S : St) (n : Int) : Int × Jl × St :=
  if J.bad = true then (7, J, S) else
  if n < 0 ∨ (J.L.length : Int) < n then (1, J, S) else
  if n = J.L.length then (0, J, S) else
  J.note S (J.L.take n.toNat)

/-! The forms. -/
theorem form_append (a b : List ByteArray) : form (a ++ b) = form a ++ form b := by unfold form; rw [List.flatMap_append]
theorem form_nil : form [] = [] := rfl
theorem note_len (L : List ByteArray) : (noteB L).length ≤ 46 := by
  have h1 := Wr.encInt_len ((form L).length : Int)
  have h2 := Wr.encInt_len (L.length : Int)
  unfold noteB
  rw [List.length_append]
  omega
theorem encInt_nat (n : Nat) : Wr.encInt (n : Int) = Wire.dec n ++ [59] := by
  unfold Wr.encInt
  rw [if_pos (by omega)]
  rfl
theorem form_len (L : List ByteArray) : L.length ≤ (form L).length := by
  induction L with
  | nil => exact Nat.zero_le _
  | cons s L ih =>
    unfold form at ih ⊢
    rw [List.flatMap_cons, List.length_append, List.length_cons]
    have : 1 ≤ (Wr.encText s).length := by unfold Wr.encText; rw [List.length_append, List.length_cons]; omega
    omega
theorem form_each {L : List ByteArray} {s : ByteArray} (h : s ∈ L) : s.size ≤ (form L).length := by
  induction L with
  | nil => cases h
  | cons x L ih =>
    have e : form (x :: L) = Wr.encText x ++ form L := by unfold form; rw [List.flatMap_cons]
    rw [e, List.length_append]
    rcases List.mem_cons.1 h with rfl | h
    · have : s.size ≤ (Wr.encText s).length := by unfold Wr.encText; rw [List.length_append, List.length_cons, List.length_append, Wr.size_bytes]; omega
      omega
    · have := ih h
      omega
theorem pair_note {L : List ByteArray} (h : (form L).length ≤ 9223372036854775807) : pairOf (noteB L) = some ((form L).length, L.length) := by
  have hl := form_len L
  unfold pairOf noteB
  rw [encInt_nat, encInt_nat, List.append_assoc, List.singleton_append, Wr.num_dec (by decide) h]
  simp only
  rw [Wr.num_dec (by decide) (by omega)]
theorem texts_form {L : List ByteArray} (h : (form L).length ≤ 9223372036854775807) : textsOf L.length (form L) = some L := by
  have h1 := Wr.rep_texts L [] (fun s hs => Nat.le_trans (form_each hs) h)
  rw [List.append_nil] at h1
  unfold textsOf form
  rw [h1]
  simp only [List.map_map]
  congr 1
  exact (List.map_congr_left (fun _ _ => rfl)).trans (List.map_id L)

/-! What is there. -/
/-- The names of these lists. -/
def Nms (A : List ByteArray → Prop) : Nm → Prop
  | none => A []
  | some p => ∃ X, A X ∧ p.2 = noteB X
theorem Nms.mono {A B : List ByteArray → Prop} (h : ∀ X, A X → B X) (z : Nm) (k : Nms A z) : Nms B z := by
  cases z with
  | none => exact h _ k
  | some p =>
    obtain ⟨X, k1, k2⟩ := k
    exact ⟨X, h X k1, k2⟩
/-- The files name, now and durably, one of these lists, and all that they can name is there. -/
def CanJ (f : Nat) (S : St) (A : List ByteArray → Prop) : Prop :=
  ∃ B : List ByteArray → Prop, (∀ X, B X → A X) ∧ Can (f + 1) S (Nms B) ∧ ∀ X, B X → Dur f (form X) S ∧ (form X).length ≤ 1048576
/-- A journal that is open, and has not failed. -/
structure RelJ (f : Nat) (S : St) (J : Jl) : Prop where
  base : J.base = f
  lt : f ≤ 14
  good : J.bad = false
  cell : Rel (f + 1) S J.c (Nms (fun X => X = J.L))
  log : Dur f (form J.L) S
  room : (form J.L).length ≤ 1048576
  up : S.down = false

section
variable {f : Nat} {S T : St} {A B : List ByteArray → Prop} {J : Jl}
theorem CanJ.mono (h : CanJ f S A) (hb : ∀ X, A X → B X) : CanJ f S B := by
  obtain ⟨C, h1, h2, h3⟩ := h
  exact ⟨C, fun X k => hb X (h1 X k), h2, h3⟩
theorem CanJ.ok (h : CanJ f S A) : S.ok := by
  obtain ⟨C, _, h2, _⟩ := h
  exact h2.ok
theorem CanJ.crash (h : CanJ f S A) (ks : List Int) : CanJ f (S.crash ks) A := by
  obtain ⟨C, h1, h2, h3⟩ := h
  exact ⟨C, h1, h2.crash ks, fun X k => ⟨(h3 X k).1.crash ks, (h3 X k).2⟩⟩
theorem Can.turn {f : Nat} {A : Nm → Prop} (h : Can f S A) (hk : T.ok) (e1 : T.now = S.now) (e2 : T.last = S.last) (e3 : T.down = true → S.down = true) : Can f T A := by
  obtain ⟨x, y, h, ha, hb, hd⟩ := h
  exact ⟨x, y, h.same hk (by rw [e1]; exact ⟨rfl, fun _ => rfl⟩) (by rw [e2]; exact ⟨rfl, fun _ => rfl⟩), ha, hb, fun e => hd (e3 e)⟩
theorem CanJ.turn (h : CanJ f S A) (hk : T.ok) (e1 : T.now = S.now) (e2 : T.last = S.last) (e3 : T.down = true → S.down = true) : CanJ f T A := by
  obtain ⟨C, h1, h2, h3⟩ := h
  exact ⟨C, h1, h2.turn hk e1 e2 e3, fun X k => ⟨(h3 X k).1.turn hk e1 e2, (h3 X k).2⟩⟩
theorem CanJ.start (h : CanJ f S A) : CanJ f S.start A := h.turn h.ok.start rfl rfl (fun e => by cases e)
theorem CanJ.lose (h : CanJ f S A) {n : Int} (hn : n ≤ 9223372036854775807) : CanJ f (S.lose n) A := h.turn (h.ok.lose hn) rfl rfl (fun e => e)
theorem CanJ.arm (h : CanJ f S A) {n : Int} {ks : List Int} (hn : n ≤ 9223372036854775807) (hk : ks.length ≤ 1000000000) : CanJ f (S.arm n ks) A := h.turn (h.ok.arm hn hk) rfl rfl (fun e => e)
theorem CanJ.Sync (h : CanJ f S A) (g : Int) : CanJ f (S.Sync g).1 A := by
  obtain ⟨C, h1, h2, h3⟩ := h
  exact ⟨C, h1, h2.Sync g, fun X k => ⟨(h3 X k).1.Sync g, (h3 X k).2⟩⟩
theorem RelJ.can (h : RelJ f S J) : CanJ f S (fun X => X = J.L) := ⟨_, fun _ k => k, h.cell.can, fun X k => by rw [k]; exact ⟨h.log, h.room⟩⟩
theorem RelJ.turn (h : RelJ f S J) (hk : T.ok) (e1 : T.now = S.now) (e2 : T.last = S.last) (e3 : T.down = S.down) : RelJ f T J :=
  ⟨h.base, h.lt, h.good, h.cell.turn hk e1 e2 e3, h.log.turn hk e1 e2, h.room, e3.trans h.up⟩
theorem RelJ.lose (h : RelJ f S J) {n : Int} (hn : n ≤ 9223372036854775807) : RelJ f (S.lose n) J := h.turn (h.log.ok.lose hn) rfl rfl rfl
theorem RelJ.arm (h : RelJ f S J) {n : Int} {ks : List Int} (hn : n ≤ 9223372036854775807) (hk : ks.length ≤ 1000000000) : RelJ f (S.arm n ks) J := h.turn (h.log.ok.arm hn hk) rfl rfl rfl

/-! Opening. -/
theorem jload_of {z : Nm} (hd : S.down = false) (hf : f ≤ 14) (h1 : Head S.now (f + 1) z) (h2 : Body S.now (f + 1) z) (hz : Nms A z) (hA : ∀ X, A X → Dur f (form X) S ∧ (form X).length ≤ 1048576) :
    ∃ J, jload S f = (0, some J) ∧ A J.L ∧ J.base = f ∧ J.bad = false ∧ J.c.nm = z ∧ J.c.file = (f + 1 : Nat) ∧ Nms (fun X => X = J.L) z := by
  obtain ⟨c, e1, e2, e3, e4⟩ := opn_of (T := S) hd (f := f + 1) (by omega) h1 h2
  have e0 : opn S ((f : Int) + 1) = (0, some c) := e1
  unfold jload
  rw [e0]
  simp only
  unfold jread
  cases z with
  | none =>
    rw [if_pos (nm_none e2)]
    exact ⟨_, rfl, hz, rfl, rfl, e2, e3, rfl⟩
  | some p =>
    obtain ⟨k, v⟩ := p
    obtain ⟨X, hX, hv⟩ := hz
    obtain ⟨s0, s1⟩ := nm_some e2
    obtain ⟨hD, hr⟩ := hA X hX
    obtain rfl : v = noteB X := hv
    rw [if_neg s0, s1, pair_note (by omega)]
    simp only
    have hf0 : isF (f : Int) = true := by unfold isF; exact decide_eq_true (by omega)
    have hR : S.Read (f : Int) 0 ((form X).length : Int) = (form X, 0) := by
      rw [Read_good hd hf0 (by omega) (by omega)]
      exact congrArg (·, (0 : Int)) hD.read
    rw [hR, if_neg (by simp), if_neg (by simp), texts_form (by omega)]
    exact ⟨_, rfl, hX, rfl, rfl, e2, e3, X, rfl, rfl⟩

theorem CanJ.opn (h : CanJ f S A) (hf : f ≤ 14) :
    ((jopn S f).2.1 = none ∧ ((jopn S f).1 = 9 ∨ (jopn S f).1 = 10) ∧ CanJ f (jopn S f).2.2 A ∧ ¬ Calm S) ∨
    ∃ J, (jopn S f).1 = 0 ∧ (jopn S f).2.1 = some J ∧ A J.L ∧ RelJ f (jopn S f).2.2 J := by
  have hf0 : isF (f : Int) = true := by unfold isF; exact decide_eq_true (by omega)
  have hf1 : isF ((f : Int) + 1) = true := by unfold isF; exact decide_eq_true (by omega)
  unfold jopn
  rw [if_neg (by omega)]
  have c1 := h.Sync (f : Int)
  by_cases e1 : (S.Sync (f : Int)).2 ≠ 0
  · rw [if_pos e1]
    refine .inl ⟨rfl, ?_, c1, fun hc => e1 (hc.Sync hf0).1⟩
    rcases Sync_dky (S := S) hf0 with k | k
    · exact absurd k e1
    · exact k
  rw [if_neg e1]
  have c2 := c1.Sync ((f : Int) + 1)
  by_cases e2 : ((S.Sync (f : Int)).1.Sync ((f : Int) + 1)).2 ≠ 0
  · rw [if_pos e2]
    refine .inl ⟨rfl, ?_, c2, fun hc => e2 ((hc.Sync hf0).2.Sync hf1).1⟩
    rcases Sync_dky (S := (S.Sync (f : Int)).1) hf1 with k | k
    · exact absurd k e2
    · exact k
  rw [if_neg e2]
  have e2' : ((S.Sync (f : Int)).1.Sync ((f : Int) + 1)).2 = 0 := by simpa using e2
  refine .inr ?_
  obtain ⟨B, hB, k1, k2⟩ := c2
  obtain ⟨C, hC, k3, k4⟩ := c1
  generalize (S.Sync (f : Int)).1 = S1 at *
  have hdn : (S1.Sync ((f : Int) + 1)).1.down = false := (k3.ok.synced e2').2.2.1
  obtain ⟨x, y, hi, hx, hy, _⟩ := k3
  have hi2 := (hi.Sync_good (f := f + 1) e2').1
  have k5 : ∀ X, C X → Dur f (form X) (S1.Sync ((f : Int) + 1)).1 ∧ (form X).length ≤ 1048576 := fun X k => ⟨(k4 X k).1.Sync _, (k4 X k).2⟩
  generalize hS2 : (S1.Sync ((f : Int) + 1)).1 = S2 at *
  have hi3 : Inv (f + 1) S2 x x := by rw [← hS2]; exact hi2
  obtain ⟨J, j1, j2, j3, j4, j5, j6, j7⟩ := jload_of hdn hf hi3.hx hi3.xn hx k5
  rw [j1]
  refine ⟨J, rfl, rfl, hC _ j2, j3, hf, j4, ?_, (k5 _ j2).1, (k5 _ j2).2, hdn⟩
  subst j5
  exact ⟨j6, by omega, ⟨_, _, hi3, j7, j7, fun _ => rfl⟩, fun _ => ⟨_, hi3, j7, j7, fun _ => rfl⟩⟩

/-! Changing. -/
/-- What a change of the list to X leaves: done, or failed. -/
def Left (f : Nat) (J : Jl) (X : List ByteArray) (R : Int × Jl × St) : Prop :=
  (R.1 = 0 ∧ R.2.1.L = X ∧ RelJ f R.2.2 R.2.1) ∨
  ((R.1 = 9 ∨ R.1 = 10) ∧ R.2.1.L = J.L ∧ R.2.1.bad = true ∧ CanJ f R.2.2 (fun Y => Y = J.L ∨ Y = X))
theorem RelJ.note (h : RelJ f S J) {X : List ByteArray} (hX : Dur f (form X) S) (hr : (form X).length ≤ 1048576) : Left f J X (J.note S X) ∧ (Calm S → (J.note S X).1 = 0 ∧ Calm (J.note S X).2.2) := by
  have hl := note_len X
  have hlt := h.lt
  have hne : J.c.file ≠ (f : Int) := by rw [h.cell.file]; omega
  have hf1 : isF J.c.file = true := by rw [h.cell.file]; unfold isF; exact decide_eq_true (by omega)
  have d1 := hX.cell_set hne (noteB X)
  have d2 := h.log.cell_set hne (noteB X)
  have hs := h.cell.set (B := Nms (fun Y => Y = J.L ∨ Y = X)) (noteB X) (by omega) (Nms.mono fun Y k => .inl k) (fun k => ⟨X, .inr rfl, rfl⟩)
  have hfile := Cl.set_file J.c S (noteB X)
  unfold Jl.note
  by_cases e : (J.c.set S (noteB X)).1 ≠ 0
  · rw [if_pos e]
    refine ⟨.inr ⟨?_, rfl, rfl, _, fun _ k => k, hs.1.can, fun Y k => ?_⟩, fun hc => absurd (hc.set hf1 _ (by omega)).1 e⟩
    · rcases set_dky (S := S) hf1 (noteB X) (by omega) with k | k
      · exact absurd k e
      · exact k
    · rcases k with rfl | rfl
      · exact ⟨d2, h.room⟩
      · exact ⟨d1, hr⟩
  · rw [if_neg e]
    obtain ⟨s1, s2, s3, s4⟩ := hs.2 (by simpa using e)
    refine ⟨.inl ⟨rfl, rfl, h.base, h.lt, h.good, s4.mono ?_, d1, hr, s1⟩, fun hc => ⟨rfl, (hc.set hf1 _ (by omega)).2⟩⟩
    rintro z ⟨k, rfl⟩
    exact ⟨X, rfl, rfl⟩
theorem RelJ.append (h : RelJ f S J) (l : List ByteArray) (hl : l ≠ []) (hr : (form (J.L ++ l)).length ≤ 1048576) : Left f J (J.L ++ l) (J.append S l) ∧ (Calm S → (J.append S l).1 = 0 ∧ Calm (J.append S l).2.2) := by
  have hlt := h.lt
  have hf0 : isF (f : Int) = true := by unfold isF; exact decide_eq_true (by omega)
  have hfa := form_append J.L l
  have hrr := hr
  rw [hfa, List.length_append] at hrr
  have hgood := h.good
  unfold Jl.append
  rw [if_neg (by rw [h.good]; simp), if_neg hl, if_neg (by omega), h.base]
  have hsd := Write_dky (S := S) (g := (f : Int)) (a := ((form J.L).length : Int)) hf0 (by omega) (form l) (by omega)
  have dw := h.log.Write (g := (f : Int)) (a := ((form J.L).length : Int)) (.inr (by omega)) (form l)
  have rw1 := h.cell.Write_other (g := (f : Int)) (by omega) ((form J.L).length : Int) (form l)
  have hW : Calm S → (S.Write (f : Int) ((form J.L).length : Int) (form l)).2 = 0 ∧ Calm (S.Write (f : Int) ((form J.L).length : Int) (form l)).1 := fun hc => hc.Write hf0 (by omega) _ (by omega)
  by_cases e1 : (S.Write (f : Int) ((form J.L).length : Int) (form l)).2 ≠ 0
  · rw [if_pos e1]
    refine ⟨.inr ⟨?_, rfl, rfl, _, fun Y k => .inl k, rw1.can, fun Y k => by rw [k]; exact ⟨dw, h.room⟩⟩, fun hc => absurd (hW hc).1 e1⟩
    rcases hsd with k | k
    · exact absurd k e1
    · exact k
  rw [if_neg e1]
  have ds := dw.Sync (f : Int)
  have rs := rw1.Sync_other (g := (f : Int)) (by omega)
  by_cases e2 : ((S.Write (f : Int) ((form J.L).length : Int) (form l)).1.Sync (f : Int)).2 ≠ 0
  · rw [if_pos e2]
    refine ⟨.inr ⟨?_, rfl, rfl, _, fun Y k => .inl k, rs.can, fun Y k => by rw [k]; exact ⟨ds, h.room⟩⟩, fun hc => absurd ((hW hc).2.Sync hf0).1 e2⟩
    rcases Sync_dky (S := (S.Write (f : Int) ((form J.L).length : Int) (form l)).1) hf0 with k | k
    · exact absurd k e2
    · exact k
  rw [if_neg e2]
  have e1' : (S.Write (f : Int) ((form J.L).length : Int) (form l)).2 = 0 := by simpa using e1
  have e2' : ((S.Write (f : Int) ((form J.L).length : Int) (form l)).1.Sync (f : Int)).2 = 0 := by simpa using e2
  have dm := h.log.more e1' e2'
  rw [← hfa] at dm
  have hup := (rw1.ok.synced e2').2.2.1
  have hR : RelJ f ((S.Write (f : Int) ((form J.L).length : Int) (form l)).1.Sync (f : Int)).1 J := ⟨h.base, h.lt, h.good, rs, ds, h.room, hup⟩
  have hn := hR.note dm hr
  exact ⟨hn.1, fun hc => hn.2 ((hW hc).2.Sync hf0).2⟩
theorem RelJ.append_nil (h : RelJ f S J) : J.append S [] = (0, J, S) := by
  unfold Jl.append
  rw [if_neg (by rw [h.good]; simp), if_pos rfl]
theorem RelJ.append_full (h : RelJ f S J) (l : List ByteArray) (hl : l ≠ []) (hr : 1048576 < (form (J.L ++ l)).length) : J.append S l = (6, J, S) := by
  unfold Jl.append
  rw [if_neg (by rw [h.good]; simp), if_neg hl, if_pos hr]
theorem append_bad (hb : J.bad = true) (l : List ByteArray) : J.append S l = (7, J, S) := by
  unfold Jl.append
  rw [if_pos hb]
theorem cut_bad (hb : J.bad = true) (n : Int) : J.cut S n = (7, J, S) := by
  unfold Jl.cut
  rw [if_pos hb]
theorem RelJ.cut (h : RelJ f S J) (n : Nat) (hn : n < J.L.length) : Left f J (J.L.take n) (J.cut S n) ∧ (Calm S → (J.cut S n).1 = 0 ∧ Calm (J.cut S n).2.2) := by
  have hfa := form_append (J.L.take n) (J.L.drop n)
  rw [List.take_append_drop] at hfa
  have hr := h.room
  have hd : Dur f (form (J.L.take n)) S := by
    have := h.log
    rw [hfa] at this
    exact this.pre
  unfold Jl.cut
  rw [if_neg (by rw [h.good]; simp), if_neg (by omega), if_neg (by omega), show ((n : Nat) : Int).toNat = n from rfl]
  exact h.note hd (by rw [hfa, List.length_append] at hr; omega)
theorem RelJ.cut_out (h : RelJ f S J) (n : Int) (hn : n < 0 ∨ (J.L.length : Int) < n) : J.cut S n = (1, J, S) := by
  unfold Jl.cut
  rw [if_neg (by rw [h.good]; simp), if_pos hn]
theorem RelJ.cut_all (h : RelJ f S J) : J.cut S J.L.length = (0, J, S) := by
  unfold Jl.cut
  rw [if_neg (by rw [h.good]; simp), if_neg (by omega), if_pos rfl]
/-- A new disk. -/
theorem CanJ.new (hf : f ≤ 14) : CanJ f St.new (fun X => X = []) := by
  obtain ⟨_, h2⟩ := opn_new (f := f + 1) (by omega)
  refine ⟨_, fun _ k => k, h2.can.mono (B := Nms (fun X => X = [])) ?_, fun X k => by rw [k]; exact ⟨Dur.nil St.new_ok, by rw [form_nil]; exact Nat.zero_le _⟩⟩
  rintro z rfl
  rfl
theorem Calm.new : Calm St.new := ⟨rfl, rfl, rfl⟩
end
end Dsk
end Go.Proofs.YtpogoalbnbekaaaDoor

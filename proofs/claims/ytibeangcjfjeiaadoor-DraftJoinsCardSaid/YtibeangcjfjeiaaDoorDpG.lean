/- Reading by places, plainly. -/
import Derived.Test.YtibeangcjfjeiaaDoorDpF
namespace Go.Proofs.YtibeangcjfjeiaaDoor
open Go.RowKit Txt Wire Lx
set_option linter.unusedVariables false
set_option maxRecDepth 100000
set_option linter.unusedSimpArgs false
namespace Drf

def placesR : List UInt8 → It → List Tk → Rd It
  | [], y, l => .got y l
  | p :: _, y, [] => if p = 99 then .got y [] else .bad 0
  | p :: ps, y, t :: r => if p = 99 ∧ t.kind ≠ 0 then .got y (t :: r) else match placeR p t y with
    | none => .bad t.line
    | some y' => placesR ps y' r
theorem places_name (ps : List UInt8) (y : It) (l : List Tk) : placesR (110 :: ps) y l = (takeT 0 l).then fun t r => placesR ps { y with name := t.text } r := by
  cases l with
  | nil => rfl
  | cons t r =>
    rw [takeT_cons]
    show (if (110 : UInt8) = 99 ∧ t.kind ≠ 0 then _ else _) = _
    rw [if_neg (by rintro ⟨h, _⟩; cases h)]
    by_cases hk : t.kind = 0
    · rw [if_pos hk, show placeR 110 t y = some { y with name := t.text } from by unfold placeR; rw [if_pos (.inl rfl), if_pos hk]]
      rfl
    · rw [if_neg hk, show placeR 110 t y = none from by unfold placeR; rw [if_pos (.inl rfl), if_neg hk]]
      rfl
theorem places_other (ps : List UInt8) (y : It) (l : List Tk) : placesR (111 :: ps) y l = (takeT 0 l).then fun t r => placesR ps { y with other := t.text } r := by
  cases l with
  | nil => rfl
  | cons t r =>
    rw [takeT_cons]
    show (if (111 : UInt8) = 99 ∧ t.kind ≠ 0 then _ else _) = _
    rw [if_neg (by rintro ⟨h, _⟩; cases h)]
    by_cases hk : t.kind = 0
    · rw [if_pos hk, show placeR 111 t y = some { y with other := t.text } from by unfold placeR; rw [if_neg (by decide), if_pos rfl, if_pos hk]]
      rfl
    · rw [if_neg hk, show placeR 111 t y = none from by unfold placeR; rw [if_neg (by decide), if_pos rfl, if_neg hk]]
      rfl
theorem places_num (ps : List UInt8) (y : It) (l : List Tk) : placesR (49 :: ps) y l = (takeT 1 l).then fun t r => placesR ps { y with n := y.n ++ [t.n] } r := by
  cases l with
  | nil => rfl
  | cons t r =>
    rw [takeT_cons]
    show (if (49 : UInt8) = 99 ∧ t.kind ≠ 0 then _ else _) = _
    rw [if_neg (by rintro ⟨h, _⟩; cases h)]
    by_cases hk : t.kind = 1
    · rw [if_pos hk, show placeR 49 t y = some { y with n := y.n ++ [t.n] } from by unfold placeR; rw [if_neg (by decide), if_neg (by decide), if_pos rfl, if_pos hk]]
      rfl
    · rw [if_neg hk, show placeR 49 t y = none from by unfold placeR; rw [if_neg (by decide), if_neg (by decide), if_pos rfl, if_neg hk]]
      rfl
theorem then_assoc {α β γ : Type} (a : Rd α) (f : α → List Tk → Rd β) (g : β → List Tk → Rd γ) : (a.then f).then g = a.then fun x r => (f x r).then g := by cases a <;> rfl
theorem then_congr {α β : Type} (a : Rd α) {f g : α → List Tk → Rd β} (h : ∀ x r, f x r = g x r) : a.then f = a.then g := by
  cases a with
  | bad L => rfl
  | got x r => exact h x r
theorem places_nums : ∀ (k : Nat) (ps : List UInt8) (y : It) (l : List Tk), placesR (List.replicate k 49 ++ ps) y l = (numsR k l).then fun ns r => placesR ps { y with n := y.n ++ ns } r
  | 0, ps, y, l => by
    show placesR ps y l = placesR ps { y with n := y.n ++ [] } l
    rw [List.append_nil]
  | k + 1, ps, y, l => by
    show placesR (49 :: (List.replicate k 49 ++ ps)) y l = _
    rw [places_num]
    show _ = ((takeT 1 l).then fun t r => (numsR k r).then fun ns r' => .got (t.n :: ns) r').then _
    rw [then_assoc]
    refine then_congr _ fun t r => ?_
    rw [places_nums k ps _ r, then_assoc]
    refine then_congr _ fun ns r' => ?_
    show _ = placesR ps { y with n := y.n ++ (t.n :: ns) } r'
    simp
theorem places_dir (y : It) (l : List Tk) : placesR [100] y l = (dirR l).then fun d r => .got { y with n := y.n ++ [d] } r := by
  cases l with
  | nil => rfl
  | cons t r =>
    rw [dirR_cons]
    show (if (100 : UInt8) = 99 ∧ t.kind ≠ 0 then _ else _) = _
    rw [if_neg (by rintro ⟨h, _⟩; cases h)]
    have e : placeR 100 t y = match dirOf t.text with | some d => if t.kind = 0 then some { y with n := y.n ++ [(d : Int)] } else none | none => none := by
      unfold placeR
      rw [if_neg (by decide), if_neg (by decide), if_neg (by decide), if_pos rfl]
      cases dirOf t.text <;> rfl
    rw [e]
    cases hd : dirOf t.text with
    | none =>
      by_cases hk : t.kind = 0
      · rw [if_pos hk]; rfl
      · rw [if_neg hk]; rfl
    | some d =>
      by_cases hk : t.kind = 0
      · simp only [if_pos hk]; rfl
      · simp only [if_neg hk]; rfl
theorem places_class (y : It) (l : List Tk) (hn : y.name = []) : placesR [99] y l = .got { y with name := (moreR true l).1 } (moreR true l).2 := by
  have h0 : ({ y with name := [] } : It) = y := by cases y; cases hn; rfl
  cases l with
  | nil =>
    show Rd.got y [] = Rd.got { y with name := [] } []
    rw [h0]
  | cons t r =>
    show (if (99 : UInt8) = 99 ∧ t.kind ≠ 0 then _ else _) = _
    have e : moreR true (t :: r) = if t.kind = 0 then (t.text, r) else ([], t :: r) := rfl
    rw [e]
    by_cases hk : t.kind = 0
    · rw [if_neg (by rintro ⟨_, h⟩; exact h hk), if_pos hk, show placeR 99 t y = some { y with name := t.text } from by unfold placeR; rw [if_pos (.inr rfl), if_pos hk]]
      rfl
    · rw [if_pos ⟨rfl, hk⟩, if_neg hk]
      rw [h0]
theorem places_item {k : Nat} (hk : k < 6) (line : Nat) (l : List Tk) : placesR (places k) ⟨k, [], [], [], line⟩ l = itemR k line l := by
  match k, hk with
  | 0, _ =>
    show placesR (110 :: (List.replicate 7 49 ++ [])) _ l = (namesR 1 l).then _
    rw [places_name]
    show _ = ((takeT 0 l).then fun t r => (namesR 0 r).then fun ns r' => .got (t.text :: ns) r').then _
    rw [then_assoc]
    refine then_congr _ fun t r => ?_
    rw [places_nums 7]
    show _ = (allR 0 7 r).then _
    rw [show allR 0 7 r = numsR 7 r from rfl]
    exact then_congr _ fun ns r' => rfl
  | 1, _ =>
    show placesR (110 :: (List.replicate 2 49 ++ [])) _ l = (namesR 1 l).then _
    rw [places_name]
    show _ = ((takeT 0 l).then fun t r => (namesR 0 r).then fun ns r' => .got (t.text :: ns) r').then _
    rw [then_assoc]
    refine then_congr _ fun t r => ?_
    rw [places_nums 2]
    show _ = (allR 1 2 r).then _
    rw [show allR 1 2 r = numsR 2 r from rfl]
    exact then_congr _ fun ns r' => rfl
  | 2, _ =>
    show placesR (List.replicate 3 49 ++ [100]) _ l = (allR 2 4 l).then _
    rw [places_nums 3]
    show _ = ((numsR 3 l).then fun ns r => (dirR r).then fun d r' => .got (ns ++ [d]) r').then _
    rw [then_assoc]
    refine then_congr _ fun ns r => ?_
    rw [places_dir, then_assoc]
    refine then_congr _ fun d r' => ?_
    rfl
  | 3, _ =>
    show placesR [110, 111] _ l = (namesR 2 l).then _
    rw [places_name]
    show _ = ((takeT 0 l).then fun t r => (namesR 1 r).then fun ns r' => .got (t.text :: ns) r').then _
    rw [then_assoc]
    refine then_congr _ fun t r => ?_
    rw [places_other]
    show _ = (((takeT 0 r).then fun t r => (namesR 0 r).then fun ns r' => .got (t.text :: ns) r').then _).then _
    rw [then_assoc, then_assoc]
    refine then_congr _ fun t r => ?_
    rfl
  | 4, _ =>
    show placesR (List.replicate 3 49 ++ [99]) _ l = (allR 4 3 l).then _
    rw [places_nums 3]
    rw [show allR 4 3 l = numsR 3 l from rfl]
    refine then_congr _ fun ns r => ?_
    rw [places_class _ _ rfl]
    rfl
  | 5, _ =>
    show placesR (List.replicate 4 49 ++ []) _ l = (allR 5 4 l).then _
    rw [places_nums 4]
    rw [show allR 5 4 l = numsR 4 l from rfl]
    exact then_congr _ fun ns r => rfl
end Drf
end Go.Proofs.YtibeangcjfjeiaaDoor

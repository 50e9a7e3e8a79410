/- For every list l of values and every string tail that can be read as data: taquinlaw01.WireBack returns true, and both read afterwards as they read before. No condition beside the row's own. -/
import Derived.Test.YtionidjhfcmgiaaBack
namespace Go.Proofs.Ytionidjhfcmgiaa
open Go.ChangeShapes Go.WideShapes Go.ChangeAt Go.RowKit Go.Deep
open Go.ChangeMaps (open_string shut_string)
set_option linter.unusedVariables false
set_option linter.unusedSimpArgs false
namespace Wire

section
variable {H : Type} {enc : TypeId × Value → H} {w : World} {held : Bool} {fuel : Nat} {cs : List Value} {x : DataW H × List MemPlace}

theorem choose_list {P : Nat → Val → Prop} : ∀ n, (∀ i, i < n → ∃ v, P i v) → ∃ vs : List Val, vs.length = n ∧ ∀ i v, vs[i]? = some v → P i v
  | 0, _ => ⟨[], rfl, fun i v h => by simp at h⟩
  | n + 1, h => by
    obtain ⟨vs, h1, h2⟩ := choose_list n (fun i hi => h i (by omega))
    obtain ⟨v, hv⟩ := h n (by omega)
    refine ⟨vs ++ [v], by simp [h1], fun i u hu => ?_⟩
    rcases Nat.lt_or_ge i n with hi | hi
    · rw [List.getElem?_append_left (by omega)] at hu
      exact h2 i u hu
    · have hlt := (List.getElem?_eq_some_iff.1 hu).1
      simp [h1] at hlt
      obtain rfl : i = n := by omega
      rw [List.getElem?_append_right (by omega), h1] at hu
      simp at hu
      subst hu
      exact hv

theorem open_vals (h : DataW.trod enc Try.prog w 0 (fun _ => true) held fuel 28 cs = some x) :
    ∃ A c vs, cs = [.slice A (List.length vs) c] ∧ Given w A vs := by
  rcases open_slice Try.underlying28 h with ⟨rfl, _⟩ | ⟨a, len, cap, m, n, D, Pl, rfl, _, hl, _, hm, _, hi⟩
  · exact ⟨none, 0, [], rfl, fun i v hv => by simp at hv, fun v hv => by cases hv⟩
  · have hmc : m = cap := by simpa using hm
    have first : 0 < len → ∃ b o, a = ⟨b, o, none⟩ ∧ b < w.heap.size := by
      intro h0
      obtain ⟨cs', hc, ht⟩ := hi 0 (by omega)
      rw [cells_value] at hc
      obtain ⟨_, hcl, hat⟩ := World.cells?_some hc
      have h5 : 0 < cs'.length := by omega
      have hcell : w.cell? a = some cs'[0] := by
        have := hat 0 (by omega)
        rw [List.getElem?_eq_getElem h5] at this
        simpa [Addr.add] using this
      obtain ⟨b, o, rfl⟩ := spot_none hcell
      exact ⟨b, o, rfl, World.block_lt_of_cell? w _ hcell⟩
    have each : ∀ i, i < len → ∃ v : Val, (∃ b o cs', a = ⟨b, o, none⟩ ∧ b < w.heap.size ∧ ValCells w w.heap.size cs' v ∧ ∀ j u, cs'[j]? = some u → w.cell? ⟨b, o + i * 5 + j, none⟩ = some u) ∧ Fits v.kind ∧ Fits v.n ∧ ∀ z ∈ v.l, Fits z := by
      intro i hlt
      obtain ⟨b, o, rfl, hb⟩ := first (by omega)
      obtain ⟨cs', hc, ht⟩ := hi i (by omega)
      rw [cells_value] at hc
      obtain ⟨v, A1, c1, A2, c2, rfl, r1, r2, f1, f2, f3⟩ := open_val ht
      obtain ⟨_, hcl, hat⟩ := World.cells?_some hc
      refine ⟨v, ⟨b, o, cellsOf v A1 c1 A2 c2, rfl, hb, ⟨A1, c1, A2, c2, rfl, r1, r2⟩, fun j u hu => ?_⟩, f1, f2, f3⟩
      have hj : j < 5 := (List.getElem?_eq_some_iff.1 hu).1
      have := hat j hj
      rw [row_plus, row_plus] at this
      exact this.trans hu
    obtain ⟨vs, h1, h2⟩ := choose_list len each
    refine ⟨some a, cap, vs, by rw [h1], fun i v hv => ?_, fun v hv => ?_⟩
    · obtain ⟨⟨b, o, cs', rfl, hb, hv2, hc⟩, _⟩ := h2 i v hv
      exact ⟨b, o, cs', rfl, hb, hv2, hc⟩
    · obtain ⟨i, hi1, rfl⟩ := List.getElem_of_mem hv
      exact (h2 i _ (List.getElem?_eq_getElem hi1)).2
end

theorem readable_values : Try.prog.readableRec 28 = true := by kernel_rfl
theorem listed_values : 28 < Try.prog.types.size := of_decide_eq_true (by kernel_rfl)
theorem readable_string : Try.prog.readableRec 9 = true := by kernel_rfl
theorem listed_string : 9 < Try.prog.types.size := of_decide_eq_true (by kernel_rfl)

set_option maxRecDepth 100000 in
theorem back_lifted (os : Os) (started : os.Started) (H : Type) (enc : TypeId × Value → H) :
    ReturnsInHanded {} Try.checked os 5 .any (Rows.wireBackSpec.pre6 enc Try.prog Try.f5 Rows.wireBackRow.domain false) (Rows.wireBackSpec.post enc Try.prog Try.f5 false true false false) := by
  refine returnsInHanded_of_change (C := Try.checked) own started (by kernel_rfl) Try.func5
    (ChangeSpec.witness6 (enc := enc) (C := Try.checked) false ⟨#[], #[.slice none 0 0, .string ⟨#[]⟩], []⟩ 8 (by kernel_rfl) (by kernel_rfl) (by kernel_rfl) (by kernel_rfl)) ?_
  intro W base args ds gs before hval0 hW hcnd _
  have hval : ∀ (j : Nat) t v, Try.f5.params[j]? = some t → args[j]? = some v → Value.okWide Try.prog W .any base t v := hval0
  have hW' := hW
  obtain ⟨p, q, hA0, hV, rfl, hfz, hnd⟩ := hW
  have hA : DataW.TrodAll enc Try.prog W 0 (fun _ => true) true Try.f5.params.toList args.toList ds p := hA0
  rw [Try.params5] at hA hval
  obtain ⟨v0, v1, d0, d1, p0, p1, rfl, rfl, rfl, h0, h1⟩ := trodAll_two hA
  obtain ⟨rfl, rfl⟩ := trodVars_none hV
  obtain ⟨a0, len, cap, rfl⟩ := okWide_slice Try.underlying28 (hval 0 28 v0 rfl rfl)
  have h0' := h0
  obtain ⟨fuel, hf⟩ := h0'
  obtain ⟨A, c, vs, hcs, hg⟩ := open_vals hf
  have hcs' : Value.slice a0 len cap = .slice A vs.length c := by
    have e : [Value.slice a0 len cap] = [.slice A vs.length c] := hcs
    exact List.head_eq_of_cons_eq e
  rw [hcs'] at h0 hval hW' ⊢
  obtain ⟨s, rfl, rfl, rfl, ws⟩ := open_string Try.underlying9 (hval 1 9 v1 rfl rfl) h1
  obtain ⟨⟨t⟩⟩ := s
  simp only [List.append_nil] at hW'
  refine (back_any A c vs t ?_ W hg).mono fun e W' ⟨he, hb⟩ => ?_
  · exact ws
  subst he
  refine ⟨_, rfl, _, _, _, [], p0 ++ [], [], hW', trodAll_mk1 (shut_bool Try.underlying4 true),
    trodAll_mk2 (Below.trod laidOut readable_values listed_values h0 hb (fun x hx => hW'.lt x (by simp [hx]))) (shut_string Try.underlying9 ws), rfl, hb.frame _, fun h => by cases h⟩

theorem back_holds : Rows.WireBackSaid :=
  OpenClaim.holds_of_wide 5 Try.f5 rfl rfl rfl rfl rfl rfl rfl ⟨rfl, rfl, rfl, rfl, rfl⟩ rfl rfl rfl rfl rfl (by kernel_rfl) Try.func5 (by kernel_rfl)
    (of_decide_eq_true (by kernel_rfl)) (by unfold Func.isWrapper; first | (rw [if_pos (by decide +kernel)]; kernel_rfl) | (rw [if_neg (by decide +kernel)]; exact ⟨rfl, rfl⟩))
    (fun os started H enc _ => back_lifted os started H enc)
end Wire
end Go.Proofs.Ytionidjhfcmgiaa

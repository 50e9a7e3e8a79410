/- Words that the walks of layer 2 share. -/
import Derived.Test.YtjgaghapjlmcpaaDoorRows
import Derived.Test.YtjgaghapjlmcpaaDoorDec
import Derived.Test.YtjgaghapjlmcpaaDoorMem
import Derived.Test.YtjgaghapjlmcpaaDoorOwn
import Derived.WalkKit
import Derived.WalkSpells
import Derived.WalkLawsBesides
import Derived.Lib.Hide
import Derived.Handy
import Derived.IntWalk
import Derived.Deep.RegionHeld3
import Derived.Deep.AppendLies
namespace Go.Proofs.YtjgaghapjlmcpaaDoor
open Go.RowKit Wire
set_option linter.unusedVariables false
set_option linter.unusedSimpArgs false
namespace Wire
theorem row_add' (g k j : Nat) : (⟨g, k, none⟩ : Addr).add j = ⟨g, k + j, none⟩ := by
  unfold Addr.add
  split <;> simp_all
theorem Grow.drew {w : World} {B size n : Nat} {v : Value} {xs : List Value} (h : Grow w B size v n xs) : Grow w.drew B size v n xs := h.keep (Nat.le_refl _) fun _ _ => rfl

section
variable {P : Program} (w : World)
/-- The law of an append inside a region that draws its order. -/
theorem step_append_src {ops : Array Oper} {o : Oper} {a : Act} {K : Act → World → Prop} {Q : Exit → Act → World → Prop} {E : Prop} (hgd : o.guard = none) (s xo : Operand) (t tx : TypeId)
    (ho : o.op = .call { callee := .builtin .append, args := #[s, xo], argTypes := #[t, tx] })
    (B : Nat) (e : TypeId) (i : TypeInfo) (z : Value) (size bytes : Nat) (ht : P.underlying t = some (.slice e)) (hi : P.info? e = some i) (hz : i.zero = some z)
    (hsize : i.size = size) (hby : i.bytes = bytes) (hzs : z.cells.size = size) (hsz : 0 < size)
    (v : Value) (n : Nat) (xs : List Value) (hsv : a.eval s = v) (hown : Grow w B size v n xs) (x : Value) (m : Nat) (news : List Value) (hxv : a.eval xo = x) (hs : Src P size tx x m news w)
    (h63 : n + m ≤ maxLen) (hbytes : (n + m) * bytes ≤ 140737488355328) (hB : B ≤ w.heap.size)
    (h : ∀ v' w', Grow w' B size v' (n + m) (xs ++ news) → w.grownBy w' v.ownBlock → (v'.ownBlock = v.ownBlock ∨ v'.ownBlock = some w.heap.size) → K (a.put o.dst v') w') :
    if Region.wanted o (yielded ops a.tmps) = true then Oper.wp P o a w K Q else E := by
  have hw : Region.wanted o (yielded ops a.tmps) = true := by simp [Region.wanted, hgd]
  rw [if_pos hw]
  obtain ⟨v', w', hr, h2, h3, h4⟩ := run_append_src (P := P) w B t tx o.type e i z size bytes ht hi hz hsize hby hzs hsz v n xs hown x m news hs h63 hbytes hB
  unfold Oper.wp execOp
  simp only [ho, resolve, invoke, builtin, Sem.run_bind, Sem.run_pure, Result.andThen_ok, List.map_toArray, List.map_cons, List.map_nil, hsv, hxv, hr]
  exact h v' w' h2 h3 h4
end

/-- The cells of a new block, one by one. -/
theorem new_cells (w : World) (t : TypeId) (xs : List Value) : ∀ j u, xs[j]? = some u → (w.alloc (.cells xs.toArray t)).cell? ((⟨w.heap.size, 0, none⟩ : Addr).add j) = some u := by
  intro j u hu
  rw [row_add', (Blk.fresh w _ _).at, Nat.zero_add, List.getElem?_toArray]
  exact hu

/-- A slice literal is a row that can grow. -/
theorem Grow.fresh (w : World) (t : TypeId) (xs : List Value) (hm : xs.length ≤ 281474976710656) : Grow (w.alloc (.cells xs.toArray t)) w.heap.size 1 (.slice (some ⟨w.heap.size, 0, none⟩) xs.length xs.length) xs.length xs := by
  have hb := Blk.fresh w t xs.toArray
  refine ⟨by simp, .inr ⟨w.heap.size, xs.length, rfl, Nat.le_refl _, by simp, Nat.le_refl _, small_max hm, fun j hj => ?_, fun j _ => hb.thaw j, fun j u hu => ?_⟩⟩
  · rw [hb.at, List.getElem?_toArray, List.getElem?_eq_getElem (by omega)]
    rfl
  · rw [hb.at, List.getElem?_toArray]
    exact hu

end Wire
namespace Txt

/-- A string of these bytes. -/
abbrev str (l : List UInt8) : Value := .string ⟨l.toArray⟩
/-- The bytes of a string. -/
abbrev bl (s : ByteArray) : List UInt8 := s.data.toList

theorem bl_len (s : ByteArray) : (bl s).length = s.size := by rw [Array.length_toList]; rfl
theorem str_bl (s : ByteArray) : str (bl s) = .string s := rfl
theorem bl_mk (l : List UInt8) : bl ⟨l.toArray⟩ = l := rfl
theorem bl_inj {s t : ByteArray} (h : bl s = bl t) : s = t := by
  obtain ⟨⟨a⟩⟩ := s
  obtain ⟨⟨b⟩⟩ := t
  cases h
  rfl

theorem drop_at {s : ByteArray} {i : Nat} (h : i < s.size) : (bl s).drop i = s[i] :: (bl s).drop (i + 1) := by
  have h' : i < s.data.toList.length := by rw [Array.length_toList]; exact h
  rw [List.drop_eq_getElem_cons h', Array.getElem_toList]
  rfl
theorem take_at {s : ByteArray} {i : Nat} (h : i < s.size) : (bl s).take (i + 1) = (bl s).take i ++ [s[i]] := by
  rw [List.take_succ_eq_append_getElem (by simpa using h)]
  rfl
theorem bl_get {s : ByteArray} {i : Nat} (h : i < s.size) : (bl s)[i]? = some s[i] := by
  have h' : i < s.data.toList.length := by rw [Array.length_toList]; exact h
  rw [List.getElem?_eq_getElem h', Array.getElem_toList]
  rfl
theorem drop_end {s : ByteArray} {i : Nat} (h : s.size ≤ i) : (bl s).drop i = [] := List.drop_eq_nil_of_le (by rw [bl_len]; exact h)

/-- A slice value of xs.length cells reads as xs, below block B. -/
def Row (w : World) (B : Nat) (A : Option Addr) (xs : List Value) : Prop := ∀ k u, xs[k]? = some u → ∃ b o, A = some ⟨b, o, none⟩ ∧ b < B ∧ w.cell? ⟨b, o + k, none⟩ = some u

theorem Row.below {w w' : World} {B : Nat} {A : Option Addr} {xs : List Value} (h : Row w B A xs) (hb : Below B w w') : Row w' B A xs := by
  intro k u hu
  obtain ⟨b, o, e, h1, h2⟩ := h k u hu
  exact ⟨b, o, e, h1, (hb.cell (p := ⟨b, o + k, none⟩) h1).trans h2⟩
theorem Row.lift {w w' : World} {A : Option Addr} {xs : List Value} (h : Row w w.heap.size A xs) (hb : Below w.heap.size w w') : Row w' w'.heap.size A xs := by
  intro k u hu
  obtain ⟨b, o, e, h1, h2⟩ := h.below hb k u hu
  exact ⟨b, o, e, Nat.lt_of_lt_of_le h1 hb.size, h2⟩

theorem info_byte : (Tryd.prog.info? 5).map (fun i => (i.zero, i.size, i.bytes)) = some (some (.int .u8 0), 1, 1) := by kernel_rfl
theorem info_str : (Tryd.prog.info? 9).map (fun i => (i.zero, i.size, i.bytes)) = some (some (.string ⟨#[]⟩), 1, 16) := by kernel_rfl

theorem bytes_append (a b : List UInt8) : byteCells ⟨a.toArray⟩ ++ byteCells ⟨b.toArray⟩ = byteCells ⟨(a ++ b).toArray⟩ := by simp [byteCells]
theorem bytes_size (l : List UInt8) : (⟨l.toArray⟩ : ByteArray).size = l.length := rfl

theorem byte_ne {c : UInt8} {k : Nat} (hk : k < 256) (h : c ≠ UInt8.ofNat k) : ((c.toNat : Int) == (k : Int)) = false :=
  beq_eq_false_iff_ne.2 fun e => h (UInt8.toNat_inj.1 (by rw [UInt8.toNat_ofNat', Nat.mod_eq_of_lt hk]; omega))
theorem byte_eq {c : UInt8} {k : Nat} (hk : k < 256) (h : c = UInt8.ofNat k) : ((c.toNat : Int) == (k : Int)) = true := by
  subst h
  rw [UInt8.toNat_ofNat', Nat.mod_eq_of_lt hk]
  simp

theorem str_ne {l : List UInt8} {s : ByteArray} (h : (!l == s.toList) = true) : l ≠ bl s := by
  rw [ByteArray.toList_eq] at h
  simpa using h
theorem str_eq {l : List UInt8} {s : ByteArray} (h : (!l == s.toList) = false) : l = bl s := by
  rw [ByteArray.toList_eq] at h
  simpa using h
theorem not_empty {s : ByteArray} (h : 0 < s.size) : ¬ s.toList = [] := by
  rw [ByteArray.toList_eq]
  intro e
  have := bl_len s
  simp only [bl, e, List.length_nil] at this
  omega
theorem not_empty2 {s : ByteArray} (h : 0 < s.size) : s.toList.isEmpty = false := by
  cases hs : s.toList with
  | nil => exact absurd hs (not_empty h)
  | cons c r => rfl
theorem is_empty {s : ByteArray} (h : ¬ 0 < s.size) : s.toList = [] := by
  rw [ByteArray.toList_eq]
  exact List.eq_nil_of_length_eq_zero (by rw [bl_len]; omega)

theorem cut_one {s : ByteArray} (h0 : 0 < s.size) : bl s = s[0] :: bl (s.extract 1 s.size) ∧ (s.extract 1 s.size).size = s.size - 1 := by
  have h1 := drop_at h0
  rw [List.drop_zero] at h1
  constructor
  · rw [h1]
    congr 1
    obtain ⟨⟨l⟩⟩ := s
    show _ = bl (ByteArray.extract ⟨l.toArray⟩ 1 _)
    rw [bytes_extract, bl_mk]
    show List.drop 1 l = List.drop 1 (List.take l.length l)
    rw [List.take_length]
  · rw [ByteArray.size_extract]
    omega

end Txt
end Go.Proofs.YtjgaghapjlmcpaaDoor

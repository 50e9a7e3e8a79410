/- The library's contracts for trimming and searching strings, at this program. The library's functions and the sets of bytes, in this layer's words. Package lex: has, Word, textSize, and the reader's take and skipBlank. Package lex: textSize, Word. -/
import Derived.Shelf.Strings.Builder1
import Derived.Shelf.Strings.Builder2
import Derived.Shelf.Strings.OnBuilder
import Derived.Shelf.Strings.Trim
import Derived.Shelf.Small.Utf8
import Derived.Shelf.Small.Strs
import Derived.Shelf.Strings.Search1
import Derived.Shelf.Strings.Prefix
import Derived.Shelf.Strings.Runes
import Derived.Shelf.Strings.AsciiSet
import Derived.Shelf.Slices.Equal
import Derived.Test.YtibeangcjfjeiaaDoorProg
import Derived.Test.YtibeangcjfjeiaaDoorMgH
import Derived.Test.YtibeangcjfjeiaaDoorMgF
import Derived.Shelf.Strings.SlTrimAscii
import Derived.Lib.IndexLaws
import Derived.Deep.QuietTactic
import Derived.BigQuiet
import Derived.Deep.Draws
namespace Go.Proofs.YtibeangcjfjeiaaDoor
open Go.Shelf Go.RowKit Go.Lib
def Tryd.lays156_ren : Go.Shelf.Ren := ⟨fun | 156 => 30 | 165 => 54 | 166 => 28 | 169 => 32 | 240 => 52 | 241 => 76 | 276 => 75 | 277 => 87 | n => n, fun | 31 => 45 | 9 => 9 | 3 => 3 | 4 => 4 | 0 => 0 | 20 => 20 | 72 => 61 | 76 => 64 | 70 => 58 | 37 => 59 | 75 => 63 | 127 => 95 | 164 => 109 | 5 => 5 | 80 => 69 | n => n, fun | n => n⟩
theorem Tryd.lays156 : Go.Proofs.Lays.n156 Tryd.prog Tryd.lays156_ren := {
  mixed := by kernel_rfl
  f156 := Tryd.func30.trans (congrArg some (by kernel_rfl))
  f165 := Tryd.func54.trans (congrArg some (by kernel_rfl))
  f166 := Tryd.func28.trans (congrArg some (by kernel_rfl))
  f169 := Tryd.func32.trans (congrArg some (by kernel_rfl))
  f240 := Tryd.func52.trans (congrArg some (by kernel_rfl))
  f241 := Tryd.func76.trans (congrArg some (by kernel_rfl))
  f276 := Tryd.func75.trans (congrArg some (by kernel_rfl))
  f277 := Tryd.func87.trans (congrArg some (by kernel_rfl))
  t0 := Tryd.underlying0
  a0 := Tryd.isAgg0
  z0 := Tryd.sizeOf0
  v0 := Tryd.zeroValue0
  t3 := Tryd.underlying3
  a3 := Tryd.isAgg3
  z3 := Tryd.sizeOf3
  v3 := Tryd.zeroValue3
  t4 := Tryd.underlying4
  a4 := Tryd.isAgg4
  z4 := Tryd.sizeOf4
  v4 := Tryd.zeroValue4
  t9 := Tryd.underlying9
  a9 := Tryd.isAgg9
  z9 := Tryd.sizeOf9
  v9 := Tryd.zeroValue9
  t20 := Tryd.underlying20
  a20 := Tryd.isAgg20
  z20 := Tryd.sizeOf20
  v20 := Tryd.zeroValue20
  t31 := Tryd.underlying45
  a31 := Tryd.isAgg45
  z31 := Tryd.sizeOf45
  v31 := Tryd.zeroValue45
  t37 := Tryd.underlying59
  a37 := Tryd.isAgg59
  z37 := Tryd.sizeOf59
  v37 := Tryd.zeroValue59
  t70 := Tryd.underlying58
  a70 := Tryd.isAgg58
  z70 := Tryd.sizeOf58
  v70 := Tryd.zeroValue58
  t72 := Tryd.underlying61
  a72 := Tryd.isAgg61
  z72 := Tryd.sizeOf61
  v72 := Tryd.zeroValue61
  t75 := Tryd.underlying63
  a75 := Tryd.isAgg63
  z75 := Tryd.sizeOf63
  v75 := Tryd.zeroValue63
  t76 := Tryd.underlying64
  a76 := Tryd.isAgg64
  z76 := Tryd.sizeOf64
  v76 := Tryd.zeroValue64
  t127 := Tryd.underlying95
  a127 := Tryd.isAgg95
  z127 := Tryd.sizeOf95
  v127 := Tryd.zeroValue95
  t164 := Tryd.underlying109
  a164 := Tryd.isAgg109
  z164 := Tryd.sizeOf109
  v164 := Tryd.zeroValue109 }
theorem Tryd.Builder_Extra_156 : Builder.Extra Tryd.prog Tryd.lays156_ren := {
  sizeBuilder := by kernel_rfl
  liesBuilder := by kernel_rfl
  t5 := Tryd.underlying5
  a5 := Tryd.isAgg5
  z5 := Tryd.sizeOf5
  v5 := Tryd.zeroValue5
  infoByte := by kernel_rfl
  cellsByte := by kernel_rfl
  sizeByte := by kernel_rfl
  neB5 := by decide }
theorem Tryd.strings_Join_none (a : Option Addr) (c : Nat) (sep : ByteArray) (w : World) :
    Calls Tryd.prog 30 #[.slice a 0 c, .string sep] w fun e w' => e = .returned (.string ⟨#[]⟩) ∧ w' = w := Any.strings_Join_none Tryd.lays156 Tryd.Builder_Extra_156 a c sep w
theorem Tryd.strings_Join (bk o c : Nat) (xs : List ByteArray) (sep : ByteArray) (w : World) (hcells : ∀ (j : Nat) x, xs[j]? = some x → w.cell? ⟨bk, o + j, none⟩ = some (.string x)) (hbk : bk < w.heap.size) (hN : xs.length ≤ 140737488355328) (hcap : xs.length ≤ c) (hlen : (Lib.join (xs.map (·.data.toList)) sep.data.toList).length ≤ 140737488355328) :
    Calls Tryd.prog 30 #[.slice (some ⟨bk, o, none⟩) xs.length c, .string sep] w fun e w' => e = .returned (.string ⟨(Lib.join (xs.map (·.data.toList)) sep.data.toList).toArray⟩) ∧ Below w.heap.size w w' := Any.strings_Join Tryd.lays156 Tryd.Builder_Extra_156 bk o c xs sep w hcells hbk hN hcap hlen
def Tryd.lays161_ren : Go.Shelf.Ren := ⟨fun | 161 => 58 | 231 => 77 | 227 => 78 | 233 => 79 | 235 => 80 | 228 => 88 | 197 => 89 | 151 => 90 | 260 => 95 | 152 => 96 | 137 => 60 | 119 => 97 | 224 => 98 | 225 => 99 | 217 => 82 | 266 => 91 | n => n, fun | 9 => 9 | 4 => 4 | 3 => 3 | 5 => 5 | 117 => 117 | 116 => 116 | 0 => 0 | 124 => 120 | 105 => 126 | 21 => 21 | 119 => 131 | 46 => 111 | 139 => 134 | 138 => 133 | n => n, fun | 3 => 3 | 4 => 4 | n => n⟩
theorem Tryd.lays161 : Go.Proofs.Lays.n161 Tryd.prog Tryd.lays161_ren := {
  mixed := by kernel_rfl
  f119 := Tryd.func97.trans (congrArg some (by kernel_rfl))
  f137 := Tryd.func60.trans (congrArg some (by kernel_rfl))
  f151 := Tryd.func90.trans (congrArg some (by kernel_rfl))
  f152 := Tryd.func96.trans (congrArg some (by kernel_rfl))
  f161 := Tryd.func58.trans (congrArg some (by kernel_rfl))
  f197 := Tryd.func89.trans (congrArg some (by kernel_rfl))
  f217 := Tryd.func82.trans (congrArg some (by kernel_rfl))
  f224 := Tryd.func98.trans (congrArg some (by kernel_rfl))
  f225 := Tryd.func99.trans (congrArg some (by kernel_rfl))
  f227 := Tryd.func78.trans (congrArg some (by kernel_rfl))
  f228 := Tryd.func88.trans (congrArg some (by kernel_rfl))
  f231 := Tryd.func77.trans (congrArg some (by kernel_rfl))
  f233 := Tryd.func79.trans (congrArg some (by kernel_rfl))
  f235 := Tryd.func80.trans (congrArg some (by kernel_rfl))
  f260 := Tryd.func95.trans (congrArg some (by kernel_rfl))
  f266 := Tryd.func91.trans (congrArg some (by kernel_rfl))
  t0 := Tryd.underlying0
  a0 := Tryd.isAgg0
  z0 := Tryd.sizeOf0
  v0 := Tryd.zeroValue0
  t3 := Tryd.underlying3
  a3 := Tryd.isAgg3
  z3 := Tryd.sizeOf3
  v3 := Tryd.zeroValue3
  t4 := Tryd.underlying4
  a4 := Tryd.isAgg4
  z4 := Tryd.sizeOf4
  v4 := Tryd.zeroValue4
  t5 := Tryd.underlying5
  a5 := Tryd.isAgg5
  z5 := Tryd.sizeOf5
  v5 := Tryd.zeroValue5
  t9 := Tryd.underlying9
  a9 := Tryd.isAgg9
  z9 := Tryd.sizeOf9
  v9 := Tryd.zeroValue9
  t21 := Tryd.underlying21
  a21 := Tryd.isAgg21
  z21 := Tryd.sizeOf21
  v21 := Tryd.zeroValue21
  t46 := Tryd.underlying111
  a46 := Tryd.isAgg111
  z46 := Tryd.sizeOf111
  v46 := Tryd.zeroValue111
  t105 := Tryd.underlying126
  a105 := Tryd.isAgg126
  z105 := Tryd.sizeOf126
  v105 := Tryd.zeroValue126
  t116 := Tryd.underlying116
  a116 := Tryd.isAgg116
  z116 := Tryd.sizeOf116
  t117 := Tryd.underlying117
  a117 := Tryd.isAgg117
  z117 := Tryd.sizeOf117
  v117 := Tryd.zeroValue117
  t119 := Tryd.underlying131
  a119 := Tryd.isAgg131
  z119 := Tryd.sizeOf131
  t124 := Tryd.underlying120
  a124 := Tryd.isAgg120
  z124 := Tryd.sizeOf120
  v124 := Tryd.zeroValue120
  t138 := Tryd.underlying133
  a138 := Tryd.isAgg133
  z138 := Tryd.sizeOf133
  v138 := Tryd.zeroValue133
  t139 := Tryd.underlying134
  a139 := Tryd.isAgg134
  z139 := Tryd.sizeOf134
  v139 := Tryd.zeroValue134
  g3 := by kernel_rfl
  g4 := by kernel_rfl }
theorem Tryd.strings_TrimLeft_one (s : ByteArray) (c : UInt8) (hc : c.toNat < 128) (w : World) :
    Calls Tryd.prog 58 #[.string s, .string ⟨#[c]⟩] w fun e w' => e = .returned (.string ⟨(Lib.trimLeftB s.data.toList c).toArray⟩) ∧ w' = w := Any.strings_TrimLeft_one Tryd.lays161 s c hc w
def Tryd.lays137_ren : Go.Shelf.Ren := ⟨fun | 137 => 60 | 217 => 82 | 266 => 91 | n => n, fun | 9 => 9 | 5 => 5 | 3 => 3 | n => n, fun | n => n⟩
theorem Tryd.lays137 : Go.Proofs.Lays.n137 Tryd.prog Tryd.lays137_ren := {
  mixed := by kernel_rfl
  f137 := Tryd.func60.trans (congrArg some (by kernel_rfl))
  f217 := Tryd.func82.trans (congrArg some (by kernel_rfl))
  f266 := Tryd.func91.trans (congrArg some (by kernel_rfl))
  t3 := Tryd.underlying3
  a3 := Tryd.isAgg3
  z3 := Tryd.sizeOf3
  v3 := Tryd.zeroValue3
  t5 := Tryd.underlying5
  a5 := Tryd.isAgg5
  z5 := Tryd.sizeOf5
  v5 := Tryd.zeroValue5
  t9 := Tryd.underlying9
  a9 := Tryd.isAgg9
  z9 := Tryd.sizeOf9
  v9 := Tryd.zeroValue9 }
theorem Tryd.strings_IndexByte (s : ByteArray) (c : Int) (w : World) :
    Calls Tryd.prog 60 #[.string s, .int .u8 c] w fun e w' => e = .returned (.int .i64 (Lib.indexByte s.data.toList c.toNat.toUInt8)) ∧ w' = w := Any.strings_IndexByte Tryd.lays137 s c w
def Tryd.lays99_ren : Go.Shelf.Ren := ⟨fun | 99 => 59 | 206 => 81 | n => n, fun | 9 => 9 | 4 => 4 | 3 => 3 | n => n, fun | n => n⟩
theorem Tryd.lays99 : Go.Proofs.Lays.n99 Tryd.prog Tryd.lays99_ren := {
  mixed := by kernel_rfl
  f99 := Tryd.func59.trans (congrArg some (by kernel_rfl))
  f206 := Tryd.func81.trans (congrArg some (by kernel_rfl))
  t3 := Tryd.underlying3
  a3 := Tryd.isAgg3
  z3 := Tryd.sizeOf3
  v3 := Tryd.zeroValue3
  t4 := Tryd.underlying4
  a4 := Tryd.isAgg4
  z4 := Tryd.sizeOf4
  v4 := Tryd.zeroValue4
  t9 := Tryd.underlying9
  a9 := Tryd.isAgg9
  z9 := Tryd.sizeOf9
  v9 := Tryd.zeroValue9 }
theorem Tryd.strings_HasPrefix (s p : ByteArray) (w : World) :
    Calls Tryd.prog 59 #[.string s, .string p] w fun e w' => e = .returned (.bool (Lib.hasPrefix s.data.toList p.data.toList)) ∧ w' = w := Any.strings_HasPrefix Tryd.lays99 s p w
def Tryd.lays111_ren : Go.Shelf.Ren := ⟨fun | 111 => 38 | n => n, fun | 28 => 32 | 3 => 3 | 4 => 4 | 0 => 0 | n => n, fun | n => n⟩
theorem Tryd.lays111 : Go.Proofs.Lays.n111 Tryd.prog Tryd.lays111_ren := {
  mixed := by kernel_rfl
  f111 := Tryd.func38.trans (congrArg some (by kernel_rfl))
  t0 := Tryd.underlying0
  a0 := Tryd.isAgg0
  z0 := Tryd.sizeOf0
  v0 := Tryd.zeroValue0
  t3 := Tryd.underlying3
  a3 := Tryd.isAgg3
  z3 := Tryd.sizeOf3
  v3 := Tryd.zeroValue3
  t4 := Tryd.underlying4
  a4 := Tryd.isAgg4
  z4 := Tryd.sizeOf4
  v4 := Tryd.zeroValue4
  t28 := Tryd.underlying32
  a28 := Tryd.isAgg32
  z28 := Tryd.sizeOf32
  v28 := Tryd.zeroValue32 }
theorem Tryd.slices_Equal_int (b1 o1 n c b2 o2 m d : Nat) (xs ys : List Int) (w : World) (hx : n ≤ xs.length) (hy : m ≤ ys.length) (hbig : n ≤ 9223372036854775807) (hbig2 : m ≤ 9223372036854775807) (hc1 : ∀ j, j < xs.length → w.cell? ⟨b1, o1 + j, none⟩ = some (.int .i64 (xs.getD j 0))) (hc2 : ∀ j, j < ys.length → w.cell? ⟨b2, o2 + j, none⟩ = some (.int .i64 (ys.getD j 0))) :
    Calls Tryd.prog 38 #[.slice (some ⟨b1, o1, none⟩) n c, .slice (some ⟨b2, o2, none⟩) m d] w fun e w' => e = .returned (.bool (xs.take n == ys.take m)) ∧ ∃ q, w' = w.drewN q := Any.slices_Equal_int Tryd.lays111 b1 o1 n c b2 o2 m d xs ys w hx hy hbig hbig2 hc1 hc2
theorem Tryd.slices_Equal_int_empty (a1 a2 : Option Addr) (c m d : Nat) (w : World) (hbig2 : m ≤ 9223372036854775807) :
    Calls Tryd.prog 38 #[.slice a1 0 c, .slice a2 m d] w fun e w' => e = .returned (.bool (decide (m = 0))) ∧ w' = w := Any.slices_Equal_int_empty Tryd.lays111 a1 a2 c m d w hbig2
def Tryd.lays193_ren : Go.Shelf.Ren := ⟨fun | 193 => 36 | n => n, fun | 31 => 45 | 9 => 9 | 4 => 4 | 3 => 3 | 0 => 0 | n => n, fun | n => n⟩
theorem Tryd.lays193 : Go.Proofs.Lays.n193 Tryd.prog Tryd.lays193_ren := {
  mixed := by kernel_rfl
  f193 := Tryd.func36.trans (congrArg some (by kernel_rfl))
  t0 := Tryd.underlying0
  a0 := Tryd.isAgg0
  z0 := Tryd.sizeOf0
  v0 := Tryd.zeroValue0
  t3 := Tryd.underlying3
  a3 := Tryd.isAgg3
  z3 := Tryd.sizeOf3
  v3 := Tryd.zeroValue3
  t4 := Tryd.underlying4
  a4 := Tryd.isAgg4
  z4 := Tryd.sizeOf4
  v4 := Tryd.zeroValue4
  t9 := Tryd.underlying9
  a9 := Tryd.isAgg9
  z9 := Tryd.sizeOf9
  v9 := Tryd.zeroValue9
  t31 := Tryd.underlying45
  a31 := Tryd.isAgg45
  z31 := Tryd.sizeOf45
  v31 := Tryd.zeroValue45 }
theorem Tryd.slices_Equal_string (b1 o1 n c b2 o2 m d : Nat) (xs ys : List ByteArray) (w : World) (hx : n ≤ xs.length) (hy : m ≤ ys.length) (hbig : n ≤ 9223372036854775807) (hbig2 : m ≤ 9223372036854775807) (hc1 : ∀ j, j < xs.length → w.cell? ⟨b1, o1 + j, none⟩ = some (.string (xs.getD j ByteArray.empty))) (hc2 : ∀ j, j < ys.length → w.cell? ⟨b2, o2 + j, none⟩ = some (.string (ys.getD j ByteArray.empty))) :
    Calls Tryd.prog 36 #[.slice (some ⟨b1, o1, none⟩) n c, .slice (some ⟨b2, o2, none⟩) m d] w fun e w' => e = .returned (.bool (decide (xs.take n = ys.take m))) ∧ ∃ q, w' = w.drewN q := Any.slices_Equal_string Tryd.lays193 b1 o1 n c b2 o2 m d xs ys w hx hy hbig hbig2 hc1 hc2
theorem Tryd.slices_Equal_string_empty (a1 a2 : Option Addr) (c m d : Nat) (w : World) (hbig2 : m ≤ 9223372036854775807) :
    Calls Tryd.prog 36 #[.slice a1 0 c, .slice a2 m d] w fun e w' => e = .returned (.bool (decide (m = 0))) ∧ w' = w := Any.slices_Equal_string_empty Tryd.lays193 a1 a2 c m d w hbig2
end Go.Proofs.YtibeangcjfjeiaaDoor

namespace Go.Proofs.YtibeangcjfjeiaaDoor
open Go.RowKit Wire Txt Go.Shelf
set_option linter.unusedVariables false
set_option maxRecDepth 100000
set_option linter.unusedSimpArgs false
namespace Lx

def firstS : List UInt8 := [97, 98, 99, 100, 101, 102, 103, 104, 105, 106, 107, 108, 109, 110, 111, 112, 113, 114, 115, 116, 117, 118, 119, 120, 121, 122, 65, 66, 67, 68, 69, 70, 71, 72, 73, 74, 75, 76, 77, 78, 79, 80, 81, 82, 83, 84, 85, 86, 87, 88, 89, 90, 95]
def headS : List UInt8 := [97, 98, 99, 100, 101, 102, 103, 104, 105, 106, 107, 108, 109, 110, 111, 112, 113, 114, 115, 116, 117, 118, 119, 120, 121, 122, 65, 66, 67, 68, 69, 70, 71, 72, 73, 74, 75, 76, 77, 78, 79, 80, 81, 82, 83, 84, 85, 86, 87, 88, 89, 90, 95, 48, 49, 50, 51, 52, 53, 54, 55, 56, 57]
def laterS : List UInt8 := [97, 98, 99, 100, 101, 102, 103, 104, 105, 106, 107, 108, 109, 110, 111, 112, 113, 114, 115, 116, 117, 118, 119, 120, 121, 122, 65, 66, 67, 68, 69, 70, 71, 72, 73, 74, 75, 76, 77, 78, 79, 80, 81, 82, 83, 84, 85, 86, 87, 88, 89, 90, 95, 48, 49, 50, 51, 52, 53, 54, 55, 56, 57, 45]
def digitS : List UInt8 := [48, 49, 50, 51, 52, 53, 54, 55, 56, 57]
def whiteS : List UInt8 := [32, 9, 13]

theorem all_bytes {p : UInt8 → Prop} (h : ∀ n, n < 256 → p (UInt8.ofNat n)) (c : UInt8) : p c := by
  have := h c.toNat (UInt8.toNat_lt c)
  rwa [UInt8.ofNat_toNat] at this
theorem first_is (c : UInt8) : firstS.contains c = isL c := all_bytes (p := fun c => firstS.contains c = isL c) (by decide +kernel) c
theorem head_is (c : UInt8) : headS.contains c = (isL c || isD c) := all_bytes (p := fun c => headS.contains c = (isL c || isD c)) (by decide +kernel) c
theorem later_is (c : UInt8) : laterS.contains c = isP c := all_bytes (p := fun c => laterS.contains c = isP c) (by decide +kernel) c
theorem digit_is (c : UInt8) : digitS.contains c = isD c := all_bytes (p := fun c => digitS.contains c = isD c) (by decide +kernel) c
theorem white_is (c : UInt8) : whiteS.contains c = isW c := all_bytes (p := fun c => whiteS.contains c = isW c) (by decide +kernel) c

theorem trimS_is {cs : List UInt8} {p : UInt8 → Bool} (h : ∀ c, cs.contains c = p c) (l : List UInt8) : Lib.trimLeftS l cs = l.dropWhile p := by
  unfold Lib.trimLeftS
  congr 1
  funext c
  exact h c

theorem trim_any {cs : List UInt8} {p : UInt8 → Bool} (h : ∀ c, cs.contains c = p c) (hcs : cs.length < 1000) (ha : cs.all (fun b => decide (b.toNat < 128)) = true) (s : ByteArray) (w : World) :
    Calls Tryd.prog 58 #[.string s, .string ⟨cs.toArray⟩] w fun e w' => e = .returned (str ((bl s).dropWhile p)) ∧ Below w.heap.size w w' := by
  refine (Any.strings_TrimLeft_laid Tryd.lays161 (by kernel_rfl) s ⟨cs.toArray⟩ w (by show cs.length < _; omega) ?_).mono ?_
  · intro j b hb
    exact of_decide_eq_true (List.all_eq_true.1 ha b (List.mem_of_getElem? hb))
  · rintro e w' ⟨rfl, hw⟩
    refine ⟨?_, hw⟩
    show _ = Ending.returned (str _)
    rw [← trimS_is h]
theorem trimWhite_any (s : ByteArray) (w : World) : Calls Tryd.prog 58 #[.string s, .string ⟨#[32, 9, 13]⟩] w fun e w' => e = .returned (str ((bl s).dropWhile isW)) ∧ Below w.heap.size w w' :=
  trim_any (cs := whiteS) white_is (by decide) (by decide) s w
theorem trimLater_any (s : ByteArray) (w : World) : Calls Tryd.prog 58 #[.string s, .string ⟨#[97, 98, 99, 100, 101, 102, 103, 104, 105, 106, 107, 108, 109, 110, 111, 112, 113, 114, 115, 116, 117, 118, 119, 120, 121, 122, 65, 66, 67, 68, 69, 70, 71, 72, 73, 74, 75, 76, 77, 78, 79, 80, 81, 82, 83, 84, 85, 86, 87, 88, 89, 90, 95, 48, 49, 50, 51, 52, 53, 54, 55, 56, 57, 45]⟩] w fun e w' => e = .returned (str ((bl s).dropWhile isP)) ∧ Below w.heap.size w w' :=
  trim_any (cs := laterS) later_is (by decide) (by decide) s w
theorem trimDigit_any (s : ByteArray) (w : World) : Calls Tryd.prog 58 #[.string s, .string ⟨#[48, 49, 50, 51, 52, 53, 54, 55, 56, 57]⟩] w fun e w' => e = .returned (str ((bl s).dropWhile isD)) ∧ Below w.heap.size w w' :=
  trim_any (cs := digitS) digit_is (by decide) (by decide) s w

theorem index_mem (l : List UInt8) (c : UInt8) : decide (0 ≤ Lib.indexByte l c) = l.contains c := by
  induction l with
  | nil => rfl
  | cons b l ih =>
    have hg := Lib.indexByte_ge l c
    unfold Lib.indexByte
    rw [List.contains_cons]
    by_cases hb : b = c
    · subst hb
      simp
    · rw [if_neg (by simpa using hb)]
      have hcb : (c == b) = false := by simpa using fun e => hb e.symm
      rw [hcb, Bool.false_or, ← ih]
      congr 1
      by_cases h1 : Lib.indexByte l c = -1
      · simp [h1]
      · rw [if_neg (by simpa using h1)]
        apply propext
        constructor <;> intro _ <;> omega
/-- Where the first LF is: behind all that isn't one. -/
theorem index_lf (l : List UInt8) : (Lib.indexByte l 10 = -1 ∧ l.dropWhile no10 = []) ∨ ∃ k : Nat, Lib.indexByte l 10 = k ∧ k < l.length ∧ l.dropWhile no10 = l.drop k := by
  induction l with
  | nil => exact .inl ⟨rfl, rfl⟩
  | cons b l ih =>
    have hg := Lib.indexByte_ge l 10
    unfold Lib.indexByte
    by_cases hb : b = 10
    · subst hb
      exact .inr ⟨0, rfl, by simp, rfl⟩
    · rw [if_neg (by simpa using hb), List.dropWhile_cons_of_pos (by simpa [no10] using hb)]
      rcases ih with ⟨h1, h2⟩ | ⟨k, h1, h2, h3⟩
      · rw [h1]
        exact .inl ⟨rfl, h2⟩
      · rw [h1, if_neg (by rw [Bool.not_eq_true]; exact beq_eq_false_iff_ne.2 (by omega))]
        exact .inr ⟨k + 1, rfl, by simpa using h2, h3⟩

theorem indexByte_any (s : ByteArray) (c : UInt8) (w : World) : Calls Tryd.prog 60 #[.string s, .int .u8 c.toNat] w fun e w' => e = .returned (.int .i64 (Lib.indexByte (bl s) c)) ∧ w' = w := by
  have h := Tryd.strings_IndexByte s (c.toNat : Int) w
  rw [show ((c.toNat : Int)).toNat.toUInt8 = c from by simp] at h
  exact h
theorem indexLf_any (s : ByteArray) (w : World) : Calls Tryd.prog 60 #[.string s, .int .u8 10] w fun e w' => e = .returned (.int .i64 (Lib.indexByte (bl s) 10)) ∧ w' = w := indexByte_any s 10 w
theorem hasPrefix_any (s : ByteArray) (w : World) : Calls Tryd.prog 59 #[.string s, .string ⟨#[35]⟩] w fun e w' => e = .returned (.bool ((bl s).head? == some 35)) ∧ w' = w := by
  refine (Tryd.strings_HasPrefix s ⟨#[35]⟩ w).mono ?_
  rintro e w' ⟨rfl, rfl⟩
  refine ⟨?_, rfl⟩
  show Ending.returned (.bool (Lib.hasPrefix (bl s) [35])) = _
  congr 2
  unfold Lib.hasPrefix
  cases bl s with
  | nil => rfl
  | cons c r =>
    show ((35 == c) && List.isPrefixOf [] r) = (some c == some 35)
    rw [show List.isPrefixOf [] r = true from by cases r <;> rfl, Bool.and_true, Option.some_beq_some]
    exact Bool.beq_comm

end Lx
end Go.Proofs.YtibeangcjfjeiaaDoor

namespace Go.Proofs.YtibeangcjfjeiaaDoor
open Go.RowKit Wire Txt
set_option linter.unusedVariables false
set_option maxRecDepth 100000
set_option linter.unusedSimpArgs false
namespace Lx

theorem hasFirst_any (c : UInt8) (w : World) : Calls Tryd.prog 44 #[.string ⟨firstS.toArray⟩, .int .u8 c.toNat] w fun e w' => e = .returned (.bool (isL c)) ∧ w' = w := by
  have h := index_mem firstS c
  rw [first_is] at h
  have HC := Lib.hid (indexByte_any ⟨firstS.toArray⟩ c w)
  rw [show bl ⟨firstS.toArray⟩ = firstS from rfl] at HC
  generalize Lib.indexByte firstS c = z at h HC
  generalize (⟨firstS.toArray⟩ : ByteArray) = S at HC ⊢
  go_enter Tryd.func44, Tryd.ntmps44
  go_wp2_with (go_at_call 60; refine HC.out.mono ?_; rintro e w1 ⟨rfl, rfl⟩)
  go_ret
  exact ⟨by rw [← h]; rfl, rfl⟩
theorem hasHead_any (c : UInt8) (w : World) : Calls Tryd.prog 44 #[.string ⟨headS.toArray⟩, .int .u8 c.toNat] w fun e w' => e = .returned (.bool (isL c || isD c)) ∧ w' = w := by
  have h := index_mem headS c
  rw [head_is] at h
  have HC := Lib.hid (indexByte_any ⟨headS.toArray⟩ c w)
  rw [show bl ⟨headS.toArray⟩ = headS from rfl] at HC
  generalize Lib.indexByte headS c = z at h HC
  generalize (⟨headS.toArray⟩ : ByteArray) = S at HC ⊢
  go_enter Tryd.func44, Tryd.ntmps44
  go_wp2_with (go_at_call 60; refine HC.out.mono ?_; rintro e w1 ⟨rfl, rfl⟩)
  go_ret
  exact ⟨by rw [← h]; rfl, rfl⟩

theorem str_take (s : ByteArray) (n : Nat) : str ((bl s).take n) = .string (s.extract 0 n) := by
  obtain ⟨⟨l⟩⟩ := s
  rw [show (⟨⟨l⟩⟩ : ByteArray) = ⟨l.toArray⟩ from rfl, bytes_extract, List.drop_zero]
theorem str_drop (s : ByteArray) (n : Nat) : str ((bl s).drop n) = .string (s.extract n s.size) := by
  obtain ⟨⟨l⟩⟩ := s
  rw [show (⟨⟨l⟩⟩ : ByteArray) = ⟨l.toArray⟩ from rfl, bytes_extract, show (⟨l.toArray⟩ : ByteArray).size = l.length from rfl, List.take_length]

abbrev ptr (b : Nat) : Value := .pointer (some ⟨b, 0, none⟩)
/-- A reader: what it has not read, and its line. -/
abbrev RD (w : World) (b : Nat) (l : List UInt8) (L : Nat) : Prop := Blk w b 75 #[str l, .int .i64 L]

theorem take_any {w : World} {b : Nat} {l : List UInt8} {L n : Nat} (h : RD w b l L) (hn : n ≤ l.length) (hl : l.length ≤ 1000000000) :
    Calls Tryd.prog 61 #[ptr b, .int .i64 n] w fun e w' => e = .returned (str (l.take n)) ∧ RD w' b (l.drop n) L ∧ w.grownBy w' (some b) := by
  obtain ⟨s, rfl⟩ : ∃ s : ByteArray, l = bl s := ⟨⟨l.toArray⟩, rfl⟩
  rw [bl_len] at hn hl
  have c0 : w.cell? ⟨b, 0, none⟩ = some (.string s) := h.at 0
  have HB : Hid (RD (w.setCell ⟨b, 0, none⟩ (.string (s.extract n s.size))) b ((bl s).drop n) L) := Lib.hid (by rw [← str_drop]; exact Blk.put h 0 _)
  have HG : Hid (w.grownBy (w.setCell ⟨b, 0, none⟩ (.string (s.extract n s.size))) (some b)) := Lib.hid only_set
  have hf := h.thaw 0
  rw [str_take]
  clear h
  go_enter Tryd.func61, Tryd.ntmps61
  go_wp2_with fail
  go_ret
  exact ⟨rfl, HB.out, HG.out⟩

theorem skip_hash {l m : List UInt8} (h : l.dropWhile isW = m) (hh : (m.head? == some 35) = true) : skip l = m.dropWhile no10 := by
  unfold skip
  rw [h]
  cases m with
  | nil => simp at hh
  | cons c r =>
    obtain rfl : c = 35 := by simpa using hh
    rw [List.dropWhile_cons_of_pos (by decide)]
    rfl
theorem skip_plain {l m : List UInt8} (h : l.dropWhile isW = m) (hh : (m.head? == some 35) = false) : skip l = m := by
  unfold skip
  rw [h]
  split
  · simp at hh
  · rfl
theorem mk_bl (l : List UInt8) : ∃ d : ByteArray, bl d = l := ⟨⟨l.toArray⟩, rfl⟩

/-- What the first statement leaves. -/
theorem rd_turn {w w1 : World} {b : Nat} {l : List UInt8} {d : ByteArray} {L : Nat} (h : RD w b l L) (b1 : Below w.heap.size w w1) : RD w1 b l L ∧ RD (w1.setCell ⟨b, 0, none⟩ (.string d)) b (bl d) L ∧ w.grownBy (w1.setCell ⟨b, 0, none⟩ (.string d)) (some b) := by
  have h1 : RD w1 b l L := h.under b1 h.inside
  exact ⟨h1, Blk.put h1 0 _, grown_trans (only_one b1) only_set⟩

set_option maxHeartbeats 1000000 in
theorem skipBlank_any {w : World} {b : Nat} {l : List UInt8} {L : Nat} (h : RD w b l L) (hl : l.length ≤ 1000000000) :
    Calls Tryd.prog 41 #[ptr b] w fun e w' => e = .returned (.tuple #[]) ∧ RD w' b (skip l) L ∧ w.grownBy w' (some b) := by
  obtain ⟨s, rfl⟩ := mk_bl l
  have c0 : w.cell? ⟨b, 0, none⟩ = some (.string s) := h.at 0
  have HT := Lib.hid (trimWhite_any s w)
  obtain ⟨d, hd⟩ := mk_bl ((bl s).dropWhile isW)
  have hdl : (bl d).length ≤ (bl s).length := by rw [hd]; exact drop_len _ _
  have hk1 := fun hh => skip_hash hd.symm hh
  have hk2 := fun hh => skip_plain hd.symm hh
  rw [← hd, str_bl] at HT
  have HP := Lib.hid (fun w => hasPrefix_any d w)
  have HX := Lib.hid (fun w => indexLf_any d w)
  have HH := Lib.hid h
  generalize skip (bl s) = res at hk1 hk2 ⊢
  clear hd
  cases hh : ((bl d).head? == some 35) with
  | false =>
    have e := hk2 hh
    subst e
    rw [hh] at HP
    clear hk1 hk2 h
    go_enter Tryd.func41, Tryd.ntmps41
    go_wp2_with (first
      | (go_at_call 58; refine HT.out.mono ?_; rintro e w1 ⟨rfl, b1⟩
         obtain ⟨h1, h2, h3⟩ := rd_turn (d := d) HH.out b1
         have c1 : w1.cell? ⟨b, 0, none⟩ = some (.string s) := h1.at 0
         have f1 := h1.thaw 0
         have H2 := Lib.hid h2
         have H3 := Lib.hid h3
         clear h1 h2 h3)
      | (go_at_call 59; refine (HP.out _).mono ?_; rintro e w2 ⟨rfl, rfl⟩))
    first | go_returns | go_ret
    exact ⟨rfl, H2.out, H3.out⟩
  | true =>
    have e := hk1 hh
    subst e
    rw [hh] at HP
    have HL := Lib.hid (show (bl d).length ≤ 1000000000 from by omega)
    have hsd := bl_len d
    clear hk1 hk2 h
    rcases index_lf (bl d) with ⟨hi, h2⟩ | ⟨k, hi, hk, h2⟩
    · rw [hi] at HX
      rw [h2]
      have HE : Hid ((bl d).drop d.size = []) := Lib.hid (drop_end (Nat.le_refl _))
      clear hi h2
      go_enter Tryd.func41, Tryd.ntmps41
      go_wp2_with (first
        | (go_at_call 58; refine HT.out.mono ?_; rintro e w1 ⟨rfl, b1⟩
           obtain ⟨h1, h2, h3⟩ := rd_turn (d := d) HH.out b1
           have c1 : w1.cell? ⟨b, 0, none⟩ = some (.string s) := h1.at 0
           have f1 := h1.thaw 0
           have H2 := Lib.hid h2
           have H3 := Lib.hid h3
           clear h1 h2 h3)
        | (go_at_call 59; refine (HP.out _).mono ?_; rintro e w2 ⟨rfl, rfl⟩)
        | (go_at_call 60; refine (HX.out _).mono ?_; rintro e w2 ⟨rfl, rfl⟩)
        | (go_at_call 61; refine (take_any H2.out (n := d.size) (by rw [bl_len]; exact Nat.le_refl _) HL.out).mono ?_; rintro e w2 ⟨rfl, h4, h5⟩))
      go_end0
      exact ⟨rfl, by rw [HE.out] at h4; exact h4, grown_trans H3.out h5⟩
    · rw [hi] at HX
      rw [h2]
      have HK := Lib.hid hk
      clear hi h2 hk
      go_enter Tryd.func41, Tryd.ntmps41
      go_wp2_with (first
        | (go_at_call 58; refine HT.out.mono ?_; rintro e w1 ⟨rfl, b1⟩
           obtain ⟨h1, h2, h3⟩ := rd_turn (d := d) HH.out b1
           have c1 : w1.cell? ⟨b, 0, none⟩ = some (.string s) := h1.at 0
           have f1 := h1.thaw 0
           have H2 := Lib.hid h2
           have H3 := Lib.hid h3
           clear h1 h2 h3)
        | (go_at_call 59; refine (HP.out _).mono ?_; rintro e w2 ⟨rfl, rfl⟩)
        | (go_at_call 60; refine (HX.out _).mono ?_; rintro e w2 ⟨rfl, rfl⟩)
        | (go_at_call 61; refine (take_any H2.out (n := k) (Nat.le_of_lt HK.out) HL.out).mono ?_; rintro e w2 ⟨rfl, h4, h5⟩))
      go_end0
      exact ⟨rfl, h4, grown_trans H3.out h5⟩
end Lx
end Go.Proofs.YtibeangcjfjeiaaDoor

namespace Go.Proofs.YtibeangcjfjeiaaDoor
open Go.RowKit Wire Txt
set_option linter.unusedVariables false
set_option maxRecDepth 100000
set_option linter.unusedSimpArgs false
namespace Lx

/-- Where a text ends that is read from i on. -/
def tsz (n i : Nat) : Option Nat → Nat
  | none => n
  | some k => i + k
theorem clo_close (c : UInt8) (r : List UInt8) (odd : Bool) (h : c = 34) (ho : odd = false) : clo odd (c :: r) = some 1 := by
  unfold clo
  rw [if_pos ⟨h, ho⟩]
theorem clo_next (c : UInt8) (r : List UInt8) (odd : Bool) (h : ¬ (c = 34 ∧ odd = false)) (n i : Nat) : tsz n i (clo odd (c :: r)) = tsz n (i + 1) (clo (c == 92 && !odd) r) := by
  conv => lhs; unfold clo
  rw [if_neg h]
  cases clo (c == 92 && !odd) r with
  | none => rfl
  | some k =>
    show i + (k + 1) = i + 1 + k
    omega

set_option maxHeartbeats 1000000 in
theorem textSize_any (s : ByteArray) (w : World) (hs : s.size ≤ 1000000000) (h0 : 0 < s.size) :
    Calls Tryd.prog 63 #[.string s] w fun e w' => e = .returned (.int .i64 (tsz s.size 1 (clo false ((bl s).drop 1)))) ∧ w' = w := by
  generalize hz : tsz s.size 1 (clo false ((bl s).drop 1)) = z
  have HZ := Lib.hid hz
  clear hz
  go_enter Tryd.func63, Tryd.ntmps63
  go_wp2_with fail
  go_loopw [3, 4] (fun ov iv wr => (∃ (i : Nat) (o : Bool), ov = .bool o ∧ iv = .int .i64 i ∧ i ≤ s.size ∧ Hid (tsz s.size i (clo o ((bl s).drop i)) = z)) ∧ w = wr) (fun _ iv _ => s.size - (intOf iv).toNat)
  case atStart => exact ⟨⟨1, false, rfl, rfl, h0, HZ⟩, rfl⟩
  case round =>
    obtain ⟨⟨i, o, rfl, rfl, hi, HN⟩, rfl⟩ := hrel
    by_cases hlt : i < s.size
    · have hd := drop_at hlt
      have hN := HN.out
      rw [hd] at hN
      clear HN hd
      by_cases h34 : s[i] = 34
      · have t34 : ((s[i].toNat : Int) == 34) = true := byte_eq (k := 34) (by omega) h34
        have t92 : ((s[i].toNat : Int) == 92) = false := byte_ne (k := 92) (by omega) (by rw [h34]; decide)
        cases o with
        | false =>
          rw [clo_close _ _ _ h34 rfl] at hN
          have HN : Hid (i + 1 = z) := Lib.hid hN
          clear hN h34
          go_wp2_with fail
          go_ret
          exact ⟨by rw [← HN.out]; rfl, rfl⟩
        | true =>
          rw [clo_next _ _ _ (by simp), show (s[i] == 92 && !true) = false by simp] at hN
          have HN := Lib.hid hN
          clear hN h34
          go_wp2_with fail
          go_roundw
          case rel => exact ⟨⟨i + 1, false, rfl, by simp, hlt, HN⟩, trivial⟩
          case measure => simp [intOf]; omega
      · have t34 : ((s[i].toNat : Int) == 34) = false := byte_ne (k := 34) (by omega) h34
        rw [clo_next _ _ _ (fun e => h34 e.1)] at hN
        clear h34
        by_cases h92 : s[i] = 92
        · have t92 : ((s[i].toNat : Int) == 92) = true := byte_eq (k := 92) (by omega) h92
          rw [show (s[i] == 92 && !o) = !o by simp [h92]] at hN
          have HN := Lib.hid hN
          clear hN h92
          cases o with
          | false =>
            go_wp2_with fail
            go_roundw
            case rel => exact ⟨⟨i + 1, true, rfl, by simp, hlt, HN⟩, trivial⟩
            case measure => simp [intOf]; omega
          | true =>
            go_wp2_with fail
            go_roundw
            case rel => exact ⟨⟨i + 1, false, rfl, by simp, hlt, HN⟩, trivial⟩
            case measure => simp [intOf]; omega
        · have t92 : ((s[i].toNat : Int) == 92) = false := byte_ne (k := 92) (by omega) h92
          rw [show (s[i] == 92 && !o) = false by simp [h92]] at hN
          have HN := Lib.hid hN
          clear hN h92
          go_wp2_with fail
          go_roundw
          case rel => exact ⟨⟨i + 1, false, rfl, by simp, hlt, HN⟩, trivial⟩
          case measure => simp [intOf]; omega
    · obtain rfl : i = s.size := by omega
      rw [drop_end (Nat.le_refl _)] at HN
      have HN : Hid (s.size = z) := Lib.hid (by have := HN.out; unfold clo tsz at this; exact this)
      go_wp2_with fail
      go_ret
      exact ⟨by rw [← HN.out]; rfl, rfl⟩

set_option maxHeartbeats 1000000 in
theorem word_any (s : ByteArray) (w : World) (hs : s.size ≤ 1000000000) :
    Calls Tryd.prog 50 #[.string s] w fun e w' => e = .returned (.bool (word (bl s))) ∧ Below w.heap.size w w' := by
  by_cases h0 : 0 < s.size
  · have hl := not_empty h0
    have hl2 := not_empty2 h0
    have HF := Lib.hid (hasFirst_any s[0] w)
    have HT := Lib.hid (trimLater_any s w)
    have hall : ((bl s).dropWhile isP).isEmpty = (bl s).all isP := by
      induction bl s with
      | nil => rfl
      | cons c r ih =>
        cases hc : isP c with
        | true => rw [List.dropWhile_cons_of_pos hc, List.all_cons, hc, ih]; rfl
        | false => rw [List.dropWhile_cons_of_neg (by rw [hc]; decide), List.all_cons, hc]; rfl
    have hw : word (bl s) = (decide (s.size ≤ 20) && isL s[0] && ((bl s).dropWhile isP).isEmpty) := by
      rw [hall]
      have hd := drop_at h0
      rw [List.drop_zero] at hd
      have hlen := bl_len s
      unfold word
      rw [hlen]
      rw [hd]
      simp [show 1 ≤ s.size from h0]
    obtain ⟨d, hd⟩ := mk_bl ((bl s).dropWhile isP)
    have he : d.toList.isEmpty = ((bl s).dropWhile isP).isEmpty := by rw [ByteArray.toList_eq]; exact congrArg List.isEmpty hd
    rw [hw, ← he]
    rw [← hd, str_bl] at HT
    clear hw he hd hall
    by_cases h20 : s.size ≤ 20
    · have t20 : decide ((s.size : Int) ≤ 20) = true := decide_eq_true (by omega)
      have u20 : decide (s.size ≤ 20) = true := decide_eq_true h20
      rw [u20]
      clear h20 u20
      cases hL : isL s[0] with
      | true =>
        rw [hL] at HF
        clear hL
        go_enter Tryd.func50, Tryd.ntmps50
        go_wp2_with (first
          | (go_at_call 44; refine HF.out.mono ?_; rintro e w1 ⟨rfl, rfl⟩)
          | (go_at_call 58; refine HT.out.mono ?_; rintro e w1 ⟨rfl, b1⟩))
        go_ret
        exact ⟨rfl, b1⟩
      | false =>
        rw [hL] at HF
        clear hL
        go_enter Tryd.func50, Tryd.ntmps50
        go_wp2_with (first
          | (go_at_call 44; refine HF.out.mono ?_; rintro e w1 ⟨rfl, rfl⟩)
          | (go_at_call 58; refine HT.out.mono ?_; rintro e w1 ⟨rfl, b1⟩))
        go_ret
        exact ⟨rfl, Below.refl _ _⟩
    · have t20 : decide ((s.size : Int) ≤ 20) = false := decide_eq_false (by omega)
      have u20 : decide (s.size ≤ 20) = false := decide_eq_false h20
      rw [u20]
      clear h20 u20
      go_enter Tryd.func50, Tryd.ntmps50
      go_wp2_with fail
      go_ret
      exact ⟨rfl, Below.refl _ _⟩
  · have hl := is_empty h0
    obtain rfl : s = ByteArray.empty := bl_inj (by rw [ByteArray.toList_eq] at hl; exact hl)
    clear hl h0
    go_enter Tryd.func50, Tryd.ntmps50
    go_wp2_with fail
    go_ret
    exact ⟨rfl, Below.refl _ _⟩
end Lx
end Go.Proofs.YtibeangcjfjeiaaDoor

/- Package draft's lineOf. -/
import Derived.Test.YtibeangcjfjeiaaDoorDpQ
import Derived.Test.YtibeangcjfjeiaaDoorDecm
import Derived.Test.YtibeangcjfjeiaaDoorLxO
import Derived.Lib.Join
namespace Go.Proofs.YtibeangcjfjeiaaDoor
open Go.RowKit Txt Wire Lx
set_option linter.unusedVariables false
set_option maxRecDepth 100000
set_option linter.unusedSimpArgs false
namespace Drf

/-- The words of a line, place by place. -/
def lpR (x : It) : List UInt8 → List Int → List (List UInt8) → List (List UInt8)
  | [], _, acc => acc
  | p :: ps, l, acc =>
    if p = 110 then lpR x ps l (acc ++ [x.name])
    else if p = 99 then lpR x ps l (if x.name = [] then acc else acc ++ [x.name])
    else if p = 111 then lpR x ps l (acc ++ [x.other])
    else match l with
      | [] => acc
      | z :: l => if p = 49 then lpR x ps l (acc ++ [decI z]) else lpR x ps l (acc ++ [dirW z.toNat])
def wordsOf (x : It) : List (List UInt8) := lpR x (places x.kind.toNat) x.n [wordOf x.kind.toNat]
theorem words_line {x : It} (h : rightIt x = true) : Lib.join (wordsOf x) [32] ++ [10] = lineI x := by
  obtain ⟨hs, hn⟩ := shape_of h
  cases hs with
  | zone name n ln hw hl =>
    match n, hl with
    | [a, b, c, d, e, f, g], _ => simp [wordsOf, lpR, places, wordOf, form, formI, lineI, numL, Lib.join]
  | shift name n ln hw hl =>
    match n, hl with
    | [a, b], _ => simp [wordsOf, lpR, places, wordOf, form, formI, lineI, numL, Lib.join]
  | oneway a b c d ln h0 h5 => simp [wordsOf, lpR, places, wordOf, form, formI, lineI, numL, Lib.join]
  | apart name other ln hw ho => simp [wordsOf, lpR, places, wordOf, form, formI, lineI, numL, Lib.join]
  | shelf name n ln hw hl =>
    match n, hl with
    | [a, b, c], _ =>
      by_cases hnm : name = []
      · subst hnm
        simp [wordsOf, lpR, places, wordOf, form, formI, lineI, numL, Lib.join]
      · simp [wordsOf, lpR, places, wordOf, form, formI, lineI, numL, Lib.join, hnm]
  | robot n ln hl =>
    match n, hl with
    | [a, b, c, d], _ => simp [wordsOf, lpR, places, wordOf, form, formI, lineI, numL, Lib.join]
theorem right_kind_lt {x : It} (h : rightIt x = true) : ∃ k : Nat, x.kind = k ∧ k < 6 := by
  refine ⟨x.kind.toNat, ?_, ?_⟩
  · have : ¬ x.kind < 0 := fun hk => by rw [right_kind (.inl hk)] at h; cases h
    omega
  · have h1 : ¬ x.kind < 0 := fun hk => by rw [right_kind (.inl hk)] at h; cases h
    have h2 : ¬ 6 ≤ x.kind := fun hk => by rw [right_kind (.inr hk)] at h; cases h
    omega
/-- Between two places. -/
structure LnR (w wr : World) (x : It) (u : Value) (ps : List UInt8) (R : List (List UInt8)) (i : Nat) (acc : List (List UInt8)) (l : List Int) (av nv : Value) : Prop where
  le : i ≤ ps.length
  iter : wr.heap[w.heap.size + 2]? = some (.stringIter ⟨ps.toArray⟩ i)
  box : Blk wr w.heap.size 34 (itC x u).toArray
  below : Below w.heap.size w wr
  row : Grow wr (w.heap.size + 1) 1 av acc.length (acc.map str)
  pos : 0 < acc.length
  few : acc.length ≤ i + 1
  nums : HasInts w nv l
  rest : lpR x (ps.drop i) l acc = R
  right : ∃ a b, rpV (rpR x (ps.drop i) a b l) = true
  fits : ∀ z ∈ l, Fits z
  short : l.length ≤ 7
theorem not_iter {w : World} {B size n k : Nat} {v : Value} {xs : List Value} {S : ByteArray} {i : Nat} (h : Grow w B size v n xs) (hn : 0 < n) (hs : 0 < size) (hk : w.heap[k]? = some (.stringIter S i)) : v.ownBlock ≠ some k := by
  intro e
  rcases h.form with ⟨rfl, rfl⟩ | ⟨g, cap, rfl, _, _, h3, _, h5, _⟩
  · omega
  · have e : g = k := by simpa [Value.ownBlock] using e
    subst e
    have := h5 0 (by have := Nat.mul_pos (show 0 < cap by omega) hs; exact this)
    simp [World.cell?, hk] at this
/-- A word more. -/
theorem ln_app {w w2 w6 : World} {o : Obj} {v v6 : Value} {acc : List (List UInt8)} {s : List UInt8} {S : ByteArray} {i : Nat} {t : TypeId} {cs : Array Value} (hit : w2.heap[w.heap.size + 2]? = some (.stringIter S i)) (hbx : Blk w2 w.heap.size t cs) (hbl : Below w.heap.size w w2) (hg : Grow w2 (w.heap.size + 1) 1 v acc.length (acc.map str)) (h0 : 0 < acc.length)
    (hown : Grow w6 (w.heap.size + 1) 1 v6 (acc.length + 1) (acc.map str ++ [str s])) (hgr : (w2.alloc o).grownBy w6 v.ownBlock) :
    w6.heap[w.heap.size + 2]? = some (.stringIter S i) ∧ Blk w6 w.heap.size t cs ∧ Below w.heap.size w w6 ∧ Grow w6 (w.heap.size + 1) 1 v6 (acc ++ [s]).length ((acc ++ [s]).map str) := by
  have hgr2 : w2.grownBy w6 v.ownBlock := grown_trans (below_none (below_more w2 o) _) hgr
  have hlt := (Array.getElem?_eq_some_iff.1 hit).1
  refine ⟨(hgr2.block _ hlt (fun e => not_iter hg h0 (by omega) hit e.symm)).trans hit, hbx.past hgr2 (fun e => by have := (hg.block _ e.symm).1; omega), hbl.trans ⟨hgr2.os, hgr2.tape, hgr2.output, hgr2.size, fun k hk => hgr2.block k (by have := hbl.size; omega) (fun e => by have := (hg.block _ e.symm).1; omega)⟩, ?_⟩
  rw [List.length_append, List.map_append]
  exact hown
/-- What the first statement of lineOf reads. -/
structure LineIn (w : World) (q k : Nat) (nv : Value) : Prop where
  x0 : w.cell? ⟨q, 0, none⟩ = some (.int .i64 k)
  x4 : w.cell? ⟨q, 4, none⟩ = some nv
  f : w.cell? ⟨0, k * 2, none⟩ = some (str (wordOf k))
theorem LineIn.alloc {w : World} {q k : Nat} {nv : Value} (h : LineIn w q k nv) (o : Obj) : LineIn (w.alloc o) q k nv :=
  have f : ∀ (q i : Nat) (v : Value), w.cell? ⟨q, i, none⟩ = some v → (w.alloc o).cell? ⟨q, i, none⟩ = some v := fun q i v e => (((Below.refl _ w).alloc (Nat.le_refl _) o).cell (p := ⟨q, i, none⟩) (World.block_lt_of_cell? w _ e)).trans e
  ⟨f _ _ _ h.x0, f _ _ _ h.x4, f _ _ _ h.f⟩
theorem LineIn.drew {w : World} {q k : Nat} {nv : Value} (h : LineIn w q k nv) : LineIn w.drew q k nv := ⟨h.x0, h.x4, h.f⟩
set_option maxHeartbeats 8000000 in
theorem lineOf_any {w : World} {x : It} {u : Value} (hu : HasInts w u x.n) (hx : rightIt x = true) (hft : ∀ z ∈ x.n, Fits z) (hf : VF w) (hv : VD w) :
    Calls Tryd.prog 31 #[.agg (itC x u).toArray] w fun e w' => ∃ v, e = .returned v ∧ HasTexts w' v (wordsOf x) ∧ Below w.heap.size w w' := by
  obtain ⟨k, hk2, hk6⟩ := right_kind_lt hx
  have hwd : wordsOf x = lpR x (places k) x.n [wordOf k] := by unfold wordsOf; rw [hk2]; rfl
  rw [hwd]
  have hrt : rpV (rpR x (places k) (x.name == []) (x.other == []) x.n) = true := by rw [← right_places hk2 hk6]; exact hx
  obtain ⟨fw, fp⟩ := hf k hk6
  have hgf := hf.lt
  obtain ⟨A, c, rfl, hcc, hru⟩ := hu
  have HU : Hid (HasInts w (.slice A x.n.length c) x.n) := Lib.hid ⟨A, c, rfl, hcc, hru⟩
  have HPA := Lib.hid (places_are k hk6)
  have hpf := places_few k hk6
  have hkk : (k : Int) < 6 := by omega
  have hk0 : ¬ ((k : Int) < 0) := by omega
  have HRT := Lib.hid hrt
  have HFT := Lib.hid hft
  have HSH : Hid (x.n.length ≤ 7) := Lib.hid (right_few hx).2.2.1
  have HVV := Lib.hid hv
  have HFF := Lib.hid hf
  obtain ⟨i0, hi0, hi1, hi2, hi3⟩ := info_parts info_str
  show Calls Tryd.prog 31 #[.agg #[.int .i64 x.kind, .int .i64 x.line, .string ⟨x.name.toArray⟩, .string ⟨x.other.toArray⟩, .slice A x.n.length c]] w _
  rw [hk2]
  have HK2 := Lib.hid hk2
  clear hrt hft hv hf hk2 hx hwd hcc hru
  go_enter Tryd.func31, Tryd.ntmps31
  go_upto_region 1 with (fail)
  have hbx : Blk (w.alloc (.cells #[.int .i64 k, .int .i64 x.line, .string ⟨x.name.toArray⟩, .string ⟨x.other.toArray⟩, .slice A x.n.length c] 34)) w.heap.size 34 #[.int .i64 k, .int .i64 x.line, .string ⟨x.name.toArray⟩, .string ⟨x.other.toArray⟩, .slice A x.n.length c] := Blk.fresh w _ _
  have hwb := below_more w (.cells #[.int .i64 k, .int .i64 x.line, .string ⟨x.name.toArray⟩, .string ⟨x.other.toArray⟩, .slice A x.n.length c] 34)
  have hsz : (w.alloc (.cells #[.int .i64 k, .int .i64 x.line, .string ⟨x.name.toArray⟩, .string ⟨x.other.toArray⟩, .slice A x.n.length c] 34)).heap.size = w.heap.size + 1 := by simp
  generalize w.alloc (.cells #[.int .i64 k, .int .i64 x.line, .string ⟨x.name.toArray⟩, .string ⟨x.other.toArray⟩, .slice A x.n.length c] 34) = w0 at *
  have hf0 := HFF.out.lift hwb
  have LI : Hid (LineIn w0 w.heap.size k (.slice A x.n.length c)) := Lib.hid ⟨hbx.at 0, hbx.at 4, (hf0 k hk6).1⟩
  have HBX := Lib.hid hbx
  have HWB := Lib.hid hwb
  have HSZ := Lib.hid hsz
  have HF0 := Lib.hid hf0
  clear hbx hwb hsz hf0 fw fp
  refine Dsk.wp_region_sorted (fun w' => LineIn w' w.heap.size k (.slice A x.n.length c)) [0, 1, 2, 3, 4, 6, 7] [5, 8, 9] (by kernel_rfl) (by decide +kernel) LI.out.drew ?_
  repeat refine Dsk.RD.next rfl rfl (by intro w' ⟨x0, x4, f⟩; go_simp; with_reducible rfl) ?_
  refine Dsk.RD.done ?_
  refine Dsk.CH.next rfl rfl fun Kc hK => ?_
  go_simp
  refine hK _ _ (LI.out.alloc _).drew ?_
  clear hK
  refine Dsk.CH.next rfl rfl fun Kc hK => ?_
  go_simp
  refine hK _ _ (LI.out.alloc _).drew ?_
  clear hK
  refine Dsk.CH.next rfl rfl fun Kc hK => ?_
  go_simp
  refine hK _ _ (LI.out.alloc _).drew ?_
  clear hK
  refine Dsk.CH.done (NoPanic.normal ?_)
  have hgr1 : Grow (w0.alloc (.cells #[str (wordOf k)] 9)).drew w0.heap.size 1 (.slice (some ⟨w0.heap.size, 0, none⟩) 1 1) 1 [str (wordOf k)] := (Grow.fresh w0 9 [str (wordOf k)] (by simp)).drew
  have hbx1 : Blk (w0.alloc (.cells #[str (wordOf k)] 9)).drew w.heap.size 34 #[.int .i64 k, .int .i64 x.line, .string ⟨x.name.toArray⟩, .string ⟨x.other.toArray⟩, .slice A x.n.length c] := HBX.out.kept _
  have hbl1 : Below w.heap.size w (w0.alloc (.cells #[str (wordOf k)] 9)).drew := (HWB.out.alloc HWB.out.size _).drew
  have hf1 : VF (w0.alloc (.cells #[str (wordOf k)] 9)).drew := HF0.out.lift ((below_more w0 _).drew)
  have hs1 : (w0.alloc (.cells #[str (wordOf k)] 9)).drew.heap.size = w.heap.size + 2 := by
    show (w0.alloc _).heap.size = _
    simp
    have := HSZ.out
    omega
  generalize (w0.alloc (.cells #[str (wordOf k)] 9)).drew = w1 at *
  rw [HSZ.out] at hgr1 ⊢
  have c0 : w1.cell? ⟨w.heap.size, 0, none⟩ = some (.int .i64 k) := hbx1.at 0
  have c1 := (hf1 k hk6).2
  have HG1 := Lib.hid hgr1
  have HB1 := Lib.hid hbx1
  have HL1 := Lib.hid hbl1
  have HS1 := Lib.hid hs1
  clear hgr1 hbx1 hbl1 hf1 hs1 HBX HWB HSZ HF0 LI
  go_wp2_with fail
  rw [HS1.out]
  have hi0' : LnR w (w1.iter ⟨(places k).toArray⟩ 0) x (.slice A x.n.length c) (places k) (lpR x (places k) x.n [wordOf k]) 0 [wordOf k] x.n (.slice (some ⟨w.heap.size + 1, 0, none⟩) 1 1) (.slice A x.n.length c) := by
    have hk1 : (w1.iter ⟨(places k).toArray⟩ 0) = w1.alloc (.stringIter ⟨(places k).toArray⟩ 0) := rfl
    refine ⟨Nat.zero_le _, ?_, ?_, ?_, ?_, by simp, by simp, HU.out, rfl, ⟨_, _, HRT.out⟩, HFT.out, HSH.out⟩
    · have := World.iter_heap w1 ⟨(places k).toArray⟩ 0
      rw [HS1.out] at this
      exact this
    · show Blk _ _ _ #[.int .i64 x.kind, .int .i64 x.line, .string ⟨x.name.toArray⟩, .string ⟨x.other.toArray⟩, .slice A x.n.length c]
      rw [HK2.out]
      exact HB1.out.kept _
    · exact HL1.out.alloc HL1.out.size _
    · exact HG1.out.alloc _
  have hf2 : VF (w1.iter ⟨(places k).toArray⟩ 0) := HFF.out.lift (HL1.out.alloc HL1.out.size _)
  generalize w1.iter ⟨(places k).toArray⟩ 0 = w2 at *
  generalize hRR : lpR x (places k) x.n [wordOf k] = R at *
  have HI := Lib.hid hi0'
  clear hi0' c0 c1 HG1 HB1 HL1 HS1 hf2 HRT HFF hgf HK2
  have HRR := Lib.hid hRR
  clear hRR
  generalize hwk : wordOf k = wk at *
  generalize hpk : places k = ps at *
  have HWK := Lib.hid hwk
  have HPK := Lib.hid hpk
  clear hwk hpk
  go_loopw [3, 4] (fun av nv wr => ∃ i acc l, LnR w wr x (.slice A x.n.length c) ps R i acc l av nv) (fun _ _ wr => ps.length - wr.iterPos (w.heap.size + 2))
  case atStart => exact ⟨0, _, _, HI.out⟩
  case round =>
    obtain ⟨i, acc, l, hI⟩ := hrel
    have hit := hI.iter
    have hmu : wr.iterPos (w.heap.size + 2) = i := by simp [World.iterPos, hit]
    have hps8 : (⟨ps.toArray⟩ : ByteArray).size = ps.length := rfl
    obtain ⟨A', c', rfl, hcc', hru'⟩ := hI.nums
    obtain ⟨A3, c3, rfl⟩ := hI.row.slice
    by_cases hi : i < ps.length
    · obtain ⟨p, hp⟩ : ∃ p, ps[i]? = some p := ⟨_, List.getElem?_eq_getElem hi⟩
      have hpa := HPA.out p (List.mem_of_getElem? hp)
      have hS : ((⟨ps.toArray⟩ : ByteArray)[i]'(by rw [hps8]; exact hi)) = p := by
        have := (List.getElem?_eq_some_iff.1 hp).2
        exact this
      have hnext : ∀ ty, (Instr.next (.pointer (some ⟨w.heap.size + 2, 0, none⟩)) true ty).run Tryd.prog wr = .ok (.tuple #[.bool true, .int .i64 i, .int .i32 p.toNat]) (wr.iterAt (w.heap.size + 2) ⟨ps.toArray⟩ (i + 1)) := fun ty => by
        have := Lib.run_next_ascii_at (P := Tryd.prog) wr (w.heap.size + 2) ⟨ps.toArray⟩ i ty hit (by rw [hps8]; exact hi) (by rw [hS]; rcases hpa with rfl | rfl | rfl | rfl | rfl <;> decide)
        rw [hS] at this
        exact this
      have hrest := hI.rest
      obtain ⟨ra, rb, hright⟩ := hI.right
      rw [List.drop_eq_getElem_cons hi, (List.getElem?_eq_some_iff.1 hp).2] at hrest hright
      have hc1 : Chg (fun k => k = w.heap.size + 2) wr (wr.iterAt (w.heap.size + 2) ⟨ps.toArray⟩ (i + 1)) := ⟨rfl, rfl, rfl, by rw [Lib.iterAt_size]; exact Nat.le_refl _, fun j _ hj => Lib.iterAt_other wr (w.heap.size + 2) j _ (i + 1) (fun e => hj e)⟩
      have hIt := Lib.iterAt_heap wr (w.heap.size + 2) ⟨ps.toArray⟩ i (i + 1) hit
      have hBx : Blk (wr.iterAt (w.heap.size + 2) ⟨ps.toArray⟩ (i + 1)) w.heap.size 34 (itC x (.slice A x.n.length c)).toArray := hc1.blk hI.box (by omega)
      have hBl : Below w.heap.size w (wr.iterAt (w.heap.size + 2) ⟨ps.toArray⟩ (i + 1)) := hI.below.trans (hc1.below hI.below.size fun k hk => by omega)
      have hGr : Grow (wr.iterAt (w.heap.size + 2) ⟨ps.toArray⟩ (i + 1)) (w.heap.size + 1) 1 (.slice A3 acc.length c3) acc.length (acc.map str) := hI.row.keep (by rw [Lib.iterAt_size]; exact Nat.le_refl _) fun g hg => hc1.block g (hI.row.block g hg).2 (fun e => not_iter hI.row hI.pos (by omega) hit (by rw [hg]; exact congrArg some e))
      have hpos0 := hI.pos
      have hfew := hI.few
      have hnu := hI.nums
      have hfits := hI.fits
      have hsh := hI.short
      have b0 : (wr.iterAt (w.heap.size + 2) ⟨ps.toArray⟩ (i + 1)).cell? ⟨w.heap.size, 2, none⟩ = some (.string ⟨x.name.toArray⟩) := hBx.at 2
      have b1 : (wr.iterAt (w.heap.size + 2) ⟨ps.toArray⟩ (i + 1)).cell? ⟨w.heap.size, 3, none⟩ = some (.string ⟨x.other.toArray⟩) := hBx.at 3
      generalize wr.iterAt (w.heap.size + 2) ⟨ps.toArray⟩ (i + 1) = wn at *
      have HIt := Lib.hid hIt
      have HBx := Lib.hid hBx
      have HBl := Lib.hid hBl
      have HGr := Lib.hid hGr
      have HNu := Lib.hid hnu
      have HFt := Lib.hid hfits
      have hlw := hBx.inside
      have hlr := hBl.size
      have ha9 : acc.length ≤ 9 := by omega
      clear hI hit hS hps8 hIt hBx hBl hGr hnu hfits hc1 hru' hcc'
      rcases hpa with rfl | rfl | rfl | rfl | rfl
      · have hP : (((110 : UInt8).toNat : Nat) : Int) = 110 := rfl
        rw [hP] at hnext
        clear hP
        have HRS : Hid (lpR x (ps.drop (i + 1)) l (acc ++ [x.name]) = R) := Lib.hid (by rw [← hrest]; rfl)
        have HRI : Hid (∃ a b, rpV (rpR x (ps.drop (i + 1)) a b l) = true) := Lib.hid ⟨_, _, by rw [← hright]; rfl⟩
        clear hrest hright hp
        go_wp2_with (first
          | (at_builtin; go_must (
              refine wpList_append_src _ rfl _ _ _ _ rfl (w.heap.size + 1) 9 i0 _ 1 16 Tryd.underlying45 hi0 hi1 hi2 hi3 rfl (by omega) _ _ _ rfl (HGr.out.alloc _) _ 1 [str (x.name)] rfl (Src.ofSlice _ Tryd.underlying45 ⟨wn.heap.size, 0, none⟩ 1 1 _ rfl (new_cells wn _ _) (by simp [Value.oneCell'])) (by unfold maxLen; omega) (by omega) (by have := hlr; simp; omega) ?_
              intro v6 w6 hown6 hgr6 hnear
              have HL := Lib.hid (ln_app HIt.out HBx.out HBl.out HGr.out hpos0 hown6 hgr6)
              clear hown6 hgr6 hnear)))
        go_roundw
        case rel => exact ⟨i + 1, acc ++ [x.name], l, ⟨hi, HL.out.1, HL.out.2.1, HL.out.2.2.1, HL.out.2.2.2, by simp, by simp; omega, HNu.out, HRS.out, HRI.out, HFt.out, hsh⟩⟩
        case measure =>
          rw [hmu, show w6.iterPos (w.heap.size + 2) = i + 1 from by simp [World.iterPos, HL.out.1]]
          omega
      · have hP : (((99 : UInt8).toNat : Nat) : Int) = 99 := rfl
        rw [hP] at hnext
        clear hP
        by_cases he : x.name = []
        · have hem : x.name.isEmpty = true := by rw [he]; rfl
          have HRS : Hid (lpR x (ps.drop (i + 1)) l acc = R) := Lib.hid (by rw [← hrest]; show _ = lpR x (ps.drop (i + 1)) l (if x.name = [] then acc else acc ++ [x.name]); rw [if_pos he])
          have HRI : Hid (∃ a b, rpV (rpR x (ps.drop (i + 1)) a b l) = true) := Lib.hid ⟨_, _, by rw [← hright]; rfl⟩
          clear hrest hright hp he
          go_wp2_with fail
          go_roundw
          case rel => exact ⟨i + 1, acc, l, ⟨hi, HIt.out, HBx.out, HBl.out, HGr.out, hpos0, by omega, HNu.out, HRS.out, HRI.out, HFt.out, hsh⟩⟩
          case measure =>
            rw [hmu, show wn.iterPos (w.heap.size + 2) = i + 1 from by simp [World.iterPos, HIt.out]]
            omega
        · have hem : x.name.isEmpty = false := by cases hx : x.name with | nil => exact absurd hx he | cons a b => rfl
          have HRS : Hid (lpR x (ps.drop (i + 1)) l (acc ++ [x.name]) = R) := Lib.hid (by rw [← hrest]; show _ = lpR x (ps.drop (i + 1)) l (if x.name = [] then acc else acc ++ [x.name]); rw [if_neg he])
          have HRI : Hid (∃ a b, rpV (rpR x (ps.drop (i + 1)) a b l) = true) := Lib.hid ⟨_, _, by rw [← hright]; rfl⟩
          clear hrest hright hp he
          go_wp2_with (first
            | (at_builtin; go_must (
                refine wpList_append_src _ rfl _ _ _ _ rfl (w.heap.size + 1) 9 i0 _ 1 16 Tryd.underlying45 hi0 hi1 hi2 hi3 rfl (by omega) _ _ _ rfl (HGr.out.alloc _) _ 1 [str (x.name)] rfl (Src.ofSlice _ Tryd.underlying45 ⟨wn.heap.size, 0, none⟩ 1 1 _ rfl (new_cells wn _ _) (by simp [Value.oneCell'])) (by unfold maxLen; omega) (by omega) (by have := hlr; simp; omega) ?_
                intro v6 w6 hown6 hgr6 hnear
                have HL := Lib.hid (ln_app HIt.out HBx.out HBl.out HGr.out hpos0 hown6 hgr6)
                clear hown6 hgr6 hnear)))
          go_roundw
          case rel => exact ⟨i + 1, acc ++ [x.name], l, ⟨hi, HL.out.1, HL.out.2.1, HL.out.2.2.1, HL.out.2.2.2, by simp, by simp; omega, HNu.out, HRS.out, HRI.out, HFt.out, hsh⟩⟩
          case measure =>
            rw [hmu, show w6.iterPos (w.heap.size + 2) = i + 1 from by simp [World.iterPos, HL.out.1]]
            omega
      · have hP : (((111 : UInt8).toNat : Nat) : Int) = 111 := rfl
        rw [hP] at hnext
        clear hP
        have HRS : Hid (lpR x (ps.drop (i + 1)) l (acc ++ [x.other]) = R) := Lib.hid (by rw [← hrest]; rfl)
        have HRI : Hid (∃ a b, rpV (rpR x (ps.drop (i + 1)) a b l) = true) := Lib.hid ⟨_, _, by rw [← hright]; rfl⟩
        clear hrest hright hp
        go_wp2_with (first
          | (at_builtin; go_must (
              refine wpList_append_src _ rfl _ _ _ _ rfl (w.heap.size + 1) 9 i0 _ 1 16 Tryd.underlying45 hi0 hi1 hi2 hi3 rfl (by omega) _ _ _ rfl (HGr.out.alloc _) _ 1 [str (x.other)] rfl (Src.ofSlice _ Tryd.underlying45 ⟨wn.heap.size, 0, none⟩ 1 1 _ rfl (new_cells wn _ _) (by simp [Value.oneCell'])) (by unfold maxLen; omega) (by omega) (by have := hlr; simp; omega) ?_
              intro v6 w6 hown6 hgr6 hnear
              have HL := Lib.hid (ln_app HIt.out HBx.out HBl.out HGr.out hpos0 hown6 hgr6)
              clear hown6 hgr6 hnear)))
        go_roundw
        case rel => exact ⟨i + 1, acc ++ [x.other], l, ⟨hi, HL.out.1, HL.out.2.1, HL.out.2.2.1, HL.out.2.2.2, by simp, by simp; omega, HNu.out, HRS.out, HRI.out, HFt.out, hsh⟩⟩
        case measure =>
          rw [hmu, show w6.iterPos (w.heap.size + 2) = i + 1 from by simp [World.iterPos, HL.out.1]]
          omega
      · have hP : (((49 : UInt8).toNat : Nat) : Int) = 49 := rfl
        rw [hP] at hnext
        clear hP
        cases l with
        | nil =>
          rw [show rpR x (49 :: List.drop (i + 1) ps) ra rb [] = none from rfl] at hright
          cases hright
        | cons z l =>
          obtain ⟨g, o, rfl, hgw, -, hlc, hcell0, ht1, ht2⟩ := HNu.out.tail
          have HT1 := Lib.hid ht1
          have HT2 := Lib.hid ht2
          have hcell : wn.cell? ⟨g, o, none⟩ = some (.int .i64 z) := (HBl.out.cell (p := ⟨g, o, none⟩) hgw).trans hcell0
          have hz0 : ¬ z < 0 := fun h => by
            rw [show rpR x (49 :: List.drop (i + 1) ps) ra rb (z :: l) = (if z < 0 ∨ ((49 : UInt8) = 100 ∧ 6 ≤ z) then none else rpR x (List.drop (i + 1) ps) ra rb l) from rfl, if_pos (.inl h)] at hright
            cases hright
          have HRS : Hid (lpR x (ps.drop (i + 1)) l (acc ++ [decI z]) = R) := Lib.hid (by rw [← hrest]; rfl)
          have HRI : Hid (∃ a b, rpV (rpR x (ps.drop (i + 1)) a b l) = true) := Lib.hid ⟨_, _, by rw [← hright]; show _ = rpV (if z < 0 ∨ ((49 : UInt8) = 100 ∧ 6 ≤ z) then none else _); rw [if_neg (by rintro (h | ⟨h, _⟩); exact hz0 h; cases h)]⟩
          have hfz := HFt.out z (by simp)
          have HF1 : Hid (∀ z ∈ l, Fits z) := Lib.hid fun y hy => HFt.out y (by simp [hy])
          rw [List.length_cons] at hsh
          have hl9 : l.length ≤ 6 := by omega
          clear hsh
          have HFZ := Lib.hid hfz
          clear ht1 ht2 hcell0 hrest hright hp hfz HFt HNu
          by_cases hc1 : c' = 1
          · subst hc1
            have hl0 : l.length = 0 := by omega
            have HT3 := Lib.hid (HT2.out rfl)
            rw [List.length_cons, hl0] at *
            go_wp2_with (first
              | (go_at_call 55; go_must (
                 refine (decimal_any z HFZ.out _).mono ?_; rintro e w2 ⟨rfl, b2⟩
                 have HIt2 := Lib.hid (iter_keep HIt.out b2)
                 have HBx2 := Lib.hid (HBx.out.under b2 HBx.out.inside)
                 have HBl2 := Lib.hid (HBl.out.trans (b2.mono HBl.out.size))
                 have HGr2 := Lib.hid (HGr.out.below b2)
                 have hlr2 := HBl2.out.size
                 clear b2))
              | (at_builtin; go_must (
                  refine wpList_append_src _ rfl _ _ _ _ rfl (w.heap.size + 1) 9 i0 _ 1 16 Tryd.underlying45 hi0 hi1 hi2 hi3 rfl (by omega) _ _ _ rfl (HGr2.out.alloc _) _ 1 [str (decI z)] rfl (Src.ofSlice _ Tryd.underlying45 ⟨w2.heap.size, 0, none⟩ 1 1 _ rfl (new_cells w2 _ _) (by simp [Value.oneCell'])) (by unfold maxLen; omega) (by omega) (by have := hlr2; simp; omega) ?_
                  intro v6 w6 hown6 hgr6 hnear
                  have HL := Lib.hid (ln_app HIt2.out HBx2.out HBl2.out HGr2.out hpos0 hown6 hgr6)
                  clear hown6 hgr6 hnear)))
            go_roundw
            case rel => exact ⟨i + 1, acc ++ [decI z], l, ⟨hi, HL.out.1, HL.out.2.1, HL.out.2.2.1, HL.out.2.2.2, by simp, by simp; omega, HT3.out, HRS.out, HRI.out, HF1.out, by omega⟩⟩
            case measure =>
              rw [hmu, show w6.iterPos (w.heap.size + 2) = i + 1 from by simp [World.iterPos, HL.out.1]]
              omega
          · rw [List.length_cons] at *
            go_wp2_with (first
              | (go_at_call 55; go_must (
                 refine (decimal_any z HFZ.out _).mono ?_; rintro e w2 ⟨rfl, b2⟩
                 have HIt2 := Lib.hid (iter_keep HIt.out b2)
                 have HBx2 := Lib.hid (HBx.out.under b2 HBx.out.inside)
                 have HBl2 := Lib.hid (HBl.out.trans (b2.mono HBl.out.size))
                 have HGr2 := Lib.hid (HGr.out.below b2)
                 have hlr2 := HBl2.out.size
                 clear b2))
              | (at_builtin; go_must (
                  refine wpList_append_src _ rfl _ _ _ _ rfl (w.heap.size + 1) 9 i0 _ 1 16 Tryd.underlying45 hi0 hi1 hi2 hi3 rfl (by omega) _ _ _ rfl (HGr2.out.alloc _) _ 1 [str (decI z)] rfl (Src.ofSlice _ Tryd.underlying45 ⟨w2.heap.size, 0, none⟩ 1 1 _ rfl (new_cells w2 _ _) (by simp [Value.oneCell'])) (by unfold maxLen; omega) (by omega) (by have := hlr2; simp; omega) ?_
                  intro v6 w6 hown6 hgr6 hnear
                  have HL := Lib.hid (ln_app HIt2.out HBx2.out HBl2.out HGr2.out hpos0 hown6 hgr6)
                  clear hown6 hgr6 hnear)))
            go_roundw
            case rel => exact ⟨i + 1, acc ++ [decI z], l, ⟨hi, HL.out.1, HL.out.2.1, HL.out.2.2.1, HL.out.2.2.2, by simp, by simp; omega, HT1.out, HRS.out, HRI.out, HF1.out, by omega⟩⟩
            case measure =>
              rw [hmu, show w6.iterPos (w.heap.size + 2) = i + 1 from by simp [World.iterPos, HL.out.1]]
              omega
      · have hP : (((100 : UInt8).toNat : Nat) : Int) = 100 := rfl
        rw [hP] at hnext
        clear hP
        cases l with
        | nil =>
          rw [show rpR x (100 :: List.drop (i + 1) ps) ra rb [] = none from rfl] at hright
          cases hright
        | cons z l =>
          obtain ⟨g, o, rfl, hgw, -, hlc, hcell0, ht1, ht2⟩ := HNu.out.tail
          have HT1 := Lib.hid ht1
          have HT2 := Lib.hid ht2
          have hcell : wn.cell? ⟨g, o, none⟩ = some (.int .i64 z) := (HBl.out.cell (p := ⟨g, o, none⟩) hgw).trans hcell0
          have hz0 : ¬ z < 0 := fun h => by
            rw [show rpR x (100 :: List.drop (i + 1) ps) ra rb (z :: l) = (if z < 0 ∨ ((100 : UInt8) = 100 ∧ 6 ≤ z) then none else rpR x (List.drop (i + 1) ps) ra rb l) from rfl, if_pos (.inl h)] at hright
            cases hright
          have hz6 : ¬ 6 ≤ z := fun h => by
            rw [show rpR x (100 :: List.drop (i + 1) ps) ra rb (z :: l) = (if z < 0 ∨ ((100 : UInt8) = 100 ∧ 6 ≤ z) then none else rpR x (List.drop (i + 1) ps) ra rb l) from rfl, if_pos (.inr ⟨rfl, h⟩)] at hright
            cases hright
          have HRS : Hid (lpR x (ps.drop (i + 1)) l (acc ++ [dirW z.toNat]) = R) := Lib.hid (by rw [← hrest]; rfl)
          have HRI : Hid (∃ a b, rpV (rpR x (ps.drop (i + 1)) a b l) = true) := Lib.hid ⟨_, _, by rw [← hright]; show _ = rpV (if z < 0 ∨ ((100 : UInt8) = 100 ∧ 6 ≤ z) then none else _); rw [if_neg (by rintro (h | ⟨_, h⟩); exact hz0 h; exact hz6 h)]⟩
          have hfz := HFt.out z (by simp)
          have HF1 : Hid (∀ z ∈ l, Fits z) := Lib.hid fun y hy => HFt.out y (by simp [hy])
          rw [List.length_cons] at hsh
          have hl9 : l.length ≤ 6 := by omega
          clear hsh
          have HFZ := Lib.hid hfz
          clear ht1 ht2 hcell0 hrest hright hp hfz HFt HNu
          obtain ⟨m, rfl⟩ : ∃ m : Nat, z = m := ⟨z.toNat, by omega⟩
          have hm6 : m < 6 := by omega
          have hdir := (HVV.out.lift HBl.out) m hm6
          rw [Int.toNat_natCast] at HRS
          by_cases hc1 : c' = 1
          · subst hc1
            have hl0 : l.length = 0 := by omega
            have HT3 := Lib.hid (HT2.out rfl)
            rw [List.length_cons, hl0] at *
            go_wp2_with (first
              | (at_builtin; go_must (
                  refine wpList_append_src _ rfl _ _ _ _ rfl (w.heap.size + 1) 9 i0 _ 1 16 Tryd.underlying45 hi0 hi1 hi2 hi3 rfl (by omega) _ _ _ rfl (HGr.out.alloc _) _ 1 [str (dirW m)] rfl (Src.ofSlice _ Tryd.underlying45 ⟨wn.heap.size, 0, none⟩ 1 1 _ rfl (new_cells wn _ _) (by simp [Value.oneCell'])) (by unfold maxLen; omega) (by omega) (by have := hlr; simp; omega) ?_
                  intro v6 w6 hown6 hgr6 hnear
                  have HL := Lib.hid (ln_app HIt.out HBx.out HBl.out HGr.out hpos0 hown6 hgr6)
                  clear hown6 hgr6 hnear)))
            go_roundw
            case rel => exact ⟨i + 1, acc ++ [dirW m], l, ⟨hi, HL.out.1, HL.out.2.1, HL.out.2.2.1, HL.out.2.2.2, by simp, by simp; omega, HT3.out, HRS.out, HRI.out, HF1.out, by omega⟩⟩
            case measure =>
              rw [hmu, show w6.iterPos (w.heap.size + 2) = i + 1 from by simp [World.iterPos, HL.out.1]]
              omega
          · rw [List.length_cons] at *
            go_wp2_with (first
              | (at_builtin; go_must (
                  refine wpList_append_src _ rfl _ _ _ _ rfl (w.heap.size + 1) 9 i0 _ 1 16 Tryd.underlying45 hi0 hi1 hi2 hi3 rfl (by omega) _ _ _ rfl (HGr.out.alloc _) _ 1 [str (dirW m)] rfl (Src.ofSlice _ Tryd.underlying45 ⟨wn.heap.size, 0, none⟩ 1 1 _ rfl (new_cells wn _ _) (by simp [Value.oneCell'])) (by unfold maxLen; omega) (by omega) (by have := hlr; simp; omega) ?_
                  intro v6 w6 hown6 hgr6 hnear
                  have HL := Lib.hid (ln_app HIt.out HBx.out HBl.out HGr.out hpos0 hown6 hgr6)
                  clear hown6 hgr6 hnear)))
            go_roundw
            case rel => exact ⟨i + 1, acc ++ [dirW m], l, ⟨hi, HL.out.1, HL.out.2.1, HL.out.2.2.1, HL.out.2.2.2, by simp, by simp; omega, HT1.out, HRS.out, HRI.out, HF1.out, by omega⟩⟩
            case measure =>
              rw [hmu, show w6.iterPos (w.heap.size + 2) = i + 1 from by simp [World.iterPos, HL.out.1]]
              omega
    · have hie : i = ps.length := by have := hI.le; omega
      have HX : Hid (R = acc) := Lib.hid (by have := hI.rest; rw [List.drop_eq_nil_of_le (by omega)] at this; exact this.symm)
      have hnext : ∀ ty, (Instr.next (.pointer (some ⟨w.heap.size + 2, 0, none⟩)) true ty).run Tryd.prog wr = .ok (.tuple #[.bool false]) wr := fun ty => Lib.run_next_end_at (P := Tryd.prog) wr (w.heap.size + 2) ⟨ps.toArray⟩ i ty hit (by rw [hps8]; exact hi)
      have HBL := Lib.hid hI.below
      have HRW := Lib.hid hI.row
      clear hI hit hps8 hie hmu hru' hcc'
      go_wp2_with fail
      go_ret
      refine ⟨_, rfl, ?_, HBL.out⟩
      rw [HWK.out, HPK.out, HRR.out, HX.out]
      exact Sl.grow HRW.out
end Drf
end Go.Proofs.YtibeangcjfjeiaaDoor

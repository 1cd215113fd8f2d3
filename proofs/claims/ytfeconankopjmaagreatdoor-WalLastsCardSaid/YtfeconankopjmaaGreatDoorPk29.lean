/- Texts on the program's own functions, several in one: WlLaid. -/
import Derived.Test.YtfeconankopjmaaGreatDoorPk21
import Derived.Stop.LaidErr
import Derived.Lib.LaidTab
import Derived.ProofKit
import Derived.LaidMore
import Derived.OpenShut
import Derived.ShutString
import Derived.ChangeOld
import Derived.Stop.Joined

/- What the listed variables hold: the powers of ten, the two errors of strconv, the table of half bytes. -/
namespace Go.Proofs.YtfeconankopjmaaGreatDoor
open Go.ChangeShapes Go.WideShapes Go.ChangeAt Go.WideMaps Go.WideElems Go.RowKit

def laid1 {H : Type} : List (String × DataW H) := [("math/bits.deBruijn32tab", Rows.laid_math_bits_deBruijn32tab), ("math/bits.deBruijn64tab", Rows.laid_math_bits_deBruijn64tab), ("internal/strconv.uint64pow10", Rows.laid_internal_strconv_uint64pow10), ("strconv.ErrRange", Rows.laid_strconv_ErrRange), ("strconv.ErrSyntax", Rows.laid_strconv_ErrSyntax), ("copyhold/cell.halfBytes", Rows.laid_copyhold_cell_halfBytes)]
theorem gHalf : Tryz.prog.globalNamed "copyhold/cell.halfBytes" = some 3 := by kernel_rfl
theorem tHalf : (Tryz.prog.globals[3]?).map (·.type) = some 278 := by kernel_rfl
theorem own : ownKnob Tryz.prog.godebug = none := by kernel_rfl
theorem laidOut : laidOutB Tryz.prog = true := by kernel_rfl
theorem gPow : Tryz.prog.globalNamed "internal/strconv.uint64pow10" = some 2 := by kernel_rfl
theorem tPow : (Tryz.prog.globals[2]?).map (·.type) = some 275 := by kernel_rfl
theorem gSyn : Tryz.prog.globalNamed "strconv.ErrSyntax" = some 0 := by kernel_rfl
theorem tSyn : (Tryz.prog.globals[0]?).map (·.type) = some 149 := by kernel_rfl
theorem gRan : Tryz.prog.globalNamed "strconv.ErrRange" = some 1 := by kernel_rfl
theorem tRan : (Tryz.prog.globals[1]?).map (·.type) = some 149 := by kernel_rfl
theorem cPow : Tryz.prog.cellsOf 275 = 20 := by kernel_rfl
theorem cU64 : Tryz.prog.cellsOf 28 = 1 := by kernel_rfl
theorem cErr : Tryz.prog.cellsOf 286 = 1 := by kernel_rfl
theorem cStr : Tryz.prog.cellsOf 9 = 1 := by kernel_rfl
theorem star : "*" ++ "errors.errorString" = "*errors.errorString" := by decide
/-- The one type of that name. -/
theorem rowErr (u : TypeId) (h : Tryz.prog.typeName? 3 u = some "*errors.errorString") : u = 284 :=
  typeName_ptr_named (nm := "errors.errorString") (by rw [star]; kernel_rfl) (by kernel_rfl) (by decide) u (by rw [star]; exact h)

/-- The door's own heap meets the condition. -/
theorem door_met (os : Os) (args : Array Value) : laidMetH Tryz.prog laid1 ((World.doorLaid Tryz.prog 400 os).forCall (fun _ _ => 0) ⟨#[], args, []⟩).memory :=
  laidMetH_of_parts3 (fuel := 8) (laidMet_of_run' 8 (by kernel_rfl) (by kernel_rfl)) (by kernel_rfl) (by kernel_rfl)

theorem pow_data : (Rows.laid_internal_strconv_uint64pow10 : DataW Unit) = Lib.tabData .u64 Lib.pow10Tab := by kernel_rfl
set_option maxRecDepth 100000 in
theorem tab_laid {W : World} (h : laidMet Tryz.prog [("copyhold/cell.halfBytes", (Rows.laid_copyhold_cell_halfBytes : DataW Unit))] W) : Tab W := by
  obtain ⟨ps, ⟨g0, t0, cs0, f0, p0, q0, hg0, ht0, hv0, hd0, _⟩, _⟩ := h
  obtain rfl := Option.some.inj (gHalf.symm.trans hg0)
  obtain rfl := Option.some.inj (tHalf.symm.trans ht0)
  obtain ⟨xs, m1, _, hx1, hlen, hn3, hel⟩ := DataW.trod_array Tryz.underlying278 hd0
  have c1 : Tryz.prog.cellsOf 176 = 1 := by kernel_rfl
  intro i hi
  have h0 := hel i hi
  rw [c1, Nat.mul_one, List.getElem?_eq_getElem (by omega)] at h0
  obtain ⟨k, e1, e2, _⟩ := DataW.trod_int Tryz.underlying176 h0
  have hD : (Rows.laid_copyhold_cell_halfBytes : DataW Unit) = .agg (Cr.tab.map fun n : Nat => .lit (.int .u32 (n : Int))) := rfl
  rw [hD] at hx1
  simp only [Prod.mk.injEq, DataW.agg.injEq] at hx1
  have hk := congrArg (fun l => l[i]?) hx1.1
  simp only [List.getElem?_map, List.getElem?_eq_getElem (show i < xs.length by omega), List.getElem?_eq_getElem (show i < Cr.tab.length by exact hi), Option.map_some, e2, Option.some.injEq] at hk
  have hkk : ((Cr.tab[i]'hi : Nat) : Int) = k := by
    simp only [DataW.lit.injEq, Lit.int.injEq, true_and] at hk
    exact hk
  have hcell := World.var?_cell hg0 hv0 i
  rw [hcell, ← Array.getElem?_toList]
  have e3 := congrArg (fun l => l[0]?) e1
  simp only [List.getElem?_take, List.getElem?_drop, Nat.zero_lt_one, if_true, Nat.add_zero] at e3
  rw [e3]
  simp only [List.getElem?_cons_zero]
  rw [← hkk]
  congr 3
  rw [List.getD_eq_getElem?_getD, List.getElem?_eq_getElem hi]
  rfl
set_option maxRecDepth 100000 in
/-- What the condition gives the walks. -/
theorem of_laid {W : World} (h : laidMetH Tryz.prog laid1 W) : Knows W.heap.size W := by
  rw [MakeChecks.laidMetH_plain _ _ _ (by kernel_rfl)] at h
  have h2 := h.tail.tail
  rw [pow_data] at h2
  have h3 := Lib.tabBelow_of_tabIs (Lib.tabIs_of_head gPow tPow Tryz.underlying275 Tryz.underlying28 cU64 cPow h2)
  obtain ⟨a1, s1, hv1, _⟩ := laid_sentinel h2.tail gRan tRan Tryz.underlying149 rowErr Tryz.underlying284 Tryz.underlying286 rfl rfl Tryz.underlying9 cErr cStr
  obtain ⟨a0, s0, hv0, _⟩ := laid_sentinel h2.tail.tail gSyn tSyn Tryz.underlying149 rowErr Tryz.underlying284 Tryz.underlying286 rfl rfl Tryz.underlying9 cErr cStr
  have c0 := World.var?_cell gSyn hv0 0
  have c1 := World.var?_cell gRan hv1 0
  have ht := tab_laid h2.tail.tail.tail
  intro W2 hb
  have k0 : W2.cell? ⟨0, 0, none⟩ = W.cell? ⟨0, 0, none⟩ := hb.cell (p := ⟨0, 0, none⟩) (World.block_lt_of_cell? _ _ (show W.cell? ⟨0, 0, none⟩ = some _ by simpa using c0))
  have k1 : W2.cell? ⟨1, 0, none⟩ = W.cell? ⟨1, 0, none⟩ := hb.cell (p := ⟨1, 0, none⟩) (World.block_lt_of_cell? _ _ (show W.cell? ⟨1, 0, none⟩ = some _ by simpa using c1))
  refine ⟨h3 W2 hb, ⟨_, k0.trans (by simpa using c0), Or.inr ⟨_, _, rfl⟩⟩, ⟨_, k1.trans (by simpa using c1), Or.inr ⟨_, _, rfl⟩⟩, fun i hi => ?_⟩
  exact (hb.cell (p := ⟨3, i, none⟩) ht.lt).trans (ht i hi)

end Go.Proofs.YtfeconankopjmaaGreatDoor

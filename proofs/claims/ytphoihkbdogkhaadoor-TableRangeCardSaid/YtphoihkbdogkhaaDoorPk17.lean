/- Texts on the program's own functions, several in one: TbLaid. -/
import Derived.Test.YtphoihkbdogkhaaDoorPk10
import Derived.ProofKit
import Derived.LaidMore
import Derived.OpenShut
import Derived.ShutString
import Derived.ChangeOld
import Derived.SliceStrings
import Derived.Lib.SmallJoins
import Derived.Stop.Joined

/- What the listed variable holds: the table of half bytes. -/
namespace Go.Proofs.YtphoihkbdogkhaaDoor
open Go.ChangeShapes Go.WideShapes Go.ChangeAt Go.WideMaps Go.WideElems Go.RowKit
set_option maxRecDepth 100000

def laid1 {H : Type} : List (String × DataW H) := [("copyhold/cell.halfBytes", Rows.laid_copyhold_cell_halfBytes)]
theorem own : ownKnob Tryd.prog.godebug = none := by kernel_rfl
theorem laidOut : laidOutB Tryd.prog = true := by kernel_rfl
theorem gHalf : Tryd.prog.globalNamed "copyhold/cell.halfBytes" = some 0 := by kernel_rfl
theorem tHalf : (Tryd.prog.globals[0]?).map (·.type) = some 157 := by kernel_rfl

/-- The door's own heap meets the condition. -/
theorem door_met (os : Os) (args : Array Value) : laidMetH Tryd.prog laid1 ((World.doorLaid Tryd.prog 400 os).forCall (fun _ _ => 0) ⟨#[], args, []⟩).memory :=
  laidMetH_of_parts3 (fuel := 8) (laidMet_of_run' 8 (by kernel_rfl) (by kernel_rfl)) (by kernel_rfl) (by kernel_rfl)

/-- What the condition gives the walks. -/
theorem of_laid {W : World} (h : laidMetH Tryd.prog laid1 W) : Tab W := by
  rw [MakeChecks.laidMetH_plain _ _ _ (by kernel_rfl)] at h
  obtain ⟨ps, ⟨g0, t0, cs0, f0, p0, q0, hg0, ht0, hv0, hd0, _⟩, _⟩ := h
  obtain rfl := Option.some.inj (gHalf.symm.trans hg0)
  obtain rfl := Option.some.inj (tHalf.symm.trans ht0)
  obtain ⟨xs, m1, _, hx1, hlen, hn3, hel⟩ := DataW.trod_array Tryd.underlying157 hd0
  have c1 : Tryd.prog.cellsOf 101 = 1 := by kernel_rfl
  intro i hi
  have h0 := hel i hi
  rw [c1, Nat.mul_one, List.getElem?_eq_getElem (by omega)] at h0
  obtain ⟨k, e1, e2, _⟩ := DataW.trod_int Tryd.underlying101 h0
  have hD : (Rows.laid_copyhold_cell_halfBytes : DataW Unit) = .agg (Cr.tab.map fun n : Nat => .lit (.int .u32 (n : Int))) := rfl
  rw [hD] at hx1
  simp only [Prod.mk.injEq, DataW.agg.injEq] at hx1
  have hk := congrArg (fun l => l[i]?) hx1.1
  simp only [List.getElem?_map, List.getElem?_eq_getElem (show i < xs.length by omega), List.getElem?_eq_getElem (show i < Cr.tab.length by exact hi), Option.map_some, e2, Option.some.injEq] at hk
  have hkk : ((Cr.tab[i]'hi : Nat) : Int) = k := by
    simp only [DataW.lit.injEq, Lit.int.injEq, true_and] at hk
    exact hk
  have hcell := World.var?_cell hg0 hv0 i
  rw [hcell, ← Array.getElem?_toList]
  have e3 := congrArg (fun l => l[0]?) e1
  simp only [List.getElem?_take, List.getElem?_drop, Nat.zero_lt_one, if_true, Nat.add_zero] at e3
  rw [e3]
  simp only [List.getElem?_cons_zero]
  rw [← hkk]
  congr 3
  rw [List.getD_eq_getElem?_getD, List.getElem?_eq_getElem hi]
  rfl

end Go.Proofs.YtphoihkbdogkhaaDoor

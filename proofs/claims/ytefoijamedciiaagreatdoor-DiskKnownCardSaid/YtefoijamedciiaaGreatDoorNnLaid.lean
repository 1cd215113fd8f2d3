/- What the listed variables hold: the powers of ten, the two errors of strconv. -/
import Derived.Test.YtefoijamedciiaaGreatDoorNnQ
import Derived.Stop.LaidErr
import Derived.Lib.LaidTab
import Derived.ProofKit
import Derived.LaidMore
import Derived.OpenShut
import Derived.ShutString
import Derived.ChangeOld
import Derived.Stop.Joined
namespace Go.Proofs.YtefoijamedciiaaGreatDoor
open Go.ChangeShapes Go.WideShapes Go.ChangeAt Go.WideMaps Go.WideElems Go.RowKit

def laid1 {H : Type} : List (String × DataW H) := [("math/bits.deBruijn32tab", Rows.laid_math_bits_deBruijn32tab), ("math/bits.deBruijn64tab", Rows.laid_math_bits_deBruijn64tab), ("internal/strconv.uint64pow10", Rows.laid_internal_strconv_uint64pow10), ("strconv.ErrRange", Rows.laid_strconv_ErrRange), ("strconv.ErrSyntax", Rows.laid_strconv_ErrSyntax)]
theorem own : ownKnob Tryz.prog.godebug = none := by kernel_rfl
theorem laidOut : laidOutB Tryz.prog = true := by kernel_rfl
theorem gPow : Tryz.prog.globalNamed "internal/strconv.uint64pow10" = some 2 := by kernel_rfl
theorem tPow : (Tryz.prog.globals[2]?).map (·.type) = some 118 := by kernel_rfl
theorem gSyn : Tryz.prog.globalNamed "strconv.ErrSyntax" = some 0 := by kernel_rfl
theorem tSyn : (Tryz.prog.globals[0]?).map (·.type) = some 65 := by kernel_rfl
theorem gRan : Tryz.prog.globalNamed "strconv.ErrRange" = some 1 := by kernel_rfl
theorem tRan : (Tryz.prog.globals[1]?).map (·.type) = some 65 := by kernel_rfl
theorem cPow : Tryz.prog.cellsOf 118 = 20 := by kernel_rfl
theorem cU64 : Tryz.prog.cellsOf 37 = 1 := by kernel_rfl
theorem cErr : Tryz.prog.cellsOf 135 = 1 := by kernel_rfl
theorem cStr : Tryz.prog.cellsOf 9 = 1 := by kernel_rfl
theorem star : "*" ++ "errors.errorString" = "*errors.errorString" := by decide
/-- The one type of that name. -/
theorem rowErr (u : TypeId) (h : Tryz.prog.typeName? 3 u = some "*errors.errorString") : u = 133 :=
  typeName_ptr_named (nm := "errors.errorString") (by rw [star]; kernel_rfl) (by kernel_rfl) (by decide) u (by rw [star]; exact h)

/-- The door's own heap meets the condition. -/
theorem door_met (os : Os) (args : Array Value) : laidMetH Tryz.prog laid1 ((World.doorLaid Tryz.prog 400 os).forCall (fun _ _ => 0) ⟨#[], args, []⟩).memory :=
  laidMetH_of_parts3 (fuel := 8) (laidMet_of_run' 8 (by kernel_rfl) (by kernel_rfl)) (by kernel_rfl) (by kernel_rfl)

/-- What the condition gives the walks: the table, and the two errors. -/
def Numbers (W : World) : Prop := Lib.TabBelow Tryz.prog W.heap.size W "internal/strconv.uint64pow10" .u64 Lib.pow10Tab ∧
  (∃ e0, W.cell? ⟨0, 0, none⟩ = some e0 ∧ (e0 = .nilIface ∨ ∃ te pe, e0 = .iface te pe)) ∧ ∃ e1, W.cell? ⟨1, 0, none⟩ = some e1 ∧ (e1 = .nilIface ∨ ∃ te pe, e1 = .iface te pe)
theorem pow_data : (Rows.laid_internal_strconv_uint64pow10 : DataW Unit) = Lib.tabData .u64 Lib.pow10Tab := by kernel_rfl
theorem of_laid {W : World} (h : laidMetH Tryz.prog laid1 W) : Numbers W := by
  rw [MakeChecks.laidMetH_plain _ _ _ (by kernel_rfl)] at h
  have h2 := h.tail.tail
  rw [pow_data] at h2
  have h3 := Lib.tabIs_of_head gPow tPow Tryz.underlying118 Tryz.underlying37 cU64 cPow h2
  obtain ⟨a1, s1, hv1, _⟩ := laid_sentinel h2.tail gRan tRan Tryz.underlying65 rowErr Tryz.underlying133 Tryz.underlying135 rfl rfl Tryz.underlying9 cErr cStr
  obtain ⟨a0, s0, hv0, _⟩ := laid_sentinel h2.tail.tail gSyn tSyn Tryz.underlying65 rowErr Tryz.underlying133 Tryz.underlying135 rfl rfl Tryz.underlying9 cErr cStr
  have c0 := World.var?_cell gSyn hv0 0
  have c1 := World.var?_cell gRan hv1 0
  exact ⟨Lib.tabBelow_of_tabIs h3, ⟨_, by simpa using c0, Or.inr ⟨_, _, rfl⟩⟩, _, by simpa using c1, Or.inr ⟨_, _, rfl⟩⟩

end Go.Proofs.YtefoijamedciiaaGreatDoor

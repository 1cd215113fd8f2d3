/-
  NARROWER THAN 'FOR EVERY INPUT', by the rows' own cells (each row's printed sentence says how): TableKnown: laid · TableBuilds: laid · TableBack: laid · TableRange: laid · TableTurned: laid.
  DERIVED. THE GIVEN ROWS OF THIS SEAT. 5 by the template 'for every input the law returns true; each argument reads behind the call as it read before'; 0 by the template 'total and deterministic' (their statements: YtphoihkbdogkhaaDoorTotals.lean).
  GIVEN WITH THE SEED: the statements are not yours to turn. If you find one false, say at which input.
  Laid BY PROGRAM, IN A SANDBOX (cutbox-rows.mjs): the forced cells as the released guide's own fill.sh prints them over the translation 40c6f911d244da15… (all of the seat's roots in one cut). By AI agents, Wed Nov 11 2026. No macro, syntax, notation, axiom, sorry.
-/
import Derived.Test.YtphoihkbdogkhaaDoorChecked
import GoSem.Claim
import GoSem.ClaimJoined
import GoSem.ClaimMapViews
import Derived.JoinedTies
import Derived.KernelRfl
namespace Go.Proofs.YtphoihkbdogkhaaDoor
/- THE CELL 'sum', in the pinned program and in every row, IS THE sha256 OF THE DUMP (.gsa) THAT YtphoihkbdogkhaaDoorProg.lean LOADS. Nothing in Lean hashes anything: it is a label: what it is worth is what the hold of that sum in a sandbox is worth. -/
noncomputable def Tryd.pinned : Pinned := { name := "ytphoihkbdogkhaadoor", sum := "40c6f911d244da15b587e9493f432bf090d362f8ac322acfbc1c9b42ada1b340", checked := Tryd.checked }
namespace Rows
def none {H : Type} : Left H := { results := [], args := [] }

/- WHAT THE LISTED PACKAGE-LEVEL VARIABLES READ AS WHEN THE CALL BEGINS. Each datum BY PROGRAM (the guide's laid-datum.mjs) off the statement by which the dump's own 'gosem.cut.vars' lays the variable. In a bare row this is a premise. The card (YtphoihkbdogkhaaDoorCards.lean) ties it to the program's text. -/
def laid_copyhold_cell_halfBytes {H : Type} : DataW H := .agg [.lit (.int .u32 0), .lit (.int .u32 498536548), .lit (.int .u32 997073096), .lit (.int .u32 651767980), .lit (.int .u32 1994146192), .lit (.int .u32 1802195444), .lit (.int .u32 1303535960), .lit (.int .u32 1342533948), .lit (.int .u32 3988292384), .lit (.int .u32 4027552580), .lit (.int .u32 3604390888), .lit (.int .u32 3412177804), .lit (.int .u32 2607071920), .lit (.int .u32 2262029012), .lit (.int .u32 2685067896), .lit (.int .u32 3183342108)]

/-- 'copyholdlaw12.TableKnown': WHATEVER THE INPUT: true; the input reads as it did. -/
def tableKnownSpec : ChangeSpec := { name := "tableKnown", fn := fun _ => fun
  | [] => { results := [.lit (.bool true)], args := [] }
  | _ => none }
def tableKnownRow : OpenClaim := { program := "ytphoihkbdogkhaadoor", sum := "40c6f911d244da15b587e9493f432bf090d362f8ac322acfbc1c9b42ada1b340", func := "copyhold/copyholdlaw12.TableKnown", spec := "tableKnown", unfollowed := true, recurses := true, named := ["copyhold/cell.halfBytes"], apart := false, laid := [("copyhold/cell.halfBytes", laid_copyhold_cell_halfBytes)] }
def TableKnownSaid : Prop := tableKnownRow.holds Tryd.pinned (OpenSpec.ofChange tableKnownSpec)

/-- ITS FALSE NEIGHBOUR: 'it returns false'. Refute it at one input. -/
def tableKnownWrong : ChangeSpec := { name := "tableKnown", fn := fun _ => fun
  | [] => { results := [.lit (.bool false)], args := [] }
  | _ => none }
def TableKnownWrongFalsely : Prop := tableKnownRow.holds Tryd.pinned (OpenSpec.ofChange tableKnownWrong)

/-- 'copyholdlaw12.TableBuilds': WHATEVER THE INPUT: true; the input reads as it did. -/
def tableBuildsSpec : ChangeSpec := { name := "tableBuilds", fn := fun _ => fun
  | [d1, d2, d3] => { results := [.lit (.bool true)], args := [d1, d2, d3] }
  | _ => none }
def tableBuildsRow : OpenClaim := { program := "ytphoihkbdogkhaadoor", sum := "40c6f911d244da15b587e9493f432bf090d362f8ac322acfbc1c9b42ada1b340", func := "copyhold/copyholdlaw12.TableBuilds", spec := "tableBuilds", unfollowed := true, recurses := true, named := ["copyhold/cell.halfBytes"], apart := false, laid := [("copyhold/cell.halfBytes", laid_copyhold_cell_halfBytes)] }
def TableBuildsSaid : Prop := tableBuildsRow.holds Tryd.pinned (OpenSpec.ofChange tableBuildsSpec)

/-- ITS FALSE NEIGHBOUR: 'it returns false'. Refute it at one input. -/
def tableBuildsWrong : ChangeSpec := { name := "tableBuilds", fn := fun _ => fun
  | [d1, d2, d3] => { results := [.lit (.bool false)], args := [d1, d2, d3] }
  | _ => none }
def TableBuildsWrongFalsely : Prop := tableBuildsRow.holds Tryd.pinned (OpenSpec.ofChange tableBuildsWrong)

/-- 'copyholdlaw12.TableBack': WHATEVER THE INPUT: true; the input reads as it did. -/
def tableBackSpec : ChangeSpec := { name := "tableBack", fn := fun _ => fun
  | [d1, d2] => { results := [.lit (.bool true)], args := [d1, d2] }
  | _ => none }
def tableBackRow : OpenClaim := { program := "ytphoihkbdogkhaadoor", sum := "40c6f911d244da15b587e9493f432bf090d362f8ac322acfbc1c9b42ada1b340", func := "copyhold/copyholdlaw12.TableBack", spec := "tableBack", unfollowed := true, recurses := true, named := ["copyhold/cell.halfBytes"], apart := false, laid := [("copyhold/cell.halfBytes", laid_copyhold_cell_halfBytes)] }
def TableBackSaid : Prop := tableBackRow.holds Tryd.pinned (OpenSpec.ofChange tableBackSpec)

/-- ITS FALSE NEIGHBOUR: 'it returns false'. Refute it at one input. -/
def tableBackWrong : ChangeSpec := { name := "tableBack", fn := fun _ => fun
  | [d1, d2] => { results := [.lit (.bool false)], args := [d1, d2] }
  | _ => none }
def TableBackWrongFalsely : Prop := tableBackRow.holds Tryd.pinned (OpenSpec.ofChange tableBackWrong)

/-- 'copyholdlaw12.TableRange': WHATEVER THE INPUT: true; the input reads as it did. -/
def tableRangeSpec : ChangeSpec := { name := "tableRange", fn := fun _ => fun
  | [d1, d2, d3] => { results := [.lit (.bool true)], args := [d1, d2, d3] }
  | _ => none }
def tableRangeRow : OpenClaim := { program := "ytphoihkbdogkhaadoor", sum := "40c6f911d244da15b587e9493f432bf090d362f8ac322acfbc1c9b42ada1b340", func := "copyhold/copyholdlaw12.TableRange", spec := "tableRange", unfollowed := true, recurses := true, named := ["copyhold/cell.halfBytes"], apart := false, laid := [("copyhold/cell.halfBytes", laid_copyhold_cell_halfBytes)] }
def TableRangeSaid : Prop := tableRangeRow.holds Tryd.pinned (OpenSpec.ofChange tableRangeSpec)

/-- ITS FALSE NEIGHBOUR: 'it returns false'. Refute it at one input. -/
def tableRangeWrong : ChangeSpec := { name := "tableRange", fn := fun _ => fun
  | [d1, d2, d3] => { results := [.lit (.bool false)], args := [d1, d2, d3] }
  | _ => none }
def TableRangeWrongFalsely : Prop := tableRangeRow.holds Tryd.pinned (OpenSpec.ofChange tableRangeWrong)

/-- 'copyholdlaw12.TableTurned': WHATEVER THE INPUT: true; the input reads as it did. -/
def tableTurnedSpec : ChangeSpec := { name := "tableTurned", fn := fun _ => fun
  | [d1, d2, d3] => { results := [.lit (.bool true)], args := [d1, d2, d3] }
  | _ => none }
def tableTurnedRow : OpenClaim := { program := "ytphoihkbdogkhaadoor", sum := "40c6f911d244da15b587e9493f432bf090d362f8ac322acfbc1c9b42ada1b340", func := "copyhold/copyholdlaw12.TableTurned", spec := "tableTurned", unfollowed := true, recurses := true, named := ["copyhold/cell.halfBytes"], apart := false, laid := [("copyhold/cell.halfBytes", laid_copyhold_cell_halfBytes)] }
def TableTurnedSaid : Prop := tableTurnedRow.holds Tryd.pinned (OpenSpec.ofChange tableTurnedSpec)

/-- ITS FALSE NEIGHBOUR: 'it returns false'. Refute it at one input. -/
def tableTurnedWrong : ChangeSpec := { name := "tableTurned", fn := fun _ => fun
  | [d1, d2, d3] => { results := [.lit (.bool false)], args := [d1, d2, d3] }
  | _ => none }
def TableTurnedWrongFalsely : Prop := tableTurnedRow.holds Tryd.pinned (OpenSpec.ofChange tableTurnedWrong)

/- THE SECOND FORM. 'bulk': how many values and letters a reading holds, each counted each time it is reached (what is shared counts as often as it is met; a slice's spare places count too). A statement '..UptoSaid' is the law's where the arguments, and the package variables that the reading takes, are together of bulk at most 1048576: NARROWER than '..Said'. Prove '..Said' where nothing that the law and all that it calls make is longer than what came in: it says more and counts as full. Else prove '..UptoSaid'. A law counts once. -/
mutual
def uptoBulk {H : Type} : DataW H → Nat
  | .lit (.string bytes) => bytes.length + 1
  | .lit _ => 1
  | .nil => 1
  | .ptr d => uptoBulk d + 1
  | .slice elems spare => uptoBulkAll elems + uptoBulkAll spare + 1
  | .agg parts => uptoBulkAll parts + 1
  | .iface _ d => uptoBulk d + 1
  | .map entries => uptoBulkEntries entries + 1
  | .held _ => 1
def uptoBulkAll {H : Type} : List (DataW H) → Nat
  | [] => 0
  | d :: r => uptoBulk d + uptoBulkAll r
def uptoBulkEntries {H : Type} : List (Lit × DataW H) → Nat
  | [] => 0
  | x :: r => uptoBulkEntry x + uptoBulkEntries r
def uptoBulkEntry {H : Type} : Lit × DataW H → Nat
  | (.string bytes, d) => bytes.length + uptoBulk d + 1
  | (_, d) => uptoBulk d + 1
 end
def uptoSmall : (H : Type) → List (DataW H) → Bool := fun _ ds => decide (uptoBulkAll ds ≤ 1048576)
def OpenSpec.upto (s : _root_.Go.ChangeSpec) : _root_.Go.OpenSpec := { _root_.Go.OpenSpec.ofChange s with cond := some uptoSmall }

/-- 'copyholdlaw12.TableKnown', WHERE WHAT IT READS IS OF BULK AT MOST 1048576: true; the input reads as it did. -/
def tableKnownUptoRow : OpenClaim := { program := "ytphoihkbdogkhaadoor", sum := "40c6f911d244da15b587e9493f432bf090d362f8ac322acfbc1c9b42ada1b340", func := "copyhold/copyholdlaw12.TableKnown", spec := "tableKnown", unfollowed := true, recurses := true, named := ["copyhold/cell.halfBytes"], apart := false, laid := [("copyhold/cell.halfBytes", laid_copyhold_cell_halfBytes)], narrowed := true }
def TableKnownUptoSaid : Prop := tableKnownUptoRow.holds Tryd.pinned (OpenSpec.upto tableKnownSpec)

/-- 'copyholdlaw12.TableBuilds', WHERE WHAT IT READS IS OF BULK AT MOST 1048576: true; the input reads as it did. -/
def tableBuildsUptoRow : OpenClaim := { program := "ytphoihkbdogkhaadoor", sum := "40c6f911d244da15b587e9493f432bf090d362f8ac322acfbc1c9b42ada1b340", func := "copyhold/copyholdlaw12.TableBuilds", spec := "tableBuilds", unfollowed := true, recurses := true, named := ["copyhold/cell.halfBytes"], apart := false, laid := [("copyhold/cell.halfBytes", laid_copyhold_cell_halfBytes)], narrowed := true }
def TableBuildsUptoSaid : Prop := tableBuildsUptoRow.holds Tryd.pinned (OpenSpec.upto tableBuildsSpec)

/-- 'copyholdlaw12.TableBack', WHERE WHAT IT READS IS OF BULK AT MOST 1048576: true; the input reads as it did. -/
def tableBackUptoRow : OpenClaim := { program := "ytphoihkbdogkhaadoor", sum := "40c6f911d244da15b587e9493f432bf090d362f8ac322acfbc1c9b42ada1b340", func := "copyhold/copyholdlaw12.TableBack", spec := "tableBack", unfollowed := true, recurses := true, named := ["copyhold/cell.halfBytes"], apart := false, laid := [("copyhold/cell.halfBytes", laid_copyhold_cell_halfBytes)], narrowed := true }
def TableBackUptoSaid : Prop := tableBackUptoRow.holds Tryd.pinned (OpenSpec.upto tableBackSpec)

/-- 'copyholdlaw12.TableRange', WHERE WHAT IT READS IS OF BULK AT MOST 1048576: true; the input reads as it did. -/
def tableRangeUptoRow : OpenClaim := { program := "ytphoihkbdogkhaadoor", sum := "40c6f911d244da15b587e9493f432bf090d362f8ac322acfbc1c9b42ada1b340", func := "copyhold/copyholdlaw12.TableRange", spec := "tableRange", unfollowed := true, recurses := true, named := ["copyhold/cell.halfBytes"], apart := false, laid := [("copyhold/cell.halfBytes", laid_copyhold_cell_halfBytes)], narrowed := true }
def TableRangeUptoSaid : Prop := tableRangeUptoRow.holds Tryd.pinned (OpenSpec.upto tableRangeSpec)

/-- 'copyholdlaw12.TableTurned', WHERE WHAT IT READS IS OF BULK AT MOST 1048576: true; the input reads as it did. -/
def tableTurnedUptoRow : OpenClaim := { program := "ytphoihkbdogkhaadoor", sum := "40c6f911d244da15b587e9493f432bf090d362f8ac322acfbc1c9b42ada1b340", func := "copyhold/copyholdlaw12.TableTurned", spec := "tableTurned", unfollowed := true, recurses := true, named := ["copyhold/cell.halfBytes"], apart := false, laid := [("copyhold/cell.halfBytes", laid_copyhold_cell_halfBytes)], narrowed := true }
def TableTurnedUptoSaid : Prop := tableTurnedUptoRow.holds Tryd.pinned (OpenSpec.upto tableTurnedSpec)

end Rows
end Go.Proofs.YtphoihkbdogkhaaDoor

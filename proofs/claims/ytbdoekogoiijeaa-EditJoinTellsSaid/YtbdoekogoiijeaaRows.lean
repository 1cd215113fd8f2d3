/-
  No cell of these rows narrows 'for every input' (looked for: loops, veiled, ifaces, maps, wideKeys, modest, calm, conditions, laid).
  DERIVED. THE GIVEN ROWS OF THIS SEAT. 8 by the template 'for every input the law returns true; each argument reads behind the call as it read before'; 0 by the template 'total and deterministic' (their statements: YtbdoekogoiijeaaTotals.lean).
  GIVEN WITH THE SEED: the statements are not yours to turn. If you find one false, say at which input.
  Laid BY PROGRAM, IN A SANDBOX (cutbox-rows.mjs): the forced cells as the released guide's own fill.sh prints them over the translation 405ed1433dff1d8a… (all of the seat's roots in one cut). By AI agents, Wed Nov 11 2026. No macro, syntax, notation, axiom, sorry.
-/
import Derived.Test.YtbdoekogoiijeaaChecked
import GoSem.Claim
import GoSem.ClaimJoined
import GoSem.ClaimMapViews
import Derived.JoinedTies
import Derived.KernelRfl
namespace Go.Proofs.Ytbdoekogoiijeaa
/- THE CELL 'sum', in the pinned program and in every row, IS THE sha256 OF THE DUMP (.gsa) THAT YtbdoekogoiijeaaProg.lean LOADS. Nothing in Lean hashes anything: it is a label: what it is worth is what the hold of that sum in a sandbox is worth. -/
noncomputable def Try.pinned : Pinned := { name := "ytbdoekogoiijeaa", sum := "405ed1433dff1d8a9f175ab0948f1b55aafd682080b46bd5663fa3fbaa537ab6", checked := Try.checked }
namespace Rows
def none {H : Type} : Left H := { results := [], args := [] }

/-- 'copyholdlaw13.EditJoinTells': WHATEVER THE INPUT: true; the input reads as it did. -/
def editJoinTellsSpec : ChangeSpec := { name := "editJoinTells", fn := fun _ => fun
  | [d] => { results := [.lit (.bool true)], args := [d] }
  | _ => none }
def editJoinTellsRow : OpenClaim := { program := "ytbdoekogoiijeaa", sum := "405ed1433dff1d8a9f175ab0948f1b55aafd682080b46bd5663fa3fbaa537ab6", func := "copyhold/copyholdlaw13.EditJoinTells", spec := "editJoinTells", inPlace := ["internal/abi.NoEscape"], apart := false }
def EditJoinTellsSaid : Prop := editJoinTellsRow.holds Try.pinned (OpenSpec.ofChange editJoinTellsSpec)

/-- ITS FALSE NEIGHBOUR: 'it returns false'. Refute it at one input. -/
def editJoinTellsWrong : ChangeSpec := { name := "editJoinTells", fn := fun _ => fun
  | [d] => { results := [.lit (.bool false)], args := [d] }
  | _ => none }
def EditJoinTellsWrongFalsely : Prop := editJoinTellsRow.holds Try.pinned (OpenSpec.ofChange editJoinTellsWrong)

/-- 'copyholdlaw14.VersionApplies': WHATEVER THE INPUT: true; the input reads as it did. -/
def versionAppliesSpec : ChangeSpec := { name := "versionApplies", fn := fun _ => fun
  | [d] => { results := [.lit (.bool true)], args := [d] }
  | _ => none }
def versionAppliesRow : OpenClaim := { program := "ytbdoekogoiijeaa", sum := "405ed1433dff1d8a9f175ab0948f1b55aafd682080b46bd5663fa3fbaa537ab6", func := "copyhold/copyholdlaw14.VersionApplies", spec := "versionApplies", inPlace := ["slices.overlaps[uint64]"], unfollowed := true, recurses := true, apart := false }
def VersionAppliesSaid : Prop := versionAppliesRow.holds Try.pinned (OpenSpec.ofChange versionAppliesSpec)

/-- ITS FALSE NEIGHBOUR: 'it returns false'. Refute it at one input. -/
def versionAppliesWrong : ChangeSpec := { name := "versionApplies", fn := fun _ => fun
  | [d] => { results := [.lit (.bool false)], args := [d] }
  | _ => none }
def VersionAppliesWrongFalsely : Prop := versionAppliesRow.holds Try.pinned (OpenSpec.ofChange versionAppliesWrong)

/-- 'copyholdlaw14.VersionRight': WHATEVER THE INPUT: true; the input reads as it did. -/
def versionRightSpec : ChangeSpec := { name := "versionRight", fn := fun _ => fun
  | [d] => { results := [.lit (.bool true)], args := [d] }
  | _ => none }
def versionRightRow : OpenClaim := { program := "ytbdoekogoiijeaa", sum := "405ed1433dff1d8a9f175ab0948f1b55aafd682080b46bd5663fa3fbaa537ab6", func := "copyhold/copyholdlaw14.VersionRight", spec := "versionRight", inPlace := ["slices.overlaps[uint64]"], unfollowed := true, recurses := true, apart := false }
def VersionRightSaid : Prop := versionRightRow.holds Try.pinned (OpenSpec.ofChange versionRightSpec)

/-- ITS FALSE NEIGHBOUR: 'it returns false'. Refute it at one input. -/
def versionRightWrong : ChangeSpec := { name := "versionRight", fn := fun _ => fun
  | [d] => { results := [.lit (.bool false)], args := [d] }
  | _ => none }
def VersionRightWrongFalsely : Prop := versionRightRow.holds Try.pinned (OpenSpec.ofChange versionRightWrong)

/-- 'copyholdlaw14.VersionFinds': WHATEVER THE INPUT: true; the input reads as it did. -/
def versionFindsSpec : ChangeSpec := { name := "versionFinds", fn := fun _ => fun
  | [d1, d2, d3, d4] => { results := [.lit (.bool true)], args := [d1, d2, d3, d4] }
  | _ => none }
def versionFindsRow : OpenClaim := { program := "ytbdoekogoiijeaa", sum := "405ed1433dff1d8a9f175ab0948f1b55aafd682080b46bd5663fa3fbaa537ab6", func := "copyhold/copyholdlaw14.VersionFinds", spec := "versionFinds", inPlace := ["slices.overlaps[uint64]"], unfollowed := true, recurses := true, apart := false }
def VersionFindsSaid : Prop := versionFindsRow.holds Try.pinned (OpenSpec.ofChange versionFindsSpec)

/-- ITS FALSE NEIGHBOUR: 'it returns false'. Refute it at one input. -/
def versionFindsWrong : ChangeSpec := { name := "versionFinds", fn := fun _ => fun
  | [d1, d2, d3, d4] => { results := [.lit (.bool false)], args := [d1, d2, d3, d4] }
  | _ => none }
def VersionFindsWrongFalsely : Prop := versionFindsRow.holds Try.pinned (OpenSpec.ofChange versionFindsWrong)

/-- 'copyholdlaw14.VersionKnown': WHATEVER THE INPUT: true; the input reads as it did. -/
def versionKnownSpec : ChangeSpec := { name := "versionKnown", fn := fun _ => fun
  | [] => { results := [.lit (.bool true)], args := [] }
  | _ => none }
def versionKnownRow : OpenClaim := { program := "ytbdoekogoiijeaa", sum := "405ed1433dff1d8a9f175ab0948f1b55aafd682080b46bd5663fa3fbaa537ab6", func := "copyhold/copyholdlaw14.VersionKnown", spec := "versionKnown", inPlace := ["slices.overlaps[uint64]"], unfollowed := true, recurses := true, apart := false }
def VersionKnownSaid : Prop := versionKnownRow.holds Try.pinned (OpenSpec.ofChange versionKnownSpec)

/-- ITS FALSE NEIGHBOUR: 'it returns false'. Refute it at one input. -/
def versionKnownWrong : ChangeSpec := { name := "versionKnown", fn := fun _ => fun
  | [] => { results := [.lit (.bool false)], args := [] }
  | _ => none }
def VersionKnownWrongFalsely : Prop := versionKnownRow.holds Try.pinned (OpenSpec.ofChange versionKnownWrong)

/-- 'copyholdlaw14.VersionBack': WHATEVER THE INPUT: true; the input reads as it did. -/
def versionBackSpec : ChangeSpec := { name := "versionBack", fn := fun _ => fun
  | [d] => { results := [.lit (.bool true)], args := [d] }
  | _ => none }
def versionBackRow : OpenClaim := { program := "ytbdoekogoiijeaa", sum := "405ed1433dff1d8a9f175ab0948f1b55aafd682080b46bd5663fa3fbaa537ab6", func := "copyhold/copyholdlaw14.VersionBack", spec := "versionBack", inPlace := ["slices.overlaps[uint64]"], unfollowed := true, recurses := true, apart := false }
def VersionBackSaid : Prop := versionBackRow.holds Try.pinned (OpenSpec.ofChange versionBackSpec)

/-- ITS FALSE NEIGHBOUR: 'it returns false'. Refute it at one input. -/
def versionBackWrong : ChangeSpec := { name := "versionBack", fn := fun _ => fun
  | [d] => { results := [.lit (.bool false)], args := [d] }
  | _ => none }
def VersionBackWrongFalsely : Prop := versionBackRow.holds Try.pinned (OpenSpec.ofChange versionBackWrong)

/-- 'copyholdlaw14.VersionMoves': WHATEVER THE INPUT: true; the input reads as it did. -/
def versionMovesSpec : ChangeSpec := { name := "versionMoves", fn := fun _ => fun
  | [d] => { results := [.lit (.bool true)], args := [d] }
  | _ => none }
def versionMovesRow : OpenClaim := { program := "ytbdoekogoiijeaa", sum := "405ed1433dff1d8a9f175ab0948f1b55aafd682080b46bd5663fa3fbaa537ab6", func := "copyhold/copyholdlaw14.VersionMoves", spec := "versionMoves", inPlace := ["slices.overlaps[uint64]"], unfollowed := true, recurses := true, apart := false }
def VersionMovesSaid : Prop := versionMovesRow.holds Try.pinned (OpenSpec.ofChange versionMovesSpec)

/-- ITS FALSE NEIGHBOUR: 'it returns false'. Refute it at one input. -/
def versionMovesWrong : ChangeSpec := { name := "versionMoves", fn := fun _ => fun
  | [d] => { results := [.lit (.bool false)], args := [d] }
  | _ => none }
def VersionMovesWrongFalsely : Prop := versionMovesRow.holds Try.pinned (OpenSpec.ofChange versionMovesWrong)

/-- 'copyholdlaw14.VersionHolds': WHATEVER THE INPUT: true; the input reads as it did. -/
def versionHoldsSpec : ChangeSpec := { name := "versionHolds", fn := fun _ => fun
  | [d1, d2] => { results := [.lit (.bool true)], args := [d1, d2] }
  | _ => none }
def versionHoldsRow : OpenClaim := { program := "ytbdoekogoiijeaa", sum := "405ed1433dff1d8a9f175ab0948f1b55aafd682080b46bd5663fa3fbaa537ab6", func := "copyhold/copyholdlaw14.VersionHolds", spec := "versionHolds", inPlace := ["slices.overlaps[uint64]"], unfollowed := true, recurses := true, apart := false }
def VersionHoldsSaid : Prop := versionHoldsRow.holds Try.pinned (OpenSpec.ofChange versionHoldsSpec)

/-- ITS FALSE NEIGHBOUR: 'it returns false'. Refute it at one input. -/
def versionHoldsWrong : ChangeSpec := { name := "versionHolds", fn := fun _ => fun
  | [d1, d2] => { results := [.lit (.bool false)], args := [d1, d2] }
  | _ => none }
def VersionHoldsWrongFalsely : Prop := versionHoldsRow.holds Try.pinned (OpenSpec.ofChange versionHoldsWrong)

/- THE SECOND FORM. 'bulk': how many values and letters a reading holds, each counted each time it is reached (what is shared counts as often as it is met; a slice's spare places count too). A statement '..UptoSaid' is the law's where the arguments, and the package variables that the reading takes, are together of bulk at most 1048576: NARROWER than '..Said'. Prove '..Said' where nothing that the law and all that it calls make is longer than what came in: it says more and counts as full. Else prove '..UptoSaid'. A law counts once. -/
mutual
def uptoBulk {H : Type} : DataW H → Nat
  | .lit (.string bytes) => bytes.length + 1
  | .lit _ => 1
  | .nil => 1
  | .ptr d => uptoBulk d + 1
  | .slice elems spare => uptoBulkAll elems + uptoBulkAll spare + 1
  | .agg parts => uptoBulkAll parts + 1
  | .iface _ d => uptoBulk d + 1
  | .map entries => uptoBulkEntries entries + 1
  | .held _ => 1
def uptoBulkAll {H : Type} : List (DataW H) → Nat
  | [] => 0
  | d :: r => uptoBulk d + uptoBulkAll r
def uptoBulkEntries {H : Type} : List (Lit × DataW H) → Nat
  | [] => 0
  | x :: r => uptoBulkEntry x + uptoBulkEntries r
def uptoBulkEntry {H : Type} : Lit × DataW H → Nat
  | (.string bytes, d) => bytes.length + uptoBulk d + 1
  | (_, d) => uptoBulk d + 1
 end
def uptoSmall : (H : Type) → List (DataW H) → Bool := fun _ ds => decide (uptoBulkAll ds ≤ 1048576)
def OpenSpec.upto (s : _root_.Go.ChangeSpec) : _root_.Go.OpenSpec := { _root_.Go.OpenSpec.ofChange s with cond := some uptoSmall }

/-- 'copyholdlaw13.EditJoinTells', WHERE WHAT IT READS IS OF BULK AT MOST 1048576: true; the input reads as it did. -/
def editJoinTellsUptoRow : OpenClaim := { program := "ytbdoekogoiijeaa", sum := "405ed1433dff1d8a9f175ab0948f1b55aafd682080b46bd5663fa3fbaa537ab6", func := "copyhold/copyholdlaw13.EditJoinTells", spec := "editJoinTells", inPlace := ["internal/abi.NoEscape"], apart := false, narrowed := true }
def EditJoinTellsUptoSaid : Prop := editJoinTellsUptoRow.holds Try.pinned (OpenSpec.upto editJoinTellsSpec)

/-- 'copyholdlaw14.VersionApplies', WHERE WHAT IT READS IS OF BULK AT MOST 1048576: true; the input reads as it did. -/
def versionAppliesUptoRow : OpenClaim := { program := "ytbdoekogoiijeaa", sum := "405ed1433dff1d8a9f175ab0948f1b55aafd682080b46bd5663fa3fbaa537ab6", func := "copyhold/copyholdlaw14.VersionApplies", spec := "versionApplies", inPlace := ["slices.overlaps[uint64]"], unfollowed := true, recurses := true, apart := false, narrowed := true }
def VersionAppliesUptoSaid : Prop := versionAppliesUptoRow.holds Try.pinned (OpenSpec.upto versionAppliesSpec)

/-- 'copyholdlaw14.VersionRight', WHERE WHAT IT READS IS OF BULK AT MOST 1048576: true; the input reads as it did. -/
def versionRightUptoRow : OpenClaim := { program := "ytbdoekogoiijeaa", sum := "405ed1433dff1d8a9f175ab0948f1b55aafd682080b46bd5663fa3fbaa537ab6", func := "copyhold/copyholdlaw14.VersionRight", spec := "versionRight", inPlace := ["slices.overlaps[uint64]"], unfollowed := true, recurses := true, apart := false, narrowed := true }
def VersionRightUptoSaid : Prop := versionRightUptoRow.holds Try.pinned (OpenSpec.upto versionRightSpec)

/-- 'copyholdlaw14.VersionFinds', WHERE WHAT IT READS IS OF BULK AT MOST 1048576: true; the input reads as it did. -/
def versionFindsUptoRow : OpenClaim := { program := "ytbdoekogoiijeaa", sum := "405ed1433dff1d8a9f175ab0948f1b55aafd682080b46bd5663fa3fbaa537ab6", func := "copyhold/copyholdlaw14.VersionFinds", spec := "versionFinds", inPlace := ["slices.overlaps[uint64]"], unfollowed := true, recurses := true, apart := false, narrowed := true }
def VersionFindsUptoSaid : Prop := versionFindsUptoRow.holds Try.pinned (OpenSpec.upto versionFindsSpec)

/-- 'copyholdlaw14.VersionKnown', WHERE WHAT IT READS IS OF BULK AT MOST 1048576: true; the input reads as it did. -/
def versionKnownUptoRow : OpenClaim := { program := "ytbdoekogoiijeaa", sum := "405ed1433dff1d8a9f175ab0948f1b55aafd682080b46bd5663fa3fbaa537ab6", func := "copyhold/copyholdlaw14.VersionKnown", spec := "versionKnown", inPlace := ["slices.overlaps[uint64]"], unfollowed := true, recurses := true, apart := false, narrowed := true }
def VersionKnownUptoSaid : Prop := versionKnownUptoRow.holds Try.pinned (OpenSpec.upto versionKnownSpec)

/-- 'copyholdlaw14.VersionBack', WHERE WHAT IT READS IS OF BULK AT MOST 1048576: true; the input reads as it did. -/
def versionBackUptoRow : OpenClaim := { program := "ytbdoekogoiijeaa", sum := "405ed1433dff1d8a9f175ab0948f1b55aafd682080b46bd5663fa3fbaa537ab6", func := "copyhold/copyholdlaw14.VersionBack", spec := "versionBack", inPlace := ["slices.overlaps[uint64]"], unfollowed := true, recurses := true, apart := false, narrowed := true }
def VersionBackUptoSaid : Prop := versionBackUptoRow.holds Try.pinned (OpenSpec.upto versionBackSpec)

/-- 'copyholdlaw14.VersionMoves', WHERE WHAT IT READS IS OF BULK AT MOST 1048576: true; the input reads as it did. -/
def versionMovesUptoRow : OpenClaim := { program := "ytbdoekogoiijeaa", sum := "405ed1433dff1d8a9f175ab0948f1b55aafd682080b46bd5663fa3fbaa537ab6", func := "copyhold/copyholdlaw14.VersionMoves", spec := "versionMoves", inPlace := ["slices.overlaps[uint64]"], unfollowed := true, recurses := true, apart := false, narrowed := true }
def VersionMovesUptoSaid : Prop := versionMovesUptoRow.holds Try.pinned (OpenSpec.upto versionMovesSpec)

/-- 'copyholdlaw14.VersionHolds', WHERE WHAT IT READS IS OF BULK AT MOST 1048576: true; the input reads as it did. -/
def versionHoldsUptoRow : OpenClaim := { program := "ytbdoekogoiijeaa", sum := "405ed1433dff1d8a9f175ab0948f1b55aafd682080b46bd5663fa3fbaa537ab6", func := "copyhold/copyholdlaw14.VersionHolds", spec := "versionHolds", inPlace := ["slices.overlaps[uint64]"], unfollowed := true, recurses := true, apart := false, narrowed := true }
def VersionHoldsUptoSaid : Prop := versionHoldsUptoRow.holds Try.pinned (OpenSpec.upto versionHoldsSpec)

end Rows
end Go.Proofs.Ytbdoekogoiijeaa

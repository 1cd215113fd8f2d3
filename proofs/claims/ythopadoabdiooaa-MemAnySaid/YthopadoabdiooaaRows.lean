/-
  No cell of these rows narrows 'for every input' (looked for: loops, veiled, ifaces, maps, wideKeys, modest, calm, conditions, laid).
  DERIVED. THE GIVEN ROWS OF THIS SEAT. 6 by the template 'for every input the law returns true; each argument reads behind the call as it read before'; 0 by the template 'total and deterministic' (their statements: YthopadoabdiooaaTotals.lean).
  GIVEN WITH THE SEED: the statements are not yours to turn. If you find one false, say at which input.
  Laid BY PROGRAM, IN A SANDBOX (cutbox-rows.mjs): the forced cells as the released guide's own fill.sh prints them over the translation 7b65d8c1e03f1b3a… (all of the seat's roots in one cut). By AI agents, Wed Nov 11 2026. No macro, syntax, notation, axiom, sorry.
-/
import Derived.Test.YthopadoabdiooaaChecked
import GoSem.Claim
import GoSem.ClaimJoined
import GoSem.ClaimMapViews
import Derived.JoinedTies
import Derived.KernelRfl
namespace Go.Proofs.Ythopadoabdiooaa
/- THE CELL 'sum', in the pinned program and in every row, IS THE sha256 OF THE DUMP (.gsa) THAT YthopadoabdiooaaProg.lean LOADS. Nothing in Lean hashes anything: it is a label: what it is worth is what the hold of that sum in a sandbox is worth. -/
noncomputable def Try.pinned : Pinned := { name := "ythopadoabdiooaa", sum := "7b65d8c1e03f1b3a72eeb5eba7a17611ec048f5bb3ddc66fbf939bd04e3fd269", checked := Try.checked }
namespace Rows
def none {H : Type} : Left H := { results := [], args := [] }

/-- 'copyholdlaw09.MemPlays': WHATEVER THE INPUT: true; the input reads as it did. -/
def memPlaysSpec : ChangeSpec := { name := "memPlays", fn := fun _ => fun
  | [d1, d2, d3, d4, d5] => { results := [.lit (.bool true)], args := [d1, d2, d3, d4, d5] }
  | _ => none }
def memPlaysRow : OpenClaim := { program := "ythopadoabdiooaa", sum := "7b65d8c1e03f1b3a72eeb5eba7a17611ec048f5bb3ddc66fbf939bd04e3fd269", func := "copyhold/copyholdlaw09.MemPlays", spec := "memPlays", unfollowed := true, recurses := true, apart := false }
def MemPlaysSaid : Prop := memPlaysRow.holds Try.pinned (OpenSpec.ofChange memPlaysSpec)

/-- ITS FALSE NEIGHBOUR: 'it returns false'. Refute it at one input. -/
def memPlaysWrong : ChangeSpec := { name := "memPlays", fn := fun _ => fun
  | [d1, d2, d3, d4, d5] => { results := [.lit (.bool false)], args := [d1, d2, d3, d4, d5] }
  | _ => none }
def MemPlaysWrongFalsely : Prop := memPlaysRow.holds Try.pinned (OpenSpec.ofChange memPlaysWrong)

/-- 'copyholdlaw09.MemKnown': WHATEVER THE INPUT: true; the input reads as it did. -/
def memKnownSpec : ChangeSpec := { name := "memKnown", fn := fun _ => fun
  | [] => { results := [.lit (.bool true)], args := [] }
  | _ => none }
def memKnownRow : OpenClaim := { program := "ythopadoabdiooaa", sum := "7b65d8c1e03f1b3a72eeb5eba7a17611ec048f5bb3ddc66fbf939bd04e3fd269", func := "copyhold/copyholdlaw09.MemKnown", spec := "memKnown", unfollowed := true, recurses := true, apart := false }
def MemKnownSaid : Prop := memKnownRow.holds Try.pinned (OpenSpec.ofChange memKnownSpec)

/-- ITS FALSE NEIGHBOUR: 'it returns false'. Refute it at one input. -/
def memKnownWrong : ChangeSpec := { name := "memKnown", fn := fun _ => fun
  | [] => { results := [.lit (.bool false)], args := [] }
  | _ => none }
def MemKnownWrongFalsely : Prop := memKnownRow.holds Try.pinned (OpenSpec.ofChange memKnownWrong)

/-- 'copyholdlaw09.MemPlaces': WHATEVER THE INPUT: true; the input reads as it did. -/
def memPlacesSpec : ChangeSpec := { name := "memPlaces", fn := fun _ => fun
  | [d1, d2, d3, d4] => { results := [.lit (.bool true)], args := [d1, d2, d3, d4] }
  | _ => none }
def memPlacesRow : OpenClaim := { program := "ythopadoabdiooaa", sum := "7b65d8c1e03f1b3a72eeb5eba7a17611ec048f5bb3ddc66fbf939bd04e3fd269", func := "copyhold/copyholdlaw09.MemPlaces", spec := "memPlaces", unfollowed := true, recurses := true, apart := false }
def MemPlacesSaid : Prop := memPlacesRow.holds Try.pinned (OpenSpec.ofChange memPlacesSpec)

/-- ITS FALSE NEIGHBOUR: 'it returns false'. Refute it at one input. -/
def memPlacesWrong : ChangeSpec := { name := "memPlaces", fn := fun _ => fun
  | [d1, d2, d3, d4] => { results := [.lit (.bool false)], args := [d1, d2, d3, d4] }
  | _ => none }
def MemPlacesWrongFalsely : Prop := memPlacesRow.holds Try.pinned (OpenSpec.ofChange memPlacesWrong)

/-- 'copyholdlaw09.MemAny': WHATEVER THE INPUT: true; the input reads as it did. -/
def memAnySpec : ChangeSpec := { name := "memAny", fn := fun _ => fun
  | [d1, d2, d3, d4, d5, d6] => { results := [.lit (.bool true)], args := [d1, d2, d3, d4, d5, d6] }
  | _ => none }
def memAnyRow : OpenClaim := { program := "ythopadoabdiooaa", sum := "7b65d8c1e03f1b3a72eeb5eba7a17611ec048f5bb3ddc66fbf939bd04e3fd269", func := "copyhold/copyholdlaw09.MemAny", spec := "memAny", unfollowed := true, recurses := true, apart := false }
def MemAnySaid : Prop := memAnyRow.holds Try.pinned (OpenSpec.ofChange memAnySpec)

/-- ITS FALSE NEIGHBOUR: 'it returns false'. Refute it at one input. -/
def memAnyWrong : ChangeSpec := { name := "memAny", fn := fun _ => fun
  | [d1, d2, d3, d4, d5, d6] => { results := [.lit (.bool false)], args := [d1, d2, d3, d4, d5, d6] }
  | _ => none }
def MemAnyWrongFalsely : Prop := memAnyRow.holds Try.pinned (OpenSpec.ofChange memAnyWrong)

/-- 'copyholdlaw09.MemStill': WHATEVER THE INPUT: true; the input reads as it did. -/
def memStillSpec : ChangeSpec := { name := "memStill", fn := fun _ => fun
  | [d1, d2, d3] => { results := [.lit (.bool true)], args := [d1, d2, d3] }
  | _ => none }
def memStillRow : OpenClaim := { program := "ythopadoabdiooaa", sum := "7b65d8c1e03f1b3a72eeb5eba7a17611ec048f5bb3ddc66fbf939bd04e3fd269", func := "copyhold/copyholdlaw09.MemStill", spec := "memStill", unfollowed := true, recurses := true, apart := false }
def MemStillSaid : Prop := memStillRow.holds Try.pinned (OpenSpec.ofChange memStillSpec)

/-- ITS FALSE NEIGHBOUR: 'it returns false'. Refute it at one input. -/
def memStillWrong : ChangeSpec := { name := "memStill", fn := fun _ => fun
  | [d1, d2, d3] => { results := [.lit (.bool false)], args := [d1, d2, d3] }
  | _ => none }
def MemStillWrongFalsely : Prop := memStillRow.holds Try.pinned (OpenSpec.ofChange memStillWrong)

/-- 'copyholdlaw09.MemList': WHATEVER THE INPUT: true; the input reads as it did. -/
def memListSpec : ChangeSpec := { name := "memList", fn := fun _ => fun
  | [d] => { results := [.lit (.bool true)], args := [d] }
  | _ => none }
def memListRow : OpenClaim := { program := "ythopadoabdiooaa", sum := "7b65d8c1e03f1b3a72eeb5eba7a17611ec048f5bb3ddc66fbf939bd04e3fd269", func := "copyhold/copyholdlaw09.MemList", spec := "memList", unfollowed := true, recurses := true, apart := false }
def MemListSaid : Prop := memListRow.holds Try.pinned (OpenSpec.ofChange memListSpec)

/-- ITS FALSE NEIGHBOUR: 'it returns false'. Refute it at one input. -/
def memListWrong : ChangeSpec := { name := "memList", fn := fun _ => fun
  | [d] => { results := [.lit (.bool false)], args := [d] }
  | _ => none }
def MemListWrongFalsely : Prop := memListRow.holds Try.pinned (OpenSpec.ofChange memListWrong)

/- THE SECOND FORM. 'bulk': how many values and letters a reading holds, each counted each time it is reached (what is shared counts as often as it is met; a slice's spare places count too). A statement '..UptoSaid' is the law's where the arguments, and the package variables that the reading takes, are together of bulk at most 1048576: NARROWER than '..Said'. Prove '..Said' where nothing that the law and all that it calls make is longer than what came in: it says more and counts as full. Else prove '..UptoSaid'. A law counts once. -/
mutual
def uptoBulk {H : Type} : DataW H → Nat
  | .lit (.string bytes) => bytes.length + 1
  | .lit _ => 1
  | .nil => 1
  | .ptr d => uptoBulk d + 1
  | .slice elems spare => uptoBulkAll elems + uptoBulkAll spare + 1
  | .agg parts => uptoBulkAll parts + 1
  | .iface _ d => uptoBulk d + 1
  | .map entries => uptoBulkEntries entries + 1
  | .held _ => 1
def uptoBulkAll {H : Type} : List (DataW H) → Nat
  | [] => 0
  | d :: r => uptoBulk d + uptoBulkAll r
def uptoBulkEntries {H : Type} : List (Lit × DataW H) → Nat
  | [] => 0
  | x :: r => uptoBulkEntry x + uptoBulkEntries r
def uptoBulkEntry {H : Type} : Lit × DataW H → Nat
  | (.string bytes, d) => bytes.length + uptoBulk d + 1
  | (_, d) => uptoBulk d + 1
 end
def uptoSmall : (H : Type) → List (DataW H) → Bool := fun _ ds => decide (uptoBulkAll ds ≤ 1048576)
def OpenSpec.upto (s : _root_.Go.ChangeSpec) : _root_.Go.OpenSpec := { _root_.Go.OpenSpec.ofChange s with cond := some uptoSmall }

/-- 'copyholdlaw09.MemPlays', WHERE WHAT IT READS IS OF BULK AT MOST 1048576: true; the input reads as it did. -/
def memPlaysUptoRow : OpenClaim := { program := "ythopadoabdiooaa", sum := "7b65d8c1e03f1b3a72eeb5eba7a17611ec048f5bb3ddc66fbf939bd04e3fd269", func := "copyhold/copyholdlaw09.MemPlays", spec := "memPlays", unfollowed := true, recurses := true, apart := false, narrowed := true }
def MemPlaysUptoSaid : Prop := memPlaysUptoRow.holds Try.pinned (OpenSpec.upto memPlaysSpec)

/-- 'copyholdlaw09.MemKnown', WHERE WHAT IT READS IS OF BULK AT MOST 1048576: true; the input reads as it did. -/
def memKnownUptoRow : OpenClaim := { program := "ythopadoabdiooaa", sum := "7b65d8c1e03f1b3a72eeb5eba7a17611ec048f5bb3ddc66fbf939bd04e3fd269", func := "copyhold/copyholdlaw09.MemKnown", spec := "memKnown", unfollowed := true, recurses := true, apart := false, narrowed := true }
def MemKnownUptoSaid : Prop := memKnownUptoRow.holds Try.pinned (OpenSpec.upto memKnownSpec)

/-- 'copyholdlaw09.MemPlaces', WHERE WHAT IT READS IS OF BULK AT MOST 1048576: true; the input reads as it did. -/
def memPlacesUptoRow : OpenClaim := { program := "ythopadoabdiooaa", sum := "7b65d8c1e03f1b3a72eeb5eba7a17611ec048f5bb3ddc66fbf939bd04e3fd269", func := "copyhold/copyholdlaw09.MemPlaces", spec := "memPlaces", unfollowed := true, recurses := true, apart := false, narrowed := true }
def MemPlacesUptoSaid : Prop := memPlacesUptoRow.holds Try.pinned (OpenSpec.upto memPlacesSpec)

/-- 'copyholdlaw09.MemAny', WHERE WHAT IT READS IS OF BULK AT MOST 1048576: true; the input reads as it did. -/
def memAnyUptoRow : OpenClaim := { program := "ythopadoabdiooaa", sum := "7b65d8c1e03f1b3a72eeb5eba7a17611ec048f5bb3ddc66fbf939bd04e3fd269", func := "copyhold/copyholdlaw09.MemAny", spec := "memAny", unfollowed := true, recurses := true, apart := false, narrowed := true }
def MemAnyUptoSaid : Prop := memAnyUptoRow.holds Try.pinned (OpenSpec.upto memAnySpec)

/-- 'copyholdlaw09.MemStill', WHERE WHAT IT READS IS OF BULK AT MOST 1048576: true; the input reads as it did. -/
def memStillUptoRow : OpenClaim := { program := "ythopadoabdiooaa", sum := "7b65d8c1e03f1b3a72eeb5eba7a17611ec048f5bb3ddc66fbf939bd04e3fd269", func := "copyhold/copyholdlaw09.MemStill", spec := "memStill", unfollowed := true, recurses := true, apart := false, narrowed := true }
def MemStillUptoSaid : Prop := memStillUptoRow.holds Try.pinned (OpenSpec.upto memStillSpec)

/-- 'copyholdlaw09.MemList', WHERE WHAT IT READS IS OF BULK AT MOST 1048576: true; the input reads as it did. -/
def memListUptoRow : OpenClaim := { program := "ythopadoabdiooaa", sum := "7b65d8c1e03f1b3a72eeb5eba7a17611ec048f5bb3ddc66fbf939bd04e3fd269", func := "copyhold/copyholdlaw09.MemList", spec := "memList", unfollowed := true, recurses := true, apart := false, narrowed := true }
def MemListUptoSaid : Prop := memListUptoRow.holds Try.pinned (OpenSpec.upto memListSpec)

end Rows
end Go.Proofs.Ythopadoabdiooaa

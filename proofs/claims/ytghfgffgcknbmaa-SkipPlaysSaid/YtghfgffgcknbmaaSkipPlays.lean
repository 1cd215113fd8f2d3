/- The walk of SkipPlays: for every input it answers true, and nothing that was there has turned. -/
import Derived.Test.YtghfgffgcknbmaaSkPlF
import Derived.Test.YtghfgffgcknbmaaSkPlT
namespace Go.Proofs.Ytghfgffgcknbmaa.Sk
open Go Go.RowKit

theorem plays_walk (ao : Option Addr) (n cap : Nat) (l : List Ac) (bare : Bool) (w : World) (h : SeesA w (.slice ao n cap) l) :
    Calls Try.prog 3 #[.slice ao n cap, .bool bare] w fun e w' => e = .returned (.bool true) ∧ Below w.heap.size w w' := by
  cases bare with
  | false => exact plays_f ao n cap l w h
  | true => exact plays_t ao n cap l w h

end Go.Proofs.Ytghfgffgcknbmaa.Sk

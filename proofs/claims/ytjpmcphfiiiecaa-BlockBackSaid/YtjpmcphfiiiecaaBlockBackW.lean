/- The walk of BlockBack. -/
import Derived.Test.YtjpmcphfiiiecaaBlockBackS
import Derived.Test.YtjpmcphfiiiecaaBlockBackL
namespace Go.Proofs.Ytjpmcphfiiiecaa.Bo
open Go Go.RowKit
set_option linter.unusedVariables false

theorem back_walk (a : Option Addr) (n c : Nat) (l : List Ac) (s : ByteArray) (w : World) (h : SeesA w (.slice a n c) l) (hs : s.size ≤ 9223372036854775807) :
    Calls Try.prog 6 #[.slice a n c, .string s] w (Gives (.bool true) w) := by
  cases hg : greatA l with
  | true => exact back_great a n c l s w h hg
  | false =>
    by_cases hk : (2000 : Int) < s.size
    · exact back_long a n c l s w h hg hk
    · exact back_short a n c l s w h hg hk
end Go.Proofs.Ytjpmcphfiiiecaa.Bo

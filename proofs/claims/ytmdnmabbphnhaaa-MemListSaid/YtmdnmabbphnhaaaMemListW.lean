/- MemList: small puts, or not. -/
import Derived.Test.YtmdnmabbphnhaaaMemList
namespace Go.Proofs.Ytmdnmabbphnhaaa.Mm
open Go Go.RowKit Go.Proofs.Ytmdnmabbphnhaaa.Sk Go.Proofs.Ytmdnmabbphnhaaa.Sm
set_option linter.unusedVariables false
set_option linter.unusedSimpArgs false
theorem list_great {ao : Option Addr} {n cap : Nat} {l : List Pu} (w : World) (h : SeesQ w (.slice ao n cap) l) (hl : ¬ SmallQ l) :
    Calls Try.prog 4 #[.slice ao n cap] w fun e w' => e = .returned (.bool true) ∧ Below w.heap.size w w' := by
  have HG := Lib.hid (great_any w h)
  have HAW := Lib.hid awake_any
  have HL := Lib.hid hl
  clear h hl
  go_enter Try.func4, Try.ntmps4
  go_wp2_with fail
  refine HG.out.mono ?_
  rintro e w1 ⟨gb, rfl, hb1, hgr⟩
  have B1 := Lib.hid hb1
  have HGR := Lib.hid hgr
  clear hb1 hgr
  cases gb with
  | true =>
    go_wp2_with fail
    refine (HAW.out _).mono ?_
    rintro e w2 ⟨rfl, hb2⟩
    have B2 := Lib.hid (Below.next B1.out hb2)
    clear hb2
    go_wp2_with fail
    go_ret
    exact ⟨rfl, B2.out⟩
  | false =>
    exact absurd (HGR.out rfl) HL.out
theorem list_walk (ao : Option Addr) (n cap : Nat) (l : List Pu) (w : World) (h : SeesQ w (.slice ao n cap) l) :
    Calls Try.prog 4 #[.slice ao n cap] w fun e w' => e = .returned (.bool true) ∧ Below w.heap.size w w' := by
  by_cases hs : SmallQ l
  · exact list_small w h hs
  · exact list_great w h hs
end Go.Proofs.Ytmdnmabbphnhaaa.Mm

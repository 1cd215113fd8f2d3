/- The walk of Room. -/
import Derived.Test.YtefoijamedciiaaGreatDoorDkD
namespace Go.Proofs.YtefoijamedciiaaGreatDoor
open Go.RowKit Go.Maps
open Dk (Dir Chg Disk File Str)

section
variable {L : Lay} {S : Disk} (w : World)

set_option maxHeartbeats 1000000 in
set_option maxRecDepth 100000 in
theorem room_any (h : Holds w L S) : Calls Tryz.prog 16 #[.pointer (some ⟨L.d, 0, none⟩)] w fun e w' => e = .returned (.int .i64 S.room) ∧ w' = w := by
  obtain ⟨c0, c1, c2, c3, c4, c5, c6⟩ := h.cells
  have HM := Lib.hid (made_any w h)
  clear h
  go_enter Tryz.func16, Tryz.ntmps16
  go_wp2_with fail
  refine HM.out.mono ?_
  rintro e w1 ⟨rfl, rfl⟩
  go_wp2_with fail
  go_ret
  exact ⟨rfl, rfl⟩

end
end Go.Proofs.YtefoijamedciiaaGreatDoor

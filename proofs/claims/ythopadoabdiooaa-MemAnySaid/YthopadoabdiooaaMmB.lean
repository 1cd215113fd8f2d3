/- The walks of Mem.Newest, Bytes. -/
import Derived.Test.YthopadoabdiooaaMmA
namespace Go.Proofs.Ythopadoabdiooaa.Mm
open Go Go.RowKit Go.Proofs.Ythopadoabdiooaa.Sk Go.Proofs.Ythopadoabdiooaa.Sm
set_option linter.unusedVariables false

theorem newest_any {w : World} {M : MLay} {s r : List (It Ent)} (h : Held w M s r) :
    Calls Try.prog 16 #[.pointer (some ⟨M.m, 0, none⟩)] w fun e w' => e = .returned (.int .u64 (newestL (ents r) : Int)) ∧ w' = w := by
  have HM := Lib.hid (made_yes h)
  have c1 := h.c1
  have d0 := h.d0
  clear h
  go_enter Try.func16, Try.ntmps16
  go_wp2_with fail
  refine HM.out.mono ?_
  rintro e w1 ⟨rfl, rfl⟩
  go_wp2_with fail
  go_ret
  exact ⟨rfl, rfl⟩
theorem bytes_any {w : World} {M : MLay} {s r : List (It Ent)} (h : Held w M s r) :
    Calls Try.prog 17 #[.pointer (some ⟨M.m, 0, none⟩)] w fun e w' => e = .returned (.int .i64 (bytesL (ents r) : Int)) ∧ w' = w := by
  have HM := Lib.hid (made_yes h)
  have c1 := h.c1
  have d1 := h.d1
  clear h
  go_enter Try.func17, Try.ntmps17
  go_wp2_with fail
  refine HM.out.mono ?_
  rintro e w1 ⟨rfl, rfl⟩
  go_wp2_with fail
  go_ret
  exact ⟨rfl, rfl⟩
theorem newest_nil (w : World) : Calls Try.prog 16 #[.pointer none] w fun e w' => e = .returned (.int .u64 0) ∧ w' = w := by
  have HM := Lib.hid (made_nil w)
  go_enter Try.func16, Try.ntmps16
  go_wp2_with fail
  refine HM.out.mono ?_
  rintro e w1 ⟨rfl, rfl⟩
  go_wp2_with fail
  go_ret
  exact ⟨rfl, rfl⟩
theorem bytes_nil (w : World) : Calls Try.prog 17 #[.pointer none] w fun e w' => e = .returned (.int .i64 0) ∧ w' = w := by
  have HM := Lib.hid (made_nil w)
  go_enter Try.func17, Try.ntmps17
  go_wp2_with fail
  refine HM.out.mono ?_
  rintro e w1 ⟨rfl, rfl⟩
  go_wp2_with fail
  go_ret
  exact ⟨rfl, rfl⟩

end Go.Proofs.Ythopadoabdiooaa.Mm

/- The walks of Mem.Newest, Bytes. -/
import Derived.Test.YtmdnmabbphnhaaaMmA
namespace Go.Proofs.Ytmdnmabbphnhaaa.Mm
open Go Go.RowKit Go.Proofs.Ytmdnmabbphnhaaa.Sk Go.Proofs.Ytmdnmabbphnhaaa.Sm
set_option linter.unusedVariables false

theorem newest_any {w : World} {M : MLay} {s r : List (It Ent)} (h : Held w M s r) :
    Calls Try.prog 12 #[.pointer (some ⟨M.m, 0, none⟩)] w fun e w' => e = .returned (.int .u64 (newestL (ents r) : Int)) ∧ w' = w := by
  have HM := Lib.hid (made_yes h)
  have c1 := h.c1
  have d0 := h.d0
  clear h
  go_enter Try.func12, Try.ntmps12
  go_wp2_with fail
  refine HM.out.mono ?_
  rintro e w1 ⟨rfl, rfl⟩
  go_wp2_with fail
  go_ret
  exact ⟨rfl, rfl⟩
theorem bytes_any {w : World} {M : MLay} {s r : List (It Ent)} (h : Held w M s r) :
    Calls Try.prog 13 #[.pointer (some ⟨M.m, 0, none⟩)] w fun e w' => e = .returned (.int .i64 (bytesL (ents r) : Int)) ∧ w' = w := by
  have HM := Lib.hid (made_yes h)
  have c1 := h.c1
  have d1 := h.d1
  clear h
  go_enter Try.func13, Try.ntmps13
  go_wp2_with fail
  refine HM.out.mono ?_
  rintro e w1 ⟨rfl, rfl⟩
  go_wp2_with fail
  go_ret
  exact ⟨rfl, rfl⟩
theorem newest_nil (w : World) : Calls Try.prog 12 #[.pointer none] w fun e w' => e = .returned (.int .u64 0) ∧ w' = w := by
  have HM := Lib.hid (made_nil w)
  go_enter Try.func12, Try.ntmps12
  go_wp2_with fail
  refine HM.out.mono ?_
  rintro e w1 ⟨rfl, rfl⟩
  go_wp2_with fail
  go_ret
  exact ⟨rfl, rfl⟩
theorem bytes_nil (w : World) : Calls Try.prog 13 #[.pointer none] w fun e w' => e = .returned (.int .i64 0) ∧ w' = w := by
  have HM := Lib.hid (made_nil w)
  go_enter Try.func13, Try.ntmps13
  go_wp2_with fail
  refine HM.out.mono ?_
  rintro e w1 ⟨rfl, rfl⟩
  go_wp2_with fail
  go_ret
  exact ⟨rfl, rfl⟩

end Go.Proofs.Ytmdnmabbphnhaaa.Mm

/- Walks of the small functions of num: isWidth, bits.Len64, widthOf, ReadBig. -/
import Derived.Test.YtbdoekogoiijeaaRows
import Derived.Test.YtbdoekogoiijeaaNumMath
import Derived.Test.YtbdoekogoiijeaaNumLen
import Derived.WalkKit
import Derived.WalkSpells
import Derived.WalkLawsBesides
import Derived.Lib.Hide
import Derived.Lib.BitFns
import Derived.Lib.ItoaNum
import Derived.Lib.Walk
namespace Go.Proofs.Ytbdoekogoiijeaa
open Go.RowKit

set_option maxHeartbeats 400000 in
theorem isWidth_yes (x : Int) (w : World) (h1 : 1 ≤ x) (h2 : x ≤ 8) :
    Calls Try.prog 109 #[.int .i64 x] w fun e w' => e = .returned (.bool true) ∧ w = w' := by
  go_enter Try.func109, Try.ntmps109
  go_wp2
  go_ret
  exact ⟨rfl, rfl⟩

set_option maxHeartbeats 400000 in
theorem isWidth_no (x : Int) (w : World) (h : x < 1 ∨ 8 < x) :
    Calls Try.prog 109 #[.int .i64 x] w fun e w' => e = .returned (.bool false) ∧ w = w' := by
  rcases h with h | h
  · have h1 : ¬ 1 ≤ x := by omega
    go_enter Try.func109, Try.ntmps109
    go_wp2
    go_ret
    exact ⟨rfl, rfl⟩
  · have h1 : 1 ≤ x := by omega
    have h2 : ¬ x ≤ 8 := by omega
    go_enter Try.func109, Try.ntmps109
    go_wp2
    go_ret
    exact ⟨rfl, rfl⟩

theorem wid_bitLen {x : Nat} (h : x < 18446744073709551616) : (Lib.bitLen x + 7) / 8 = Nm.wid x := by
  have key : ∀ k, k ≤ 8 → ((Lib.bitLen x + 7) / 8 ≤ k ↔ Nm.wid x ≤ k) := by
    intro k hk
    rw [Nm.wid_le h hk]
    have e : (256 : Nat) ^ k = 2 ^ (8 * k) := by rw [Nat.pow_mul]
    rw [e]
    constructor
    · intro hb
      by_cases hx : x = 0
      · subst hx; exact Nat.two_pow_pos _
      · obtain ⟨_, _, c⟩ := Lib.bitLenAux_bounds 64 x h hx
        exact Nat.lt_of_lt_of_le c (Nat.pow_le_pow_right (by omega) (by show Lib.bitLen x ≤ _; omega))
    · intro hx
      have := Lib.bitLen_le x (8 * k) (by omega) hx
      omega
  have h1 := (key (Nm.wid x) (Nm.wid_le8 x)).2 (Nat.le_refl _)
  have h2 := (key ((Lib.bitLen x + 7) / 8) (by have := Lib.bitLen_le x 64 (Nat.le_refl _) h; omega)).1 (Nat.le_refl _)
  omega

set_option maxHeartbeats 400000 in
theorem widthOf_any (x : Int) (w : World) (h0 : 0 ≤ x) (h1 : x ≤ 18446744073709551615) :
    Calls Try.prog 98 #[.int .u64 x] w fun e w' => e = .returned (.int .i64 (Nm.wid x.toNat)) ∧ w = w' := by
  have hb := Lib.bitLen_le x.toNat 64 (Nat.le_refl _) (by omega)
  have H := Lib.hid (wid_bitLen (x := x.toNat) (by omega))
  generalize Nm.wid x.toNat = W at *
  go_enter Try.func98, Try.ntmps98
  go_wp2_with (go_at_call 107; refine (len64_any _ _ h0 h1).mono ?_; rintro e w' ⟨rfl, rfl⟩)
  go_ret
  have := H.out
  refine ⟨congrArg Ending.returned (congrArg (Value.int IntKind.i64) ?_), rfl⟩
  omega

end Go.Proofs.Ytbdoekogoiijeaa

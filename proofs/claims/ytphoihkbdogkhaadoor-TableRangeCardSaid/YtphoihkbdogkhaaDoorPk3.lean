/- Texts on the program's own functions, several in one: BnNumWalkA, BnNumWalkB. -/
import Derived.Test.YtphoihkbdogkhaaDoorRows
import Derived.Test.YtphoihkbdogkhaaDoorPk1
import Derived.Test.YtphoihkbdogkhaaDoorPk2
import Derived.WalkKit
import Derived.WalkSpells
import Derived.WalkLawsBesides
import Derived.Lib.Hide
import Derived.Lib.BitFns
import Derived.Lib.ItoaNum
import Derived.Lib.Walk

/- Walks of the small functions of num: isWidth, bits.Len64, widthOf, ReadBig. -/
namespace Go.Proofs.YtphoihkbdogkhaaDoor.Bn
set_option maxRecDepth 100000
open Go.RowKit

set_option maxHeartbeats 400000 in
theorem isWidth_yes (x : Int) (w : World) (h1 : 1 ≤ x) (h2 : x ≤ 8) :
    Calls Tryd.prog 68 #[.int .i64 x] w fun e w' => e = .returned (.bool true) ∧ w = w' := by
  go_enter Tryd.func68, Tryd.ntmps68
  go_wp2
  go_ret
  exact ⟨rfl, rfl⟩

set_option maxHeartbeats 400000 in
theorem isWidth_no (x : Int) (w : World) (h : x < 1 ∨ 8 < x) :
    Calls Tryd.prog 68 #[.int .i64 x] w fun e w' => e = .returned (.bool false) ∧ w = w' := by
  rcases h with h | h
  · have h1 : ¬ 1 ≤ x := by omega
    go_enter Tryd.func68, Tryd.ntmps68
    go_wp2
    go_ret
    exact ⟨rfl, rfl⟩
  · have h1 : 1 ≤ x := by omega
    have h2 : ¬ x ≤ 8 := by omega
    go_enter Tryd.func68, Tryd.ntmps68
    go_wp2
    go_ret
    exact ⟨rfl, rfl⟩

theorem wid_bitLen {x : Nat} (h : x < 18446744073709551616) : (Lib.bitLen x + 7) / 8 = Nm.wid x := by
  have key : ∀ k, k ≤ 8 → ((Lib.bitLen x + 7) / 8 ≤ k ↔ Nm.wid x ≤ k) := by
    intro k hk
    rw [Nm.wid_le h hk]
    have e : (256 : Nat) ^ k = 2 ^ (8 * k) := by rw [Nat.pow_mul]
    rw [e]
    constructor
    · intro hb
      by_cases hx : x = 0
      · subst hx; exact Nat.two_pow_pos _
      · obtain ⟨_, _, c⟩ := Lib.bitLenAux_bounds 64 x h hx
        exact Nat.lt_of_lt_of_le c (Nat.pow_le_pow_right (by omega) (by show Lib.bitLen x ≤ _; omega))
    · intro hx
      have := Lib.bitLen_le x (8 * k) (by omega) hx
      omega
  have h1 := (key (Nm.wid x) (Nm.wid_le8 x)).2 (Nat.le_refl _)
  have h2 := (key ((Lib.bitLen x + 7) / 8) (by have := Lib.bitLen_le x 64 (Nat.le_refl _) h; omega)).1 (Nat.le_refl _)
  omega

set_option maxHeartbeats 400000 in
theorem widthOf_any (x : Int) (w : World) (h0 : 0 ≤ x) (h1 : x ≤ 18446744073709551615) :
    Calls Tryd.prog 69 #[.int .u64 x] w fun e w' => e = .returned (.int .i64 (Nm.wid x.toNat)) ∧ w = w' := by
  have hb := Lib.bitLen_le x.toNat 64 (Nat.le_refl _) (by omega)
  have H := Lib.hid (wid_bitLen (x := x.toNat) (by omega))
  generalize Nm.wid x.toNat = W at *
  go_enter Tryd.func69, Tryd.ntmps69
  go_wp2_with (go_at_call 91; refine (len64_any _ _ h0 h1).mono ?_; rintro e w' ⟨rfl, rfl⟩)
  go_ret
  have := H.out
  refine ⟨congrArg Ending.returned (congrArg (Value.int IntKind.i64) ?_), rfl⟩
  omega

end Go.Proofs.YtphoihkbdogkhaaDoor.Bn

/- Walks of num.ReadBig. -/
namespace Go.Proofs.YtphoihkbdogkhaaDoor.Bn
set_option maxRecDepth 100000
open Go.RowKit

theorem or_byte (A b : Nat) (h : 256 * A + b < 18446744073709551616) (hb : b < 256) :
    bits .or .u64 (IntKind.u64.wrap ((A : Int) * 256)) (IntKind.u64.wrap (b : Int)) = ((256 * A + b : Nat) : Int) := by
  have e1 : IntKind.u64.wrap ((A : Int) * 256) = ((256 * A : Nat) : Int) := by rw [IntKind.wrap_u64]; omega
  have e2 : IntKind.u64.wrap (b : Int) = (b : Int) := by rw [IntKind.wrap_u64]; omega
  rw [e1, e2, u64_or_nat _ _ (by omega) (by omega), nat_join 8 _ _ (by omega) (by omega)]

theorem take_snoc (s : ByteArray) (k : Nat) (h : k < s.size) : s.data.toList.take (k + 1) = s.data.toList.take k ++ [s[k]] := by
  rw [List.take_succ_eq_append_getElem (by simpa using h)]; rfl
theorem length_list (s : ByteArray) : s.data.toList.length = s.size := by rw [Array.length_toList]; rfl

theorem ret_int {k : IntKind} {a b : Int} (h : a = b) : Ending.returned (.int k a) = .returned (.int k b) := by rw [h]

set_option maxHeartbeats 400000 in
theorem readBig_no (s : ByteArray) (x : Int) (w : World) (h : x < 1 ∨ 8 < x ∨ s.size < x) (_hs : s.size ≤ 9223372036854775807) :
    Calls Tryd.prog 63 #[.string s, .int .i64 x] w fun e w' => e = .returned (.tuple #[.int .u64 0, .bool false]) ∧ w = w' := by
  by_cases h1 : x < 1 ∨ 8 < x
  · have H := Lib.hid h1; clear h1 h
    go_enter Tryd.func63, Tryd.ntmps63
    go_wp2_with (go_at_call 68; refine (isWidth_no _ _ H.out).mono ?_; rintro e w' ⟨rfl, rfl⟩)
    go_ret2
    exact ⟨rfl, rfl⟩
  · have h2 : 1 ≤ x := by omega
    have h3 : x ≤ 8 := by omega
    have h4 : (s.size : Int) < x := by omega
    clear h1 h
    go_enter Tryd.func63, Tryd.ntmps63
    go_wp2_with (go_at_call 68; refine (isWidth_yes _ _ h2 h3).mono ?_; rintro e w' ⟨rfl, rfl⟩)
    go_ret2
    exact ⟨rfl, rfl⟩

set_option maxHeartbeats 400000 in
theorem readBig_yes (s : ByteArray) (x : Int) (w : World) (h1 : 1 ≤ x) (h2 : x ≤ 8) (h3 : x ≤ s.size) (_hs : s.size ≤ 9223372036854775807) :
    Calls Tryd.prog 63 #[.string s, .int .i64 x] w fun e w' => e = .returned (.tuple #[.int .u64 (Nm.val (s.data.toList.take x.toNat)), .bool true]) ∧ w = w' := by
  obtain ⟨m, rfl⟩ := Int.eq_ofNat_of_zero_le (show 0 ≤ x by omega)
  rw [Int.toNat_natCast]
  have h3' : decide (s.size < m) = false := by simp; omega
  go_enter Tryd.func63, Tryd.ntmps63
  go_wp2_with (go_at_call 68; refine (isWidth_yes _ _ h1 h2).mono ?_; rintro e w' ⟨rfl, rfl⟩)
  go_loop [4, 17] (fun n i => ∃ k : Nat, k ≤ m ∧ i = .int .i64 k ∧ n = .int .u64 (Nm.val (s.data.toList.take k))) (fun _ i => m - (intOf i).toNat)
  case atStart => exact ⟨0, Nat.zero_le _, rfl, rfl⟩
  case round =>
    obtain ⟨k, hk, rfl, rfl⟩ := hrel
    by_cases hlt : k < m
    · have hks : k < s.size := by omega
      have HS : Hid (bits .or .u64 (IntKind.u64.wrap ((Nm.val (s.data.toList.take k) : Nat) * 256 : Int)) (IntKind.u64.wrap (s[k].toNat : Int)) = (Nm.val (s.data.toList.take (k + 1)) : Nat)) := by
        have hb := (s[k]'hks).toNat_lt
        have hv := Nm.val_lt (s.data.toList.take k)
        have hl : (s.data.toList.take k).length = k := by rw [List.length_take, length_list]; omega
        have hp : 256 ^ (s.data.toList.take k).length ≤ 256 ^ 7 := Nat.pow_le_pow_right (by omega) (by omega)
        rw [take_snoc s k hks, Nm.val_snoc]
        exact or_byte _ _ (by simp only [Nat.reducePow] at hp; omega) hb
      go_wp2
      go_round
      case rel => exact ⟨k + 1, by omega, by go_num, congrArg (Value.int .u64) (HS.out)⟩
      case measure => simp [intOf]; omega
    · go_wp2
      go_ret2
      have : k = m := by omega
      subst this
      exact ⟨rfl, rfl⟩

end Go.Proofs.YtphoihkbdogkhaaDoor.Bn

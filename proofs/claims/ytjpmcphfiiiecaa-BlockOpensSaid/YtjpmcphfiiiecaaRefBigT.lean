/- Walks of the document's ReadBig of layer 1, for seats without layer 1's statements. -/
import Derived.Test.YtjpmcphfiiiecaaRefRowT
namespace Go.Proofs.Ytjpmcphfiiiecaa
open Go.RowKit


set_option maxHeartbeats 400000 in
theorem refReadBig_no (s : ByteArray) (x : Int) (w : World) (h : x < 1 ∨ 8 < x ∨ s.size < x) (_hs : s.size ≤ 9223372036854775807) :
    Calls Try.prog 38 #[.string s, .int .i64 x] w fun e w' => e = .returned (.tuple #[.int .u64 0, .bool false]) ∧ w = w' := by
  by_cases h1 : x < 1
  · clear h
    go_enter Try.func38, Try.ntmps38
    go_wp2_with fail
    go_ret2
    exact ⟨rfl, rfl⟩
  · have h1' : 1 ≤ x := by omega
    clear h1
    by_cases h2 : 8 < x
    · clear h
      go_enter Try.func38, Try.ntmps38
      go_wp2_with fail
      go_ret2
      exact ⟨rfl, rfl⟩
    · have h2' : x ≤ 8 := by omega
      have h3 : (s.size : Int) < x := by omega
      clear h h2
      go_enter Try.func38, Try.ntmps38
      go_wp2_with fail
      go_ret2
      exact ⟨rfl, rfl⟩

set_option maxHeartbeats 400000 in
theorem refReadBig_yes (s : ByteArray) (x : Int) (w : World) (h1 : 1 ≤ x) (h2 : x ≤ 8) (h3 : x ≤ s.size) (_hs : s.size ≤ 9223372036854775807) :
    Calls Try.prog 38 #[.string s, .int .i64 x] w fun e w' => e = .returned (.tuple #[.int .u64 (Nm.val (s.data.toList.take x.toNat)), .bool true]) ∧ w = w' := by
  obtain ⟨m, rfl⟩ := Int.eq_ofNat_of_zero_le (show 0 ≤ x by omega)
  rw [Int.toNat_natCast]
  have h3' : decide (s.size < m) = false := by simp; omega
  have hd1 : decide ((m : Int) < 1) = false := by simp; omega
  have hd2 : decide ((8 : Int) < (m : Int)) = false := by simp; omega
  go_enter Try.func38, Try.ntmps38
  go_wp2_with fail
  go_loop [6, 7] (fun n i => ∃ k : Nat, k ≤ m ∧ i = .int .i64 k ∧ n = .int .u64 (Nm.val (s.data.toList.take k))) (fun _ i => m - (intOf i).toNat)
  case atStart => exact ⟨0, Nat.zero_le _, rfl, rfl⟩
  case round =>
    obtain ⟨k, hk, rfl, rfl⟩ := hrel
    by_cases hlt : k < m
    · have hks : k < s.size := by omega
      have hb := (s[k]'hks).toNat_lt
      have hv := Nm.val_lt (s.data.toList.take k)
      have hl : (s.data.toList.take k).length = k := by rw [List.length_take, length_list]; omega
      have hp : 256 ^ (s.data.toList.take k).length ≤ 256 ^ 7 := Nat.pow_le_pow_right (by omega) (by omega)
      have hi := index_byte s k hks
      have HS : Hid (Nm.val (s.data.toList.take (k + 1)) = 256 * Nm.val (s.data.toList.take k) + (s[k]'hks).toNat) := by rw [take_snoc s k hks, Nm.val_snoc]; exact rfl
      have hA : 256 * Nm.val (s.data.toList.take k) + (s[k]'hks).toNat < 18446744073709551616 := by simp only [Nat.reducePow] at hp; omega
      generalize (s[k]'hks).toNat = z at *
      generalize Nm.val (s.data.toList.take k) = A at *
      have HM := Lib.hid (mul_byte A z hA)
      clear hp hv hl hA
      go_wp2_with fail
      go_round
      case rel => exact ⟨k + 1, by omega, by go_num, by rw [HS.out]; exact congrArg (Value.int .u64) HM.out⟩
      case measure => simp [intOf]; omega
    · go_wp2_with fail
      go_ret2
      have : k = m := by omega
      subst this
      exact ⟨rfl, rfl⟩

end Go.Proofs.Ytjpmcphfiiiecaa

/- Walks of bloom.Hash, sizeOf. -/
import Derived.Test.YtnlfajikciijjaaBase
import Derived.Test.YtnlfajikciijjaaBlMath
namespace Go.Proofs.Ytnlfajikciijjaa
open Go.RowKit

theorem list_size (s : ByteArray) : s.data.toList.length = s.size := by rw [Array.length_toList]; rfl

/-- One round of a hash, as a walk meets it. -/
theorem stp_walk {q B : Nat} (hq : q < 18446744073709551616) (hB : B < 256) :
    IntKind.u64.wrap (bits .xor .u64 (q : Int) (B : Int) * 1099511628211) = (Bl.stp q B : Nat) := by
  rw [u64_xor_nat q B hq (by omega), IntKind.wrap_u64]
  unfold Bl.stp
  omega

set_option maxHeartbeats 400000 in
theorem hash_any (s : ByteArray) (w : World) (hs : s.size ≤ 9223372036854775807) :
    Calls Try.prog 9 #[.string s] w fun e w' => e = .returned (.int .u64 (Bl.hash s.data.toList)) ∧ w = w' := by
  go_enter Try.func9, Try.ntmps9
  go_wp2
  go_loop [3, 7] (fun n i => ∃ k q : Nat, k ≤ s.size ∧ i = .int .i64 k ∧ Hid (q < 18446744073709551616) ∧ n = .int .u64 q ∧ Hid (q = Bl.hash (s.data.toList.take k))) (fun _ i => s.size - (intOf i).toNat)
  case atStart => exact ⟨0, _, Nat.zero_le _, rfl, Bl.hash_lt [], rfl, rfl⟩
  case round =>
    obtain ⟨k, q, hk, rfl, hq, rfl, HQ⟩ := hrel
    by_cases hlt : k < s.size
    · obtain ⟨B, hB⟩ : ∃ B : Nat, B = s[k].toNat := ⟨_, rfl⟩
      have hx := index_byte s k hlt
      rw [← hB] at hx
      have HU : Hid (Bl.hash (s.data.toList.take (k + 1)) = Bl.stp (Bl.hash (s.data.toList.take k)) B) := by rw [take_snoc s k hlt]; unfold Bl.hash; rw [Bl.hs_snoc, hB]; exact Lib.hid rfl
      have hB2 : B < 256 := by rw [hB]; exact s[k].toNat_lt
      clear hB
      obtain ⟨q1, h1⟩ : ∃ q1, q1 = Bl.stp q B := ⟨_, rfl⟩
      have e1 := stp_walk hq.out hB2
      rw [← h1] at e1
      have HF : Hid (q1 = Bl.hash (s.data.toList.take (k + 1))) := by rw [HU.out, ← HQ.out, h1]; exact Lib.hid rfl
      have HL : Hid (q1 < 18446744073709551616) := by rw [h1]; exact Lib.hid (Bl.stp_lt _ _)
      clear h1
      go_wp2
      go_round
      case rel => exact ⟨k + 1, q1, by omega, by go_num, HL.out, rfl, HF.out⟩
      case measure => simp [intOf]; omega
    · have HE : Hid (q = Bl.hash s.data.toList) := by
        have := HQ.out
        rw [List.take_of_length_le (by rw [list_size]; omega)] at this
        exact Lib.hid this
      go_wp2
      go_ret
      rw [HE.out]
      exact ⟨rfl, rfl⟩

set_option maxHeartbeats 400000 in
theorem sizeOf_any (n : Nat) (w : World) (hn : n ≤ 1000000) :
    Calls Try.prog 18 #[.int .i64 n] w fun e w' => e = .returned (.int .i64 (Bl.size n)) ∧ w = w' := by
  go_enter Try.func18, Try.ntmps18
  have HE : Hid ((max 64 (10 * (n : Int)) + 8 - 1) / 8 = ((Bl.size n : Nat) : Int)) := Lib.hid (by unfold Bl.size; omega)
  go_wp2
  go_ret
  rw [HE.out]
  exact ⟨rfl, rfl⟩

end Go.Proofs.Ytnlfajikciijjaa

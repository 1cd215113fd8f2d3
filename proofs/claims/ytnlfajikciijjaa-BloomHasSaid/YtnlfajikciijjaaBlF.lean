/- The walk of ones, and how many bits of a filter are 1. -/
import Derived.Test.YtnlfajikciijjaaBlE
namespace Go.Proofs.Ytnlfajikciijjaa
open Go.RowKit
namespace Bl

/-- How many of the first n bits are 1. -/
def cnt (l : List UInt8) : Nat → Nat
  | 0 => 0
  | n + 1 => cnt l n + (if bit l n then 1 else 0)
theorem cnt_le (l : List UInt8) : ∀ n, cnt l n ≤ n
  | 0 => Nat.le_refl _
  | n + 1 => by have := cnt_le l n; unfold cnt; split <;> omega
theorem cnt_set1 (l : List UInt8) (j : Nat) (hj : j < 8 * l.length) : ∀ n, cnt (set1 l j) n ≤ cnt l n + (if j < n then 1 else 0)
  | 0 => by simp [cnt]
  | n + 1 => by
    have ih := cnt_set1 l j hj n
    unfold cnt
    rw [bit_set1 l j n hj]
    by_cases h : n = j
    · subst h
      rw [if_neg (Nat.lt_irrefl n)] at ih
      rw [if_pos (Nat.lt_succ_self n)]
      cases bit l n <;> simp <;> omega
    · have hd : decide (n = j) = false := by simpa using h
      rw [hd, Bool.or_false]
      by_cases h2 : j < n
      · rw [if_pos h2] at ih
        rw [if_pos (show j < n + 1 by omega)]
        omega
      · rw [if_neg h2] at ih
        rw [if_neg (show ¬ j < n + 1 by omega)]
        omega
theorem cnt_adds (l : List UInt8) (h n : Nat) (hl : 0 < l.length) : ∀ k, cnt (adds l h k) n ≤ cnt l n + k
  | 0 => Nat.le_refl _
  | k + 1 => by
    have ih := cnt_adds l h n hl k
    have := cnt_set1 (adds l h k) (pr h (8 * l.length) k) (by rw [adds_length]; exact pr_lt _ _ _ (by omega)) n
    unfold adds
    split at this <;> omega
theorem cnt_addk : ∀ (ks : List (List UInt8)) (l : List UInt8) (n : Nat), 0 < l.length → cnt (addk l ks) n ≤ cnt l n + 6 * ks.length
  | [], _, _, _ => by simp [addk]
  | k :: ks, l, n, hl => by
    have h1 := cnt_addk ks (adds l (hash k) 6) n (by rw [adds_length]; exact hl)
    have h2 := cnt_adds l (hash k) n hl 6
    show cnt (addk (adds l (hash k) 6) ks) n ≤ _
    rw [List.length_cons]
    omega
theorem cnt_zero (m : Nat) : ∀ n, cnt (List.replicate m 0) n = 0
  | 0 => rfl
  | n + 1 => by unfold cnt; rw [cnt_zero m n, bit_zero]; rfl
theorem cnt_mk (ks : List (List UInt8)) (n : Nat) : cnt (mk ks) n ≤ 6 * ks.length := by
  have := cnt_addk ks (List.replicate (size ks.length) 0) n (by rw [List.length_replicate]; have := size_pos ks.length; omega)
  rw [cnt_zero] at this
  unfold mk
  omega
end Bl

set_option maxHeartbeats 1000000 in
theorem ones_any (s : ByteArray) (w : World) (hs : s.size ≤ 1000000000) :
    Calls Try.prog 17 #[.string s] w fun e w' => e = .returned (.int .i64 (Bl.cnt s.data.toList (8 * s.size))) ∧ w = w' := by
  go_enter Try.func17, Try.ntmps17
  go_wp2_with fail
  go_loop [3, 4] (fun n i => ∃ k q : Nat, k ≤ s.size ∧ i = .int .i64 k ∧ q ≤ 8 * k ∧ n = .int .i64 q ∧ Hid (q = Bl.cnt s.data.toList (8 * k))) (fun _ i => s.size - (intOf i).toNat)
  case atStart => exact ⟨0, 0, Nat.zero_le _, rfl, by omega, rfl, rfl⟩
  case round =>
    obtain ⟨k, q, hk, rfl, hq, rfl, HQ⟩ := hrel
    by_cases hlt : k < s.size
    · have hx := index_byte s k hlt
      have HG : Hid (s.data.toList.getD k 0 = s[k]) := Lib.hid (list_get s k hlt)
      generalize s[k] = b at *
      go_wp2_with fail
      go_loop [3, 5] (fun n i => ∃ j q : Nat, j ≤ 8 ∧ i = .int .i64 j ∧ q ≤ 8 * k + j ∧ n = .int .i64 q ∧ Hid (q = Bl.cnt s.data.toList (8 * k + j))) (fun _ i => 8 - (intOf i).toNat)
      case atStart => exact ⟨0, q, by omega, rfl, by omega, rfl, HQ⟩
      case round =>
        obtain ⟨j, q2, hj, rfl, hq2, rfl, HQ2⟩ := hrel
        by_cases hlt2 : j < 8
        · obtain ⟨t, ht, hbw, HT⟩ : ∃ t : Nat, t ≤ 1 ∧ bits .and .u8 ((b.toNat : Int) / 2 ^ j) 1 = (t : Int) ∧ Hid (t = if Bl.bit s.data.toList (8 * k + j) then 1 else 0) := by
            refine ⟨_, ?_, bit_walk b j, Lib.hid ?_⟩
            · split <;> omega
            · unfold Bl.bit
              rw [show (8 * k + j) / 8 = k by omega, show (8 * k + j) % 8 = j by omega, HG.out]
          have HN : Hid (q2 + t = Bl.cnt s.data.toList (8 * k + (j + 1))) := Lib.hid (by
            rw [← Nat.add_assoc, Bl.cnt, ← HQ2.out, HT.out])
          clear hq
          go_wp2_with fail
          go_round
          case rel => exact ⟨j + 1, q2 + t, by omega, by go_num, by omega, by go_num, HN⟩
          case measure => simp [intOf]; omega
        · obtain rfl : j = 8 := by omega
          clear hq
          go_wp2_with fail
          go_round
          case rel => exact ⟨k + 1, q2, by omega, by go_num, by omega, rfl, by rw [Nat.mul_add]; exact HQ2⟩
          case measure => simp [intOf]; omega
    · obtain rfl : s.size = k := by omega
      go_wp2_with fail
      go_ret
      rw [HQ.out]
      exact ⟨rfl, rfl⟩

end Go.Proofs.Ytnlfajikciijjaa

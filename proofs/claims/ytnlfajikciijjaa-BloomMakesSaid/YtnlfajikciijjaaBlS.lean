/- The document's own May. -/
import Derived.Test.YtnlfajikciijjaaBlR
import Derived.Deep.QuietTactic
import Derived.BigQuiet
namespace Go.Proofs.Ytnlfajikciijjaa
open Go.RowKit

theorem below_drewN {B : Nat} {a w : World} (h : Below B a w) (q : Nat) : Below B a (w.drewN q) := ⟨h.os, h.tape, h.output, h.size, h.block⟩
theorem index_byte_i64 (s : ByteArray) (p : Nat) (h : p / 8 < s.size) : ∀ w : World, (Instr.index 9 (.string s) (.int .i64 ((p : Int) / 8))).run Try.prog w = .ok (.int .u8 (s[p / 8]'h).toNat) w := by
  intro w
  rw [run_index_string _ _ _ _ _ Try.underlying9]
  have h1 : 0 ≤ (p : Int) / 8 ∧ (p : Int) / 8 < (s.size : Int) := by omega
  have e2 : ((p : Int) / 8).toNat = p / 8 := by omega
  rw [dif_pos h1]
  simp only [e2]
/-- The bit of a byte, as the document asks it. -/
theorem and_walk (b : UInt8) (k : Nat) (hk : k < 8) : (bits .and .u8 (b.toNat : Int) (2 ^ k % 256) == 0) = !b.toNat.testBit k := by
  have h2 : 2 ^ k < 2 ^ 8 := Nat.pow_lt_pow_right (by decide) hk
  have hp : 0 < 2 ^ k := Nat.two_pow_pos k
  have c : ((2 : Int) ^ k) = ((2 ^ k : Nat) : Int) := (Int.natCast_pow 2 k).symm
  have e : ((2 : Int) ^ k % 256) = ((2 ^ k : Nat) : Int) := by rw [c]; generalize 2 ^ k = m at *; omega
  rw [e, u8_and_nat _ _ b.toNat_lt h2]
  cases ht : b.toNat.testBit k with
  | true =>
    have hne : b.toNat &&& 2 ^ k ≠ 0 := fun h => by
      have := Nat.testBit_and b.toNat (2 ^ k) k
      rw [h, ht, Nat.testBit_two_pow_self] at this
      simp at this
    rw [Bool.not_true, beq_eq_false_iff_ne]
    omega
  | false =>
    have h0 : b.toNat &&& 2 ^ k = 0 := by
      apply Nat.eq_of_testBit_eq
      intro i
      rw [Nat.testBit_and, Nat.testBit_two_pow, Nat.zero_testBit]
      by_cases hi : k = i
      · subst hi; rw [ht, Bool.false_and]
      · simp [hi]
    rw [h0]; rfl

set_option maxHeartbeats 1000000 in
theorem refMay_any (f s : ByteArray) (w : World) (hf : f.size ≤ 1000000000) (hs : s.size ≤ 9223372036854775807) :
    Calls Try.prog 16 #[.string f, .string s] w (Gives (.bool (Bl.may f.data.toList s.data.toList)) w) := by
  by_cases h0 : f.size = 0
  · have hl := list_nil h0
    have hm : Bl.may f.data.toList s.data.toList = false := by unfold Bl.may; rw [hl]; rfl
    rw [hm]
    clear hl hm
    go_enter Try.func16, Try.ntmps16
    go_wp2_with fail
    go_ret
    exact ⟨rfl, Below.refl _ _⟩
  · have h0b : (((f.size : Int)) == 0) = false := by rw [beq_eq_false_iff_ne]; omega
    obtain ⟨h, HH⟩ : ∃ h, Hid (h = Bl.hash s.data.toList) := ⟨_, Lib.hid rfl⟩
    have hpos : 0 < f.size := by omega
    clear h0
    have HRP := Lib.hid (fun W => refProbes_any s (8 * f.size) W hs (by omega) (by omega))
    rw [← HH.out] at HRP
    go_enter Try.func16, Try.ntmps16
    go_wp2_with fail
    refine (HRP.out _).mono ?_
    rintro e w1 ⟨v, rfl, ho, hb1⟩
    obtain ⟨g, cap, rfl, hg, hg2, hcell⟩ := ho.six (prl_length _ _ _)
    have HB := Lib.hid hb1; clear hb1
    have HC := Lib.hid hcell; clear hcell ho
    go_wp2_with fail
    go_loopw [6] (fun i wr => ∃ k q : Nat, k ≤ 6 ∧ i = .int .i64 k ∧ wr = w1.drewN q ∧ Hid (∀ n, n < k → Bl.bit f.data.toList (Bl.pr h (8 * f.size) n) = true)) (fun i _ => 6 - (intOf i).toNat)
    case atStart => exact ⟨0, 0, by omega, rfl, rfl, fun n hn => by omega⟩
    case round =>
      obtain ⟨k, q, hk, rfl, rfl, HK⟩ := hrel
      by_cases hlt : k < 6
      · have hp := Bl.pr_lt h (8 * f.size) k (by omega)
        have hc := HC.out k hlt
        rw [prl_get hlt] at hc
        obtain ⟨p, HP⟩ : ∃ p, Hid (p = Bl.pr h (8 * f.size) k) := ⟨_, Lib.hid rfl⟩
        rw [← HP.out] at hc hp
        have hp8 : p / 8 < f.size := by omega
        have hb := and_walk f[p / 8] (p % 8) (Nat.mod_lt _ (by decide))
        have HT : Hid (Bl.bit f.data.toList p = f[p / 8].toNat.testBit (p % 8)) := Lib.hid (by unfold Bl.bit; rw [list_get f _ hp8])
        generalize ht : f[p / 8].toNat.testBit (p % 8) = t at *
        have hx : ∀ w : World, (Instr.index 9 (.string f) (.int .i64 ((p : Int) / 8))).run Try.prog w = .ok (.int .u8 (f[p / 8]'hp8).toNat) w := index_byte_i64 f p hp8
        generalize f[p / 8].toNat = B at *
        clear ht
        cases t with
        | true =>
          have hb2 : (bits .and .u8 (B : Int) (2 ^ (p % 8) % 256) == 0) = false := by rw [hb]; rfl
          clear hb
          have HN : Hid (∀ n, n < k + 1 → Bl.bit f.data.toList (Bl.pr h (8 * f.size) n) = true) := Lib.hid (fun n hn => by
            rcases Nat.lt_succ_iff_lt_or_eq.1 hn with h2 | rfl
            · exact HK.out n h2
            · rw [← HP.out]; exact HT.out)
          go_wp2_with fail
          go_quiet (fail)
          go_wp2_with fail
          go_roundw
          case rel => exact ⟨k + 1, _, by omega, by go_num, rfl, HN⟩
          case measure => simp [intOf]; omega
        | false =>
          have hb2 : (bits .and .u8 (B : Int) (2 ^ (p % 8) % 256) == 0) = true := by rw [hb]; rfl
          clear hb
          have HM : Hid (Bl.may f.data.toList s.data.toList = false) := Lib.hid (by
            rw [← Bool.not_eq_true, Bl.may_iff, ← HH.out, list_size]
            rintro ⟨_, hall⟩
            have := hall k hlt
            rw [← HP.out, HT.out] at this
            cases this)
          go_wp2_with fail
          go_quiet (fail)
          go_wp2_with fail
          go_ret
          rw [HM.out]
          exact ⟨rfl, below_drewN (below_drewN HB.out _) _⟩
      · obtain rfl : k = 6 := by omega
        have HM : Hid (Bl.may f.data.toList s.data.toList = true) := Lib.hid (by
          rw [Bl.may_iff, ← HH.out, list_size]
          exact ⟨fun e => by have := list_size f; rw [e] at this; simp at this; omega, HK.out⟩)
        go_wp2_with fail
        go_ret
        rw [HM.out]
        exact ⟨rfl, below_drewN HB.out _⟩

end Go.Proofs.Ytnlfajikciijjaa

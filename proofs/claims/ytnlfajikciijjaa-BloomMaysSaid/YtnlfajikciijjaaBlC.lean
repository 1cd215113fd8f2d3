/- The walk of bloom.May. -/
import Derived.Test.YtnlfajikciijjaaBlB
import Derived.Test.YtnlfajikciijjaaSeesT
namespace Go.Proofs.Ytnlfajikciijjaa
open Go.RowKit

theorem list_nil {s : ByteArray} (h : s.size = 0) : s.data.toList = [] := List.eq_nil_of_length_eq_zero (by rw [list_size]; exact h)
theorem list_get (s : ByteArray) (i : Nat) (h : i < s.size) : s.data.toList.getD i 0 = s[i] := by
  rw [List.getD_eq_getElem?_getD, List.getElem?_eq_getElem (by rw [list_size]; exact h)]; rfl

/-- A probe of the array. -/
theorem index_probe (h m k : Nat) (hk : k < 6) : ∀ w : World, (Instr.index 35 (.agg (prow h m 6).toArray) (.int .i64 k)).run Try.prog w = .ok (.int .u64 (Bl.pr h m k : Int)) w := by
  intro w
  have h0 : (0 : Int) ≤ k := by omega
  have e : (prow h m 6).toArray[k]? = some (.int .u64 (Bl.pr h m k : Int)) := by
    rw [List.getElem?_toArray, prow_get, if_pos hk]; unfold pcell; rw [if_pos hk]
  rw [List.getElem?_toArray] at e
  simp [Instr.index, run_underlying Try.underlying35, asIntOf, h0, hk, e, go_sem]

theorem index_byte_u64 (s : ByteArray) (p : Nat) (h : p / 8 < s.size) : ∀ w : World, (Instr.index 9 (.string s) (.int .u64 ((p : Int) / 8))).run Try.prog w = .ok (.int .u8 (s[p / 8]'h).toNat) w := by
  intro w
  rw [run_index_string _ _ _ _ _ Try.underlying9]
  have h1 : 0 ≤ (p : Int) / 8 ∧ (p : Int) / 8 < (s.size : Int) := by omega
  have e2 : ((p : Int) / 8).toNat = p / 8 := by omega
  rw [dif_pos h1]
  simp only [e2]

/-- The bit of a byte, as the walk asks it. -/
theorem bit_walk (b : UInt8) (k : Nat) : bits .and .u8 ((b.toNat : Int) / 2 ^ k) 1 = ((if b.toNat.testBit k then 1 else 0 : Nat) : Int) := by
  have hb : b.toNat < 256 := b.toNat_lt
  have e : ((b.toNat : Int) / 2 ^ k) = ((b.toNat / 2 ^ k : Nat) : Int) := by rw [Int.natCast_ediv, Int.natCast_pow]; rfl
  rw [e, show (1 : Int) = ((1 : Nat) : Int) from rfl, u8_and_nat _ 1 (Nat.lt_of_le_of_lt (Nat.div_le_self _ _) hb) (by omega), Nat.and_one_is_mod, Nat.testBit_eq_decide_div_mod_eq]
  rcases Nat.mod_two_eq_zero_or_one (b.toNat / 2 ^ k) with h | h <;> simp [h]

set_option maxHeartbeats 1000000 in
theorem may_any (f s : ByteArray) (w : World) (hf : f.size ≤ 1000000000) (hs : s.size ≤ 9223372036854775807) :
    Calls Try.prog 11 #[.string f, .string s] w (Gives (.bool (Bl.may f.data.toList s.data.toList)) w) := by
  by_cases h0 : f.size = 0
  · have hl := list_nil h0
    have hm : Bl.may f.data.toList s.data.toList = false := by unfold Bl.may; rw [hl]; rfl
    have hft : f.toList = [] := by rw [ByteArray.toList_eq]; exact hl
    rw [hm]
    clear hl hm
    go_enter Try.func11, Try.ntmps11
    go_wp2_with fail
    go_ret
    exact ⟨rfl, Below.refl _ _⟩
  · have hft : f.toList.isEmpty = false := by rw [ByteArray.toList_eq, ← Bool.not_eq_true, List.isEmpty_iff]; intro e; exact h0 (by rw [← list_size, e]; rfl)
    obtain ⟨h, HH⟩ : ∃ h, Hid (h = Bl.hash s.data.toList) := ⟨_, Lib.hid rfl⟩
    have hpos : 0 < f.size := by omega
    clear h0
    obtain ⟨R, HR⟩ : ∃ R, Hid (R = (prow h (8 * f.size) 6).toArray) := ⟨_, Lib.hid rfl⟩
    go_enter Try.func11, Try.ntmps11
    go_wp2_with fail
    refine (probesOf_any s f.size _ hs hpos hf).mono ?_
    rintro e w1 ⟨rfl, hb1⟩
    rw [← HH.out, ← HR.out]
    have HB := Lib.hid hb1; clear hb1
    go_wp2_with fail
    go_loop [13] (fun i => ∃ k : Nat, k ≤ 6 ∧ i = .int .i64 k ∧ Hid (∀ n, n < k → Bl.bit f.data.toList (Bl.pr h (8 * f.size) n) = true)) (fun i => 6 - (intOf i).toNat)
    case atStart => exact ⟨0, by omega, rfl, fun n hn => by omega⟩
    case round =>
      obtain ⟨k, hk, rfl, HK⟩ := hrel
      by_cases hlt : k < 6
      · have hix := index_probe h (8 * f.size) k hlt
        rw [← HR.out] at hix
        have hp := Bl.pr_lt h (8 * f.size) k (by omega)
        obtain ⟨p, HP⟩ : ∃ p, Hid (p = Bl.pr h (8 * f.size) k) := ⟨_, Lib.hid rfl⟩
        rw [← HP.out] at hix hp
        have hp8 : p / 8 < f.size := by omega
        have hb := bit_walk f[p / 8] (p % 8)
        have HT : Hid (Bl.bit f.data.toList p = f[p / 8].toNat.testBit (p % 8)) := Lib.hid (by unfold Bl.bit; rw [list_get f _ hp8])
        generalize ht : f[p / 8].toNat.testBit (p % 8) = t at *
        have hx : ∀ w : World, (Instr.index 9 (.string f) (.int .u64 ((p : Int) / 8))).run Try.prog w = .ok (.int .u8 (f[p / 8]'hp8).toNat) w := index_byte_u64 f p hp8
        generalize f[p / 8].toNat = B at *
        clear ht
        cases t with
        | true =>
          have hb2 : (bits .and .u8 ((B : Int) / 2 ^ (p % 8)) 1 == 0) = false := by rw [hb]; rfl
          clear hb
          have HN : Hid (∀ n, n < k + 1 → Bl.bit f.data.toList (Bl.pr h (8 * f.size) n) = true) := Lib.hid (fun n hn => by
            rcases Nat.lt_succ_iff_lt_or_eq.1 hn with h2 | rfl
            · exact HK.out n h2
            · rw [← HP.out]; exact HT.out)
          go_wp2_with fail
          go_round
          case rel => exact ⟨k + 1, by omega, by go_num, HN⟩
          case measure => simp [intOf]; omega
        | false =>
          have hb2 : (bits .and .u8 ((B : Int) / 2 ^ (p % 8)) 1 == 0) = true := by rw [hb]; rfl
          clear hb
          have HM : Hid (Bl.may f.data.toList s.data.toList = false) := Lib.hid (by
            rw [← Bool.not_eq_true, Bl.may_iff, ← HH.out, list_size]
            rintro ⟨_, hall⟩
            have := hall k hlt
            rw [← HP.out, HT.out] at this
            cases this)
          go_wp2_with fail
          go_ret
          rw [HM.out]
          exact ⟨rfl, HB.out⟩
      · obtain rfl : k = 6 := by omega
        have HM : Hid (Bl.may f.data.toList s.data.toList = true) := Lib.hid (by
          rw [Bl.may_iff, ← HH.out, list_size]
          exact ⟨fun e => by have := list_size f; rw [e] at this; simp at this; omega, HK.out⟩)
        go_wp2_with fail
        go_ret
        rw [HM.out]
        exact ⟨rfl, HB.out⟩

end Go.Proofs.Ytnlfajikciijjaa

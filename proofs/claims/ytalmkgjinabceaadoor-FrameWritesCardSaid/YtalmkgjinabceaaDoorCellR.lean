/- Walks of the document's own Crc, May. -/
import Derived.Test.YtalmkgjinabceaaDoorCellC
namespace Go.Proofs.YtalmkgjinabceaaDoor
open Go.RowKit

theorem bit_one (x : Nat) (h : x < 4294967296) : bits .and .u32 (x : Int) 1 = ((x % 2 : Nat) : Int) := by
  have := u32_and_nat x 1 h (by omega)
  rw [Nat.and_one_is_mod] at this
  exact this

set_option maxHeartbeats 1000000 in
theorem refCrc_any (s : ByteArray) (w : World) (hs : s.size ≤ 9223372036854775807) :
    Calls Tryd.prog 32 #[.string s] w fun e w' => e = .returned (.int .u32 (Cr.crc s.data.toList)) ∧ w = w' := by
  go_enter Tryd.func32, Tryd.ntmps32
  go_wp2
  go_loop [3, 4] (fun n i => ∃ k q : Nat, k ≤ s.size ∧ i = .int .i64 k ∧ q < 4294967296 ∧ n = .int .u32 q ∧ Hid (q = Cr.st 4294967295 (s.data.toList.take k))) (fun _ i => s.size - (intOf i).toNat)
  case atStart => exact ⟨0, 4294967295, Nat.zero_le _, rfl, by omega, rfl, rfl⟩
  case round =>
    obtain ⟨k, q, hk, rfl, hq, rfl, HQ⟩ := hrel
    by_cases hlt : k < s.size
    · obtain ⟨B, hB⟩ : ∃ B : Nat, B = s[k].toNat := ⟨_, rfl⟩
      have hx := index_byte s k hlt
      rw [← hB] at hx
      have HU : Hid (Cr.feeds q B 8 = Cr.st 4294967295 (s.data.toList.take (k + 1))) := by rw [take_snoc s k hlt, Cr.st_snoc, hB, Cr.feeds_byte, HQ.out]; exact Lib.hid rfl
      have HL : Hid (∀ j, Cr.feeds q B j < 4294967296) := by rw [hB]; exact Lib.hid (Cr.feeds_lt q s[k] hq)
      have hB' : B < 256 := by rw [hB]; exact s[k].toNat_lt
      clear hB
      go_wp2
      go_loop [3, 5] (fun n j => ∃ i p : Nat, i ≤ 8 ∧ j = .int .i64 i ∧ p < 4294967296 ∧ n = .int .u32 p ∧ Hid (p = Cr.feeds q B i)) (fun _ i => 8 - (intOf i).toNat)
      case atStart => exact ⟨0, q, by omega, rfl, hq, rfl, Lib.hid rfl⟩
      case round =>
        obtain ⟨i, p, hi, rfl, hp, rfl, HP⟩ := hrel
        by_cases h8 : i < 8
        · have hN : Hid (Cr.feeds q B (i + 1) = Cr.feed p (B / 2 ^ i)) := by rw [HP.out]; exact Lib.hid rfl
          have hb2 : B / 2 ^ i < 256 := Nat.lt_of_le_of_lt (Nat.div_le_self _ _) hB'
          have e : bits .and .u32 (bits .xor .u32 (p : Int) ((B : Int) / 2 ^ i)) 1 = (((p ^^^ (B / 2 ^ i)) % 2 : Nat) : Int) := by
            have e1 := u32_xor_nat p (B / 2 ^ i) hp (by omega)
            rw [Int.natCast_ediv, Int.natCast_pow] at e1
            rw [show ((2 : Int)) = ((2 : Nat) : Int) from rfl, e1]
            exact bit_one _ (Cr.xor_lt hp (by omega))
          have HLT := Lib.hid (HL.out (i + 1))
          by_cases ho : (p ^^^ (B / 2 ^ i)) % 2 = 1
          · have hb : (bits .and .u32 (bits .xor .u32 (p : Int) ((B : Int) / 2 ^ i)) 1 == 1) = true := by rw [e, ho]; rfl
            have HV : Hid (Cr.feeds q B (i + 1) = (p / 2) ^^^ Cr.poly) := by rw [hN.out, Cr.feed, if_pos ho]; exact Lib.hid rfl
            have HX : Hid (bits .xor .u32 ((p : Int) / 2) 3988292384 = (Cr.feeds q B (i + 1) : Nat)) := by
              rw [HV.out]
              have := u32_xor_nat (p / 2) 3988292384 (by omega) (by omega)
              rw [Int.natCast_ediv] at this
              exact Lib.hid this
            clear e ho hb2
            go_wp2_with fail
            go_round
            case rel => exact ⟨i + 1, _, by omega, by go_num, HLT.out, by rw [HX.out], Lib.hid rfl⟩
            case measure => simp [intOf]; omega
          · have hb : (bits .and .u32 (bits .xor .u32 (p : Int) ((B : Int) / 2 ^ i)) 1 == 1) = false := by
              rw [e, beq_eq_false_iff_ne]; intro hc; exact ho (by omega)
            have HV : Hid (Cr.feeds q B (i + 1) = p / 2) := by rw [hN.out, Cr.feed, if_neg ho]; exact Lib.hid rfl
            clear e ho hb2
            go_wp2_with fail
            go_round
            case rel => exact ⟨i + 1, p / 2, by omega, by go_num, by omega, by go_num, by rw [HV.out]; exact Lib.hid rfl⟩
            case measure => simp [intOf]; omega
        · obtain rfl : i = 8 := by omega
          have HQ8 : Hid (p = Cr.st 4294967295 (s.data.toList.take (k + 1))) := by rw [HP.out]; exact HU
          clear hi h8
          go_wp2_with fail
          go_round
          case rel => exact ⟨k + 1, p, by omega, by go_num, hp, rfl, HQ8⟩
          case measure => simp [intOf]; omega
    · have HE : Hid (bits .xor .u32 (q : Int) 4294967295 = (Cr.crc s.data.toList : Nat)) := by
        have e := HQ.out
        rw [List.take_of_length_le (by rw [Cr.size_list]; omega)] at e
        rw [Cr.crc, ← e]
        exact Lib.hid (u32_xor_nat q 4294967295 hq (by omega))
      go_wp2_with fail
      go_ret
      rw [HE.out]
      exact ⟨rfl, rfl⟩

/-- A cell of the document's, as a value: spelled alike. -/
theorem may_iff2 (f l : Bool) (n : Int) (d : ByteArray) : Cr.may ⟨f, l, n, d⟩ = true ↔ 0 ≤ n ∧ n ≤ 65535 ∧ (f = true ↔ n = 0) ∧ d.size ≤ 24 ∧ (l = true ∨ d.size = 24) ∧ (d.size ≠ 0 ∨ f = true) := by
  unfold Cr.may; rw [decide_eq_true_eq]

theorem size_ne {d : ByteArray} (h : ¬ d = ByteArray.empty) : d.size ≠ 0 := fun e => h (empty_of_size e)
theorem empty_size : ByteArray.empty.size = 0 := rfl

set_option maxHeartbeats 4000000 in
theorem refMay_any (c : Cr.Cl) (w : World) (hs : c.data.size ≤ 9223372036854775807) :
    Calls Tryd.prog 31 #[clV c] w (Gives (.bool (Cr.may c)) w) := by
  obtain ⟨f, l, n, d⟩ := c
  have hb : Below w.heap.size w (w.alloc (.cells #[.bool f, .bool l, .int .i64 n, .string d] 52)) := (Below.refl _ _).alloc (Nat.le_refl _) _
  have HB := Lib.hid hb; clear hb
  unfold clV
  dsimp only at hs ⊢
  by_cases hn : n = 0
  · subst hn
    by_cases hd : d = ByteArray.empty
    · subst hd
      cases f <;> cases l
      all_goals
        go_enter Tryd.func31, Tryd.ntmps31
        go_wp2_with fail
        go_ret
        refine ⟨ret_bool ?_, HB.out⟩
        rw [Bool.eq_iff_iff, may_iff2]
        simp
    · have HD := Lib.hid (size_ne hd)
      have hp : (0 : Int) < (d.size : Int) := by have := HD.out; omega
      cases f <;> cases l
      all_goals
        go_enter Tryd.func31, Tryd.ntmps31
        go_wp2_with fail
        all_goals
          go_ret
          refine ⟨ret_bool ?_, HB.out⟩
          have h2 := HD.out
          rw [Bool.eq_iff_iff, may_iff2]
          simp
          try omega
  · have HN := Lib.hid hn
    have hz : (n == 0) = false := by rw [beq_eq_false_iff_ne]; exact hn
    clear hn
    by_cases hd : d = ByteArray.empty
    · subst hd
      cases f <;> cases l
      all_goals
        go_enter Tryd.func31, Tryd.ntmps31
        go_wp2_with fail
        all_goals
          go_ret
          refine ⟨ret_bool ?_, HB.out⟩
          have h1 := HN.out
          rw [Bool.eq_iff_iff, may_iff2]
          simp
          try omega
    · have HD := Lib.hid (size_ne hd)
      have hp : (0 : Int) < (d.size : Int) := by have := HD.out; omega
      cases f <;> cases l
      all_goals
        go_enter Tryd.func31, Tryd.ntmps31
        go_wp2_with fail
        all_goals
          go_ret
          refine ⟨ret_bool ?_, HB.out⟩
          have h1 := HN.out
          have h2 := HD.out
          rw [Bool.eq_iff_iff, may_iff2]
          simp
          try (first | omega | exact ⟨by omega, by omega, h1, by omega, by omega, hd⟩ | exact ⟨by omega, by omega, h1, by omega, hd⟩)

end Go.Proofs.YtalmkgjinabceaaDoor

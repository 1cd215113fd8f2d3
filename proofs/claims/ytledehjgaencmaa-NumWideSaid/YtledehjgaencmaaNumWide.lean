/- The walk of NumWide. -/
import Derived.Test.YtledehjgaencmaaNumAwake
namespace Go.Proofs.Ytledehjgaencmaa
open Go.RowKit

theorem bigE_arg {n x : Int} (h : x < 1 ∨ 8 < x) : bigE n x = 1 ∧ bigL n x = [] := by unfold bigE bigL; rw [if_pos h, if_pos h]; exact ⟨rfl, rfl⟩
theorem bigE_long {n x : Int} (h1 : 1 ≤ x) (h2 : x ≤ 8) (h : x < Nm.wid n.toNat) : bigE n x = 3 ∧ bigL n x = [] := by
  have hx : ¬ (x < 1 ∨ 8 < x) := by omega
  unfold bigE bigL; rw [if_neg hx, if_neg hx, if_pos h, if_pos h]; exact ⟨rfl, rfl⟩
theorem bigE_ok {n x : Int} (h1 : 1 ≤ x) (h2 : x ≤ 8) (h : Nm.wid n.toNat ≤ x) : bigE n x = 0 ∧ bigL n x = Nm.big n.toNat x.toNat := by
  have hx : ¬ (x < 1 ∨ 8 < x) := by omega
  have hy : ¬ x < Nm.wid n.toNat := by omega
  unfold bigE bigL; rw [if_neg hx, if_neg hx, if_neg hy, if_neg hy]; exact ⟨rfl, rfl⟩

set_option maxHeartbeats 400000 in
theorem wide_great (a b x : Int) (s : ByteArray) (w : World) (hs : 100 < s.size) :
    Calls Try.prog 9 #[.int .u64 a, .int .u64 b, .int .i64 x, .string s] w (Gives (.bool true) w) := by
  go_enter Try.func9, Try.ntmps9
  go_wp2_with fail
  refine (awake_any _).mono ?_
  rintro e w1 ⟨rfl, hb1⟩
  go_wp2_with fail
  go_ret
  exact ⟨rfl, hb1⟩

set_option maxHeartbeats 400000 in
theorem wide_arg (a b x : Int) (s : ByteArray) (w : World) (hs : s.size ≤ 100) (ha0 : 0 ≤ a) (ha1 : a ≤ 18446744073709551615) (hb0 : 0 ≤ b) (hb1 : b ≤ 18446744073709551615) (hx : x < 1 ∨ 8 < x) :
    Calls Try.prog 9 #[.int .u64 a, .int .u64 b, .int .i64 x, .string s] w (Gives (.bool true) w) := by
  have HA := Lib.hid ha1; have HB := Lib.hid hb1; clear ha1 hb1
  have HE1 := Lib.hid (bigE_arg (n := a) hx); have HE2 := Lib.hid (bigE_arg (n := b) hx)
  rcases hx with hx | hx
  all_goals
    go_enter Try.func9, Try.ntmps9
    go_wp2_with fail
    refine (big_any _ _ _ ha0 HA.out).mono ?_
    rintro e w1 ⟨rfl, hb1⟩
    rw [HE1.out.1, HE1.out.2]
    go_wp2_with fail
    refine (big_any _ _ _ hb0 HB.out).mono ?_
    rintro e w2 ⟨rfl, hb2⟩
    rw [HE2.out.1, HE2.out.2]
    go_wp2_with fail
    refine (awake_any _).mono ?_
    rintro e w3 ⟨rfl, hb3⟩
    go_wp2_with fail
    go_ret
    exact ⟨rfl, Below.next (Below.next hb1 hb2) hb3⟩

set_option maxHeartbeats 400000 in
theorem wide_long (a b m : Nat) (s : ByteArray) (w : World) (hs : s.size ≤ 100) (ha1 : (a : Int) ≤ 18446744073709551615) (hb1 : (b : Int) ≤ 18446744073709551615) (hx1 : (1 : Int) ≤ m) (hx2 : (m : Int) ≤ 8)
    (hw : m < Nm.wid a) :
    Calls Try.prog 9 #[.int .u64 a, .int .u64 b, .int .i64 m, .string s] w (Gives (.bool true) w) := by
  have h8 := Nm.wid_le8 a
  have hm8 : ((m : Int) == 8) = false := by simp; omega
  have hq : ((a : Int) / 2 ^ (8 * m) == 0) = false := by
    have h1 : ¬ a < 256 ^ m := fun h => by have := (Nm.wid_le (n := a) (by omega) (w := m) (by omega)).2 h; omega
    have h2 : 256 ^ m ≤ a := by omega
    have h3 : 1 ≤ a / 256 ^ m := (Nat.one_le_div_iff (Nat.pow_pos (by omega))).2 h2
    have e : (a : Int) / 2 ^ (8 * m) = ((a / 256 ^ m : Nat) : Int) := by rw [Int.natCast_ediv, Int.natCast_pow, Int.pow_mul]; rfl
    rw [e]; simp only [beq_eq_false_iff_ne]; omega
  have HA := Lib.hid ha1; have HB := Lib.hid hb1; clear ha1 hb1
  have HE1 := Lib.hid (bigE_long (n := (a : Int)) hx1 hx2 (by rw [Int.toNat_natCast]; omega))
  clear hw h8
  generalize hE2 : bigE (b : Int) m = E2
  generalize hL2 : bigL (b : Int) m = L2
  have HE2 := Lib.hid hE2; have HL2 := Lib.hid hL2; clear hE2 hL2
  go_enter Try.func9, Try.ntmps9
  go_wp2_with fail
  refine (big_any _ _ _ (by omega) HA.out).mono ?_
  rintro e w1 ⟨rfl, hb1⟩
  rw [HE1.out.1, HE1.out.2]
  go_wp2_with fail
  refine (big_any _ _ _ (by omega) HB.out).mono ?_
  rintro e w2 ⟨rfl, hb2⟩
  rw [HE2.out, HL2.out]
  go_wp2_with fail
  refine (awake_any _).mono ?_
  rintro e w3 ⟨rfl, hb3⟩
  go_wp2_with fail
  go_ret
  exact ⟨rfl, Below.next (Below.next hb1 hb2) hb3⟩

theorem fits_bool {a m : Nat} (ha : a < 18446744073709551616) (hm : m ≤ 8) (hw : Nm.wid a ≤ m) : ((m : Int) == 8) = true ∨ ((m : Int) == 8) = false ∧ ((a : Int) / 2 ^ (8 * m) == 0) = true := by
  by_cases h8 : m = 8
  · left; simp; omega
  · right
    refine ⟨by simp; omega, ?_⟩
    have h1 := (Nm.wid_le ha hm).1 hw
    have e : (a : Int) / 2 ^ (8 * m) = ((a / 256 ^ m : Nat) : Int) := by rw [Int.natCast_ediv, Int.natCast_pow, Int.pow_mul]; rfl
    rw [e, Nat.div_eq_of_lt h1]; rfl

set_option maxHeartbeats 800000 in
theorem wide_short (a b m : Nat) (s : ByteArray) (w : World) (hs : s.size ≤ 100) (ha1 : (a : Int) ≤ 18446744073709551615) (hb1 : (b : Int) ≤ 18446744073709551615) (hx1 : (1 : Int) ≤ m) (hx2 : (m : Int) ≤ 8)
    (hw : Nm.wid a ≤ m) (hwb : m < Nm.wid b) :
    Calls Try.prog 9 #[.int .u64 a, .int .u64 b, .int .i64 m, .string s] w (Gives (.bool true) w) := by
  have hf := fits_bool (a := a) (m := m) (by omega) (by omega) hw
  have HA := Lib.hid ha1; have HB := Lib.hid hb1; clear ha1 hb1
  have HE1 := Lib.hid (bigE_ok (n := (a : Int)) hx1 hx2 (by rw [Int.toNat_natCast]; omega))
  have HE2 := Lib.hid (bigE_long (n := (b : Int)) hx1 hx2 (by rw [Int.toNat_natCast]; omega))
  clear hw hwb
  rw [Int.toNat_natCast, Int.toNat_natCast] at HE1
  generalize Nm.big a m = L1 at *
  rcases hf with hf | ⟨hf, hq⟩
  all_goals
    go_enter Try.func9, Try.ntmps9
    go_wp2_with fail
    refine (big_any _ _ _ (by omega) HA.out).mono ?_
    rintro e w1 ⟨rfl, hb1⟩
    rw [HE1.out.1, HE1.out.2]
    go_wp2_with fail
    refine (big_any _ _ _ (by omega) HB.out).mono ?_
    rintro e w2 ⟨rfl, hb2⟩
    rw [HE2.out.1, HE2.out.2]
    go_wp2_with fail
    refine (awake_any _).mono ?_
    rintro e w3 ⟨rfl, hb3⟩
    go_wp2_with fail
    go_ret
    exact ⟨rfl, Below.next (Below.next hb1 hb2) hb3⟩

set_option maxHeartbeats 800000 in
theorem wide_both (a b m : Nat) (s : ByteArray) (w : World) (hs : s.size ≤ 100) (ha1 : (a : Int) ≤ 18446744073709551615) (hb1 : (b : Int) ≤ 18446744073709551615) (hx1 : (1 : Int) ≤ m) (hx2 : (m : Int) ≤ 8)
    (hw : Nm.wid a ≤ m) (hwb : Nm.wid b ≤ m) :
    Calls Try.prog 9 #[.int .u64 a, .int .u64 b, .int .i64 m, .string s] w (Gives (.bool true) w) := by
  have hf := fits_bool (a := a) (m := m) (by omega) (by omega) hw
  have hlt := (Nm.wid_le (n := a) (w := m) (by omega) (by omega)).1 hw
  have hltb := (Nm.wid_le (n := b) (w := m) (by omega) (by omega)).1 hwb
  have HE1 := Lib.hid (bigE_ok (n := (a : Int)) hx1 hx2 (by rw [Int.toNat_natCast]; omega))
  have HE2 := Lib.hid (bigE_ok (n := (b : Int)) hx1 hx2 (by rw [Int.toNat_natCast]; omega))
  have HA := Lib.hid ha1; have HB := Lib.hid hb1; clear ha1 hb1
  clear hw hwb
  rw [Int.toNat_natCast, Int.toNat_natCast] at HE1 HE2
  have hl1 := Nm.big_length m a
  have hl2 := Nm.big_length m b
  have hless : Op.bytesLess (Nm.big a m) (Nm.big b m) = decide (a < b) := by
    rw [Nm.bytesLess_val (by rw [hl1, hl2]), Nm.val_big, Nm.val_big, Nat.mod_eq_of_lt hlt, Nat.mod_eq_of_lt hltb]
  have hval : Nm.val (Nm.big a m) = a := by rw [Nm.val_big, Nat.mod_eq_of_lt hlt]
  clear hlt hltb
  generalize Nm.big a m = L1 at *
  generalize Nm.big b m = L2 at *
  have hL1 : L1.length ≤ m := by omega
  have hL1' : m ≤ L1.length := by omega
  have hL2 : L2.length ≤ m := by omega
  have hL2' : m ≤ L2.length := by omega
  have hsz : (⟨L1.toArray⟩ : ByteArray).size = L1.length := rfl
  have hm1 : m ≤ (⟨L1.toArray⟩ : ByteArray).size := by omega
  have hm2 : (⟨L1.toArray⟩ : ByteArray).size ≤ 8 := by omega
  have HM1 := Lib.hid hm1; have HM2 := Lib.hid hm2
  have htk : Nm.val (((⟨L1.toArray⟩ : ByteArray) ++ s).data.toList.take (m : Int).toNat) = a := by
    rw [Int.toNat_natCast, ByteArray.data_append, Array.toList_append, List.take_left' hl1]
    exact hval
  have HL1 := Lib.hid hl1; have HL2 := Lib.hid hl2; have HV := Lib.hid htk; have HLS := Lib.hid hless
  clear hl1 hl2 hval hless htk hsz hm1 hm2
  rcases hf with hf | ⟨hf, hq⟩
  all_goals
    go_enter Try.func9, Try.ntmps9
    go_wp2_with fail
    refine (big_any _ _ _ (by omega) HA.out).mono ?_
    rintro e w1 ⟨rfl, hb1⟩
    rw [HE1.out.1, HE1.out.2]
    go_wp2_with fail
    refine (big_any _ _ _ (by omega) HB.out).mono ?_
    rintro e w2 ⟨rfl, hb2⟩
    rw [HE2.out.1, HE2.out.2]
    go_wp2_with fail
    refine (readBig_yes _ _ _ hx1 hx2 (by rw [ByteArray.size_append]; have := HM1.out; omega) (by rw [ByteArray.size_append]; have := HM2.out; omega)).mono ?_
    rintro e w3 ⟨rfl, rfl⟩
    rw [HV.out]
    have hless : Op.bytesLess L1 L2 = decide (a < b) := HLS.out
    go_wp2_with fail
    refine (awake_any _).mono ?_
    rintro e w4 ⟨rfl, hb4⟩
    go_wp2_with fail
    go_ret
    exact ⟨rfl, Below.next (Below.next hb1 hb2) hb4⟩

theorem wide_walk (a b x : Int) (s : ByteArray) (w : World) (ha : 0 ≤ a ∧ a ≤ 18446744073709551615) (hb : 0 ≤ b ∧ b ≤ 18446744073709551615) (_hx : -9223372036854775808 ≤ x ∧ x ≤ 9223372036854775807) (_hs : s.size ≤ 9223372036854775807) :
    Calls Try.prog 9 #[.int .u64 a, .int .u64 b, .int .i64 x, .string s] w (Gives (.bool true) w) := by
  by_cases h1 : 100 < s.size
  · exact wide_great a b x s w h1
  · by_cases h2 : x < 1 ∨ 8 < x
    · exact wide_arg a b x s w (by omega) ha.1 ha.2 hb.1 hb.2 h2
    · obtain ⟨m, rfl⟩ := Int.eq_ofNat_of_zero_le (show 0 ≤ x by omega)
      obtain ⟨a, rfl⟩ := Int.eq_ofNat_of_zero_le ha.1
      obtain ⟨b, rfl⟩ := Int.eq_ofNat_of_zero_le hb.1
      by_cases h3 : m < Nm.wid a
      · exact wide_long a b m s w (by omega) ha.2 hb.2 (by omega) (by omega) h3
      · by_cases h4 : m < Nm.wid b
        · exact wide_short a b m s w (by omega) ha.2 hb.2 (by omega) (by omega) (by omega) h4
        · exact wide_both a b m s w (by omega) ha.2 hb.2 (by omega) (by omega) (by omega) (by omega)

end Go.Proofs.Ytledehjgaencmaa

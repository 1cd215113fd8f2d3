/- The walk of BloomMays. -/
import Derived.Test.YtnlfajikciijjaaBlS
import Derived.Test.YtnlfajikciijjaaBlE
namespace Go.Proofs.Ytnlfajikciijjaa
open Go.RowKit

set_option maxHeartbeats 2000000 in
theorem mays_00 (F K : ByteArray) (W : World) (hf : F.size ≤ 4000) (hk : K.size ≤ 4000) :
    Calls Try.prog 5 #[.string F, .string K] W (Gives (.bool true) W) := by
  have hfi : (F.size : Int) ≤ 4000 := by omega
  have hki : (K.size : Int) ≤ 4000 := by omega
  have HM := Lib.hid (fun W => may_any F K W (by omega) (by omega))
  have HR := Lib.hid (fun W => refMay_any F K W (by omega) (by omega))
  generalize Bl.may F.data.toList K.data.toList = b at *
  go_enter Try.func5, Try.ntmps5
  go_wp2_with fail
  refine (HM.out _).mono ?_
  rintro e w1 ⟨rfl, hb1⟩
  have HB1 := Lib.hid hb1; clear hb1
  go_wp2_with fail
  refine (HR.out _).mono ?_
  rintro e w2 ⟨rfl, hb2⟩
  have HB2 := Lib.hid (Below.next HB1.out hb2); clear hb2
  go_wp2_with fail
  refine (awake_any _).mono ?_
  rintro e w3 ⟨rfl, hb3⟩
  go_wp2_with fail
  go_ret
  exact ⟨rfl, Below.next HB2.out hb3⟩

set_option maxHeartbeats 2000000 in
theorem mays_01 (F K0 : ByteArray) (W : World) (hf : F.size ≤ 4000) (hk0 : 4000 < K0.size) (hk1 : K0.size ≤ 9223372036854775807) :
    Calls Try.prog 5 #[.string F, .string K0] W (Gives (.bool true) W) := by
  have hfi : (F.size : Int) ≤ 4000 := by omega
  obtain ⟨K, hKX⟩ : ∃ K, K0.extract 0 4000 = K := ⟨_, rfl⟩
  have hk : K.size ≤ 4000 := by rw [← hKX, ByteArray.size_extract]; omega
  have HKX := Lib.hid hKX; clear hKX
  have hki : (4000 : Int) < K0.size := by omega
  have HM := Lib.hid (fun W => may_any F K W (by omega) (by omega))
  have HR := Lib.hid (fun W => refMay_any F K W (by omega) (by omega))
  generalize Bl.may F.data.toList K.data.toList = b at *
  go_enter Try.func5, Try.ntmps5
  go_wp2_with fail
  rw [HKX.out]
  refine (HM.out _).mono ?_
  rintro e w1 ⟨rfl, hb1⟩
  have HB1 := Lib.hid hb1; clear hb1
  go_wp2_with fail
  refine (HR.out _).mono ?_
  rintro e w2 ⟨rfl, hb2⟩
  have HB2 := Lib.hid (Below.next HB1.out hb2); clear hb2
  go_wp2_with fail
  refine (awake_any _).mono ?_
  rintro e w3 ⟨rfl, hb3⟩
  go_wp2_with fail
  go_ret
  exact ⟨rfl, Below.next HB2.out hb3⟩

set_option maxHeartbeats 2000000 in
theorem mays_10 (F0 K : ByteArray) (W : World) (hf0 : 4000 < F0.size) (hf1 : F0.size ≤ 9223372036854775807) (hk : K.size ≤ 4000) :
    Calls Try.prog 5 #[.string F0, .string K] W (Gives (.bool true) W) := by
  obtain ⟨F, hFX⟩ : ∃ F, F0.extract 0 4000 = F := ⟨_, rfl⟩
  have hf : F.size ≤ 4000 := by rw [← hFX, ByteArray.size_extract]; omega
  have HFX := Lib.hid hFX; clear hFX
  have hfi : (4000 : Int) < F0.size := by omega
  have hki : (K.size : Int) ≤ 4000 := by omega
  have HM := Lib.hid (fun W => may_any F K W (by omega) (by omega))
  have HR := Lib.hid (fun W => refMay_any F K W (by omega) (by omega))
  generalize Bl.may F.data.toList K.data.toList = b at *
  go_enter Try.func5, Try.ntmps5
  go_wp2_with fail
  rw [HFX.out]
  refine (HM.out _).mono ?_
  rintro e w1 ⟨rfl, hb1⟩
  have HB1 := Lib.hid hb1; clear hb1
  go_wp2_with fail
  refine (HR.out _).mono ?_
  rintro e w2 ⟨rfl, hb2⟩
  have HB2 := Lib.hid (Below.next HB1.out hb2); clear hb2
  go_wp2_with fail
  refine (awake_any _).mono ?_
  rintro e w3 ⟨rfl, hb3⟩
  go_wp2_with fail
  go_ret
  exact ⟨rfl, Below.next HB2.out hb3⟩

set_option maxHeartbeats 2000000 in
theorem mays_11 (F0 K0 : ByteArray) (W : World) (hf0 : 4000 < F0.size) (hf1 : F0.size ≤ 9223372036854775807) (hk0 : 4000 < K0.size) (hk1 : K0.size ≤ 9223372036854775807) :
    Calls Try.prog 5 #[.string F0, .string K0] W (Gives (.bool true) W) := by
  obtain ⟨F, hFX⟩ : ∃ F, F0.extract 0 4000 = F := ⟨_, rfl⟩
  have hf : F.size ≤ 4000 := by rw [← hFX, ByteArray.size_extract]; omega
  have HFX := Lib.hid hFX; clear hFX
  have hfi : (4000 : Int) < F0.size := by omega
  obtain ⟨K, hKX⟩ : ∃ K, K0.extract 0 4000 = K := ⟨_, rfl⟩
  have hk : K.size ≤ 4000 := by rw [← hKX, ByteArray.size_extract]; omega
  have HKX := Lib.hid hKX; clear hKX
  have hki : (4000 : Int) < K0.size := by omega
  have HM := Lib.hid (fun W => may_any F K W (by omega) (by omega))
  have HR := Lib.hid (fun W => refMay_any F K W (by omega) (by omega))
  generalize Bl.may F.data.toList K.data.toList = b at *
  go_enter Try.func5, Try.ntmps5
  go_wp2_with fail
  rw [HFX.out]
  rw [HKX.out]
  refine (HM.out _).mono ?_
  rintro e w1 ⟨rfl, hb1⟩
  have HB1 := Lib.hid hb1; clear hb1
  go_wp2_with fail
  refine (HR.out _).mono ?_
  rintro e w2 ⟨rfl, hb2⟩
  have HB2 := Lib.hid (Below.next HB1.out hb2); clear hb2
  go_wp2_with fail
  refine (awake_any _).mono ?_
  rintro e w3 ⟨rfl, hb3⟩
  go_wp2_with fail
  go_ret
  exact ⟨rfl, Below.next HB2.out hb3⟩

theorem mays_walk (a0 a1 : ByteArray) (W : World) (h0 : a0.size ≤ 9223372036854775807) (h1 : a1.size ≤ 9223372036854775807) :
    Calls Try.prog 5 #[.string a0, .string a1] W (Gives (.bool true) W) := by
  by_cases hf : 4000 < a0.size
  · by_cases hk : 4000 < a1.size
    · exact mays_11 a0 a1 W hf h0 hk h1
    · exact mays_10 a0 a1 W hf h0 (by omega)
  · by_cases hk : 4000 < a1.size
    · exact mays_01 a0 a1 W (by omega) hk h1
    · exact mays_00 a0 a1 W (by omega) (by omega)

end Go.Proofs.Ytnlfajikciijjaa

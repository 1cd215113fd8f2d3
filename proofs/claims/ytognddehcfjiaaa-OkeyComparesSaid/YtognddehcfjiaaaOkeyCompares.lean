/- The walk of OkeyCompares. -/
import Derived.Test.YtognddehcfjiaaaOkeyRefC
namespace Go.Proofs.Ytognddehcfjiaaa
open Go.RowKit
set_option linter.unusedVariables false

set_option maxHeartbeats 1000000 in
theorem compares_great (a0 a1 : Option Addr) (n0 c0 n1 c1 : Nat) (l0 l1 : List Pt) (w : World) (s0 : SeesP w (.slice a0 n0 c0) l0) (s1 : SeesP w (.slice a1 n1 c1) l1) (h : greatP l0 = true ∨ greatP l1 = true) :
    Calls Try.prog 5 #[.slice a0 n0 c0, .slice a1 n1 c1] w (Gives (.bool true) w) := by
  have HG0 := Lib.hid (great_any a0 n0 c0 l0 w s0)
  have HG1 := Lib.hid (great_any a1 n1 c1 l1 w s1)
  clear s0 s1
  by_cases h0 : greatP l0 = true
  · rw [h0] at HG0
    clear h h0
    go_enter Try.func5, Try.ntmps5
    go_wp2_with fail
    refine HG0.out.mono ?_
    rintro e w' ⟨rfl, rfl⟩
    go_wp2_with fail
    refine (awake_any _).mono ?_
    rintro e w1 ⟨rfl, hb1⟩
    go_wp2_with fail
    go_ret
    exact ⟨rfl, hb1⟩
  · have h1 : greatP l1 = true := h.resolve_left h0
    rw [Bool.not_eq_true] at h0
    rw [h0] at HG0
    rw [h1] at HG1
    clear h h0 h1
    go_enter Try.func5, Try.ntmps5
    go_wp2_with fail
    refine HG0.out.mono ?_
    rintro e w' ⟨rfl, rfl⟩
    go_wp2_with fail
    refine HG1.out.mono ?_
    rintro e w' ⟨rfl, rfl⟩
    go_wp2_with fail
    refine (awake_any _).mono ?_
    rintro e w1 ⟨rfl, hb1⟩
    go_wp2_with fail
    go_ret
    exact ⟨rfl, hb1⟩

set_option maxRecDepth 100000 in
set_option maxHeartbeats 4000000 in
theorem compares_main (a0 a1 : Option Addr) (n0 c0 n1 c1 : Nat) (l0 l1 : List Pt) (S T : ByteArray) (C : Int) (w : World) (s0 : SeesP w (.slice a0 n0 c0) l0) (s1 : SeesP w (.slice a1 n1 c1) l1)
    (hG0 : greatP l0 = false) (hG1 : greatP l1 = false) (b0 : ∀ i, (l0.getD i pd).n < 18446744073709551616) (b1 : ∀ i, (l1.getD i pd).n < 18446744073709551616)
    (hS : keyl l0 = S.data.toList) (hT : keyl l0 ++ [3] = T.data.toList) (hC : cmpL l0 l1 = C) (hTE : (T.toList == (S ++ ⟨#[3]⟩).toList) = true) (hsz : S.size ≤ 1000000000) :
    Calls Try.prog 5 #[.slice a0 n0 c0, .slice a1 n1 c1] w (Gives (.bool true) w) := by
  obtain ⟨g0, y0, z0⟩ := greatP_no hG0
  obtain ⟨g1, y1, z1⟩ := greatP_no hG1
  have e0 := s0.get.1
  have e1 := s1.get.1
  have HY0 : Hid (∀ i, (l0.getD i pd).s.size ≤ 1000000000) := fun i => by have := y0 i; omega
  have HY1 : Hid (∀ i, (l1.getD i pd).s.size ≤ 1000000000) := fun i => by have := y1 i; omega
  have HN0 : Hid (n0 ≤ 1000000) := by exact Lib.hid (by omega)
  have HN1 : Hid (n1 ≤ 1000000) := by exact Lib.hid (by omega)
  have HZ0 : Hid (sizl l0 ≤ 1000000000) := by exact Lib.hid (by omega)
  have HZ1 : Hid (sizl l1 ≤ 1000000000) := by exact Lib.hid (by omega)
  have HG0 := Lib.hid (great_any a0 n0 c0 l0 w s0); rw [hG0] at HG0
  have HG1 := Lib.hid (great_any a1 n1 c1 l1 w s1); rw [hG1] at HG1
  have HS0 := Lib.hid s0; have HS1 := Lib.hid s1; have HB0 := Lib.hid b0; have HB1 := Lib.hid b1
  have HS := Lib.hid hS; have HT := Lib.hid hT; have HC := Lib.hid hC; have HTE := Lib.hid hTE
  have hadd : ¬ 9223372036854775807 < S.size + 1 := by omega
  clear s0 s1 b0 b1 hS hT hC hG0 hG1 g0 z0 g1 z1 e0 e1 y0 y1 hTE hsz
  go_enter Try.func5, Try.ntmps5
  go_wp2_with fail
  refine HG0.out.mono ?_
  rintro e w' ⟨rfl, rfl⟩
  go_wp2_with fail
  refine HG1.out.mono ?_
  rintro e w' ⟨rfl, rfl⟩
  go_wp2_with fail
  refine (givenS_any _ _ _ l0 _ HS0.out HN0.out).mono ?_
  rintro e w1 ⟨ao1, cap1, rfl, hs1, hb1⟩
  have HW1 := Lib.hid hb1; have HV1 := Lib.hid hs1; clear hb1 hs1
  go_wp2_with fail
  refine (range_any _ _ _ l0 _ HV1.out HN0.out HZ0.out HB0.out).mono ?_
  rintro e w2 ⟨rfl, hb2⟩
  rw [mk_of HS.out, mk_of HT.out]
  have HW2 := Lib.hid (Below.next HW1.out hb2); clear hb2 HV1 HW1
  go_wp2_with fail
  refine (refKey_any _ _ _ l0 _ (HS0.out.below HW2.out) HB0.out HN0.out HZ0.out).mono ?_
  rintro e w3 ⟨rfl, hb3⟩
  rw [mk_of HS.out]
  have HW3 := Lib.hid (Below.next HW2.out hb3); clear hb3 HW2
  go_wp2_with fail
  refine (givenS_any _ _ _ l0 _ (HS0.out.below HW3.out) HN0.out).mono ?_
  rintro e w5 ⟨ao5, cap5, rfl, hs5, hb5⟩
  have HW5 := Lib.hid (Below.next HW3.out hb5); have HV5 := Lib.hid hs5; clear hb5 hs5 HW3
  go_wp2_with fail
  refine (givenS_any _ _ _ l1 _ (HS1.out.below HW5.out) HN1.out).mono ?_
  rintro e w6 ⟨ao6, cap6, rfl, hs6, hb6⟩
  have HW6 := Lib.hid (Below.next HW5.out hb6); have HV6 := Lib.hid hs6; have HV5' := Lib.hid (HV5.out.below hb6); clear hb6 hs6 HV5 HW5
  go_wp2_with fail
  refine (compare_any _ _ _ _ _ _ l0 l1 _ HV5'.out HV6.out HN0.out HN1.out).mono ?_
  rintro e w7 ⟨rfl, hb7⟩
  rw [HC.out]
  have HW7 := Lib.hid (Below.next HW6.out hb7); clear hb7 HV5' HV6 HW6
  go_wp2_with fail
  refine (refCompare_any _ _ _ _ _ _ l0 l1 _ (HS0.out.below HW7.out) (HS1.out.below HW7.out) HN0.out HN1.out HB0.out HB1.out HY0.out HY1.out).mono ?_
  rintro e w8 ⟨rfl, hb8⟩
  rw [HC.out]
  have HW8 := Lib.hid (Below.next HW7.out hb8); clear hb8 HW7
  have hTE := HTE.out
  go_wp2_with fail
  refine (awake_any _).mono ?_
  rintro e w14 ⟨rfl, hb14⟩
  go_wp2_with fail
  go_ret
  exact ⟨rfl, Below.next HW8.out hb14⟩

theorem compares_walk (a0 : Option Addr) (n0 c0 : Nat) (l0 : List Pt) (a1 : Option Addr) (n1 c1 : Nat) (l1 : List Pt) (w : World)
    (s0 : SeesP w (.slice a0 n0 c0) l0) (_e0 : l0.length = n0) (b0 : ∀ i, (l0.getD i pd).n < 18446744073709551616) (s1 : SeesP w (.slice a1 n1 c1) l1) (_e1 : l1.length = n1) (b1 : ∀ i, (l1.getD i pd).n < 18446744073709551616) :
    Calls Try.prog 5 #[.slice a0 n0 c0, .slice a1 n1 c1] w (Gives (.bool true) w) := by
  by_cases h : greatP l0 = true ∨ greatP l1 = true
  · exact compares_great a0 a1 n0 c0 n1 c1 l0 l1 w s0 s1 h
  · have g0 : greatP l0 = false := Bool.not_eq_true _ ▸ fun e => h (Or.inl e)
    have g1 : greatP l1 = false := Bool.not_eq_true _ ▸ fun e => h (Or.inr e)
    obtain ⟨k0, _, z0⟩ := greatP_no g0
    obtain ⟨S, hS⟩ : ∃ S : ByteArray, keyl l0 = S.data.toList := ⟨⟨(keyl l0).toArray⟩, by simp⟩
    obtain ⟨T, hT⟩ : ∃ S : ByteArray, keyl l0 ++ [3] = S.data.toList := ⟨⟨(keyl l0 ++ [3]).toArray⟩, by simp⟩
    have hs0 : S.size ≤ 1000000000 := by have := keyl_length l0; rw [hS, length_list] at this; omega
    refine compares_main a0 a1 n0 c0 n1 c1 l0 l1 S T _ w s0 s1 g0 g1 b0 b1 hS hT rfl ?_ hs0
    rw [ByteArray.toList_eq, ByteArray.toList_eq, app_data, ← hS, ← hT]
    simp

end Go.Proofs.Ytognddehcfjiaaa

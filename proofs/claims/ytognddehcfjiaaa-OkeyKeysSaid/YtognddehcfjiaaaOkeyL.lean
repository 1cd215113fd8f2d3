/- The walk of OkeyOrder. -/
import Derived.Test.YtognddehcfjiaaaOkeyK
import Derived.Test.YtognddehcfjiaaaOkeyMath
namespace Go.Proofs.Ytognddehcfjiaaa
open Go.RowKit
set_option linter.unusedVariables false

/-- A slice of parts comes back that reads so. -/
def GivesP (ps : List Pt) (n : Nat) (w : World) (e : Ending) (w' : World) : Prop := ∃ ao cap, e = .returned (.slice ao n cap) ∧ SeesP w' (.slice ao n cap) ps ∧ Below w.heap.size w w'

theorem GaveP.gives {ps : List Pt} {n : Nat} {w w' : World} {e : Ending} (h : GaveP ps w e w') (hn : ps.length = n) : GivesP ps n w e w' := by
  obtain ⟨v, rfl, ho, hb⟩ := h
  have hs := ho.sees
  subst hn
  rcases ho.2 with ⟨rfl, h0⟩ | ⟨g, cap, cur, rfl, _⟩
  · refine ⟨none, 0, by rw [h0], ?_, hb⟩
    rw [h0]
    exact Or.inl ⟨List.eq_nil_of_length_eq_zero h0, _, _, rfl⟩
  · exact ⟨_, _, rfl, hs, hb⟩
theorem givenS_any (ao : Option Addr) (len cap : Nat) (ps : List Pt) (w : World) (hV : SeesP w (.slice ao len cap) ps) (hl : len ≤ 1000000) :
    Calls Try.prog 19 #[.slice ao len cap] w (GivesP ps len w) :=
  (given_any ao len cap ps w hV hl).mono fun _ _ h => h.gives hV.get.1
theorem plainS_any (ao : Option Addr) (len cap : Nat) (ps : List Pt) (w : World) (hV : SeesP w (.slice ao len cap) ps) (hl : len ≤ 1000000) :
    Calls Try.prog 23 #[.slice ao len cap] w (GivesP (ps.map plainP) len w) :=
  (plain_any ao len cap ps w hV hl).mono fun _ _ h => h.gives (by rw [List.length_map]; exact hV.get.1)
theorem SeesP.on {w0 w w' : World} {v : Value} {ps : List Pt} (h : SeesP w v ps) (h0 : Below w0.heap.size w0 w) (hb : Below w.heap.size w w') : SeesP w' v ps := h.below hb

/-- The helper begins, of lists without what is no matter, tells as keys do. -/
theorem beginsK_any (ao bo : Option Addr) (la ca lb cb : Nat) (xs ys : List Pt) (w : World) (F : Bool) (hA : SeesP w (.slice ao la ca) xs) (hB : SeesP w (.slice bo lb cb) ys) (hla : la ≤ 1000000) (hlb : lb ≤ 1000000) (hF : F = true ↔ ys <+: xs) :
    Calls Try.prog 22 #[.slice ao la ca, .slice bo lb cb] w (Gives (.bool F) w) := by
  cases F with
  | true => exact begins_yes ao bo la ca lb cb xs ys w hA hB hla hlb (hF.1 rfl)
  | false => exact begins_no ao bo la ca lb cb xs ys w hA hB hla hlb (fun h => by have := hF.2 h; cases this)

set_option maxHeartbeats 1000000 in
theorem order_great (a0 a1 : Option Addr) (n0 c0 n1 c1 : Nat) (l0 l1 : List Pt) (w : World) (s0 : SeesP w (.slice a0 n0 c0) l0) (s1 : SeesP w (.slice a1 n1 c1) l1) (h : greatP l0 = true ∨ greatP l1 = true) :
    Calls Try.prog 6 #[.slice a0 n0 c0, .slice a1 n1 c1] w (Gives (.bool true) w) := by
  have HG0 := Lib.hid (great_any a0 n0 c0 l0 w s0)
  have HG1 := Lib.hid (great_any a1 n1 c1 l1 w s1)
  clear s0 s1
  by_cases h0 : greatP l0 = true
  · rw [h0] at HG0
    clear h h0
    go_enter Try.func6, Try.ntmps6
    go_wp2_with fail
    refine HG0.out.mono ?_
    rintro e w' ⟨rfl, rfl⟩
    go_wp2_with fail
    refine (awake_any _).mono ?_
    rintro e w1 ⟨rfl, hb1⟩
    go_wp2_with fail
    go_ret
    exact ⟨rfl, hb1⟩
  · have h1 : greatP l1 = true := h.resolve_left h0
    rw [Bool.not_eq_true] at h0
    rw [h0] at HG0
    rw [h1] at HG1
    clear h h0 h1
    go_enter Try.func6, Try.ntmps6
    go_wp2_with fail
    refine HG0.out.mono ?_
    rintro e w' ⟨rfl, rfl⟩
    go_wp2_with fail
    refine HG1.out.mono ?_
    rintro e w' ⟨rfl, rfl⟩
    go_wp2_with fail
    refine (awake_any _).mono ?_
    rintro e w1 ⟨rfl, hb1⟩
    go_wp2_with fail
    go_ret
    exact ⟨rfl, hb1⟩

theorem mk_of {l : List UInt8} {S : ByteArray} (h : l = S.data.toList) : (⟨l.toArray⟩ : ByteArray) = S := by rw [h]

set_option maxRecDepth 100000 in
set_option maxHeartbeats 4000000 in
theorem order_main (a0 a1 : Option Addr) (n0 c0 n1 c1 : Nat) (l0 l1 : List Pt) (S T : ByteArray) (C : Int) (F : Bool) (w : World) (s0 : SeesP w (.slice a0 n0 c0) l0) (s1 : SeesP w (.slice a1 n1 c1) l1)
    (hG0 : greatP l0 = false) (hG1 : greatP l1 = false) (b0 : ∀ i, (l0.getD i pd).n < 18446744073709551616) (b1 : ∀ i, (l1.getD i pd).n < 18446744073709551616)
    (hS : keyl l0 = S.data.toList) (hT : keyl l1 = T.data.toList) (hC : cmpL l0 l1 = C) (hC2 : cmpL l1 l0 = -C)
    (hB : ((S.toList == T.toList) = false ∧ Op.bytesLess S.toList T.toList = true ∧ C = -1) ∨ ((S.toList == T.toList) = false ∧ Op.bytesLess S.toList T.toList = false ∧ C = 1) ∨ ((S.toList == T.toList) = true ∧ Op.bytesLess S.toList T.toList = false ∧ C = 0))
    (hF : (S.size ≤ T.size ∧ ((T.extract 0 S.size).toList == S.toList) = F) ∨ (T.size < S.size ∧ F = false)) (hP : F = true ↔ l0.map plainP <+: l1.map plainP) :
    Calls Try.prog 6 #[.slice a0 n0 c0, .slice a1 n1 c1] w (Gives (.bool true) w) := by
  obtain ⟨g0, _, z0⟩ := greatP_no hG0
  obtain ⟨g1, _, z1⟩ := greatP_no hG1
  have e0 := s0.get.1
  have e1 := s1.get.1
  have HN0 : Hid (n0 ≤ 1000000) := by exact Lib.hid (by omega)
  have HN1 : Hid (n1 ≤ 1000000) := by exact Lib.hid (by omega)
  have HZ0 : Hid (sizl l0 ≤ 1000000000) := by exact Lib.hid (by omega)
  have HZ1 : Hid (sizl l1 ≤ 1000000000) := by exact Lib.hid (by omega)
  have HG0 := Lib.hid (great_any a0 n0 c0 l0 w s0); rw [hG0] at HG0
  have HG1 := Lib.hid (great_any a1 n1 c1 l1 w s1); rw [hG1] at HG1
  have HS0 := Lib.hid s0; have HS1 := Lib.hid s1; have HB0 := Lib.hid b0; have HB1 := Lib.hid b1
  have HS := Lib.hid hS; have HT := Lib.hid hT; have HC := Lib.hid hC; have HC2 := Lib.hid hC2; have HB := Lib.hid hB; have HF := Lib.hid hF; have HP := Lib.hid hP
  clear s0 s1 b0 b1 hS hT hC hC2 hB hF hP hG0 hG1 g0 z0 g1 z1 e0 e1
  go_enter Try.func6, Try.ntmps6
  go_wp2_with fail
  refine HG0.out.mono ?_
  rintro e w' ⟨rfl, rfl⟩
  go_wp2_with fail
  refine HG1.out.mono ?_
  rintro e w' ⟨rfl, rfl⟩
  go_wp2_with fail
  refine (givenS_any _ _ _ l0 _ HS0.out HN0.out).mono ?_
  rintro e w1 ⟨ao1, cap1, rfl, hs1, hb1⟩
  have HW1 := Lib.hid hb1; have HV1 := Lib.hid hs1; clear hb1 hs1
  go_wp2_with fail
  refine (key_any _ _ _ l0 _ HV1.out HN0.out HZ0.out HB0.out).mono ?_
  rintro e w2 ⟨rfl, hb2⟩
  rw [mk_of HS.out]
  have HW2 := Lib.hid (Below.next HW1.out hb2); clear hb2
  go_wp2_with fail
  refine (givenS_any _ _ _ l1 _ (HS1.out.below HW2.out) HN1.out).mono ?_
  rintro e w3 ⟨ao3, cap3, rfl, hs3, hb3⟩
  have HW3 := Lib.hid (Below.next HW2.out hb3); have HV3 := Lib.hid hs3; clear hb3 hs3
  go_wp2_with fail
  refine (key_any _ _ _ l1 _ HV3.out HN1.out HZ1.out HB1.out).mono ?_
  rintro e w4 ⟨rfl, hb4⟩
  rw [mk_of HT.out]
  have HW4 := Lib.hid (Below.next HW3.out hb4); clear hb4
  have hB := HB.out
  have hF := HF.out
  clear HB HF HG0 HG1 HW1 HW2 HW3 HV1 HV3
  rcases hB with ⟨hl1, hl2, rfl⟩ | ⟨hl1, hl2, rfl⟩ | ⟨hl1, hl2, rfl⟩ <;> rcases hF with ⟨hf1, hf2⟩ | ⟨hf1, rfl⟩
  all_goals
    go_wp2_with fail
    refine (givenS_any _ _ _ l0 _ (HS0.out.below HW4.out) HN0.out).mono ?_
    rintro e w5 ⟨ao5, cap5, rfl, hs5, hb5⟩
    have HW5 := Lib.hid (Below.next HW4.out hb5); have HV5 := Lib.hid hs5; clear hb5 hs5
    go_wp2_with fail
    refine (givenS_any _ _ _ l1 _ (HS1.out.below HW5.out) HN1.out).mono ?_
    rintro e w6 ⟨ao6, cap6, rfl, hs6, hb6⟩
    have HW6 := Lib.hid (Below.next HW5.out hb6); have HV6 := Lib.hid hs6; have HV5' := Lib.hid (HV5.out.below hb6); clear hb6 hs6 HV5
    go_wp2_with fail
    refine (compare_any _ _ _ _ _ _ l0 l1 _ HV5'.out HV6.out HN0.out HN1.out).mono ?_
    rintro e w7 ⟨rfl, hb7⟩
    rw [HC.out]
    have HW7 := Lib.hid (Below.next HW6.out hb7); clear hb7 HV5' HV6
    go_wp2_with fail
    refine (givenS_any _ _ _ l1 _ (HS1.out.below HW7.out) HN1.out).mono ?_
    rintro e w8 ⟨ao8, cap8, rfl, hs8, hb8⟩
    have HW8 := Lib.hid (Below.next HW7.out hb8); have HV8 := Lib.hid hs8; clear hb8 hs8
    go_wp2_with fail
    refine (givenS_any _ _ _ l0 _ (HS0.out.below HW8.out) HN0.out).mono ?_
    rintro e w9 ⟨ao9, cap9, rfl, hs9, hb9⟩
    have HW9 := Lib.hid (Below.next HW8.out hb9); have HV9 := Lib.hid hs9; have HV8' := Lib.hid (HV8.out.below hb9); clear hb9 hs9 HV8
    go_wp2_with fail
    refine (compare_any _ _ _ _ _ _ l1 l0 _ HV8'.out HV9.out HN1.out HN0.out).mono ?_
    rintro e w10 ⟨rfl, hb10⟩
    rw [HC2.out]
    have HW10 := Lib.hid (Below.next HW9.out hb10); clear hb10 HV8' HV9
    go_wp2_with fail
    refine (plainS_any _ _ _ l1 _ (HS1.out.below HW10.out) HN1.out).mono ?_
    rintro e w11 ⟨ao11, cap11, rfl, hs11, hb11⟩
    have HW11 := Lib.hid (Below.next HW10.out hb11); have HV11 := Lib.hid hs11; clear hb11 hs11
    go_wp2_with fail
    refine (plainS_any _ _ _ l0 _ (HS0.out.below HW11.out) HN0.out).mono ?_
    rintro e w12 ⟨ao12, cap12, rfl, hs12, hb12⟩
    have HW12 := Lib.hid (Below.next HW11.out hb12); have HV12 := Lib.hid hs12; have HV11' := Lib.hid (HV11.out.below hb12); clear hb12 hs12 HV11
    go_wp2_with fail
    refine (beginsK_any _ _ _ _ _ _ (l1.map plainP) (l0.map plainP) _ _ HV11'.out HV12.out HN1.out HN0.out HP.out).mono ?_
    rintro e w13 ⟨rfl, hb13⟩
    have HW13 := Lib.hid (Below.next HW12.out hb13); clear hb13 HV11' HV12
    go_wp2_with fail
    refine (awake_any _).mono ?_
    rintro e w14 ⟨rfl, hb14⟩
    go_wp2_with fail
    go_ret
    exact ⟨rfl, Below.next HW13.out hb14⟩

end Go.Proofs.Ytognddehcfjiaaa

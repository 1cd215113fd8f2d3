/- The walk of OkeyKeys. -/
import Derived.Test.YtognddehcfjiaaaOkeyRefD
namespace Go.Proofs.Ytognddehcfjiaaa
open Go.RowKit
set_option linter.unusedVariables false

/-- What is read of a text: whether, and what. -/
def Reads (X : ByteArray) (B : Bool) (Q : List Pt) : Prop := (prl X.data.toList = none ∧ B = false ∧ Q = []) ∨ (prl X.data.toList = some Q ∧ B = true)
def ReadP (B : Bool) (Q : List Pt) (w : World) (e : Ending) (w' : World) : Prop := ∃ ao n cap, e = .returned (.tuple #[.slice ao n cap, .bool B]) ∧ SeesP w' (.slice ao n cap) Q ∧ Below w.heap.size w w'

theorem partsB_any (X : ByteArray) (B : Bool) (Q : List Pt) (w : World) (hX : X.size ≤ 1000000000) (h : Reads X B Q) :
    Calls Try.prog 9 #[.string X] w (ReadP B Q w) := by
  rcases h with ⟨h, rfl, rfl⟩ | ⟨h, rfl⟩
  · exact (partsS_none X w hX h).mono fun e w' ⟨he, hb⟩ => ⟨none, 0, 0, he, Or.inl ⟨rfl, _, _, rfl⟩, hb⟩
  · exact (partsS_some X Q _ w hX h rfl).mono fun e w' ⟨ao, cap, he, hs, hb⟩ => ⟨ao, _, cap, he, hs, hb⟩
theorem refPartsB_any (X : ByteArray) (B : Bool) (Q : List Pt) (w : World) (hX : X.size ≤ 1000000000) (h : Reads X B Q) :
    Calls Try.prog 18 #[.string X] w (ReadP B Q w) := by
  refine (refParts_any X w hX).mono ?_
  rintro e w' ⟨hb, hp⟩
  rcases h with ⟨h, rfl, rfl⟩ | ⟨h, rfl⟩
  · rw [h] at hp
    rcases hp with ⟨_, rfl⟩ | ⟨_, _, _, _, h2, _⟩
    · exact ⟨none, 0, 0, rfl, Or.inl ⟨rfl, _, _, rfl⟩, hb⟩
    · cases h2
  · rw [h] at hp
    rcases hp with ⟨h2, _⟩ | ⟨ps, ao, n, cap, h2, rfl, hs⟩
    · cases h2
    · simp only [Option.some.injEq] at h2
      subst h2
      exact ⟨ao, n, cap, rfl, hs, hb⟩

set_option maxHeartbeats 1000000 in
theorem keys_great (a0 : Option Addr) (n0 c0 : Nat) (l0 : List Pt) (s : ByteArray) (w : World) (s0 : SeesP w (.slice a0 n0 c0) l0) (h0 : greatP l0 = true) :
    Calls Try.prog 4 #[.slice a0 n0 c0, .string s] w (Gives (.bool true) w) := by
  have HG0 := Lib.hid (great_any a0 n0 c0 l0 w s0)
  clear s0
  rw [h0] at HG0
  clear h0
  go_enter Try.func4, Try.ntmps4
  go_wp2_with fail
  refine HG0.out.mono ?_
  rintro e w' ⟨rfl, rfl⟩
  go_wp2_with fail
  refine (awake_any _).mono ?_
  rintro e w1 ⟨rfl, hb1⟩
  go_wp2_with fail
  go_ret
  exact ⟨rfl, hb1⟩

set_option maxRecDepth 100000 in
set_option maxHeartbeats 4000000 in
theorem keys_main (a0 : Option Addr) (n0 c0 : Nat) (l0 : List Pt) (s X : ByteArray) (B : Bool) (Q : List Pt) (w : World) (s0 : SeesP w (.slice a0 n0 c0) l0) (hG0 : greatP l0 = false) (b0 : ∀ i, (l0.getD i pd).n < 18446744073709551616)
    (hX : (s.size ≤ 5000 ∧ X = s) ∨ (5000 < s.size ∧ s.extract 0 5000 = X)) (hXs : X.size ≤ 5000) (hs : s.size ≤ 9223372036854775807) (hQ : Reads X B Q) (hQl : Q.length ≤ 5000) :
    Calls Try.prog 4 #[.slice a0 n0 c0, .string s] w (Gives (.bool true) w) := by
  obtain ⟨g0, y0, z0⟩ := greatP_no hG0
  have e0 := s0.get.1
  obtain ⟨_, b, off, hcA⟩ := s0.get
  obtain ⟨S, hS⟩ : ∃ S : ByteArray, keyl l0 = S.data.toList := ⟨⟨(keyl l0).toArray⟩, by simp⟩
  have HN0 : Hid (n0 ≤ 1000000) := by exact Lib.hid (by omega)
  have HZ0 : Hid (sizl l0 ≤ 1000000000) := by exact Lib.hid (by omega)
  have HG0 := Lib.hid (great_any a0 n0 c0 l0 w s0); rw [hG0] at HG0
  have HY0 := Lib.hid y0
  have HS0 := Lib.hid s0; have HB0 := Lib.hid b0; have HS := Lib.hid hS; have HCA := Lib.hid hcA
  have HX : Hid (X.size ≤ 1000000000) := by exact Lib.hid (by omega)
  have HQ := Lib.hid hQ; have HQL := Lib.hid hQl
  clear s0 b0 hS hG0 g0 z0 e0 hXs y0 hcA hQ hQl
  rcases hX with ⟨hx, rfl⟩ | ⟨hx, hx2⟩
  all_goals
    try have HX2 := Lib.hid hx2
    try clear hx2
    go_enter Try.func4, Try.ntmps4
    go_wp2_with fail
    refine HG0.out.mono ?_
    rintro e w' ⟨rfl, rfl⟩
    go_wp2_with fail
    try rw [HX2.out]
    refine (refKey_any _ _ _ l0 _ HS0.out HB0.out HN0.out HZ0.out).mono ?_
    rintro e w1 ⟨rfl, hb1⟩
    rw [mk_of HS.out]
    have HW1 := Lib.hid hb1; clear hb1
    go_wp2_with fail
    refine (partsB_any X B Q _ HX.out HQ.out).mono ?_
    rintro e w2 ⟨ao2, m2, cap2, rfl, hs2, hb2⟩
    have HW2 := Lib.hid (Below.next HW1.out hb2); have HV2 := Lib.hid hs2; clear hb2 hs2 HW1
    go_wp2_with fail
    refine (refPartsB_any X B Q _ HX.out HQ.out).mono ?_
    rintro e w3 ⟨ao3, m3, cap3, rfl, hs3, hb3⟩
    have HW3 := Lib.hid (Below.next HW2.out hb3); have HV3 := Lib.hid hs3; have HV2' := Lib.hid (HV2.out.below hb3); clear hb3 hs3 HW2 HV2
    go_wp2_with fail
    go_loopw [10] (fun i wr => ∃ k : Nat, k ≤ n0 ∧ i = .int .i64 k ∧ Below w3.heap.size w3 wr) (fun i _ => n0 - (intOf i).toNat)
    case atStart => exact ⟨0, Nat.zero_le _, rfl, Below.refl _ _⟩
    case round =>
      obtain ⟨k, hk, rfl, hbel⟩ := hrel
      have hsz := hbel.size
      by_cases hlt : k < n0
      · obtain ⟨rfl, hba, hpa⟩ := HCA.out k hlt
        obtain ⟨c0, c1, c2⟩ := hpa.below (Below.next HW3.out hbel) hba
        have hbw : b < wr.heap.size := Nat.lt_of_lt_of_le hba (Nat.le_trans HW3.out.size hsz)
        have HX0 := Lib.hid (HY0.out k)
        clear hpa
        generalize l0.getD k pd = x at *
        obtain ⟨xt, xs, xn⟩ := x
        dsimp only at c0 c1 c2 HX0
        have hk0 : (0 : Int) ≤ (k : Int) := by omega
        have hk1 : (k : Int) < (n0 : Int) := by omega
        have hn0 := HN0.out
        go_wp2_with fail
        go_region_held3 (fun w' => w'.cell? ⟨b, off + k * 3 + 1, none⟩ = some (.string xs) ∧ w'.cell? ⟨b, off + k * 3 + 2, none⟩ = some (.int .u64 xn))
          (first
            | go_keep
            | (go_split_ands
               refine ⟨?_, ?_⟩
               · (rw [hb5.cell (p := ⟨b, off + k * 3 + 1, none⟩) (by have := hb4.size; simp at this ⊢; omega)]; first | assumption | simp)
               · (rw [hb5.cell (p := ⟨b, off + k * 3 + 2, none⟩) (by have := hb4.size; simp at this ⊢; omega)]; first | assumption | simp))
            | (go_split_ands
               refine ⟨?_, ?_⟩
               · (rw [hb4.cell (p := ⟨b, off + k * 3 + 1, none⟩) hbw]; first | assumption | simp)
               · (rw [hb4.cell (p := ⟨b, off + k * 3 + 2, none⟩) hbw]; first | assumption | simp)))
          (first
            | (go_at_call 11; refine (num_any xn _).mono ?_; rintro e w4 ⟨rfl, hb4⟩; unfold partV)
            | (go_at_call 12; refine (str_any xs _ (by have := HX0.out; omega)).mono ?_; rintro e w5 ⟨rfl, hb5⟩; unfold partV))
        have R1 : Below w3.heap.size w3 w5 := (hbel.drew.trans (hb4.mono hsz)).trans (hb5.mono (by have := hb4.size; simp at this; omega))
        clear hb4 hb5 c0 c1 c2
        go_wp2_with fail
        go_roundw
        case rel => exact ⟨k + 1, by omega, by go_num, R1⟩
        case measure => simp [intOf]; omega
      · have HWr := Lib.hid (Below.next HW3.out hbel)
        have HV2 := Lib.hid (HV2'.out.below hbel); have HV3' := Lib.hid (HV3.out.below hbel)
        clear hbel HW3 HV2' HV3 hsz
        go_wp2_with fail
        refine (givenS_any _ _ _ l0 _ (HS0.out.below HWr.out) HN0.out).mono ?_
        rintro e w6 ⟨ao6, cap6, rfl, hs6, hb6⟩
        have HW6 := Lib.hid (Below.next HWr.out hb6); have HV6 := Lib.hid hs6; have HV2' := Lib.hid (HV2.out.below hb6); have HV3 := Lib.hid (HV3'.out.below hb6); clear hb6 hs6 HWr HV2 HV3'
        go_wp2_with fail
        refine (key_any _ _ _ l0 _ HV6.out HN0.out HZ0.out HB0.out).mono ?_
        rintro e w7 ⟨rfl, hb7⟩
        rw [mk_of HS.out]
        have HW7 := Lib.hid (Below.next HW6.out hb7); have HV2 := Lib.hid (HV2'.out.below hb7); have HV3' := Lib.hid (HV3.out.below hb7); clear hb7 HW6 HV6 HV2' HV3
        go_wp2_with fail
        refine (same_yes _ _ _ _ _ _ Q _ HV2.out HV3'.out (by have h1 := HV2.out.get.1; have h2 := HQL.out; omega)).mono ?_
        rintro e w8 ⟨rfl, hb8⟩
        have HW8 := Lib.hid (Below.next HW7.out hb8); clear hb8 HW7 HV2 HV3'
        go_wp2_with fail
        refine (awake_any _).mono ?_
        rintro e w9 ⟨rfl, hb9⟩
        go_wp2_with fail
        go_ret
        exact ⟨rfl, Below.next HW8.out hb9⟩

theorem keys_walk (a0 : Option Addr) (n0 c0 : Nat) (l0 : List Pt) (s : ByteArray) (w : World)
    (s0 : SeesP w (.slice a0 n0 c0) l0) (_e0 : l0.length = n0) (b0 : ∀ i, (l0.getD i pd).n < 18446744073709551616) (hs : s.size ≤ 9223372036854775807) :
    Calls Try.prog 4 #[.slice a0 n0 c0, .string s] w (Gives (.bool true) w) := by
  by_cases h : greatP l0 = true
  · exact keys_great a0 n0 c0 l0 s w s0 h
  · rw [Bool.not_eq_true] at h
    have fin : ∀ X : ByteArray, ((s.size ≤ 5000 ∧ X = s) ∨ (5000 < s.size ∧ s.extract 0 5000 = X)) → X.size ≤ 5000 → Calls Try.prog 4 #[.slice a0 n0 c0, .string s] w (Gives (.bool true) w) := by
      intro X hX hXs
      cases hp : prl X.data.toList with
      | none => exact keys_main a0 n0 c0 l0 s X false [] w s0 h b0 hX hXs hs (Or.inl ⟨hp, rfl, rfl⟩) (by simp)
      | some Q =>
        have h1 := (keyl_prl _ _ Q (Nat.le_refl _) hp).1
        have h2 := (keyl_ge Q).1
        rw [h1, length_list] at h2
        exact keys_main a0 n0 c0 l0 s X true Q w s0 h b0 hX hXs hs (Or.inr ⟨hp, rfl⟩) (by omega)
    by_cases hx : s.size ≤ 5000
    · exact fin s (Or.inl ⟨hx, rfl⟩) hx
    · exact fin _ (Or.inr ⟨by omega, rfl⟩) (by rw [size_cut s (by omega)]; exact Nat.le_refl _)

end Go.Proofs.Ytognddehcfjiaaa

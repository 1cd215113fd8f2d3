/- The walk of OkeyBack. -/
import Derived.Test.YtognddehcfjiaaaOkeyL
namespace Go.Proofs.Ytognddehcfjiaaa
open Go.RowKit
set_option linter.unusedVariables false

theorem esc_ge (l : List UInt8) : l.length ≤ (esc l).length := by
  induction l with
  | nil => simp [esc]
  | cons b l ih =>
    have : 1 ≤ (esc1 b).length := by unfold esc1; split <;> simp
    simp only [esc, List.flatMap_cons, List.length_append, List.length_cons] at ih ⊢
    omega
theorem ptl_ge (p : Pt) : 1 ≤ (ptl p).length := by
  obtain ⟨c, r, h, _⟩ := ptl_head p
  rw [h]; simp
theorem keyl_ge (ps : List Pt) : ps.length ≤ (keyl ps).length ∧ sizl (ps.map plainP) ≤ (keyl ps).length := by
  induction ps with
  | nil => simp [keyl, sizl]
  | cons p ps ih =>
    have h1 := ptl_ge p
    have h2 : (plainP p).s.size ≤ (ptl p).length := by
      obtain ⟨t, s, n⟩ := p
      cases t
      · exact Nat.zero_le _
      · have := esc_ge s.data.toList
        rw [length_list] at this
        rw [ptl_text]
        simp [plainP]; omega
    rw [keyl_cons, List.length_append, List.length_cons, List.map_cons, sizl]
    omega
theorem rp_plain {l : List UInt8} {p : Pt} {k : Nat} (h : rp l = some (p, k)) : plainP p = p := by
  cases l with
  | nil => cases h
  | cons b r =>
    by_cases h1 : b = 1
    · subst h1
      rw [rp_one, Option.map_eq_some_iff] at h
      obtain ⟨⟨n, j⟩, hx, h⟩ := h
      simp only [Prod.mk.injEq] at h
      obtain ⟨rfl, rfl⟩ := h
      rfl
    · by_cases h2 : b = 2
      · subst h2
        rw [rp_two, Option.map_eq_some_iff] at h
        obtain ⟨⟨x, j⟩, hx, h⟩ := h
        simp only [Prod.mk.injEq] at h
        obtain ⟨rfl, rfl⟩ := h
        rfl
      · rw [rp_bad _ _ h1 h2] at h; cases h
theorem prl_plain : ∀ (m : Nat) (l : List UInt8) (ps : List Pt), l.length ≤ m → prl l = some ps → ps.map plainP = ps
  | _, [], ps, _, h => by
    rw [prl_nil] at h
    simp only [Option.some.injEq] at h
    subst h
    rfl
  | 0, _ :: _, _, hm, _ => by simp at hm
  | m + 1, b :: r, ps, hm, h => by
    cases hr : rp (b :: r) with
    | none => rw [prl_none (by simp) hr] at h; cases h
    | some y =>
      obtain ⟨p, k⟩ := y
      have hk := rp_le hr
      rw [prl_some hr, Option.map_eq_some_iff] at h
      obtain ⟨qs, hq, rfl⟩ := h
      rw [List.map_cons, rp_plain hr, prl_plain m _ qs (by rw [List.length_drop]; omega) hq]

/-- Parts of any text: none, or a list that reads so. -/
theorem partsS_some (s : ByteArray) (ps : List Pt) (n : Nat) (w : World) (hs : s.size ≤ 1000000000) (h : prl s.data.toList = some ps) (hn : ps.length = n) :
    Calls Try.prog 9 #[.string s] w fun e w' => ∃ ao cap, e = .returned (.tuple #[.slice ao n cap, .bool true]) ∧ SeesP w' (.slice ao n cap) ps ∧ Below w.heap.size w w' := by
  refine (parts_any s w hs).mono ?_
  rintro e w' ⟨hb, hp⟩
  rcases hp with ⟨h0, _⟩ | ⟨qs, v, h1, rfl, ho⟩
  · rw [h] at h0; cases h0
  · rw [h] at h1
    simp only [Option.some.injEq] at h1
    subst h1
    obtain ⟨ao, cap, he, hs, _⟩ := GaveP.gives (e := .returned v) (w := w) ⟨v, rfl, ho, hb⟩ hn
    simp only [Ending.returned.injEq] at he
    subst he
    exact ⟨ao, cap, rfl, hs, hb⟩
theorem partsS_none (s : ByteArray) (w : World) (hs : s.size ≤ 1000000000) (h : prl s.data.toList = none) :
    Calls Try.prog 9 #[.string s] w (Gives (.tuple #[.slice none 0 0, .bool false]) w) := by
  refine (parts_any s w hs).mono ?_
  rintro e w' ⟨hb, hp⟩
  rcases hp with ⟨_, rfl⟩ | ⟨qs, v, h1, rfl, ho⟩
  · exact ⟨rfl, hb⟩
  · rw [h] at h1; cases h1

set_option maxHeartbeats 1000000 in
theorem back_great (a0 : Option Addr) (n0 c0 : Nat) (l0 : List Pt) (s : ByteArray) (w : World) (s0 : SeesP w (.slice a0 n0 c0) l0) (h0 : greatP l0 = true) :
    Calls Try.prog 7 #[.slice a0 n0 c0, .string s] w (Gives (.bool true) w) := by
  have HG0 := Lib.hid (great_any a0 n0 c0 l0 w s0)
  clear s0
  rw [h0] at HG0
  clear h0
  go_enter Try.func7, Try.ntmps7
  go_wp2_with fail
  refine HG0.out.mono ?_
  rintro e w' ⟨rfl, rfl⟩
  go_wp2_with fail
  refine (awake_any _).mono ?_
  rintro e w1 ⟨rfl, hb1⟩
  go_wp2_with fail
  go_ret
  exact ⟨rfl, hb1⟩

theorem size_cut (s : ByteArray) (h : 5000 < s.size) : (s.extract 0 5000).size = 5000 := by rw [ByteArray.size_extract]; omega

set_option maxRecDepth 100000 in
set_option maxHeartbeats 4000000 in
theorem back_main (a0 : Option Addr) (n0 c0 : Nat) (l0 : List Pt) (s X : ByteArray) (w : World) (s0 : SeesP w (.slice a0 n0 c0) l0) (hG0 : greatP l0 = false) (b0 : ∀ i, (l0.getD i pd).n < 18446744073709551616)
    (hX : (s.size ≤ 5000 ∧ X = s) ∨ (5000 < s.size ∧ s.extract 0 5000 = X)) (hXs : X.size ≤ 5000) (hs : s.size ≤ 9223372036854775807) :
    Calls Try.prog 7 #[.slice a0 n0 c0, .string s] w (Gives (.bool true) w) := by
  obtain ⟨g0, _, z0⟩ := greatP_no hG0
  have e0 := s0.get.1
  have o0 := OkN.of b0
  obtain ⟨S, hS⟩ : ∃ S : ByteArray, keyl l0 = S.data.toList := ⟨⟨(keyl l0).toArray⟩, by simp⟩
  have hSz : S.size ≤ 1000000000 := by
    have := keyl_length l0
    rw [hS, length_list] at this
    omega
  have HPS : Hid (prl S.data.toList = some (l0.map plainP)) := by rw [← hS]; exact Lib.hid (prl_keyl l0 o0)
  have HN0 : Hid (n0 ≤ 1000000) := by exact Lib.hid (by omega)
  have HZ0 : Hid (sizl l0 ≤ 1000000000) := by exact Lib.hid (by omega)
  have HM0 : Hid ((l0.map plainP).length = n0) := by rw [List.length_map]; exact Lib.hid e0
  have HG0 := Lib.hid (great_any a0 n0 c0 l0 w s0); rw [hG0] at HG0
  have HS0 := Lib.hid s0; have HB0 := Lib.hid b0; have HS := Lib.hid hS; have HSZ := Lib.hid hSz
  have HX := Lib.hid hXs
  clear s0 b0 hS hSz hG0 g0 z0 e0 o0 hXs
  rcases hX with ⟨hx, rfl⟩ | ⟨hx, hx2⟩
  all_goals
    try have HX2 := Lib.hid hx2
    try clear hx2
    go_enter Try.func7, Try.ntmps7
    go_wp2_with fail
    refine HG0.out.mono ?_
    rintro e w' ⟨rfl, rfl⟩
    go_wp2_with fail
    try rw [HX2.out]
    refine (plainS_any _ _ _ l0 _ HS0.out HN0.out).mono ?_
    rintro e w1 ⟨ao1, cap1, rfl, hs1, hb1⟩
    have HW1 := Lib.hid hb1; have HV1 := Lib.hid hs1; clear hb1 hs1
    go_wp2_with fail
    refine (givenS_any _ _ _ l0 _ (HS0.out.below HW1.out) HN0.out).mono ?_
    rintro e w2 ⟨ao2, cap2, rfl, hs2, hb2⟩
    have HW2 := Lib.hid (Below.next HW1.out hb2); have HV2 := Lib.hid hs2; have HV1' := Lib.hid (HV1.out.below hb2); clear hb2 hs2 HV1
    go_wp2_with fail
    refine (key_any _ _ _ l0 _ HV2.out HN0.out HZ0.out HB0.out).mono ?_
    rintro e w3 ⟨rfl, hb3⟩
    rw [mk_of HS.out]
    have HW3 := Lib.hid (Below.next HW2.out hb3); have HV1'' := Lib.hid (HV1'.out.below hb3); clear hb3 HV1' HV2
    go_wp2_with fail
    refine (partsS_some S _ n0 _ HSZ.out HPS.out HM0.out).mono ?_
    rintro e w4 ⟨ao4, cap4, rfl, hs4, hb4⟩
    have HW4 := Lib.hid (Below.next HW3.out hb4); have HV4 := Lib.hid hs4; have HV1 := Lib.hid (HV1''.out.below hb4); clear hb4 hs4 HV1''
    go_wp2_with fail
    refine (begins_yes _ _ _ _ _ _ (l0.map plainP) (l0.map plainP) _ HV4.out HV1.out HN0.out HN0.out (List.prefix_refl _)).mono ?_
    rintro e w5 ⟨rfl, hb5⟩
    have HW5 := Lib.hid (Below.next HW4.out hb5); clear hb5 HV4 HV1
    go_wp2_with fail
    cases hpx : prl X.data.toList with
    | none =>
      have HPX := Lib.hid hpx; clear hpx
      refine (partsS_none X _ (by have := HX.out; omega) HPX.out).mono ?_
      rintro e w6 ⟨rfl, hb6⟩
      have HW6 := Lib.hid (Below.next HW5.out hb6); clear hb6
      go_wp2_with fail
      refine (awake_any _).mono ?_
      rintro e w7 ⟨rfl, hb7⟩
      go_wp2_with fail
      go_ret
      exact ⟨rfl, Below.next HW6.out hb7⟩
    | some qs =>
      obtain ⟨hq1, hq2⟩ := keyl_prl _ _ qs (Nat.le_refl _) hpx
      have hq3 := keyl_ge qs
      rw [prl_plain _ _ qs (Nat.le_refl _) hpx, hq1, length_list] at hq3
      obtain ⟨n, hn⟩ : ∃ n, qs.length = n := ⟨_, rfl⟩
      have HNN := Lib.hid hn
      have HQ1 := Lib.hid hq1; have HQ2 := Lib.hid hq2; have HQ3 := Lib.hid hq3
      have HPX := Lib.hid hpx; clear hpx hq1 hq2 hq3 hn
      have HN1 : Hid (n ≤ 1000000) := by have := HQ3.out.1; have := HNN.out; have := HX.out; exact Lib.hid (by omega)
      have HZ1 : Hid (sizl qs ≤ 1000000000) := by have := HQ3.out.2; have := HX.out; exact Lib.hid (by omega)
      refine (partsS_some X qs n _ (by have := HX.out; omega) HPX.out HNN.out).mono ?_
      rintro e w6 ⟨ao6, cap6, rfl, hs6, hb6⟩
      have HW6 := Lib.hid (Below.next HW5.out hb6); have HV6 := Lib.hid hs6; clear hb6 hs6
      go_wp2_with fail
      refine (key_any _ _ _ qs _ HV6.out HN1.out HZ1.out HQ2.out.get).mono ?_
      rintro e w7 ⟨rfl, hb7⟩
      rw [mk_of HQ1.out]
      have HW7 := Lib.hid (Below.next HW6.out hb7); clear hb7 HV6
      go_wp2_with fail
      refine (awake_any _).mono ?_
      rintro e w8 ⟨rfl, hb8⟩
      go_wp2_with fail
      go_ret
      exact ⟨rfl, Below.next HW7.out hb8⟩

theorem back_walk (a0 : Option Addr) (n0 c0 : Nat) (l0 : List Pt) (s : ByteArray) (w : World)
    (s0 : SeesP w (.slice a0 n0 c0) l0) (_e0 : l0.length = n0) (b0 : ∀ i, (l0.getD i pd).n < 18446744073709551616) (hs : s.size ≤ 9223372036854775807) :
    Calls Try.prog 7 #[.slice a0 n0 c0, .string s] w (Gives (.bool true) w) := by
  by_cases h : greatP l0 = true
  · exact back_great a0 n0 c0 l0 s w s0 h
  · rw [Bool.not_eq_true] at h
    by_cases hx : s.size ≤ 5000
    · exact back_main a0 n0 c0 l0 s s w s0 h b0 (Or.inl ⟨hx, rfl⟩) hx hs
    · exact back_main a0 n0 c0 l0 s _ w s0 h b0 (Or.inr ⟨by omega, rfl⟩) (by rw [size_cut s (by omega)]; exact Nat.le_refl _) hs

end Go.Proofs.Ytognddehcfjiaaa

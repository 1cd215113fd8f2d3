/- The walk of OkeyRange. -/
import Derived.Test.YtognddehcfjiaaaOkeyRangeA
namespace Go.Proofs.Ytognddehcfjiaaa
open Go.RowKit
set_option linter.unusedVariables false

set_option maxHeartbeats 1000000 in
theorem range_great (a0 a1 : Option Addr) (n0 c0 n1 c1 : Nat) (l0 l1 : List Pt) (w : World) (s0 : SeesP w (.slice a0 n0 c0) l0) (s1 : SeesP w (.slice a1 n1 c1) l1) (h : greatP l0 = true ∨ greatP l1 = true) :
    Calls Try.prog 8 #[.slice a0 n0 c0, .slice a1 n1 c1] w (Gives (.bool true) w) := by
  have HG0 := Lib.hid (great_any a0 n0 c0 l0 w s0)
  have HG1 := Lib.hid (great_any a1 n1 c1 l1 w s1)
  clear s0 s1
  by_cases h0 : greatP l0 = true
  · rw [h0] at HG0
    clear h h0
    go_enter Try.func8, Try.ntmps8
    go_wp2_with fail
    refine HG0.out.mono ?_
    rintro e w' ⟨rfl, rfl⟩
    go_wp2_with fail
    refine (awake_any _).mono ?_
    rintro e w1 ⟨rfl, hb1⟩
    go_wp2_with fail
    go_ret
    exact ⟨rfl, hb1⟩
  · have h1 : greatP l1 = true := h.resolve_left h0
    rw [Bool.not_eq_true] at h0
    rw [h0] at HG0
    rw [h1] at HG1
    clear h h0 h1
    go_enter Try.func8, Try.ntmps8
    go_wp2_with fail
    refine HG0.out.mono ?_
    rintro e w' ⟨rfl, rfl⟩
    go_wp2_with fail
    refine HG1.out.mono ?_
    rintro e w' ⟨rfl, rfl⟩
    go_wp2_with fail
    refine (awake_any _).mono ?_
    rintro e w1 ⟨rfl, hb1⟩
    go_wp2_with fail
    go_ret
    exact ⟨rfl, hb1⟩

theorem OwnsP.slice {w : World} {base : Nat} {v : Value} {ps : List Pt} (h : OwnsP w base v ps) : ∃ ao cap, v = .slice ao ps.length cap := by
  rcases h.2 with ⟨rfl, h0⟩ | ⟨g, cap, cur, rfl, _⟩
  · exact ⟨none, 0, by rw [h0]⟩
  · exact ⟨_, _, rfl⟩

set_option maxRecDepth 100000 in
set_option maxHeartbeats 4000000 in
theorem range_main (a0 a1 : Option Addr) (n0 c0 n1 c1 : Nat) (l0 l1 : List Pt) (S T U V : ByteArray) (F : Bool) (w : World) (s0 : SeesP w (.slice a0 n0 c0) l0) (s1 : SeesP w (.slice a1 n1 c1) l1)
    (hG0 : greatP l0 = false) (hG1 : greatP l1 = false) (b0 : ∀ i, (l0.getD i pd).n < 18446744073709551616) (b1 : ∀ i, (l1.getD i pd).n < 18446744073709551616) (b2 : ∀ i, ((l0 ++ l1).getD i pd).n < 18446744073709551616) (hz : sizl (l0 ++ l1) ≤ 1000000000)
    (hS : keyl l0 = S.data.toList) (hT : keyl l0 ++ [3] = T.data.toList) (hU : keyl l1 = U.data.toList) (hV : keyl (l0 ++ l1) = V.data.toList)
    (hB : (Op.bytesLess S.toList U.toList = false ∧ (S.toList == U.toList) = true ∧ Op.bytesLess U.toList T.toList = true ∧ F = true) ∨ (Op.bytesLess S.toList U.toList = true ∧ (S.toList == U.toList) = false ∧ Op.bytesLess U.toList T.toList = F) ∨ (Op.bytesLess S.toList U.toList = false ∧ (S.toList == U.toList) = false ∧ F = false))
    (hL : (Op.bytesLess S.toList V.toList = false ∧ (S.toList == V.toList) = true) ∨ (Op.bytesLess S.toList V.toList = true ∧ (S.toList == V.toList) = false)) (hVT : Op.bytesLess V.toList T.toList = true) (hVE : (V.toList == (S ++ U).toList) = true) (hsz : S.size + U.size ≤ 1000000000)
    (hP : F = true ↔ l0.map plainP <+: l1.map plainP) :
    Calls Try.prog 8 #[.slice a0 n0 c0, .slice a1 n1 c1] w (Gives (.bool true) w) := by
  obtain ⟨g0, _, z0⟩ := greatP_no hG0
  obtain ⟨g1, _, z1⟩ := greatP_no hG1
  have e0 := s0.get.1
  have e1 := s1.get.1
  have HN0 : Hid (n0 ≤ 1000000) := by exact Lib.hid (by omega)
  have HN1 : Hid (n1 ≤ 1000000) := by exact Lib.hid (by omega)
  have HZ0 : Hid (sizl l0 ≤ 1000000000) := by exact Lib.hid (by omega)
  have HZ1 : Hid (sizl l1 ≤ 1000000000) := by exact Lib.hid (by omega)
  have HLL : Hid (l0.length ≤ 60 ∧ l1.length ≤ 60 ∧ n0 ≤ 60 ∧ n1 ≤ 60) := by exact Lib.hid (by omega)
  have HG0 := Lib.hid (great_any a0 n0 c0 l0 w s0); rw [hG0] at HG0
  have HG1 := Lib.hid (great_any a1 n1 c1 l1 w s1); rw [hG1] at HG1
  have HS0 := Lib.hid s0; have HS1 := Lib.hid s1; have HB0 := Lib.hid b0; have HB1 := Lib.hid b1; have HB2 := Lib.hid b2; have HZ2 := Lib.hid hz
  have HS := Lib.hid hS; have HT := Lib.hid hT; have HU := Lib.hid hU; have HV := Lib.hid hV; have HB := Lib.hid hB; have HL := Lib.hid hL; have HP := Lib.hid hP
  have hadd : ¬ 9223372036854775807 < S.size + U.size := by omega
  have HVT := Lib.hid hVT; have HVE := Lib.hid hVE
  clear s0 s1 b0 b1 b2 hS hT hU hV hB hL hP hG0 hG1 g0 z0 g1 z1 e0 e1 hz hVT hVE hsz
  go_enter Try.func8, Try.ntmps8
  go_wp2_with fail
  refine HG0.out.mono ?_
  rintro e w' ⟨rfl, rfl⟩
  go_wp2_with fail
  refine HG1.out.mono ?_
  rintro e w' ⟨rfl, rfl⟩
  go_wp2_with fail
  refine (givenS_any _ _ _ l0 _ HS0.out HN0.out).mono ?_
  rintro e w1 ⟨ao1, cap1, rfl, hs1, hb1⟩
  have HW1 := Lib.hid hb1; have HV1 := Lib.hid hs1; clear hb1 hs1
  go_wp2_with fail
  refine (range_any _ _ _ l0 _ HV1.out HN0.out HZ0.out HB0.out).mono ?_
  rintro e w2 ⟨rfl, hb2⟩
  rw [mk_of HS.out, mk_of HT.out]
  have HW2 := Lib.hid (Below.next HW1.out hb2); clear hb2 HV1 HW1
  go_wp2_with fail
  have HO := Lib.hid (ownsP_empty w2)
  have hx3 : Below w2.heap.size w2 (w2.alloc (.cells #[] 28)) := (Below.refl _ _).alloc (Nat.le_refl _) _
  have HW3 := Lib.hid (Below.next HW2.out hx3); have HX3 := Lib.hid hx3; clear hx3
  refine (givenS_any _ _ _ l0 _ (HS0.out.below HW3.out) HN0.out).mono ?_
  rintro e w4 ⟨ao4, cap4, rfl, hs4, hb4⟩
  have hraw4 : OwnsP w4 w2.heap.size (.slice (some ⟨w2.heap.size, 0, none⟩) 0 0) [] := ownsRow_below HO.out hb4
  have HX4 := Lib.hid (Below.next HX3.out hb4); clear HX3
  have hz4 := HX4.out.size
  have HW4 := Lib.hid (Below.next HW3.out hb4); have HV4 := Lib.hid hs4; clear hb4 hs4 HW3 HO
  go_wp2_with (at_builtin; go_must (refine wpList_append_seesP rfl _ _ rfl w2.heap.size _ [] rfl hraw4 _ _ _ l0 rfl HV4.out ?c1 ?c2 ?_))
  case c1 => have := HLL.out; simp; omega
  case c2 => exact hz4
  intro v5 w5 hown5 hgrow5
  have HX5 := Lib.hid (HX4.out.grown hgrow5 hz4 (fun k hk => (hraw4.lt k hk).1)); clear HX4 hgrow5 hraw4 hz4 HV4
  have HO5 := Lib.hid hown5; clear hown5
  have HW5 := Lib.hid (Below.next HW2.out HX5.out); clear HW4
  go_wp2_with fail
  refine (givenS_any _ _ _ l1 _ (HS1.out.below HW5.out) HN1.out).mono ?_
  rintro e w6 ⟨ao6, cap6, rfl, hs6, hb6⟩
  have hraw6 : OwnsP w6 w2.heap.size v5 l0 := ownsRow_below HO5.out hb6
  have HX6 := Lib.hid (Below.next HX5.out hb6); have HV6 := Lib.hid hs6; clear hb6 hs6 HX5 HO5 HW5
  have hz6 := HX6.out.size
  go_wp2_with (at_builtin; go_must (refine wpList_append_seesP rfl _ _ rfl w2.heap.size _ l0 rfl hraw6 _ _ _ l1 rfl HV6.out ?d1 ?d2 ?_))
  case d1 => have := HLL.out; omega
  case d2 => exact hz6
  intro v7 w7 hown7 hgrow7
  have HX7 := Lib.hid (HX6.out.grown hgrow7 hz6 (fun k hk => (hraw6.lt k hk).1)); clear HX6 hgrow7 hraw6 hz6 HV6
  obtain ⟨ao7, cap7, rfl⟩ := hown7.slice
  have HV7 := Lib.hid hown7.sees; clear hown7
  have HN7 : Hid ((l0 ++ l1).length ≤ 1000000) := by have := HLL.out; rw [List.length_append]; exact Lib.hid (by omega)
  generalize (l0 ++ l1).length = n7 at *
  have HW7 := Lib.hid (Below.next HW2.out HX7.out); clear HX7 HW2
  go_wp2_with fail
  refine (givenS_any _ _ _ l1 _ (HS1.out.below HW7.out) HN1.out).mono ?_
  rintro e w8 ⟨ao8, cap8, rfl, hs8, hb8⟩
  have HW8 := Lib.hid (Below.next HW7.out hb8); have HV8 := Lib.hid hs8; have HV7' := Lib.hid (HV7.out.below hb8); clear hb8 hs8 HW7 HV7
  go_wp2_with fail
  refine (key_any _ _ _ l1 _ HV8.out HN1.out HZ1.out HB1.out).mono ?_
  rintro e w9 ⟨rfl, hb9⟩
  rw [mk_of HU.out]
  have HW9 := Lib.hid (Below.next HW8.out hb9); have HV7 := Lib.hid (HV7'.out.below hb9); clear hb9 HW8 HV8 HV7'
  go_wp2_with fail
  refine (key_any _ _ _ (l0 ++ l1) _ HV7.out HN7.out HZ2.out HB2.out).mono ?_
  rintro e w10 ⟨rfl, hb10⟩
  rw [mk_of HV.out]
  have HW10 := Lib.hid (Below.next HW9.out hb10); clear hb10 HW9 HV7
  have hB := HB.out
  have hL := HL.out
  have hVT := HVT.out
  have hVE := HVE.out
  clear HB HL HVT HVE HG0 HG1
  rcases hB with ⟨hl1, hl2, hl3, rfl⟩ | ⟨hl1, hl2, hl3⟩ | ⟨hl1, hl2, rfl⟩ <;> rcases hL with ⟨hf1, hf2⟩ | ⟨hf1, hf2⟩
  all_goals
    go_wp2_with fail
    refine (plainS_any _ _ _ l1 _ (HS1.out.below HW10.out) HN1.out).mono ?_
    rintro e w11 ⟨ao11, cap11, rfl, hs11, hb11⟩
    have HW11 := Lib.hid (Below.next HW10.out hb11); have HV11 := Lib.hid hs11; clear hb11 hs11
    go_wp2_with fail
    refine (plainS_any _ _ _ l0 _ (HS0.out.below HW11.out) HN0.out).mono ?_
    rintro e w12 ⟨ao12, cap12, rfl, hs12, hb12⟩
    have HW12 := Lib.hid (Below.next HW11.out hb12); have HV12 := Lib.hid hs12; have HV11' := Lib.hid (HV11.out.below hb12); clear hb12 hs12 HV11
    go_wp2_with fail
    first | refine (beginsK_any _ _ _ _ _ _ (l1.map plainP) (l0.map plainP) _ _ HV11'.out HV12.out HN1.out HN0.out HP.out).mono ?_ | refine (beginsK_any _ _ _ _ _ _ (l1.map plainP) (l0.map plainP) _ true HV11'.out HV12.out HN1.out HN0.out (by simpa using HP.out)).mono ?_
    rintro e w13 ⟨rfl, hb13⟩
    have HW13 := Lib.hid (Below.next HW12.out hb13); clear hb13 HV11' HV12
    go_wp2_with fail
    refine (awake_any _).mono ?_
    rintro e w14 ⟨rfl, hb14⟩
    go_wp2_with fail
    go_ret
    exact ⟨rfl, Below.next HW13.out hb14⟩

theorem keyl_none' : keyl [] = [] := rfl
theorem sizl_append (a b : List Pt) : sizl (a ++ b) = sizl a + sizl b := by
  induction a with
  | nil => simp [sizl]
  | cons p a ih => rw [List.cons_append, sizl, sizl, ih]; omega
theorem app_list (A B : ByteArray) : (A ++ B).toList = A.data.toList ++ B.data.toList := by
  rw [ByteArray.toList_eq, ByteArray.data_append, Array.toList_append]

theorem range_walk (a0 : Option Addr) (n0 c0 : Nat) (l0 : List Pt) (a1 : Option Addr) (n1 c1 : Nat) (l1 : List Pt) (w : World)
    (s0 : SeesP w (.slice a0 n0 c0) l0) (_e0 : l0.length = n0) (b0 : ∀ i, (l0.getD i pd).n < 18446744073709551616) (s1 : SeesP w (.slice a1 n1 c1) l1) (_e1 : l1.length = n1) (b1 : ∀ i, (l1.getD i pd).n < 18446744073709551616) :
    Calls Try.prog 8 #[.slice a0 n0 c0, .slice a1 n1 c1] w (Gives (.bool true) w) := by
  by_cases h : greatP l0 = true ∨ greatP l1 = true
  · exact range_great a0 a1 n0 c0 n1 c1 l0 l1 w s0 s1 h
  · have g0 : greatP l0 = false := Bool.not_eq_true _ ▸ fun e => h (Or.inl e)
    have g1 : greatP l1 = false := Bool.not_eq_true _ ▸ fun e => h (Or.inr e)
    obtain ⟨k0, _, z0⟩ := greatP_no g0
    obtain ⟨k1, _, z1⟩ := greatP_no g1
    have o0 := OkN.of b0
    have o1 := OkN.of b1
    have o2 : OkN (l0 ++ l1) := fun p hp => (List.mem_append.1 hp).elim (o0 p) (o1 p)
    obtain ⟨S, hS⟩ : ∃ S : ByteArray, keyl l0 = S.data.toList := ⟨⟨(keyl l0).toArray⟩, by simp⟩
    obtain ⟨T, hT⟩ : ∃ S : ByteArray, keyl l0 ++ [3] = S.data.toList := ⟨⟨(keyl l0 ++ [3]).toArray⟩, by simp⟩
    obtain ⟨U, hU⟩ : ∃ S : ByteArray, keyl l1 = S.data.toList := ⟨⟨(keyl l1).toArray⟩, by simp⟩
    obtain ⟨V, hV⟩ : ∃ S : ByteArray, keyl (l0 ++ l1) = S.data.toList := ⟨⟨(keyl (l0 ++ l1)).toArray⟩, by simp⟩
    have hS' : S.toList = keyl l0 := by rw [ByteArray.toList_eq, hS]
    have hT' : T.toList = keyl l0 ++ [3] := by rw [ByteArray.toList_eq, hT]
    have hU' : U.toList = keyl l1 := by rw [ByteArray.toList_eq, hU]
    have hV' : V.toList = keyl l0 ++ keyl l1 := by rw [ByteArray.toList_eq, ← hV, keyl_append]
    have hs0 : S.size ≤ 100000 := by have := keyl_length l0; rw [hS, length_list] at this; omega
    have hs1 : U.size ≤ 100000 := by have := keyl_length l1; rw [hU, length_list] at this; omega
    have hk := key_begins l0 l1 o0 o1
    obtain ⟨F, hF⟩ : ∃ F : Bool, F = decide (keyl l0 <+: keyl l1) := ⟨_, rfl⟩
    refine range_main a0 a1 n0 c0 n1 c1 l0 l1 S T U V F w s0 s1 g0 g1 b0 b1 (OkN.get o2) (by rw [sizl_append]; omega) hS hT hU hV ?_ ?_ ?_ ?_ (by omega) (by rw [hF, decide_eq_true_iff]; exact hk)
    · rw [hS', hT', hU']
      rcases tri l0 l1 o0 o1 with ⟨t, h1, h2⟩ | ⟨t, h1, h2⟩ | ⟨t, h1, h2⟩ | ⟨t, r, hh, h1, h2⟩ | ⟨t, r, hh, h1, h2⟩
      · have e : keyl l0 = keyl l1 := by rw [← keyl_plain l0, ← keyl_plain l1, t]
        exact Or.inl ⟨by rw [e, Nm.bytesLess_self], by rw [e]; simp, by rw [e]; exact (bytesLess_more _ _ _).1, by rw [hF, e]; simp⟩
      · refine Or.inr (Or.inl ⟨(bytesLess_of_parts t).1, ?_, ?_⟩)
        · rw [beq_eq_false_iff_ne]; intro e
          exact (parts_not_pre t).1 (by rw [e]; exact List.prefix_refl _)
        · have hh := Nm.bytesLess_parts t [3] []
          rw [List.append_nil] at hh
          rw [hh.2, hF]
          exact (decide_eq_false (parts_not_pre t).1).symm
      · refine Or.inr (Or.inr ⟨(bytesLess_of_parts t).2, ?_, ?_⟩)
        · rw [beq_eq_false_iff_ne]; intro e
          exact (parts_not_pre t).1 (by rw [e]; exact List.prefix_refl _)
        · rw [hF]
          exact decide_eq_false (parts_not_pre t).2
      · obtain ⟨c, u, hc, h3⟩ := ptl_head (plainP t)
        have e : keyl l1 = keyl l0 ++ c :: (u ++ keyl (r.map plainP)) := by rw [← keyl_plain l1, hh, keyl_append, keyl_plain l0, List.map_cons, keyl_cons, hc]; rfl
        have hp : Nm.Parts (keyl l1) (keyl l0 ++ [3]) := ⟨keyl l0, c, 3, _, [], e, rfl, h3⟩
        refine Or.inr (Or.inl ⟨by rw [e]; exact (bytesLess_more _ _ _).1, ?_, ?_⟩)
        · rw [beq_eq_false_iff_ne]; intro e2
          have := congrArg List.length e2
          rw [e, List.length_append, List.length_cons] at this
          omega
        · rw [(bytesLess_of_parts hp).1, hF]
          exact (decide_eq_true ⟨_, e.symm⟩).symm
      · obtain ⟨c, u, hc, _⟩ := ptl_head (plainP t)
        have e : keyl l0 = keyl l1 ++ c :: (u ++ keyl (r.map plainP)) := by rw [← keyl_plain l0, hh, keyl_append, keyl_plain l1, List.map_cons, keyl_cons, hc]; rfl
        refine Or.inr (Or.inr ⟨by rw [e]; exact (bytesLess_more _ _ _).2, ?_, ?_⟩)
        · rw [beq_eq_false_iff_ne]; intro e2
          have := congrArg List.length e2
          rw [e, List.length_append, List.length_cons] at this
          omega
        · rw [hF, decide_eq_false_iff_not]
          intro hp
          have := hp.length_le
          rw [e, List.length_append, List.length_cons] at this
          omega
    · rw [hS', hV']
      cases l1 with
      | nil => exact Or.inl ⟨by rw [keyl_none', List.append_nil, Nm.bytesLess_self], by rw [keyl_none', List.append_nil]; simp⟩
      | cons p r =>
        obtain ⟨c, u, hc, _⟩ := ptl_head p
        rw [keyl_cons, hc, List.cons_append]
        refine Or.inr ⟨(bytesLess_more _ _ _).1, ?_⟩
        rw [beq_eq_false_iff_ne]; intro e2
        have := congrArg List.length e2
        rw [List.length_append, List.length_cons] at this
        omega
    · rw [hV', hT']
      cases l1 with
      | nil => rw [keyl_none', List.append_nil]; exact (bytesLess_more _ _ _).1
      | cons p r =>
        obtain ⟨c, u, hc, h3⟩ := ptl_head p
        have hp : Nm.Parts (keyl l0 ++ keyl (p :: r)) (keyl l0 ++ [3]) := ⟨keyl l0, c, 3, u ++ keyl r, [], by rw [keyl_cons, hc, List.cons_append], rfl, h3⟩
        exact (bytesLess_of_parts hp).1
    · rw [hV', app_list, ← hS, ← hU]; simp

end Go.Proofs.Ytognddehcfjiaaa

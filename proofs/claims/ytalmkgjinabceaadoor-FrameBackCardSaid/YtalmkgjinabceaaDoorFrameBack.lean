/- The walk of FrameBack. -/
import Derived.Test.YtalmkgjinabceaaDoorFrE
namespace Go.Proofs.YtalmkgjinabceaaDoor
open Go.RowKit

theorem bytes_take (s : ByteArray) (k : Nat) : (⟨(s.data.toList.take k).toArray⟩ : ByteArray) = s.extract 0 k := by
  apply ByteArray.ext; apply Array.toList_inj.1
  rw [Cr.extract_list, List.drop_zero, Nat.sub_zero]
theorem short_long {ss : List ByteArray} (h : ∀ s ∈ ss, s.size ≤ 524288) : ∀ s ∈ ss, s.size ≤ 9223372036854775807 := fun s hs => Nat.le_trans (h s hs) (by decide)

set_option maxRecDepth 100000 in
set_option maxHeartbeats 4000000 in
theorem back_walk (S : ByteArray) (w : World) (hT : Tab w) (_hS : S.size ≤ 9223372036854775807) :
    Calls Tryd.prog 8 #[.string S] w (Gives (.bool true) w) := by
  have HT := Lib.hid hT; clear hT
  have hx6 : (S.extract 0 6000).size ≤ 6000 := by rw [Cr.size_extract']; omega
  go_enter Tryd.func8, Tryd.ntmps8
  by_cases h6 : 6000 < S.size
  · have h6' : (6000 : Int) < S.size := by omega
    clear h6
    go_wp2_with fail
    generalize S.extract 0 6000 = s at *
    obtain ⟨rs, W, hP⟩ : ∃ rs W, Cr.rda s.data.toList = (rs, W) := ⟨_, _, rfl⟩
    obtain ⟨p1, p2, p3, p4, p5, p6⟩ := Cr.rda_spec _ _ _ _ (Nat.le_refl _) hP
    rw [Cr.size_list] at p2
    have HX6 := Lib.hid hx6
    have hW : (W : Int) ≤ s.size := by omega
    have hW6 : (W : Int) ≤ 6000 := by omega
    have hm : ((W : Int) % 32) = 0 := by omega
    have HFR : Hid ((⟨(Cr.frames rs).toArray⟩ : ByteArray) = s.extract 0 W) := by rw [p1]; exact Lib.hid (bytes_take s W)
    have HR1 : Hid (Cr.rda (s.extract W s.size).data.toList = ([], 0)) := by rw [drop_list, Cr.rda_none p4]; exact Lib.hid rfl
    have HR2 : Hid (0 < W → (Cr.rda (s.extract 0 (W - 1)).data.toList).1.length + 1 = rs.length) := Lib.hid (fun h0 => by
      have e : (s.extract 0 (W - 1)).data.toList = s.data.toList.take (W - 1) := by rw [Cr.extract_list, List.drop_zero, Nat.sub_zero]
      rw [e]; exact Cr.rda_less hP h0)
    have HSH := Lib.hid p5
    have HLEN := Lib.hid p6
    have HP := Lib.hid hP
    have hrl : (rs.length : Int) ≤ 6000 := by omega
    clear p1 p2 p3 p4 p5 p6 hP hx6
    refine (fread_any s _ HT.out (by have := HX6.out; omega)).mono ?_
    rintro e w1 ⟨v1, rfl, ho1, hb1⟩
    rw [HP.out] at ho1 ⊢
    obtain ⟨a1, c1, rfl, hs1⟩ := ho1.at
    have HB1 := Lib.hid hb1; have HS1 := Lib.hid hs1; clear hb1 hs1 ho1 HP
    dsimp only
    go_wp2_with fail
    refine (write_any _ _ _ rs _ HS1.out (HT.out.below HB1.out) (short_long HSH.out) (by omega)).mono ?_
    rintro e w2 ⟨rfl, hb2⟩
    rw [wrV_ok HSH.out, HFR.out]
    have HB2 : Hid (Below w.heap.size w w2) := Lib.hid (Below.next HB1.out hb2)
    clear hb2 HB1
    go_wp2_with fail
    refine (fread_any _ _ (HT.out.below HB2.out) (by rw [Cr.size_extract']; have := HX6.out; omega)).mono ?_
    rintro e w3 ⟨v3, rfl, ho3, hb3⟩
    rw [HR1.out] at ho3 ⊢
    obtain ⟨a3, c3, rfl, hs3⟩ := ho3.at
    have HB3 : Hid (Below w.heap.size w w3) := Lib.hid (Below.next HB2.out hb3)
    clear hb3 HB2 ho3 hs3
    dsimp only [List.length_nil]
    by_cases h0 : W = 0
    · subst h0
      have hr0 : rs.length = 0 := by have := HLEN.out; omega
      rw [hr0] at *
      clear hr0
      go_wp2_with fail
      refine (awake_any _ (HT.out.below HB3.out)).mono ?_
      rintro e w4 ⟨rfl, hb4⟩
      have HB4 : Hid (Below w.heap.size w w4) := Lib.hid (Below.next HB3.out hb4)
      clear hb4
      go_wp2_with fail
      go_ret
      exact ⟨rfl, HB4.out⟩
    · have h0' : (0 : Int) < (W : Int) := by omega
      have HR3 := Lib.hid (HR2.out (by omega))
      obtain ⟨us, U, hU⟩ : ∃ us U, Cr.rda (s.extract 0 (W - 1)).data.toList = (us, U) := ⟨_, _, rfl⟩
      rw [hU] at HR3
      have HU := Lib.hid hU
      have hw1 : (((W - 1 : Nat) : Int)) = (W : Int) - 1 := by omega
      have hz0 : ((W : Int) == 0) = false := by rw [beq_eq_false_iff_ne]; omega
      have hlu : (us.length : Int) = (rs.length : Int) - 1 := by have := HR3.out; dsimp only at this; omega
      clear h0 hU HR3
      go_wp2_with fail
      refine (fread_any _ _ (HT.out.below HB3.out) (by rw [Cr.size_extract']; have := HX6.out; omega)).mono ?_
      rintro e w4 ⟨v4, rfl, ho4, hb4⟩
      rw [HU.out] at ho4 ⊢
      obtain ⟨a4, c4, rfl, hs4⟩ := ho4.at
      have HB4 : Hid (Below w.heap.size w w4) := Lib.hid (Below.next HB3.out hb4)
      clear hb4 HB3 ho4 hs4
      dsimp only
      go_wp2_with fail
      refine (awake_any _ (HT.out.below HB4.out)).mono ?_
      rintro e w5 ⟨rfl, hb5⟩
      have HB5 : Hid (Below w.heap.size w w5) := Lib.hid (Below.next HB4.out hb5)
      clear hb5
      go_wp2_with fail
      go_ret
      exact ⟨rfl, HB5.out⟩
  · have hx : S.size ≤ 6000 := by omega
    have h6' : (S.size : Int) ≤ 6000 := by omega
    clear h6 hx6
    have hx6 := hx
    clear hx
    go_wp2_with fail
    obtain ⟨s, rfl⟩ : ∃ s, s = S := ⟨_, rfl⟩
    obtain ⟨rs, W, hP⟩ : ∃ rs W, Cr.rda s.data.toList = (rs, W) := ⟨_, _, rfl⟩
    obtain ⟨p1, p2, p3, p4, p5, p6⟩ := Cr.rda_spec _ _ _ _ (Nat.le_refl _) hP
    rw [Cr.size_list] at p2
    have HX6 := Lib.hid hx6
    have hW : (W : Int) ≤ s.size := by omega
    have hW6 : (W : Int) ≤ 6000 := by omega
    have hm : ((W : Int) % 32) = 0 := by omega
    have HFR : Hid ((⟨(Cr.frames rs).toArray⟩ : ByteArray) = s.extract 0 W) := by rw [p1]; exact Lib.hid (bytes_take s W)
    have HR1 : Hid (Cr.rda (s.extract W s.size).data.toList = ([], 0)) := by rw [drop_list, Cr.rda_none p4]; exact Lib.hid rfl
    have HR2 : Hid (0 < W → (Cr.rda (s.extract 0 (W - 1)).data.toList).1.length + 1 = rs.length) := Lib.hid (fun h0 => by
      have e : (s.extract 0 (W - 1)).data.toList = s.data.toList.take (W - 1) := by rw [Cr.extract_list, List.drop_zero, Nat.sub_zero]
      rw [e]; exact Cr.rda_less hP h0)
    have HSH := Lib.hid p5
    have HLEN := Lib.hid p6
    have HP := Lib.hid hP
    have hrl : (rs.length : Int) ≤ 6000 := by omega
    clear p1 p2 p3 p4 p5 p6 hP hx6
    refine (fread_any s _ HT.out (by have := HX6.out; omega)).mono ?_
    rintro e w1 ⟨v1, rfl, ho1, hb1⟩
    rw [HP.out] at ho1 ⊢
    obtain ⟨a1, c1, rfl, hs1⟩ := ho1.at
    have HB1 := Lib.hid hb1; have HS1 := Lib.hid hs1; clear hb1 hs1 ho1 HP
    dsimp only
    go_wp2_with fail
    refine (write_any _ _ _ rs _ HS1.out (HT.out.below HB1.out) (short_long HSH.out) (by omega)).mono ?_
    rintro e w2 ⟨rfl, hb2⟩
    rw [wrV_ok HSH.out, HFR.out]
    have HB2 : Hid (Below w.heap.size w w2) := Lib.hid (Below.next HB1.out hb2)
    clear hb2 HB1
    go_wp2_with fail
    refine (fread_any _ _ (HT.out.below HB2.out) (by rw [Cr.size_extract']; have := HX6.out; omega)).mono ?_
    rintro e w3 ⟨v3, rfl, ho3, hb3⟩
    rw [HR1.out] at ho3 ⊢
    obtain ⟨a3, c3, rfl, hs3⟩ := ho3.at
    have HB3 : Hid (Below w.heap.size w w3) := Lib.hid (Below.next HB2.out hb3)
    clear hb3 HB2 ho3 hs3
    dsimp only [List.length_nil]
    by_cases h0 : W = 0
    · subst h0
      have hr0 : rs.length = 0 := by have := HLEN.out; omega
      rw [hr0] at *
      clear hr0
      go_wp2_with fail
      refine (awake_any _ (HT.out.below HB3.out)).mono ?_
      rintro e w4 ⟨rfl, hb4⟩
      have HB4 : Hid (Below w.heap.size w w4) := Lib.hid (Below.next HB3.out hb4)
      clear hb4
      go_wp2_with fail
      go_ret
      exact ⟨rfl, HB4.out⟩
    · have h0' : (0 : Int) < (W : Int) := by omega
      have HR3 := Lib.hid (HR2.out (by omega))
      obtain ⟨us, U, hU⟩ : ∃ us U, Cr.rda (s.extract 0 (W - 1)).data.toList = (us, U) := ⟨_, _, rfl⟩
      rw [hU] at HR3
      have HU := Lib.hid hU
      have hw1 : (((W - 1 : Nat) : Int)) = (W : Int) - 1 := by omega
      have hz0 : ((W : Int) == 0) = false := by rw [beq_eq_false_iff_ne]; omega
      have hlu : (us.length : Int) = (rs.length : Int) - 1 := by have := HR3.out; dsimp only at this; omega
      clear h0 hU HR3
      go_wp2_with fail
      refine (fread_any _ _ (HT.out.below HB3.out) (by rw [Cr.size_extract']; have := HX6.out; omega)).mono ?_
      rintro e w4 ⟨v4, rfl, ho4, hb4⟩
      rw [HU.out] at ho4 ⊢
      obtain ⟨a4, c4, rfl, hs4⟩ := ho4.at
      have HB4 : Hid (Below w.heap.size w w4) := Lib.hid (Below.next HB3.out hb4)
      clear hb4 HB3 ho4 hs4
      dsimp only
      go_wp2_with fail
      refine (awake_any _ (HT.out.below HB4.out)).mono ?_
      rintro e w5 ⟨rfl, hb5⟩
      have HB5 : Hid (Below w.heap.size w w5) := Lib.hid (Below.next HB4.out hb5)
      clear hb5
      go_wp2_with fail
      go_ret
      exact ⟨rfl, HB5.out⟩

end Go.Proofs.YtalmkgjinabceaaDoor

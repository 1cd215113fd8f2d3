/- The walk of FrameReads. -/
import Derived.Test.YtalmkgjinabceaaDoorFrE
import Derived.Test.YtalmkgjinabceaaDoorFrS
namespace Go.Proofs.YtalmkgjinabceaaDoor
open Go.RowKit

set_option maxRecDepth 100000 in
set_option maxHeartbeats 4000000 in
theorem reads_walk (S : ByteArray) (w : World) (hT : Tab w) (_hS : S.size ≤ 9223372036854775807) :
    Calls Tryd.prog 6 #[.string S] w (Gives (.bool true) w) := by
  have HT := Lib.hid hT; clear hT
  have hx6 : (S.extract 0 6000).size ≤ 6000 := by rw [Cr.size_extract']; omega
  go_enter Tryd.func6, Tryd.ntmps6
  by_cases h6 : 6000 < S.size
  · have h6' : (6000 : Int) < S.size := by omega
    clear h6
    go_wp2_with fail
    generalize S.extract 0 6000 = s at *
    obtain ⟨rs, W, hP⟩ : ∃ rs W, Cr.rda s.data.toList = (rs, W) := ⟨_, _, rfl⟩
    obtain ⟨p1, p2, p3, p4, p5, p6⟩ := Cr.rda_spec _ _ _ _ (Nat.le_refl _) hP
    rw [Cr.size_list] at p2
    have HX6 : Hid (s.size ≤ 1000000000) := Lib.hid (by omega)
    have HRL : Hid (rs.length ≤ 1000000000) := Lib.hid (by omega)
    have HP := Lib.hid hP
    clear p1 p2 p3 p4 p5 p6 hP hx6
    refine (fread_any s _ HT.out HX6.out).mono ?_
    rintro e w1 ⟨v1, rfl, ho1, hb1⟩
    rw [HP.out] at ho1 ⊢
    obtain ⟨a1, c1, rfl, hs1⟩ := ho1.at
    have HB1 := Lib.hid hb1; have HS1 := Lib.hid hs1; clear hb1 hs1 ho1
    dsimp only
    go_wp2_with fail
    refine (refRead4_any s _ HX6.out).mono ?_
    rintro e w2 ⟨v2, rfl, ho2, hb2⟩
    rw [HP.out] at ho2 ⊢
    obtain ⟨a2, c2, rfl, hs2⟩ := ho2.at
    have HB2 : Hid (Below w.heap.size w w2) := Lib.hid (Below.next HB1.out hb2)
    have HS1b := Lib.hid (HS1.out.below hb2); have HS2 := Lib.hid hs2; clear hb2 hs2 ho2 HB1 HS1 HP
    dsimp only at HS2 HS1b ⊢
    go_wp2_with fail
    have h9 := same_yes a1 a2 rs.length c1 rs.length c2 rs w2 HS1b.out HS2.out HRL.out
    refine h9.mono ?_
    rintro e w3 ⟨rfl, hb3⟩
    have HB3 : Hid (Below w.heap.size w w3) := Lib.hid (Below.next HB2.out hb3); clear hb3 HB2 HS1b HS2 h9
    go_wp2_with fail
    refine (awake_any _ (HT.out.below HB3.out)).mono ?_
    rintro e w4 ⟨rfl, hb4⟩
    have HB4 : Hid (Below w.heap.size w w4) := Lib.hid (Below.next HB3.out hb4); clear hb4 HB3
    go_wp2_with fail
    go_ret
    exact ⟨rfl, HB4.out⟩
  · have hx : S.size ≤ 6000 := by omega
    have h6' : (S.size : Int) ≤ 6000 := by omega
    clear h6 hx6
    have hx6 := hx
    clear hx
    go_wp2_with fail
    obtain ⟨s, rfl⟩ : ∃ s, s = S := ⟨_, rfl⟩
    obtain ⟨rs, W, hP⟩ : ∃ rs W, Cr.rda s.data.toList = (rs, W) := ⟨_, _, rfl⟩
    obtain ⟨p1, p2, p3, p4, p5, p6⟩ := Cr.rda_spec _ _ _ _ (Nat.le_refl _) hP
    rw [Cr.size_list] at p2
    have HX6 : Hid (s.size ≤ 1000000000) := Lib.hid (by omega)
    have HRL : Hid (rs.length ≤ 1000000000) := Lib.hid (by omega)
    have HP := Lib.hid hP
    clear p1 p2 p3 p4 p5 p6 hP hx6
    refine (fread_any s _ HT.out HX6.out).mono ?_
    rintro e w1 ⟨v1, rfl, ho1, hb1⟩
    rw [HP.out] at ho1 ⊢
    obtain ⟨a1, c1, rfl, hs1⟩ := ho1.at
    have HB1 := Lib.hid hb1; have HS1 := Lib.hid hs1; clear hb1 hs1 ho1
    dsimp only
    go_wp2_with fail
    refine (refRead4_any s _ HX6.out).mono ?_
    rintro e w2 ⟨v2, rfl, ho2, hb2⟩
    rw [HP.out] at ho2 ⊢
    obtain ⟨a2, c2, rfl, hs2⟩ := ho2.at
    have HB2 : Hid (Below w.heap.size w w2) := Lib.hid (Below.next HB1.out hb2)
    have HS1b := Lib.hid (HS1.out.below hb2); have HS2 := Lib.hid hs2; clear hb2 hs2 ho2 HB1 HS1 HP
    dsimp only at HS2 HS1b ⊢
    go_wp2_with fail
    have h9 := same_yes a1 a2 rs.length c1 rs.length c2 rs w2 HS1b.out HS2.out HRL.out
    refine h9.mono ?_
    rintro e w3 ⟨rfl, hb3⟩
    have HB3 : Hid (Below w.heap.size w w3) := Lib.hid (Below.next HB2.out hb3); clear hb3 HB2 HS1b HS2 h9
    go_wp2_with fail
    refine (awake_any _ (HT.out.below HB3.out)).mono ?_
    rintro e w4 ⟨rfl, hb4⟩
    have HB4 : Hid (Below w.heap.size w w4) := Lib.hid (Below.next HB3.out hb4); clear hb4 HB3
    go_wp2_with fail
    go_ret
    exact ⟨rfl, HB4.out⟩

end Go.Proofs.YtalmkgjinabceaaDoor

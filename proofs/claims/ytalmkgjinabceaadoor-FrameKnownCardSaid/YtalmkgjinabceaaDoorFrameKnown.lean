/- The walk of FrameKnown. -/
import Derived.Test.YtalmkgjinabceaaDoorFrE
import Derived.Test.YtalmkgjinabceaaDoorAppS
namespace Go.Proofs.YtalmkgjinabceaaDoor
open Go.RowKit

def kAB : ByteArray := ⟨#[97, 98]⟩
def kRM : ByteArray := ⟨#[97, 98, 99, 100, 101, 102, 103, 104, 105, 106, 107, 108, 109, 110, 111, 112, 113, 114, 115, 116, 117, 118, 119, 120]⟩
def kY : ByteArray := ⟨#[121]⟩
def fr1 (s : ByteArray) : ByteArray := ⟨(Cr.frames [s]).toArray⟩
theorem fr1_size (s : ByteArray) : (fr1 s).size = 32 * Cr.cells s := by
  show (Cr.frames [s]).length = _
  rw [Cr.frames_one, Cr.frame_length]
theorem wr1 {s : ByteArray} (h : s.size ≤ 524288) : wrV [s] = .tuple #[.string (fr1 s), .int .i64 0] := wrV_ok (fun x hx => by obtain rfl := List.mem_singleton.1 hx; exact h)
theorem sm1 {s : ByteArray} (h : s.size ≤ 524288) : ∀ x ∈ [s], x.size ≤ 9223372036854775807 := fun x hx => by obtain rfl := List.mem_singleton.1 hx; omega
theorem kAB6 : (Cr.frames [kAB]).take 6 = [67, 2, 0, 0, 97, 98] := by decide +kernel
theorem kRY0 : (Cr.frames [kRM ++ kY]).take 1 = [65] := by decide +kernel
theorem kRY32 : ((Cr.frames [kRM ++ kY]).drop 32).take 5 = [66, 1, 1, 0, 121] := by decide +kernel
theorem kBad : (Cr.rd ((0 :: Cr.frames [kAB]).take 32)).isNone = true := by decide +kernel
theorem kRY_size : (kRM ++ kY).size = 25 := by decide +kernel
theorem rda_whole {ss : List ByteArray} (h : ∀ s ∈ ss, s.size ≤ 524288) : Cr.rda (Cr.frames ss) = (ss, (Cr.frames ss).length) := by
  have := Cr.rda_frames [] ss h
  rw [List.append_nil, rda_nil] at this
  simpa using this
theorem zero_read : Cr.rda ((⟨#[0]⟩ : ByteArray) ++ fr1 kAB).data.toList = ([], 0) := by
  have e : ((⟨#[0]⟩ : ByteArray) ++ fr1 kAB).data.toList = 0 :: Cr.frames [kAB] := by
    rw [ByteArray.data_append, Array.toList_append]; rfl
  rw [e]
  exact Cr.rda_none (Cr.scan_none (Option.isNone_iff_eq_none.1 kBad) _ _)
theorem two_read : Cr.rda (fr1 ⟨#[]⟩ ++ fr1 (kRM ++ kY)).data.toList = ([⟨#[]⟩, kRM ++ kY], 96) := by
  have e : (fr1 ⟨#[]⟩ ++ fr1 (kRM ++ kY)).data.toList = Cr.frames [⟨#[]⟩, kRM ++ kY] := by
    rw [ByteArray.data_append, Array.toList_append, Cr.frames_cons, Cr.frames_one]
    show Cr.frames [_] ++ Cr.frames [_] = _
    rw [Cr.frames_one, Cr.frames_one]
  have hs : ∀ s ∈ [(⟨#[]⟩ : ByteArray), kRM ++ kY], s.size ≤ 524288 := by
    intro s hs
    simp only [List.mem_cons, List.not_mem_nil, or_false] at hs
    rcases hs with rfl | rfl
    · exact Nat.zero_le _
    · rw [kRY_size]; omega
  have hl : (Cr.frames [(⟨#[]⟩ : ByteArray), kRM ++ kY]).length = 96 := by
    rw [frames_length]
    have : cellsS [(⟨#[]⟩ : ByteArray), kRM ++ kY] = 3 := by
      unfold cellsS Cr.cells
      rw [List.map_cons, List.map_cons, kRY_size]; rfl
    rw [this]
  rw [e, rda_whole hs, hl]

set_option maxRecDepth 100000 in
set_option maxHeartbeats 4000000 in
theorem known_walk (w : World) (hT : Tab w) :
    Calls Tryd.prog 3 #[] w (Gives (.bool true) w) := by
  have HT := Lib.hid hT; clear hT
  have hA : (fr1 kAB).size = 32 := by rw [fr1_size]; rfl
  have hB : (fr1 kRM).size = 32 := by rw [fr1_size]; rfl
  have hC : (fr1 (kRM ++ kY)).size = 64 := by rw [fr1_size]; unfold Cr.cells; rw [kRY_size]; rfl
  have hE : (fr1 ⟨#[]⟩).size = 32 := by rw [fr1_size]; rfl
  have hA6 : (fr1 kAB).extract 0 6 = ⟨#[67, 2, 0, 0, 97, 98]⟩ := by
    apply ByteArray.ext; apply Array.toList_inj.1
    rw [Cr.extract_list, List.drop_zero]; exact kAB6
  have hC5 : (fr1 (kRM ++ kY)).extract 32 37 = ⟨#[66, 1, 1, 0, 121]⟩ := by
    apply ByteArray.ext; apply Array.toList_inj.1
    rw [Cr.extract_list]; exact kRY32
  have hC0 : ∀ w : World, (Instr.index 9 (.string (fr1 (kRM ++ kY))) (.int .i64 0)).run Tryd.prog w = .ok (.int .u8 65) w := fun w => by
    have h1 := index_byte (fr1 (kRM ++ kY)) 0 (by omega) w
    have h2 : (fr1 (kRM ++ kY)).data.toList[0]? = some 65 := by
      have := congrArg (fun l : List UInt8 => l[0]?) kRY0
      rw [List.getElem?_take] at this
      exact this
    have h3 : (fr1 (kRM ++ kY)).data.toList[0]? = some ((fr1 (kRM ++ kY))[0]'(by omega)) := by
      rw [List.getElem?_eq_getElem (by rw [Cr.size_list]; omega)]; rfl
    rw [h3] at h2
    rw [Option.some.inj h2] at h1
    exact h1
  have HWA := Lib.hid (wr1 (s := kAB) (by decide))
  have HWB := Lib.hid (wr1 (s := kRM) (by decide))
  have HWC := Lib.hid (wr1 (s := kRM ++ kY) (by rw [kRY_size]; omega))
  have HWE := Lib.hid (wr1 (s := ⟨#[]⟩) (by decide))
  have HWN : Hid (wrV [] = .tuple #[.string ⟨#[]⟩, .int .i64 0]) := wrV_ok (by simp)
  have HZC : Hid (∀ x ∈ [kRM ++ kY], x.size ≤ 9223372036854775807) := Lib.hid (sm1 (by rw [kRY_size]; omega))
  have HZR := Lib.hid zero_read
  have HTR := Lib.hid two_read
  have hno1 : ¬ 9223372036854775807 < kRM.size + 1 := by decide
  have hab : (⟨#[97, 98]⟩ : ByteArray) = kAB := rfl
  have hrm : (⟨#[97, 98, 99, 100, 101, 102, 103, 104, 105, 106, 107, 108, 109, 110, 111, 112, 113, 114, 115, 116, 117, 118, 119, 120]⟩ : ByteArray) = kRM := rfl
  have HRM := Lib.hid hrm
  have hky : (⟨#[121]⟩ : ByteArray) = kY := rfl
  have HKY := Lib.hid hky
  clear hrm hky hab
  go_enter Tryd.func3, Tryd.ntmps3
  go_wp2_with fail
  refine (write_any _ _ _ [kAB] _ (sees_one w kAB _ _) (HT.out.alloc _) (sm1 (by decide)) (by decide)).mono ?_
  rintro e w1 ⟨rfl, hb1⟩
  rw [HWA.out]
  have HB1 : Hid (Below w.heap.size w w1) := Lib.hid (((Below.refl _ w).alloc (Nat.le_refl _) _).trans (hb1.mono (by simp))); clear hb1
  rw [HRM.out]
  go_wp2_with fail
  refine (write_any _ _ _ [kRM] _ (sees_one w1 kRM _ _) ((HT.out.below HB1.out).alloc _) (sm1 (by decide)) (by decide)).mono ?_
  rintro e w2 ⟨rfl, hb2⟩
  rw [HWB.out]
  have HB2 : Hid (Below w.heap.size w w2) := Lib.hid (Below.next (Below.next_alloc HB1.out _) hb2); clear hb2 HB1
  go_wp2_with fail
  rw [HKY.out]
  refine (write_any _ _ _ [kRM ++ kY] _ (sees_one w2 (kRM ++ kY) _ _) ((HT.out.below HB2.out).alloc _) HZC.out (by decide)).mono ?_
  rintro e w3 ⟨rfl, hb3⟩
  rw [HWC.out]
  have HB3 : Hid (Below w.heap.size w w3) := Lib.hid (Below.next (Below.next_alloc HB2.out _) hb3); clear hb3 HB2
  go_wp2_with fail
  refine (write_any none 0 0 [] w3 (Or.inl ⟨rfl, none, 0, rfl⟩) (HT.out.below HB3.out) (by simp) (by decide)).mono ?_
  rintro e w4 ⟨rfl, hb4⟩
  rw [HWN.out]
  have HB4 : Hid (Below w.heap.size w w4) := Lib.hid (Below.next HB3.out hb4); clear hb4 HB3
  go_wp2_with fail
  refine (write_any _ _ _ [⟨#[]⟩] _ (sees_one w4 ⟨#[]⟩ _ _) ((HT.out.below HB4.out).alloc _) (sm1 (by decide)) (by decide)).mono ?_
  rintro e w5 ⟨rfl, hb5⟩
  rw [HWE.out]
  have HB5 : Hid (Below w.heap.size w w5) := Lib.hid (Below.next (Below.next_alloc HB4.out _) hb5); clear hb5 HB4
  have HSA : Hid (((⟨#[0]⟩ : ByteArray) ++ fr1 kAB).size ≤ 1000000000) := by rw [ByteArray.size_append, hA]; exact Lib.hid (by decide)
  have HSB : Hid ((fr1 ⟨#[]⟩ ++ fr1 (kRM ++ kY)).size ≤ 1000000000) := by rw [ByteArray.size_append, hE, hC]; exact Lib.hid (by decide)
  clear HWA HWB HWC HWE HWN HZC
  generalize fr1 kAB = A at *
  generalize fr1 kRM = B at *
  generalize fr1 (kRM ++ kY) = C at *
  generalize fr1 ⟨#[]⟩ = E at *
  go_wp2_with fail
  refine (fread_any _ _ (HT.out.below HB5.out) HSA.out).mono ?_
  rintro e w6 ⟨v6, rfl, ho6, hb6⟩
  rw [HZR.out] at ho6 ⊢
  obtain ⟨a6, c6, rfl, hs6⟩ := ho6.at
  have HB6 : Hid (Below w.heap.size w w6) := Lib.hid (Below.next HB5.out hb6); clear hb6 HB5 ho6 hs6
  dsimp only [List.length_nil]
  go_wp2_with fail
  refine (fread_any _ _ (HT.out.below HB6.out) HSB.out).mono ?_
  rintro e w7 ⟨v7, rfl, ho7, hb7⟩
  rw [HTR.out] at ho7 ⊢
  obtain ⟨a7, c7, rfl, hs7⟩ := ho7.at
  have HB7 : Hid (Below w.heap.size w w7) := Lib.hid (Below.next HB6.out hb7); have HS7 := Lib.hid hs7; clear hb7 HB6 ho7 hs7
  dsimp only [List.length_cons, List.length_nil] at HS7 ⊢
  go_wp2_with fail
  rw [HKY.out]
  have hs8 : SeesS (w7.alloc (.cells #[.string ⟨#[]⟩, .string (kRM ++ kY)] 9)) (.slice (some ⟨w7.heap.size, 0, none⟩) 2 2) [⟨#[]⟩, kRM ++ kY] := sees_two w7 ⟨#[]⟩ (kRM ++ kY) _ 2
  have HS8 := Lib.hid hs8; clear hs8
  have HB8 : Hid (Below w.heap.size w (w7.alloc (.cells #[.string ⟨#[]⟩, .string (kRM ++ kY)] 9))) := Lib.hid (Below.next_alloc HB7.out _)
  have HS7b := Lib.hid (HS7.out.below ((Below.refl _ w7).alloc (Nat.le_refl _) (.cells #[.string ⟨#[]⟩, .string (kRM ++ kY)] 9)))
  have h9 := same_yes a7 (some ⟨w7.heap.size, 0, none⟩) 2 c7 2 2 [⟨#[]⟩, kRM ++ kY] _ HS7b.out HS8.out (by decide)
  refine h9.mono ?_
  rintro e w9 ⟨rfl, hb9⟩
  have HB9 : Hid (Below w.heap.size w w9) := Lib.hid (Below.next HB8.out hb9); clear hb9 HB8 HS7b HS8 h9 HS7 HB7
  go_wp2_with fail
  refine (awake_any _ (HT.out.below HB9.out)).mono ?_
  rintro e w10 ⟨rfl, hb10⟩
  have HB10 : Hid (Below w.heap.size w w10) := Lib.hid (Below.next HB9.out hb10); clear hb10 HB9
  go_wp2_with fail
  go_ret
  exact ⟨rfl, HB10.out⟩

end Go.Proofs.YtalmkgjinabceaaDoor

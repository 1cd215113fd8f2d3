/- The walk of FrameMore. -/
import Derived.Test.YtalmkgjinabceaaDoorFrE
import Derived.Test.YtalmkgjinabceaaDoorAppS
namespace Go.Proofs.YtalmkgjinabceaaDoor
open Go.RowKit

theorem short_of {ss : List ByteArray} (h : totS ss ≤ 4000) : ∀ s ∈ ss, s.size ≤ 524288 := fun s hs => by have := totS_mem hs; omega
theorem frames_small {ss : List ByteArray} (h1 : ss.length ≤ 60) (h2 : totS ss ≤ 4000) : (Cr.frames ss).length ≤ 50000000 := by
  rw [frames_length]
  have := cellsS_le (short_of h2)
  omega
theorem short_cat {a b : List ByteArray} (ha : ∀ s ∈ a, s.size ≤ 524288) (hb : ∀ s ∈ b, s.size ≤ 524288) : ∀ s ∈ a ++ b, s.size ≤ 524288 := fun s hs => by
  rcases List.mem_append.1 hs with h | h
  · exact ha s h
  · exact hb s h
theorem short_long {ss : List ByteArray} (h : ∀ s ∈ ss, s.size ≤ 524288) : ∀ s ∈ ss, s.size ≤ 9223372036854775807 := fun s hs => Nat.le_trans (h s hs) (by decide)
theorem frames_cat (a b : List ByteArray) : (⟨(Cr.frames (a ++ b)).toArray⟩ : ByteArray) = ⟨(Cr.frames a).toArray⟩ ++ ⟨(Cr.frames b).toArray⟩ := by
  apply ByteArray.ext
  rw [ByteArray.data_append, Cr.frames_append]
  simp
theorem rda_whole {ss : List ByteArray} (h : ∀ s ∈ ss, s.size ≤ 524288) : Cr.rda (Cr.frames ss) = (ss, (Cr.frames ss).length) := by
  have := Cr.rda_frames [] ss h
  rw [List.append_nil, rda_nil] at this
  simpa using this

set_option maxRecDepth 100000 in
set_option maxHeartbeats 4000000 in
theorem more_walk (a0 : Option Addr) (n0 c0 : Nat) (l0 : List ByteArray) (a1 : Option Addr) (n1 c1 : Nat) (l1 : List ByteArray) (w : World) (hT : Tab w)
    (hV0 : SeesS w (.slice a0 n0 c0) l0) (hn0 : l0.length = n0) (hz0 : ∀ s ∈ l0, s.size ≤ 9223372036854775807) (hV1 : SeesS w (.slice a1 n1 c1) l1) (hn1 : l1.length = n1) (hz1 : ∀ s ∈ l1, s.size ≤ 9223372036854775807) :
    Calls Tryd.prog 9 #[.slice a0 n0 c0, .slice a1 n1 c1] w (Gives (.bool true) w) := by
  have HT := Lib.hid hT; have HS0 := Lib.hid hV0; have HS1 := Lib.hid hV1; have HN0 := Lib.hid hn0; have HN1 := Lib.hid hn1; have HZ0 := Lib.hid hz0; have HZ1 := Lib.hid hz1
  clear hT hV0 hV1 hn0 hn1 hz0 hz1
  go_enter Tryd.func9, Tryd.ntmps9
  go_wp2_with fail
  refine (great_any _ _ _ l0 _ HS0.out HZ0.out).mono ?_
  rintro e w' ⟨g, rfl, rfl, hg⟩
  cases g with
  | true =>
    go_wp2_with fail
    refine (awake_any _ HT.out).mono ?_
    rintro e w1 ⟨rfl, hb1⟩
    have HB1 := Lib.hid hb1; clear hb1
    go_wp2_with fail
    go_ret
    exact ⟨rfl, HB1.out⟩
  | false =>
    have HG0 := Lib.hid (hg rfl); clear hg
    go_wp2_with fail
    refine (great_any _ _ _ l1 _ HS1.out HZ1.out).mono ?_
    rintro e w' ⟨g, rfl, rfl, hg⟩
    cases g with
    | true =>
      go_wp2_with fail
      refine (awake_any _ HT.out).mono ?_
      rintro e w1 ⟨rfl, hb1⟩
      have HB1 := Lib.hid hb1; clear hb1
      go_wp2_with fail
      go_ret
      exact ⟨rfl, HB1.out⟩
    | false =>
      have HG1 := Lib.hid (hg rfl); clear hg
      have HH0 := Lib.hid (short_of HG0.out.2); have HH1 := Lib.hid (short_of HG1.out.2)
      go_wp2_with fail
      refine (write_any _ _ _ l0 _ HS0.out HT.out HZ0.out (by have := HN0.out; have := HG0.out.1; omega)).mono ?_
      rintro e w1 ⟨rfl, hb1⟩
      rw [wrV_ok HH0.out]
      have HB1 := Lib.hid hb1; clear hb1
      go_wp2_with fail
      refine (write_any _ _ _ l1 _ (HS1.out.below HB1.out) (HT.out.below HB1.out) HZ1.out (by have := HN1.out; have := HG1.out.1; omega)).mono ?_
      rintro e w2 ⟨rfl, hb2⟩
      rw [wrV_ok HH1.out]
      have HB2 : Hid (Below w.heap.size w w2) := Lib.hid (Below.next HB1.out hb2); clear hb2 HB1
      have hraw3 := ownsS_empty w2
      have HX3 : Hid (Below w2.heap.size w2 (w2.alloc (.cells #[] 9))) := (Below.refl _ _).alloc (Nat.le_refl _) _
      have HB3 : Hid (Below w.heap.size w (w2.alloc (.cells #[] 9))) := Lib.hid (Below.next_alloc HB2.out _)
      have HSA := Lib.hid (HS0.out.below HB3.out)
      go_wp2_with (at_builtin; go_must (refine wpList_append_seesS rfl _ _ rfl w2.heap.size _ [] rfl hraw3 _ _ _ l0 rfl HSA.out ?c1 ?c2 ?_))
      case c1 => have := HN0.out; have := HG0.out.1; simp; omega
      case c2 => exact HX3.out.size
      intro v4 w4 hown4 hgrow4
      have HX4 : Hid (Below w2.heap.size w2 w4) := Lib.hid (HX3.out.grown hgrow4 HX3.out.size (fun k hk => (hraw3.lt k hk).1)); clear HX3 hgrow4 hraw3 HB3 HSA
      have HB4 : Hid (Below w.heap.size w w4) := Lib.hid (Below.next HB2.out HX4.out)
      have HO4 := Lib.hid hown4; clear hown4
      have hraw4 : OwnsS w4 w2.heap.size v4 l0 := HO4.out
      have HSB := Lib.hid (HS1.out.below HB4.out)
      go_wp2_with (at_builtin; go_must (refine wpList_append_seesS rfl _ _ rfl w2.heap.size _ l0 rfl hraw4 _ _ _ l1 rfl HSB.out ?d1 ?d2 ?_))
      case d1 => have := HN1.out; have := HG1.out.1; have := HG0.out.1; omega
      case d2 => exact HX4.out.size
      intro v5 w5 hown5 hgrow5
      have HX5 : Hid (Below w2.heap.size w2 w5) := Lib.hid (HX4.out.grown hgrow5 HX4.out.size (fun k hk => (hraw4.lt k hk).1)); clear HX4 hgrow5 hraw4 HSB HO4
      have HB5 : Hid (Below w.heap.size w w5) := Lib.hid (Below.next HB2.out HX5.out); clear HX5 HB4 HB2
      obtain ⟨ao5, cap5, rfl, hs5⟩ := hown5.at
      have HS5 := Lib.hid hs5; clear hs5 hown5
      have HH2 := Lib.hid (short_cat HH0.out HH1.out)
      have HLS : Hid ((l0 ++ l1).length ≤ 1000000) := by have h1 := HG0.out.1; have h2 := HG1.out.1; rw [List.length_append]; exact Lib.hid (by omega)
      have HF0 := Lib.hid (frames_small HG0.out.1 HG0.out.2); have HF1 := Lib.hid (frames_small HG1.out.1 HG1.out.2)
      obtain ⟨L2, hL2⟩ : ∃ L2, L2 = l0 ++ l1 := ⟨_, rfl⟩
      have HCAT : Hid ((⟨(Cr.frames L2).toArray⟩ : ByteArray) = ⟨(Cr.frames l0).toArray⟩ ++ ⟨(Cr.frames l1).toArray⟩) := by rw [hL2]; exact Lib.hid (frames_cat l0 l1)
      have HRD : Hid (Cr.rda (Cr.frames L2) = (L2, (Cr.frames L2).length)) := by rw [hL2]; exact Lib.hid (rda_whole HH2.out)
      rw [← hL2] at HS5 HH2 HLS
      rw [← hL2]
      have HL2 := Lib.hid hL2; clear hL2
      go_wp2_with fail
      refine (write_any _ _ _ L2 _ HS5.out (HT.out.below HB5.out) (short_long HH2.out) HLS.out).mono ?_
      rintro e w6 ⟨rfl, hb6⟩
      rw [wrV_ok HH2.out]
      have HB6 : Hid (Below w.heap.size w w6) := Lib.hid (Below.next HB5.out hb6); clear hb6 HB5 HS5
      rw [HCAT.out]
      have hA : (⟨(Cr.frames l0).toArray⟩ : ByteArray).size ≤ 50000000 := HF0.out
      have hB : (⟨(Cr.frames l1).toArray⟩ : ByteArray).size ≤ 50000000 := HF1.out
      have HWH : Hid ((Cr.frames L2).length = ((⟨(Cr.frames l0).toArray⟩ : ByteArray) ++ ⟨(Cr.frames l1).toArray⟩).size) := by rw [← HCAT.out]; exact Lib.hid rfl
      have HRD2 : Hid (Cr.rda ((⟨(Cr.frames l0).toArray⟩ : ByteArray) ++ ⟨(Cr.frames l1).toArray⟩).data.toList = (L2, (Cr.frames L2).length)) := by rw [← HCAT.out]; exact HRD
      have hsum : ((⟨(Cr.frames l0).toArray⟩ : ByteArray) ++ ⟨(Cr.frames l1).toArray⟩).size = (⟨(Cr.frames l0).toArray⟩ : ByteArray).size + (⟨(Cr.frames l1).toArray⟩ : ByteArray).size := ByteArray.size_append
      generalize (⟨(Cr.frames l0).toArray⟩ : ByteArray) = A at *
      generalize (⟨(Cr.frames l1).toArray⟩ : ByteArray) = B at *
      clear HCAT HRD HF0 HF1
      have hno : ¬ 9223372036854775807 < A.size + B.size := by omega
      have hab : (A ++ B).size ≤ 1000000000 := by omega
      have HAB := Lib.hid hab; have HSUM := Lib.hid hsum; clear hab hsum hA hB
      go_wp2_with fail
      refine (fread_any _ _ (HT.out.below HB6.out) HAB.out).mono ?_
      rintro e w7 ⟨v7, rfl, ho7, hb7⟩
      rw [HRD2.out] at ho7 ⊢
      obtain ⟨ao7, cap7, rfl, hs7⟩ := ho7.at
      have HB7 : Hid (Below w.heap.size w w7) := Lib.hid (Below.next HB6.out hb7); have HS7 := Lib.hid hs7; clear hb7 HB6 ho7 hs7
      dsimp only
      rw [HWH.out]
      have hraw8 := ownsS_empty w7
      have HX8 : Hid (Below w7.heap.size w7 (w7.alloc (.cells #[] 9))) := (Below.refl _ _).alloc (Nat.le_refl _) _
      have HB8 : Hid (Below w.heap.size w (w7.alloc (.cells #[] 9))) := Lib.hid (Below.next_alloc HB7.out _)
      have HSA := Lib.hid (HS0.out.below HB8.out)
      go_wp2_with (at_builtin; go_must (refine wpList_append_seesS_want (by rfl) _ _ rfl w7.heap.size _ [] rfl hraw8 _ _ _ l0 rfl HSA.out (by have := HN0.out; have := HG0.out.1; simp; omega) HX8.out.size ?_))
      intro v9 w9 hown9 hgrow9
      have HX9 : Hid (Below w7.heap.size w7 w9) := Lib.hid (HX8.out.grown hgrow9 HX8.out.size (fun k hk => (hraw8.lt k hk).1)); clear HX8 hgrow9 hraw8 HB8 HSA
      have HB9 : Hid (Below w.heap.size w w9) := Lib.hid (Below.next HB7.out HX9.out)
      have HO9 := Lib.hid hown9; clear hown9
      have hraw9 : OwnsS w9 w7.heap.size v9 l0 := HO9.out
      have HSB := Lib.hid (HS1.out.below HB9.out)
      go_wp2_with (at_builtin; go_must (refine wpList_append_seesS_want (by rfl) _ _ rfl w7.heap.size _ l0 rfl hraw9 _ _ _ l1 rfl HSB.out (by have := HN1.out; have := HG1.out.1; have := HG0.out.1; omega) HX9.out.size ?_))
      intro v10 w10 hown10 hgrow10
      have HX10 : Hid (Below w7.heap.size w7 w10) := Lib.hid (HX9.out.grown hgrow10 HX9.out.size (fun k hk => (hraw9.lt k hk).1)); clear HX9 hgrow10 hraw9 HSB HO9
      have HB10 : Hid (Below w.heap.size w w10) := Lib.hid (Below.next HB7.out HX10.out); clear HB9
      obtain ⟨ao10, cap10, rfl, hs10⟩ := hown10.at
      have HS10 := Lib.hid hs10; clear hs10 hown10
      have HS7b := Lib.hid (HS7.out.below HX10.out); clear HS7 HX10 HB7
      rw [← HL2.out] at HS10
      rw [← HL2.out]
      go_wp2_with fail
      refine (same_yes _ _ _ _ _ _ L2 _ HS7b.out HS10.out (by have := HLS.out; omega)).mono ?_
      rintro e w11 ⟨rfl, hb11⟩
      have HB11 : Hid (Below w.heap.size w w11) := Lib.hid (Below.next HB10.out hb11); clear hb11 HB10 HS7b HS10
      go_wp2_with fail
      refine (awake_any _ (HT.out.below HB11.out)).mono ?_
      rintro e w12 ⟨rfl, hb12⟩
      have HB12 : Hid (Below w.heap.size w w12) := Lib.hid (Below.next HB11.out hb12); clear hb12 HB11
      go_wp2_with fail
      go_ret
      exact ⟨rfl, HB12.out⟩

end Go.Proofs.YtalmkgjinabceaaDoor

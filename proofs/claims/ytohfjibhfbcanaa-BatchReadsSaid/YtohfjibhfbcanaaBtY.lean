/- The walk of the document's Decode, of every text. -/
import Derived.Test.YtohfjibhfbcanaaBtX
namespace Go.Proofs.Ytohfjibhfbcanaa
open Go.RowKit
set_option linter.unusedVariables false
set_option linter.unusedSimpArgs false

set_option maxHeartbeats 2000000 in
theorem refDecode_two (s : ByteArray) (seq a : Nat) (w : World) (hs : s.size ≤ 1000000) (hv : Nm.rv s.data.toList = some (seq, a)) (hv2 : Nm.rv (s.data.toList.drop a) = none) :
    Calls Try.prog 21 #[.string s] w (DecRead none w) := by
  have HV : Hid (rvV s.data.toList = .tuple #[.int .u64 seq, .int .i64 a, .bool true]) := Lib.hid (rvV_some hv)
  have HV2 : Hid (rvV (s.data.toList.drop a) = .tuple #[.int .u64 0, .int .i64 0, .bool false]) := Lib.hid (rvV_none hv2)
  obtain ⟨ha1, ha2, _, hseq⟩ := Nm.row_rv hv
  rw [length_list] at ha2
  have HS := Lib.hid hs
  have hai : (a : Int) ≤ s.size := by omega
  clear hv hv2 hs
  go_enter Try.func21, Try.ntmps21
  go_wp2_with fail
  refine (refReadVar_any _ _ (by have := HS.out; omega)).mono ?_
  rintro e w1 ⟨rfl, hb1⟩
  rw [HV.out]
  go_wp2_with fail
  refine (refReadVar_any _ _ (by have := HS.out; rw [ByteArray.size_extract]; omega)).mono ?_
  rintro e w2 ⟨rfl, hb2⟩
  rw [Lib.extract_to_end, HV2.out]
  have hzz1 : w.heap.size < w1.heap.size := by have := hb1.size; simp at this; omega
  have hzz2 : w.heap.size < w2.heap.size := by have := hb2.size; omega
  obtain ⟨r0, r1, r2, r3⟩ := ((RV.new w).below hb1 (by simp)).below hb2 hzz1
  have HB2 := Lib.hid (Below.next (Below.next ((Below.refl _ _).alloc (Nat.le_refl _) _) hb1) hb2)
  clear hb1 hb2
  go_wp2_with fail
  refine bodyPost_ret (v := noBat) (by simp [results, Try.results21, go_sem, noBat, batV, r0, r1]) rfl ⟨?_, Or.inl ⟨rfl, rfl⟩⟩
  exact (HB2.out.setCell (Nat.le_refl _) _).setCell (Nat.le_refl _) _

set_option maxHeartbeats 2000000 in
theorem refDecode_many (s : ByteArray) (seq a n c : Nat) (w : World) (hs : s.size ≤ 1000000) (hv : Nm.rv s.data.toList = some (seq, a)) (hv2 : Nm.rv (s.data.toList.drop a) = some (n, c)) (h16 : 16 < n) :
    Calls Try.prog 21 #[.string s] w (DecRead none w) := by
  have HV : Hid (rvV s.data.toList = .tuple #[.int .u64 seq, .int .i64 a, .bool true]) := Lib.hid (rvV_some hv)
  have HV2 : Hid (rvV (s.data.toList.drop a) = .tuple #[.int .u64 n, .int .i64 c, .bool true]) := Lib.hid (rvV_some hv2)
  obtain ⟨ha1, ha2, _, hseq⟩ := Nm.row_rv hv
  rw [length_list] at ha2
  have HS := Lib.hid hs
  have hai : (a : Int) ≤ s.size := by omega
  have h16i : (16 : Int) < n := by omega
  clear hv hv2 hs h16
  go_enter Try.func21, Try.ntmps21
  go_wp2_with fail
  refine (refReadVar_any _ _ (by have := HS.out; omega)).mono ?_
  rintro e w1 ⟨rfl, hb1⟩
  rw [HV.out]
  go_wp2_with fail
  refine (refReadVar_any _ _ (by have := HS.out; rw [ByteArray.size_extract]; omega)).mono ?_
  rintro e w2 ⟨rfl, hb2⟩
  rw [Lib.extract_to_end, HV2.out]
  have hzz1 : w.heap.size < w1.heap.size := by have := hb1.size; simp at this; omega
  have hzz2 : w.heap.size < w2.heap.size := by have := hb2.size; omega
  obtain ⟨r0, r1, r2, r3⟩ := ((RV.new w).below hb1 (by simp)).below hb2 hzz1
  have HB2 := Lib.hid (Below.next (Below.next ((Below.refl _ _).alloc (Nat.le_refl _) _) hb1) hb2)
  clear hb1 hb2
  go_wp2_with fail
  refine bodyPost_ret (v := noBat) (by simp [results, Try.results21, go_sem, noBat, batV, r0, r1]) rfl ⟨?_, Or.inl ⟨rfl, rfl⟩⟩
  exact (HB2.out.setCell (Nat.le_refl _) _).setCell (Nat.le_refl _) _

/-- The document's Decode, of every text of at most 10^6 bytes. -/
theorem refDecode_any (s : ByteArray) (w : World) (hs : s.size ≤ 1000000) :
    Calls Try.prog 21 #[.string s] w (DecRead (Bt.decl s.data.toList) w) := by
  rw [← Bt.declR_eq]
  cases hv : Nm.rv s.data.toList with
  | none =>
    have e : Bt.declR s.data.toList = none := by unfold Bt.declR Bt.rdl; rw [hv]
    rw [e]
    exact refDecode_none s w hs hv
  | some x =>
    obtain ⟨seq, a⟩ := x
    cases hv2 : Nm.rv (s.data.toList.drop a) with
    | none =>
      have e : Bt.declR s.data.toList = none := by unfold Bt.declR Bt.rdl; rw [hv]; simp only; rw [hv2]
      rw [e]
      exact refDecode_two s seq a w hs hv hv2
    | some y =>
      obtain ⟨n, c⟩ := y
      by_cases h16 : 16 < n
      · have e : Bt.declR s.data.toList = none := by unfold Bt.declR Bt.rdl; rw [hv]; simp only; rw [hv2]; simp only; rw [if_pos h16]
        rw [e]
        exact refDecode_many s seq a n c w hs hv hv2 h16
      · exact refDecode_loop s seq a n c w hs hv hv2 h16

end Go.Proofs.Ytohfjibhfbcanaa

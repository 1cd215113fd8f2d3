/- The walk of CellBursts, a text of more than 3000 bytes. -/
import Derived.Test.YtclgjphegaoohaaDoorCellBursts
namespace Go.Proofs.YtclgjphegaoohaaDoor
open Go.RowKit

set_option maxRecDepth 100000 in
set_option maxHeartbeats 4000000 in
theorem bursts_eqL (s0 s : ByteArray) (a c m : Nat) (w : World) (hT : Tab w) (h3000 : 3000 < (s0.size : Int)) (hs : s = s0.extract 0 3000) (hm : m < 4294967296) (_ha : a ≤ 65535) (_hc : c ≤ 65535)
    (hst : s.data.toList = Cr.turn s.data.toList (a % s.size) m 4) :
    Calls Tryd.prog 9 #[.string s0, .int .u16 a, .int .u16 c, .int .u32 m] w (Gives (.bool true) w) := by
  have hsz : s.size = 3000 := by rw [hs, ByteArray.size_extract]; omega
  have hsl0 : ∀ w : World, (Instr.slice 9 (.string s0) none (some (.int .i64 3000)) none).run Tryd.prog w = .ok (.string s) w := fun w => by
    rw [run_slice_string_h w 9 s0 Tryd.underlying9 .i64 3000 (by omega) (by omega), hs]
    rfl
  have h0 : 0 < s.size := by omega
  have h3001 : s.size ≤ 3000 := by omega
  clear hs hsz
  have hk1 : a % s.size < s.size := Nat.mod_lt _ h0
  have hk2 : c % s.size < s.size := Nat.mod_lt _ h0
  have hmod1 : ((a : Int) % (s.size : Int)) = ((a % s.size : Nat) : Int) := by omega
  have hmod2 : ((c : Int) % (s.size : Int)) = ((c % s.size : Nat) : Int) := by omega
  have hz : ((s.size : Int) == 0) = false := by rw [beq_eq_false_iff_ne]; omega
  have hz2 : (0 : Int) < (s.size : Int) := by omega
  have HTU := Lib.hid (fun (x : World) => turned_any s (a % s.size) m x (by omega) (by omega) hm)
  have hcr := Cr.crc_turn s.data.toList (a % s.size) m (by rw [Cr.size_list]; omega)
  generalize a % s.size = k1 at *
  generalize c % s.size = k at *
  obtain ⟨t, ht⟩ : ∃ t : ByteArray, t = ⟨(Cr.turn s.data.toList k1 m 4).toArray⟩ := ⟨_, rfl⟩
  have htl : Cr.turn s.data.toList k1 m 4 = t.data.toList := by rw [ht]
  rw [← ht] at HTU
  rw [htl] at hcr hst
  clear ht
  have HTS : Hid (t.size = s.size) := Lib.hid (by rw [← Cr.size_list t, ← htl, Cr.turn_length, Cr.size_list])
  clear htl
  obtain ⟨A1, hA1⟩ : ∃ A1 : ByteArray, A1 = s.extract 0 k := ⟨_, rfl⟩
  obtain ⟨A2, hA2⟩ : ∃ A2 : ByteArray, A2 = s.extract k s.size := ⟨_, rfl⟩
  have hsl1 : ∀ w : World, (Instr.slice 9 (.string s) none (some (.int .i64 (k : Int))) none).run Tryd.prog w = .ok (.string A1) w := fun w => by
    rw [run_slice_string_h w 9 s Tryd.underlying9 .i64 (k : Int) (by omega) (by omega), hA1]
    rfl
  have hsl2 : ∀ w : World, (Instr.slice 9 (.string s) (some (.int .i64 (k : Int))) none none).run Tryd.prog w = .ok (.string A2) w := fun w => by
    rw [run_slice_string_l w 9 s Tryd.underlying9 .i64 (k : Int) (by omega) (by omega), hA2]
    rfl
  obtain ⟨QS, hQS⟩ : ∃ Q, Q = Cr.crc s.data.toList := ⟨_, rfl⟩
  have HQS : Hid (Cr.crc (catl [s]) = QS) := by rw [catl_one]; exact Lib.hid hQS.symm
  have HQP : Hid (Cr.crc (catl [A1, A2]) = QS) := by rw [catl_two, hA1, hA2, cut_two s k]; exact Lib.hid hQS.symm
  have HZS := Lib.hid (one_small' (s := s) (by omega))
  have HZP := Lib.hid (two_small (a := A1) (b := A2) (by rw [hA1, ByteArray.size_extract]; omega) (by rw [hA2, ByteArray.size_extract]; omega))
  obtain rfl : s = t := ByteArray.ext (Array.toList_inj.1 hst)
  clear hQS hcr hst hA1 hA2
  have HT := Lib.hid hT
  clear hT
  go_enter Tryd.func9, Tryd.ntmps9
  go_wp2_with fail
  refine (HTU.out _).mono ?_
  rintro e w3 ⟨rfl, hb⟩
  have HB3 := Lib.hid hb
  have HT3 := Lib.hid (HT.out.below hb)
  clear hb HTU
  go_wp2_with fail
  have HAW := Lib.hid (fun (A B C D : Obj) => awake_any ((((w3.alloc A).alloc B).alloc C).alloc D).drew (HT3.out.below (below4 w3 A B C D)))
  go_region_held3 (fun _ => True) (trivial)
    (first
      | ((with_reducible refine (crc_any _ _ _ [s] _ (sees_heap1 (h1n _ _)) (tab1 HT3.out _) HZS.out (by omega)).mono ?_); rintro e wr ⟨rfl, rfl⟩; rw [HQS.out])
      | ((with_reducible refine (crc_any _ _ _ [s] _ (sees_heap1 (h2o _ _ _)) (tab2 HT3.out _ _) HZS.out (by omega)).mono ?_); rintro e wr ⟨rfl, rfl⟩; rw [HQS.out])
      | ((with_reducible refine (crc_any _ _ _ [s] _ (sees_heap1 (h2n _ _ _)) (tab2 HT3.out _ _) HZS.out (by omega)).mono ?_); rintro e wr ⟨rfl, rfl⟩; rw [HQS.out])
      | ((with_reducible refine (crc_any _ _ _ [s] _ (sees_heap1 (h3n _ _ _ _)) (tab3 HT3.out _ _ _) HZS.out (by omega)).mono ?_); rintro e wr ⟨rfl, rfl⟩; rw [HQS.out])
      | ((with_reducible refine (crc_any _ _ _ [s] _ (sees_heap1 (h4o _ _ _ _ _)) (tab4 HT3.out _ _ _ _) HZS.out (by omega)).mono ?_); rintro e wr ⟨rfl, rfl⟩; rw [HQS.out])
      | ((with_reducible refine (crc_any _ _ _ [s] _ (sees_heap1 (h4n _ _ _ _ _)) (tab4 HT3.out _ _ _ _) HZS.out (by omega)).mono ?_); rintro e wr ⟨rfl, rfl⟩; rw [HQS.out])
      | ((with_reducible refine (crc_any _ _ _ [A1, A2] _ (sees_heap2 (h3n _ _ _ _)) (tab3 HT3.out _ _ _) HZP.out (by omega)).mono ?_); rintro e wr ⟨rfl, rfl⟩; rw [HQP.out])
      | ((with_reducible refine (crc_any _ _ _ [A1, A2] _ (sees_heap2 (h4o _ _ _ _ _)) (tab4 HT3.out _ _ _ _) HZP.out (by omega)).mono ?_); rintro e wr ⟨rfl, rfl⟩; rw [HQP.out])
      | ((with_reducible refine (crc_any _ _ _ [A1, A2] _ (sees_heap2 (h4n _ _ _ _ _)) (tab4 HT3.out _ _ _ _) HZP.out (by omega)).mono ?_); rintro e wr ⟨rfl, rfl⟩; rw [HQP.out])
      | ((with_reducible refine (HAW.out _ _ _ _).mono ?_); rintro e wA ⟨rfl, hbA⟩))
  all_goals
    have HF := Lib.hid (Below.next HB3.out (Below.next (below4 w3 _ _ _ _) hbA))
    clear hbA
    go_wp2_with fail
    go_ret
    exact ⟨rfl, HF.out⟩

set_option maxRecDepth 100000 in
set_option maxHeartbeats 4000000 in
theorem bursts_neL (s0 s : ByteArray) (a c m : Nat) (w : World) (hT : Tab w) (h3000 : 3000 < (s0.size : Int)) (hs : s = s0.extract 0 3000) (hm : m < 4294967296) (_ha : a ≤ 65535) (_hc : c ≤ 65535)
    (hst : ¬ s.data.toList = Cr.turn s.data.toList (a % s.size) m 4) :
    Calls Tryd.prog 9 #[.string s0, .int .u16 a, .int .u16 c, .int .u32 m] w (Gives (.bool true) w) := by
  have hsz : s.size = 3000 := by rw [hs, ByteArray.size_extract]; omega
  have hsl0 : ∀ w : World, (Instr.slice 9 (.string s0) none (some (.int .i64 3000)) none).run Tryd.prog w = .ok (.string s) w := fun w => by
    rw [run_slice_string_h w 9 s0 Tryd.underlying9 .i64 3000 (by omega) (by omega), hs]
    rfl
  have h0 : 0 < s.size := by omega
  have h3001 : s.size ≤ 3000 := by omega
  clear hs hsz
  have hk1 : a % s.size < s.size := Nat.mod_lt _ h0
  have hk2 : c % s.size < s.size := Nat.mod_lt _ h0
  have hmod1 : ((a : Int) % (s.size : Int)) = ((a % s.size : Nat) : Int) := by omega
  have hmod2 : ((c : Int) % (s.size : Int)) = ((c % s.size : Nat) : Int) := by omega
  have hz : ((s.size : Int) == 0) = false := by rw [beq_eq_false_iff_ne]; omega
  have hz2 : (0 : Int) < (s.size : Int) := by omega
  have HTU := Lib.hid (fun (x : World) => turned_any s (a % s.size) m x (by omega) (by omega) hm)
  have hcr := Cr.crc_turn s.data.toList (a % s.size) m (by rw [Cr.size_list]; omega)
  generalize a % s.size = k1 at *
  generalize c % s.size = k at *
  obtain ⟨t, ht⟩ : ∃ t : ByteArray, t = ⟨(Cr.turn s.data.toList k1 m 4).toArray⟩ := ⟨_, rfl⟩
  have htl : Cr.turn s.data.toList k1 m 4 = t.data.toList := by rw [ht]
  rw [← ht] at HTU
  rw [htl] at hcr hst
  clear ht
  have HTS : Hid (t.size = s.size) := Lib.hid (by rw [← Cr.size_list t, ← htl, Cr.turn_length, Cr.size_list])
  clear htl
  obtain ⟨A1, hA1⟩ : ∃ A1 : ByteArray, A1 = s.extract 0 k := ⟨_, rfl⟩
  obtain ⟨A2, hA2⟩ : ∃ A2 : ByteArray, A2 = s.extract k s.size := ⟨_, rfl⟩
  have hsl1 : ∀ w : World, (Instr.slice 9 (.string s) none (some (.int .i64 (k : Int))) none).run Tryd.prog w = .ok (.string A1) w := fun w => by
    rw [run_slice_string_h w 9 s Tryd.underlying9 .i64 (k : Int) (by omega) (by omega), hA1]
    rfl
  have hsl2 : ∀ w : World, (Instr.slice 9 (.string s) (some (.int .i64 (k : Int))) none none).run Tryd.prog w = .ok (.string A2) w := fun w => by
    rw [run_slice_string_l w 9 s Tryd.underlying9 .i64 (k : Int) (by omega) (by omega), hA2]
    rfl
  obtain ⟨QS, hQS⟩ : ∃ Q, Q = Cr.crc s.data.toList := ⟨_, rfl⟩
  have HQS : Hid (Cr.crc (catl [s]) = QS) := by rw [catl_one]; exact Lib.hid hQS.symm
  have HQP : Hid (Cr.crc (catl [A1, A2]) = QS) := by rw [catl_two, hA1, hA2, cut_two s k]; exact Lib.hid hQS.symm
  have HZS := Lib.hid (one_small' (s := s) (by omega))
  have HZP := Lib.hid (two_small (a := A1) (b := A2) (by rw [hA1, ByteArray.size_extract]; omega) (by rw [hA2, ByteArray.size_extract]; omega))
  have HZT := Lib.hid (one_small' (s := t) (by have := HTS.out; omega))
  obtain ⟨QT, hQT⟩ : ∃ Q, Q = Cr.crc t.data.toList := ⟨_, rfl⟩
  have HQT : Hid (Cr.crc (catl [t]) = QT) := by rw [catl_one]; exact Lib.hid hQT.symm
  have hqq : ((QS : Int) == (QT : Int)) = false := by
    rw [beq_eq_false_iff_ne, hQS, hQT]
    intro e
    exact hst (hcr.1 (by exact_mod_cast e))
  have q0 : ¬ s.toList = t.toList := fun e => hst (by rw [str_eq e])
  have q1 : (s.toList == t.toList) = false := by rw [beq_eq_false_iff_ne]; exact q0
  clear hQS hQT hcr hst hA1 hA2
  have HT := Lib.hid hT
  clear hT
  go_enter Tryd.func9, Tryd.ntmps9
  go_wp2_with fail
  refine (HTU.out _).mono ?_
  rintro e w3 ⟨rfl, hb⟩
  have HB3 := Lib.hid hb
  have HT3 := Lib.hid (HT.out.below hb)
  clear hb HTU
  go_wp2_with fail
  have HAW := Lib.hid (fun (A B C D : Obj) => awake_any ((((w3.alloc A).alloc B).alloc C).alloc D).drew (HT3.out.below (below4 w3 A B C D)))
  go_region_held3 (fun _ => True) (trivial)
    (first
      | ((with_reducible refine (crc_any _ _ _ [s] _ (sees_heap1 (h1n _ _)) (tab1 HT3.out _) HZS.out (by omega)).mono ?_); rintro e wr ⟨rfl, rfl⟩; rw [HQS.out])
      | ((with_reducible refine (crc_any _ _ _ [s] _ (sees_heap1 (h2o _ _ _)) (tab2 HT3.out _ _) HZS.out (by omega)).mono ?_); rintro e wr ⟨rfl, rfl⟩; rw [HQS.out])
      | ((with_reducible refine (crc_any _ _ _ [s] _ (sees_heap1 (h2n _ _ _)) (tab2 HT3.out _ _) HZS.out (by omega)).mono ?_); rintro e wr ⟨rfl, rfl⟩; rw [HQS.out])
      | ((with_reducible refine (crc_any _ _ _ [s] _ (sees_heap1 (h3n _ _ _ _)) (tab3 HT3.out _ _ _) HZS.out (by omega)).mono ?_); rintro e wr ⟨rfl, rfl⟩; rw [HQS.out])
      | ((with_reducible refine (crc_any _ _ _ [s] _ (sees_heap1 (h4o _ _ _ _ _)) (tab4 HT3.out _ _ _ _) HZS.out (by omega)).mono ?_); rintro e wr ⟨rfl, rfl⟩; rw [HQS.out])
      | ((with_reducible refine (crc_any _ _ _ [s] _ (sees_heap1 (h4n _ _ _ _ _)) (tab4 HT3.out _ _ _ _) HZS.out (by omega)).mono ?_); rintro e wr ⟨rfl, rfl⟩; rw [HQS.out])
      | ((with_reducible refine (crc_any _ _ _ [t] _ (sees_heap1 (h1n _ _)) (tab1 HT3.out _) HZT.out (by omega)).mono ?_); rintro e wr ⟨rfl, rfl⟩; rw [HQT.out])
      | ((with_reducible refine (crc_any _ _ _ [t] _ (sees_heap1 (h2o _ _ _)) (tab2 HT3.out _ _) HZT.out (by omega)).mono ?_); rintro e wr ⟨rfl, rfl⟩; rw [HQT.out])
      | ((with_reducible refine (crc_any _ _ _ [t] _ (sees_heap1 (h2n _ _ _)) (tab2 HT3.out _ _) HZT.out (by omega)).mono ?_); rintro e wr ⟨rfl, rfl⟩; rw [HQT.out])
      | ((with_reducible refine (crc_any _ _ _ [A1, A2] _ (sees_heap2 (h3n _ _ _ _)) (tab3 HT3.out _ _ _) HZP.out (by omega)).mono ?_); rintro e wr ⟨rfl, rfl⟩; rw [HQP.out])
      | ((with_reducible refine (crc_any _ _ _ [A1, A2] _ (sees_heap2 (h4o _ _ _ _ _)) (tab4 HT3.out _ _ _ _) HZP.out (by omega)).mono ?_); rintro e wr ⟨rfl, rfl⟩; rw [HQP.out])
      | ((with_reducible refine (crc_any _ _ _ [A1, A2] _ (sees_heap2 (h4n _ _ _ _ _)) (tab4 HT3.out _ _ _ _) HZP.out (by omega)).mono ?_); rintro e wr ⟨rfl, rfl⟩; rw [HQP.out])
      | ((with_reducible refine (HAW.out _ _ _ _).mono ?_); rintro e wA ⟨rfl, hbA⟩))
  all_goals
    have HF := Lib.hid (Below.next HB3.out (Below.next (below4 w3 _ _ _ _) hbA))
    clear hbA
    go_wp2_with fail
    go_ret
    exact ⟨rfl, HF.out⟩

theorem bursts_walk (s : ByteArray) (a c m : Int) (w : World) (hT : Tab w) (_hs : s.size ≤ 9223372036854775807) (ha : 0 ≤ a ∧ a ≤ 65535) (hc : 0 ≤ c ∧ c ≤ 65535) (hm : 0 ≤ m ∧ m ≤ 4294967295) :
    Calls Tryd.prog 9 #[.string s, .int .u16 a, .int .u16 c, .int .u32 m] w (Gives (.bool true) w) := by
  by_cases h0 : s.size = 0
  · exact bursts_zero s a c m w hT h0
  · obtain ⟨A, rfl⟩ := Int.eq_ofNat_of_zero_le ha.1
    obtain ⟨C, rfl⟩ := Int.eq_ofNat_of_zero_le hc.1
    obtain ⟨M, rfl⟩ := Int.eq_ofNat_of_zero_le hm.1
    by_cases h3000 : 3000 < (s.size : Int)
    · by_cases hst : (s.extract 0 3000).data.toList = Cr.turn (s.extract 0 3000).data.toList (A % (s.extract 0 3000).size) M 4
      · exact bursts_eqL s _ A C M w hT h3000 rfl (by omega) (by omega) (by omega) hst
      · exact bursts_neL s _ A C M w hT h3000 rfl (by omega) (by omega) (by omega) hst
    · by_cases hst : s.data.toList = Cr.turn s.data.toList (A % s.size) M 4
      · exact bursts_eq s A C M w hT h3000 (by omega) (by omega) (by omega) (by omega) hst
      · exact bursts_ne s A C M w hT h3000 (by omega) (by omega) (by omega) (by omega) hst

end Go.Proofs.YtclgjphegaoohaaDoor

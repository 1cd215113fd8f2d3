/- The walk of CellBursts. -/
import Derived.Test.YtclgjphegaoohaaDoorCellV
namespace Go.Proofs.YtclgjphegaoohaaDoor
open Go.RowKit

theorem sees_heap1 {w : World} {B : Nat} {s : ByteArray} {t : TypeId} (h : w.heap[B]? = some (.cells #[.string s] t (0, 0))) : SeesS w (.slice (some ⟨B, 0, none⟩) 1 1) [s] := by
  have hc : w.cell? ⟨B, 0, none⟩ = some (.string s) := by rw [cell_of_row w B 0 _ _ _ h]; rfl
  refine Or.inr ⟨B, 0, 1, rfl, World.block_lt_of_cell? w _ hc, fun i hi => ?_⟩
  match i, hi with
  | 0, _ => exact hc
theorem sees_heap2 {w : World} {B : Nat} {s u : ByteArray} {t : TypeId} (h : w.heap[B]? = some (.cells #[.string s, .string u] t (0, 0))) : SeesS w (.slice (some ⟨B, 0, none⟩) 2 2) [s, u] := by
  have hc : w.cell? ⟨B, 0, none⟩ = some (.string s) := by rw [cell_of_row w B 0 _ _ _ h]; rfl
  have hd : w.cell? ⟨B, 0 + 1, none⟩ = some (.string u) := by rw [cell_of_row w B 1 _ _ _ h]; rfl
  refine Or.inr ⟨B, 0, 2, rfl, World.block_lt_of_cell? w _ hc, fun i hi => ?_⟩
  match i, hi with
  | 0, _ => exact hc
  | 1, _ => exact hd
theorem h1n (w : World) (A : Obj) : (w.alloc A).drew.heap[w.heap.size]? = some A := heap_alloc_new w A
theorem h2o (w : World) (A B : Obj) : ((w.alloc A).alloc B).drew.heap[w.heap.size]? = some A := heap_alloc2_old w A B
theorem h2n (w : World) (A B : Obj) : ((w.alloc A).alloc B).drew.heap[w.heap.size + 1]? = some B := heap_alloc2_new w A B
theorem h3n (w : World) (A B C : Obj) : (((w.alloc A).alloc B).alloc C).drew.heap[w.heap.size + 2]? = some C := by
  have := heap_alloc2_new (w.alloc A) B C
  rw [World.size_alloc] at this
  exact this
theorem h4o (w : World) (A B C D : Obj) : ((((w.alloc A).alloc B).alloc C).alloc D).drew.heap[w.heap.size + 2]? = some C := by
  have := heap_alloc2_old ((w.alloc A).alloc B) C D
  rw [World.size_alloc, World.size_alloc] at this
  exact this
theorem h4n (w : World) (A B C D : Obj) : ((((w.alloc A).alloc B).alloc C).alloc D).drew.heap[w.heap.size + 3]? = some D := by
  have := heap_alloc2_new ((w.alloc A).alloc B) C D
  rw [World.size_alloc, World.size_alloc] at this
  exact this
theorem tab1 {w : World} (h : Tab w) (A : Obj) : Tab (w.alloc A).drew := (h.alloc A)
theorem tab2 {w : World} (h : Tab w) (A B : Obj) : Tab ((w.alloc A).alloc B).drew := ((h.alloc A).alloc B)
theorem tab3 {w : World} (h : Tab w) (A B C : Obj) : Tab (((w.alloc A).alloc B).alloc C).drew := (((h.alloc A).alloc B).alloc C)
theorem tab4 {w : World} (h : Tab w) (A B C D : Obj) : Tab ((((w.alloc A).alloc B).alloc C).alloc D).drew := ((((h.alloc A).alloc B).alloc C).alloc D)
theorem one_small' {s : ByteArray} (h : s.size ≤ 9223372036854775807) : ∀ x ∈ [s], x.size ≤ 9223372036854775807 := by
  intro x hx
  obtain rfl : x = s := by simpa using hx
  exact h
theorem below4 (w : World) (A B C D : Obj) : Below w.heap.size w ((((w.alloc A).alloc B).alloc C).alloc D).drew := (Below.next_alloc (Below.next_alloc (Below.next_alloc ((Below.refl _ _).alloc (Nat.le_refl _) _) _) _) _).drew
theorem cut_two (s : ByteArray) (k : Nat) : (s.extract 0 k).data.toList ++ (s.extract k s.size).data.toList = s.data.toList := by
  rw [Lib.extract_data, Lib.extract_data, List.drop_zero, Nat.sub_zero]
  have : (s.data.toList.drop k).take (s.size - k) = s.data.toList.drop k := List.take_of_length_le (by rw [List.length_drop, Cr.size_list]; omega)
  rw [this, List.take_append_drop]

set_option maxHeartbeats 400000 in
theorem bursts_zero (s : ByteArray) (a c m : Int) (w : World) (hT : Tab w) (h0 : s.size = 0) :
    Calls Tryd.prog 9 #[.string s, .int .u16 a, .int .u16 c, .int .u32 m] w (Gives (.bool true) w) := by
  obtain rfl := empty_of_size h0
  have h00 : Cr.crc (catl [ByteArray.empty, ByteArray.empty]) = 0 := by decide +kernel
  have HT := Lib.hid hT; clear hT
  go_enter Tryd.func9, Tryd.ntmps9
  go_wp2_with fail
  refine (crc_any _ _ _ [ByteArray.empty, ByteArray.empty] _ (sees_two w _ _ _ _) (HT.out.alloc _) (two_small (by decide) (by decide)) (by omega)).mono ?_
  rintro e w1 ⟨rfl, rfl⟩
  rw [h00]
  go_wp2_with fail
  refine (awake_any _ (HT.out.alloc _)).mono ?_
  rintro e w1 ⟨rfl, hb⟩
  have HB := Lib.hid (Below.next ((Below.refl w.heap.size w).alloc (Nat.le_refl _) _) hb)
  clear hb
  go_wp2_with fail
  go_ret
  exact ⟨rfl, HB.out⟩

set_option maxRecDepth 100000 in
set_option maxHeartbeats 4000000 in
theorem bursts_eq (s : ByteArray) (a c m : Nat) (w : World) (hT : Tab w) (h3000 : ¬ 3000 < (s.size : Int)) (h0 : 0 < s.size) (hm : m < 4294967296) (_ha : a ≤ 65535) (_hc : c ≤ 65535)
    (hst : s.data.toList = Cr.turn s.data.toList (a % s.size) m 4) :
    Calls Tryd.prog 9 #[.string s, .int .u16 a, .int .u16 c, .int .u32 m] w (Gives (.bool true) w) := by
  have hk1 : a % s.size < s.size := Nat.mod_lt _ h0
  have hk2 : c % s.size < s.size := Nat.mod_lt _ h0
  have hmod1 : ((a : Int) % (s.size : Int)) = ((a % s.size : Nat) : Int) := by omega
  have hmod2 : ((c : Int) % (s.size : Int)) = ((c % s.size : Nat) : Int) := by omega
  have hz : ((s.size : Int) == 0) = false := by rw [beq_eq_false_iff_ne]; omega
  have hz2 : (0 : Int) < (s.size : Int) := by omega
  have HTU := Lib.hid (fun (x : World) => turned_any s (a % s.size) m x (by omega) (by omega) hm)
  have hcr := Cr.crc_turn s.data.toList (a % s.size) m (by rw [Cr.size_list]; omega)
  generalize a % s.size = k1 at *
  generalize c % s.size = k at *
  obtain ⟨t, ht⟩ : ∃ t : ByteArray, t = ⟨(Cr.turn s.data.toList k1 m 4).toArray⟩ := ⟨_, rfl⟩
  have htl : Cr.turn s.data.toList k1 m 4 = t.data.toList := by rw [ht]
  rw [← ht] at HTU
  rw [htl] at hcr hst
  clear ht
  have HTS : Hid (t.size = s.size) := Lib.hid (by rw [← Cr.size_list t, ← htl, Cr.turn_length, Cr.size_list])
  clear htl
  obtain ⟨A1, hA1⟩ : ∃ A1 : ByteArray, A1 = s.extract 0 k := ⟨_, rfl⟩
  obtain ⟨A2, hA2⟩ : ∃ A2 : ByteArray, A2 = s.extract k s.size := ⟨_, rfl⟩
  have hsl1 : ∀ w : World, (Instr.slice 9 (.string s) none (some (.int .i64 (k : Int))) none).run Tryd.prog w = .ok (.string A1) w := fun w => by
    rw [run_slice_string_h w 9 s Tryd.underlying9 .i64 (k : Int) (by omega) (by omega), hA1]
    rfl
  have hsl2 : ∀ w : World, (Instr.slice 9 (.string s) (some (.int .i64 (k : Int))) none none).run Tryd.prog w = .ok (.string A2) w := fun w => by
    rw [run_slice_string_l w 9 s Tryd.underlying9 .i64 (k : Int) (by omega) (by omega), hA2]
    rfl
  obtain ⟨QS, hQS⟩ : ∃ Q, Q = Cr.crc s.data.toList := ⟨_, rfl⟩
  have HQS : Hid (Cr.crc (catl [s]) = QS) := by rw [catl_one]; exact Lib.hid hQS.symm
  have HQP : Hid (Cr.crc (catl [A1, A2]) = QS) := by rw [catl_two, hA1, hA2, cut_two s k]; exact Lib.hid hQS.symm
  have HZS := Lib.hid (one_small' (s := s) (by omega))
  have HZP := Lib.hid (two_small (a := A1) (b := A2) (by rw [hA1, ByteArray.size_extract]; omega) (by rw [hA2, ByteArray.size_extract]; omega))
  obtain rfl : s = t := ByteArray.ext (Array.toList_inj.1 hst)
  clear hQS hcr hst hA1 hA2
  have HT := Lib.hid hT
  clear hT
  go_enter Tryd.func9, Tryd.ntmps9
  go_wp2_with fail
  refine (HTU.out _).mono ?_
  rintro e w3 ⟨rfl, hb⟩
  have HB3 := Lib.hid hb
  have HT3 := Lib.hid (HT.out.below hb)
  clear hb HTU
  go_wp2_with fail
  have HAW := Lib.hid (fun (A B C D : Obj) => awake_any ((((w3.alloc A).alloc B).alloc C).alloc D).drew (HT3.out.below (below4 w3 A B C D)))
  go_region_held3 (fun _ => True) (trivial)
    (first
      | ((with_reducible refine (crc_any _ _ _ [s] _ (sees_heap1 (h1n _ _)) (tab1 HT3.out _) HZS.out (by omega)).mono ?_); rintro e wr ⟨rfl, rfl⟩; rw [HQS.out])
      | ((with_reducible refine (crc_any _ _ _ [s] _ (sees_heap1 (h2o _ _ _)) (tab2 HT3.out _ _) HZS.out (by omega)).mono ?_); rintro e wr ⟨rfl, rfl⟩; rw [HQS.out])
      | ((with_reducible refine (crc_any _ _ _ [s] _ (sees_heap1 (h2n _ _ _)) (tab2 HT3.out _ _) HZS.out (by omega)).mono ?_); rintro e wr ⟨rfl, rfl⟩; rw [HQS.out])
      | ((with_reducible refine (crc_any _ _ _ [s] _ (sees_heap1 (h3n _ _ _ _)) (tab3 HT3.out _ _ _) HZS.out (by omega)).mono ?_); rintro e wr ⟨rfl, rfl⟩; rw [HQS.out])
      | ((with_reducible refine (crc_any _ _ _ [s] _ (sees_heap1 (h4o _ _ _ _ _)) (tab4 HT3.out _ _ _ _) HZS.out (by omega)).mono ?_); rintro e wr ⟨rfl, rfl⟩; rw [HQS.out])
      | ((with_reducible refine (crc_any _ _ _ [s] _ (sees_heap1 (h4n _ _ _ _ _)) (tab4 HT3.out _ _ _ _) HZS.out (by omega)).mono ?_); rintro e wr ⟨rfl, rfl⟩; rw [HQS.out])
      | ((with_reducible refine (crc_any _ _ _ [A1, A2] _ (sees_heap2 (h3n _ _ _ _)) (tab3 HT3.out _ _ _) HZP.out (by omega)).mono ?_); rintro e wr ⟨rfl, rfl⟩; rw [HQP.out])
      | ((with_reducible refine (crc_any _ _ _ [A1, A2] _ (sees_heap2 (h4o _ _ _ _ _)) (tab4 HT3.out _ _ _ _) HZP.out (by omega)).mono ?_); rintro e wr ⟨rfl, rfl⟩; rw [HQP.out])
      | ((with_reducible refine (crc_any _ _ _ [A1, A2] _ (sees_heap2 (h4n _ _ _ _ _)) (tab4 HT3.out _ _ _ _) HZP.out (by omega)).mono ?_); rintro e wr ⟨rfl, rfl⟩; rw [HQP.out])
      | ((with_reducible refine (HAW.out _ _ _ _).mono ?_); rintro e wA ⟨rfl, hbA⟩))
  all_goals
    have HF := Lib.hid (Below.next HB3.out (Below.next (below4 w3 _ _ _ _) hbA))
    clear hbA
    go_wp2_with fail
    go_ret
    exact ⟨rfl, HF.out⟩

set_option maxRecDepth 100000 in
set_option maxHeartbeats 4000000 in
theorem bursts_ne (s : ByteArray) (a c m : Nat) (w : World) (hT : Tab w) (h3000 : ¬ 3000 < (s.size : Int)) (h0 : 0 < s.size) (hm : m < 4294967296) (_ha : a ≤ 65535) (_hc : c ≤ 65535)
    (hst : ¬ s.data.toList = Cr.turn s.data.toList (a % s.size) m 4) :
    Calls Tryd.prog 9 #[.string s, .int .u16 a, .int .u16 c, .int .u32 m] w (Gives (.bool true) w) := by
  have hk1 : a % s.size < s.size := Nat.mod_lt _ h0
  have hk2 : c % s.size < s.size := Nat.mod_lt _ h0
  have hmod1 : ((a : Int) % (s.size : Int)) = ((a % s.size : Nat) : Int) := by omega
  have hmod2 : ((c : Int) % (s.size : Int)) = ((c % s.size : Nat) : Int) := by omega
  have hz : ((s.size : Int) == 0) = false := by rw [beq_eq_false_iff_ne]; omega
  have hz2 : (0 : Int) < (s.size : Int) := by omega
  have HTU := Lib.hid (fun (x : World) => turned_any s (a % s.size) m x (by omega) (by omega) hm)
  have hcr := Cr.crc_turn s.data.toList (a % s.size) m (by rw [Cr.size_list]; omega)
  generalize a % s.size = k1 at *
  generalize c % s.size = k at *
  obtain ⟨t, ht⟩ : ∃ t : ByteArray, t = ⟨(Cr.turn s.data.toList k1 m 4).toArray⟩ := ⟨_, rfl⟩
  have htl : Cr.turn s.data.toList k1 m 4 = t.data.toList := by rw [ht]
  rw [← ht] at HTU
  rw [htl] at hcr hst
  clear ht
  have HTS : Hid (t.size = s.size) := Lib.hid (by rw [← Cr.size_list t, ← htl, Cr.turn_length, Cr.size_list])
  clear htl
  obtain ⟨A1, hA1⟩ : ∃ A1 : ByteArray, A1 = s.extract 0 k := ⟨_, rfl⟩
  obtain ⟨A2, hA2⟩ : ∃ A2 : ByteArray, A2 = s.extract k s.size := ⟨_, rfl⟩
  have hsl1 : ∀ w : World, (Instr.slice 9 (.string s) none (some (.int .i64 (k : Int))) none).run Tryd.prog w = .ok (.string A1) w := fun w => by
    rw [run_slice_string_h w 9 s Tryd.underlying9 .i64 (k : Int) (by omega) (by omega), hA1]
    rfl
  have hsl2 : ∀ w : World, (Instr.slice 9 (.string s) (some (.int .i64 (k : Int))) none none).run Tryd.prog w = .ok (.string A2) w := fun w => by
    rw [run_slice_string_l w 9 s Tryd.underlying9 .i64 (k : Int) (by omega) (by omega), hA2]
    rfl
  obtain ⟨QS, hQS⟩ : ∃ Q, Q = Cr.crc s.data.toList := ⟨_, rfl⟩
  have HQS : Hid (Cr.crc (catl [s]) = QS) := by rw [catl_one]; exact Lib.hid hQS.symm
  have HQP : Hid (Cr.crc (catl [A1, A2]) = QS) := by rw [catl_two, hA1, hA2, cut_two s k]; exact Lib.hid hQS.symm
  have HZS := Lib.hid (one_small' (s := s) (by omega))
  have HZP := Lib.hid (two_small (a := A1) (b := A2) (by rw [hA1, ByteArray.size_extract]; omega) (by rw [hA2, ByteArray.size_extract]; omega))
  have HZT := Lib.hid (one_small' (s := t) (by have := HTS.out; omega))
  obtain ⟨QT, hQT⟩ : ∃ Q, Q = Cr.crc t.data.toList := ⟨_, rfl⟩
  have HQT : Hid (Cr.crc (catl [t]) = QT) := by rw [catl_one]; exact Lib.hid hQT.symm
  have hqq : ((QS : Int) == (QT : Int)) = false := by
    rw [beq_eq_false_iff_ne, hQS, hQT]
    intro e
    exact hst (hcr.1 (by exact_mod_cast e))
  have q0 : ¬ s.toList = t.toList := fun e => hst (by rw [str_eq e])
  have q1 : (s.toList == t.toList) = false := by rw [beq_eq_false_iff_ne]; exact q0
  clear hQS hQT hcr hst hA1 hA2
  have HT := Lib.hid hT
  clear hT
  go_enter Tryd.func9, Tryd.ntmps9
  go_wp2_with fail
  refine (HTU.out _).mono ?_
  rintro e w3 ⟨rfl, hb⟩
  have HB3 := Lib.hid hb
  have HT3 := Lib.hid (HT.out.below hb)
  clear hb HTU
  go_wp2_with fail
  have HAW := Lib.hid (fun (A B C D : Obj) => awake_any ((((w3.alloc A).alloc B).alloc C).alloc D).drew (HT3.out.below (below4 w3 A B C D)))
  go_region_held3 (fun _ => True) (trivial)
    (first
      | ((with_reducible refine (crc_any _ _ _ [s] _ (sees_heap1 (h1n _ _)) (tab1 HT3.out _) HZS.out (by omega)).mono ?_); rintro e wr ⟨rfl, rfl⟩; rw [HQS.out])
      | ((with_reducible refine (crc_any _ _ _ [s] _ (sees_heap1 (h2o _ _ _)) (tab2 HT3.out _ _) HZS.out (by omega)).mono ?_); rintro e wr ⟨rfl, rfl⟩; rw [HQS.out])
      | ((with_reducible refine (crc_any _ _ _ [s] _ (sees_heap1 (h2n _ _ _)) (tab2 HT3.out _ _) HZS.out (by omega)).mono ?_); rintro e wr ⟨rfl, rfl⟩; rw [HQS.out])
      | ((with_reducible refine (crc_any _ _ _ [s] _ (sees_heap1 (h3n _ _ _ _)) (tab3 HT3.out _ _ _) HZS.out (by omega)).mono ?_); rintro e wr ⟨rfl, rfl⟩; rw [HQS.out])
      | ((with_reducible refine (crc_any _ _ _ [s] _ (sees_heap1 (h4o _ _ _ _ _)) (tab4 HT3.out _ _ _ _) HZS.out (by omega)).mono ?_); rintro e wr ⟨rfl, rfl⟩; rw [HQS.out])
      | ((with_reducible refine (crc_any _ _ _ [s] _ (sees_heap1 (h4n _ _ _ _ _)) (tab4 HT3.out _ _ _ _) HZS.out (by omega)).mono ?_); rintro e wr ⟨rfl, rfl⟩; rw [HQS.out])
      | ((with_reducible refine (crc_any _ _ _ [t] _ (sees_heap1 (h1n _ _)) (tab1 HT3.out _) HZT.out (by omega)).mono ?_); rintro e wr ⟨rfl, rfl⟩; rw [HQT.out])
      | ((with_reducible refine (crc_any _ _ _ [t] _ (sees_heap1 (h2o _ _ _)) (tab2 HT3.out _ _) HZT.out (by omega)).mono ?_); rintro e wr ⟨rfl, rfl⟩; rw [HQT.out])
      | ((with_reducible refine (crc_any _ _ _ [t] _ (sees_heap1 (h2n _ _ _)) (tab2 HT3.out _ _) HZT.out (by omega)).mono ?_); rintro e wr ⟨rfl, rfl⟩; rw [HQT.out])
      | ((with_reducible refine (crc_any _ _ _ [A1, A2] _ (sees_heap2 (h3n _ _ _ _)) (tab3 HT3.out _ _ _) HZP.out (by omega)).mono ?_); rintro e wr ⟨rfl, rfl⟩; rw [HQP.out])
      | ((with_reducible refine (crc_any _ _ _ [A1, A2] _ (sees_heap2 (h4o _ _ _ _ _)) (tab4 HT3.out _ _ _ _) HZP.out (by omega)).mono ?_); rintro e wr ⟨rfl, rfl⟩; rw [HQP.out])
      | ((with_reducible refine (crc_any _ _ _ [A1, A2] _ (sees_heap2 (h4n _ _ _ _ _)) (tab4 HT3.out _ _ _ _) HZP.out (by omega)).mono ?_); rintro e wr ⟨rfl, rfl⟩; rw [HQP.out])
      | ((with_reducible refine (HAW.out _ _ _ _).mono ?_); rintro e wA ⟨rfl, hbA⟩))
  all_goals
    have HF := Lib.hid (Below.next HB3.out (Below.next (below4 w3 _ _ _ _) hbA))
    clear hbA
    go_wp2_with fail
    go_ret
    exact ⟨rfl, HF.out⟩

end Go.Proofs.YtclgjphegaoohaaDoor

/- Walks of the document's own Frame, Write. -/
import Derived.Test.YtalmkgjinabceaaDoorFrB
import Derived.Test.YtalmkgjinabceaaDoorCellT
namespace Go.Proofs.YtalmkgjinabceaaDoor
open Go.RowKit

theorem int_beq_last (k C : Nat) : ((k : Int) == (C : Int) - 1) = decide (k + 1 = C) := by
  rw [Bool.eq_iff_iff, beq_iff_eq, decide_eq_true_eq]; omega
theorem cat_list (a b : ByteArray) : (a ++ b).data.toList = a.data.toList ++ b.data.toList := by
  rw [ByteArray.data_append, Array.toList_append]
theorem mk_of {s : ByteArray} {l : List UInt8} (h : s.data.toList = l) : (⟨l.toArray⟩ : ByteArray) = s := by
  subst h; cases s; simp
theorem cl_to {r : ByteArray} {k : Nat} (h : 24 * k + 24 ≤ r.size) : Cr.cl r k = ⟨decide (k = 0), decide (k + 1 = Cr.cells r), k, r.extract (24 * k) (24 * k + 24)⟩ := by
  unfold Cr.cl; rw [Nat.min_eq_left h]
theorem cl_end {r : ByteArray} {k : Nat} (h : r.size < 24 * k + 24) : Cr.cl r k = ⟨decide (k = 0), decide (k + 1 = Cr.cells r), k, r.extract (24 * k) r.size⟩ := by
  unfold Cr.cl; rw [Nat.min_eq_right (by omega)]

set_option maxHeartbeats 2000000 in
theorem refFrame_any (r : ByteArray) (w : World) (hr : r.size ≤ 524288) :
    Calls Tryd.prog 21 #[.string r] w (Gives (.string ⟨(Cr.frame r).toArray⟩) w) := by
  have hc := cells_small hr
  have HR := Lib.hid hr
  have hrI : (r.size : Int) ≤ 524288 := by omega
  by_cases h0 : r.size = 0
  · have hz : (((r.size : Int) + 23) / 24 == 0) = true := by rw [h0]; rfl
    have HC : Hid (1 = Cr.cells r) := by unfold Cr.cells; rw [h0]; exact Lib.hid rfl
    have HF : Hid (Cr.frame r = Cr.frm r 1) := by unfold Cr.frame; rw [← HC.out]; exact Lib.hid rfl
    have hc1 : ((1 : Nat) : Int) ≤ 21846 := by omega
    clear hc h0 hr
    go_enter Tryd.func21, Tryd.ntmps21
    go_wp2_with fail
    go_loopw [4, 5] (fun x i wr => ∃ (k : Nat) (S : ByteArray), k ≤ 1 ∧ i = .int .i64 k ∧ x = .string S ∧ Hid (S.data.toList = Cr.frm r k) ∧ Hid (Below w.heap.size w wr)) (fun _ i _ => 1 - (intOf i).toNat)
    case atStart => exact ⟨0, ⟨#[]⟩, Nat.zero_le _, rfl, rfl, Lib.hid rfl, Lib.hid (Below.refl _ _)⟩
    case round =>
      obtain ⟨k, S, hk, rfl, rfl, HS, HB⟩ := hrel
      by_cases hlt : k < 1
      · have hat := Cr.cell_at (r := r) (n := k) (by have := HC.out; omega)
        have HMAY := Lib.hid (Cr.cl_may (r := r) (n := k) (by have := HC.out; omega) HR.out)
        have hss : S.size = 32 * k := by rw [← Cr.size_list, HS.out, Cr.frm_length]
        have hno : ¬ 9223372036854775807 < S.size + 32 := by omega
        have HML : Hid ((⟨(Cr.mk (Cr.cl r k)).toArray⟩ : ByteArray).size = 32) := Cr.mk_cl_length r k
        have HN : Hid ((S ++ (⟨(Cr.mk (Cr.cl r k)).toArray⟩ : ByteArray)).data.toList = Cr.frm r (k + 1)) := by rw [cat_list, HS.out]; exact Lib.hid rfl
        have e1 := int_beq_zero k
        by_cases hto : (r.size : Int) < 24 * (k : Int) + 24
        · have ecl : (⟨((k : Int) == 0), ((k : Int) == 1 - 1), (k : Int), r.extract (24 * k) r.size⟩ : Cr.Cl) = Cr.cl r k := by
            rw [cl_end (by omega), int_beq_zero]
            congr 1
            rw [← HC.out]; exact int_beq_last k 1
          have hmk := fun (x : World) => refMake_yes ((k : Int) == 0) ((k : Int) == 1 - 1) k (r.extract (24 * k) r.size) x (by rw [ecl]; exact HMAY.out)
          rw [ecl] at hmk
          have HM := Lib.hid hmk
          clear hmk ecl e1 hss
          go_wp2_with fail
          refine (HM.out _).mono ?_
          rintro e w1 ⟨rfl, hb1⟩
          have HB1 := Lib.hid (Below.next HB.out hb1)
          clear hb1 HB HM HMAY
          generalize (⟨(Cr.mk (Cr.cl r k)).toArray⟩ : ByteArray) = M at *
          have hno2 : ¬ 9223372036854775807 < S.size + M.size := by rw [HML.out]; exact hno
          clear hno
          go_wp2_with fail
          go_roundw
          case rel => exact ⟨k + 1, _, by omega, by go_num, rfl, HN, HB1⟩
          case measure => simp [intOf]; omega
        · have hto2 : 24 * (k : Int) + 24 ≤ (r.size : Int) := by omega
          clear hto
          have ecl : (⟨((k : Int) == 0), ((k : Int) == 1 - 1), (k : Int), r.extract (24 * k) (24 * k + 24)⟩ : Cr.Cl) = Cr.cl r k := by
            rw [cl_to (by omega), int_beq_zero]
            congr 1
            rw [← HC.out]; exact int_beq_last k 1
          have hmk := fun (x : World) => refMake_yes ((k : Int) == 0) ((k : Int) == 1 - 1) k (r.extract (24 * k) (24 * k + 24)) x (by rw [ecl]; exact HMAY.out)
          rw [ecl] at hmk
          have HM := Lib.hid hmk
          clear hmk ecl e1 hss
          go_wp2_with fail
          refine (HM.out _).mono ?_
          rintro e w1 ⟨rfl, hb1⟩
          have HB1 := Lib.hid (Below.next HB.out hb1)
          clear hb1 HB HM HMAY
          generalize (⟨(Cr.mk (Cr.cl r k)).toArray⟩ : ByteArray) = M at *
          have hno2 : ¬ 9223372036854775807 < S.size + M.size := by rw [HML.out]; exact hno
          clear hno
          go_wp2_with fail
          go_roundw
          case rel => exact ⟨k + 1, _, by omega, by go_num, rfl, HN, HB1⟩
          case measure => simp [intOf]; omega
      · obtain rfl : 1 = k := by omega
        go_wp2_with fail
        go_ret
        rw [HF.out, mk_of HS.out]
        exact ⟨rfl, HB.out⟩
  · obtain ⟨C, hC⟩ : ∃ C, C = Cr.cells r := ⟨_, rfl⟩
    have hq : ((r.size : Int) + 23) / 24 = (C : Int) := by rw [hC]; unfold Cr.cells; omega
    have hz : ((C : Int) == 0) = false := by rw [beq_eq_false_iff_ne, hC]; have := Cr.cells_pos r; omega
    have HC := Lib.hid hC
    have HF : Hid (Cr.frame r = Cr.frm r C) := by unfold Cr.frame; rw [← HC.out]; exact Lib.hid rfl
    have hc1 : (C : Int) ≤ 21846 := by rw [hC]; omega
    clear hC hc h0 hr
    go_enter Tryd.func21, Tryd.ntmps21
    go_wp2_with fail
    simp only [hq]
    clear hz hq
    go_loopw [4, 5] (fun x i wr => ∃ (k : Nat) (S : ByteArray), k ≤ C ∧ i = .int .i64 k ∧ x = .string S ∧ Hid (S.data.toList = Cr.frm r k) ∧ Hid (Below w.heap.size w wr)) (fun _ i _ => C - (intOf i).toNat)
    case atStart => exact ⟨0, ⟨#[]⟩, Nat.zero_le _, rfl, rfl, Lib.hid rfl, Lib.hid (Below.refl _ _)⟩
    case round =>
      obtain ⟨k, S, hk, rfl, rfl, HS, HB⟩ := hrel
      by_cases hlt : k < C
      · have hat := Cr.cell_at (r := r) (n := k) (by have := HC.out; omega)
        have HMAY := Lib.hid (Cr.cl_may (r := r) (n := k) (by have := HC.out; omega) HR.out)
        have hss : S.size = 32 * k := by rw [← Cr.size_list, HS.out, Cr.frm_length]
        have hno : ¬ 9223372036854775807 < S.size + 32 := by omega
        have HML : Hid ((⟨(Cr.mk (Cr.cl r k)).toArray⟩ : ByteArray).size = 32) := Cr.mk_cl_length r k
        have HN : Hid ((S ++ (⟨(Cr.mk (Cr.cl r k)).toArray⟩ : ByteArray)).data.toList = Cr.frm r (k + 1)) := by rw [cat_list, HS.out]; exact Lib.hid rfl
        have e1 := int_beq_zero k
        by_cases hto : (r.size : Int) < 24 * (k : Int) + 24
        · have ecl : (⟨((k : Int) == 0), ((k : Int) == (C : Int) - 1), (k : Int), r.extract (24 * k) r.size⟩ : Cr.Cl) = Cr.cl r k := by
            rw [cl_end (by omega), int_beq_zero]
            congr 1
            rw [← HC.out]; exact int_beq_last k C
          have hmk := fun (x : World) => refMake_yes ((k : Int) == 0) ((k : Int) == (C : Int) - 1) k (r.extract (24 * k) r.size) x (by rw [ecl]; exact HMAY.out)
          rw [ecl] at hmk
          have HM := Lib.hid hmk
          clear hmk ecl e1 hss
          go_wp2_with fail
          refine (HM.out _).mono ?_
          rintro e w1 ⟨rfl, hb1⟩
          have HB1 := Lib.hid (Below.next HB.out hb1)
          clear hb1 HB HM HMAY
          generalize (⟨(Cr.mk (Cr.cl r k)).toArray⟩ : ByteArray) = M at *
          have hno2 : ¬ 9223372036854775807 < S.size + M.size := by rw [HML.out]; exact hno
          clear hno
          go_wp2_with fail
          go_roundw
          case rel => exact ⟨k + 1, _, by omega, by go_num, rfl, HN, HB1⟩
          case measure => simp [intOf]; omega
        · have hto2 : 24 * (k : Int) + 24 ≤ (r.size : Int) := by omega
          clear hto
          have ecl : (⟨((k : Int) == 0), ((k : Int) == (C : Int) - 1), (k : Int), r.extract (24 * k) (24 * k + 24)⟩ : Cr.Cl) = Cr.cl r k := by
            rw [cl_to (by omega), int_beq_zero]
            congr 1
            rw [← HC.out]; exact int_beq_last k C
          have hmk := fun (x : World) => refMake_yes ((k : Int) == 0) ((k : Int) == (C : Int) - 1) k (r.extract (24 * k) (24 * k + 24)) x (by rw [ecl]; exact HMAY.out)
          rw [ecl] at hmk
          have HM := Lib.hid hmk
          clear hmk ecl e1 hss
          go_wp2_with fail
          refine (HM.out _).mono ?_
          rintro e w1 ⟨rfl, hb1⟩
          have HB1 := Lib.hid (Below.next HB.out hb1)
          clear hb1 HB HM HMAY
          generalize (⟨(Cr.mk (Cr.cl r k)).toArray⟩ : ByteArray) = M at *
          have hno2 : ¬ 9223372036854775807 < S.size + M.size := by rw [HML.out]; exact hno
          clear hno
          go_wp2_with fail
          go_roundw
          case rel => exact ⟨k + 1, _, by omega, by go_num, rfl, HN, HB1⟩
          case measure => simp [intOf]; omega
      · obtain rfl : C = k := by omega
        go_wp2_with fail
        go_ret
        rw [HF.out, mk_of HS.out]
        exact ⟨rfl, HB.out⟩

set_option maxHeartbeats 2000000 in
theorem refWrite_any (ao : Option Addr) (len cap : Nat) (ss : List ByteArray) (w : World) (hV : SeesS w (.slice ao len cap) ss) (hz : ∀ s ∈ ss, s.size ≤ 9223372036854775807) (hl : len ≤ 1000000) :
    Calls Tryd.prog 15 #[.slice ao len cap] w (Gives (wrV ss) w) := by
  obtain ⟨hlen, b, off, hcell⟩ := hV.get
  clear hV
  have HC := Lib.hid hcell; clear hcell
  have HZ := Lib.hid hz; clear hz
  have HLEN := Lib.hid hlen; clear hlen
  obtain ⟨V, hV⟩ : ∃ V, V = wrV ss := ⟨_, rfl⟩
  rw [← hV]
  have HV := Lib.hid hV; clear hV
  have hlI : (len : Int) ≤ 1000000 := by omega
  have HL := Lib.hid hl; clear hl
  go_enter Tryd.func15, Tryd.ntmps15
  go_wp2_with fail
  go_loopw [4, 5] (fun x i wr => ∃ (k : Nat) (S : ByteArray), k ≤ len ∧ i = .int .i64 k ∧ x = .string S ∧ Hid (S.data.toList = Cr.frames (ss.take k)) ∧ Hid (∀ i, i < k → (ss.getD i ByteArray.empty).size ≤ 524288) ∧ Hid (Below w.heap.size w wr)) (fun _ i _ => len - (intOf i).toNat)
  case atStart => exact ⟨0, ⟨#[]⟩, Nat.zero_le _, rfl, rfl, Lib.hid rfl, Lib.hid (fun i hi => by omega), Lib.hid (Below.refl _ _)⟩
  case round =>
    obtain ⟨k, S, hk, rfl, rfl, HS, HSH, HB⟩ := hrel
    by_cases hlt : k < len
    · obtain ⟨ha, hb, hc⟩ := HC.out k hlt
      have hc2 := (HB.out.cell (p := ⟨b, off + k, none⟩) hb).trans hc
      have hk' : k < ss.length := by have := HLEN.out; omega
      have hsz : (ss.getD k ByteArray.empty).size ≤ 9223372036854775807 := by
        rw [getD_at hk']; exact HZ.out _ (List.getElem_mem hk')
      subst ha
      clear hc
      by_cases hlong : 524288 < (ss.getD k ByteArray.empty).size
      · have HE : Hid (V = .tuple #[.string ⟨#[]⟩, .int .i64 3]) := by
          rw [HV.out]
          exact Lib.hid (wrV_long (List.getElem_mem hk') (by rw [← getD_at hk']; exact hlong))
        have hlongI : (524288 : Int) < ((ss.getD k ByteArray.empty).size : Int) := by omega
        clear hk' hlong
        generalize ss.getD k ByteArray.empty = s at *
        go_wp2_with fail
        go_ret2
        rw [HE.out]
        exact ⟨rfl, HB.out⟩
      · have hsm : (ss.getD k ByteArray.empty).size ≤ 524288 := by omega
        have HU : Hid (Cr.frames (ss.take (k + 1)) = S.data.toList ++ Cr.frame (ss.getD k ByteArray.empty)) := by rw [frames_snoc hk', HS.out]; exact Lib.hid rfl
        have HS2 : Hid (∀ i, i < k + 1 → (ss.getD i ByteArray.empty).size ≤ 524288) := Lib.hid (fun i hi => by
          by_cases e : i = k
          · rw [e]; exact hsm
          · exact HSH.out i (by omega))
        have hss : S.size ≤ 699072000000 := by
          rw [← Cr.size_list, HS.out, frames_length]
          have h1 := cellsS_le (ss := ss.take k) (fun s hs => by
            obtain ⟨i, hi, rfl⟩ := List.mem_iff_getElem.1 hs
            rw [List.length_take] at hi
            have := HSH.out i (by omega)
            rw [getD_at (by omega)] at this
            rw [List.getElem_take]; exact this)
          rw [List.length_take] at h1
          have := HL.out
          omega
        have HSS := Lib.hid hss; clear hss
        have hsmI : ((ss.getD k ByteArray.empty).size : Int) ≤ 524288 := by omega
        have HSM := Lib.hid hsm
        clear hk' hlong HSH hsz hsm
        generalize ss.getD k ByteArray.empty = s at *
        go_wp2_with fail
        refine (refFrame_any s _ HSM.out).mono ?_
        rintro e w1 ⟨rfl, hb1⟩
        have HB1 := Lib.hid (Below.next HB.out hb1); clear hb1 HB
        have hno : ¬ 9223372036854775807 < S.size + (⟨(Cr.frame s).toArray⟩ : ByteArray).size := by
          have h1 : (⟨(Cr.frame s).toArray⟩ : ByteArray).size = 32 * Cr.cells s := Cr.frame_length s
          have h2 := cells_small HSM.out
          have := HSS.out
          omega
        have HN : Hid ((S ++ (⟨(Cr.frame s).toArray⟩ : ByteArray)).data.toList = Cr.frames (ss.take (k + 1))) := by rw [cat_list, HU.out]; exact Lib.hid rfl
        generalize (⟨(Cr.frame s).toArray⟩ : ByteArray) = F at *
        go_wp2_with fail
        go_roundw
        case rel => exact ⟨k + 1, _, by omega, by go_num, rfl, HN, HS2, HB1⟩
        case measure => simp [intOf]; omega
    · obtain rfl : len = k := by omega
      have hall : ∀ s ∈ ss, s.size ≤ 524288 := by
        intro s hs
        obtain ⟨i, hi, rfl⟩ := List.mem_iff_getElem.1 hs
        rw [← getD_at hi]
        exact HSH.out i (by have := HLEN.out; omega)
      have HE : Hid (V = .tuple #[.string S, .int .i64 0]) := by
        have h1 := HS.out
        rw [List.take_of_length_le (by have := HLEN.out; omega)] at h1
        rw [HV.out, wrV_ok hall, mk_of h1]; exact Lib.hid rfl
      clear hall
      go_wp2_with fail
      go_ret2
      rw [HE.out]
      exact ⟨rfl, HB.out⟩

end Go.Proofs.YtalmkgjinabceaaDoor

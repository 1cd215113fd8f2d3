/- Walks of frame.cellsOf, appendFrame. -/
import Derived.Test.YtalmkgjinabceaaDoorCellE
import Derived.Test.YtalmkgjinabceaaDoorFrMath
import Derived.Test.YtalmkgjinabceaaDoorOwns
namespace Go.Proofs.YtalmkgjinabceaaDoor
open Go.RowKit

theorem Tab.belowB {w w' : World} {base : Nat} (h : Tab w) (h0 : 0 < base) (hb : Below base w w') : Tab w' := fun i hi => (hb.cell (p := ⟨0, i, none⟩) h0).trans (h i hi)

set_option maxHeartbeats 400000 in
theorem cellsOf_any (r : ByteArray) (w : World) (hr : r.size ≤ 1000000000000) :
    Calls Tryd.prog 18 #[.string r] w fun e w' => e = .returned (.int .i64 (Cr.cells r : Nat)) ∧ w = w' := by
  go_enter Tryd.func18, Tryd.ntmps18
  go_wp2_with fail
  go_ret
  refine ⟨?_, rfl⟩
  unfold Cr.cells
  have e : max 1 (((r.size : Int) + 24 - 1) / 24) = ((max 1 ((r.size + 23) / 24) : Nat) : Int) := by omega
  exact congrArg (fun x => Ending.returned (.int .i64 x)) e

theorem cells_small {r : ByteArray} (h : r.size ≤ 524288) : Cr.cells r ≤ 21846 := by unfold Cr.cells; omega

/-- A cell as the code spells it. -/
theorem cl_last {r : ByteArray} {k : Nat} (hk : k + 1 = Cr.cells r) : Cr.cl r k = ⟨decide (k = 0), true, k, r.extract (24 * k) r.size⟩ := by
  unfold Cr.cl
  rw [show min (24 * k + 24) r.size = r.size by unfold Cr.cells at hk; omega, decide_eq_true hk]
theorem cl_more {r : ByteArray} {k : Nat} (hk : k + 1 < Cr.cells r) : Cr.cl r k = ⟨decide (k = 0), false, k, r.extract (24 * k) (24 * k + 24)⟩ := by
  unfold Cr.cl
  rw [show min (24 * k + 24) r.size = 24 * k + 24 by unfold Cr.cells at hk; omega, decide_eq_false (show ¬ k + 1 = Cr.cells r by omega)]
theorem int_beq_zero (k : Nat) : ((k : Int) == 0) = decide (k = 0) := by
  rw [Bool.eq_iff_iff, beq_iff_eq, decide_eq_true_eq]; omega

set_option maxHeartbeats 1000000 in
theorem appendFrame_any (base : Nat) (v : Value) (l : List UInt8) (r : ByteArray) (w : World) (hown : Owns w base v l) (h0 : 0 < base) (hb : base ≤ w.heap.size) (hT : Tab w) (hl : l.length ≤ 1099511627776) (hr : r.size ≤ 524288) :
    Calls Tryd.prog 19 #[v, .string r] w (Grew base (l ++ Cr.frame r) w) := by
  obtain ⟨i0, hi, hz0, hz1, hz2⟩ := info_parts info_u8
  have hc := cells_small hr
  have HR := Lib.hid hr
  have HT := Lib.hid hT; clear hT
  have HL := Lib.hid hl; clear hl
  have hcp := Cr.cells_pos r
  go_enter Tryd.func19, Tryd.ntmps19
  go_wp2_with fail
  refine (cellsOf_any r _ (by omega)).mono ?_
  rintro e w' ⟨rfl, rfl⟩
  obtain ⟨C, hC⟩ : ∃ C, C = Cr.cells r := ⟨_, rfl⟩
  rw [← hC] at hc hcp ⊢
  have HF : Hid (Cr.frame r = Cr.frm r C) := by rw [hC]; exact Lib.hid rfl
  have HC := Lib.hid hC; clear hC
  clear hr
  go_wp2_with fail
  go_loopw [0, 13] (fun u i wr => ∃ k : Nat, k ≤ C ∧ i = .int .i64 k ∧ Hid (Owns wr base u (l ++ Cr.frm r k)) ∧ Hid (Below base w wr)) (fun _ i _ => C - (intOf i).toNat)
  case atStart => exact ⟨0, Nat.zero_le _, rfl, Lib.hid (by rw [Cr.frm, List.append_nil]; exact hown), Lib.hid (Below.refl _ _)⟩
  case round =>
    obtain ⟨k, hk, rfl, HO, HB⟩ := hrel
    by_cases hlt : k < C
    · have hrk : 24 * k ≤ r.size := Cr.cell_at (by have := HC.out; omega)
      have hrs : r.size ≤ 524288 := HR.out
      by_cases hlast : k + 1 = C
      · skip
        have e2 : ((k : Int) == (C : Int) - 1) = true := by rw [beq_iff_eq]; omega
        have e3 : min ((k : Int) * 24 + 24) (r.size : Int) = (r.size : Int) := by have := HC.out; unfold Cr.cells at this; omega
        have ecl : (⟨((k : Int) == 0), true, (k : Int), r.extract (k * 24) r.size⟩ : Cr.Cl) = Cr.cl r k := by
          rw [cl_last (by have := HC.out; omega), int_beq_zero, Nat.mul_comm]
        have hmk := make_yes ((k : Int) == 0) true k (r.extract (k * 24) r.size) wr (HT.out.belowB h0 HB.out) (by rw [ecl]; exact Cr.cl_may (by have := HC.out; omega) hrs)
        rw [ecl] at hmk
        have HM := Lib.hid hmk
        clear hmk ecl
        go_wp2_with fail
        refine HM.out.mono ?_
        rintro e w1 ⟨rfl, hb1⟩
        have hraw : Owns w1 base u0 (l ++ Cr.frm r k) := HO.out.kept hb1
        have hb2 : Below base w w1 := HB.out.trans (hb1.mono (Nat.le_trans hb HB.out.size))
        have hbw : base ≤ w1.heap.size := below_next hb2 hb
        have hlen : (l ++ Cr.frm r k).length ≤ 1099513000000 := by rw [List.length_append, Cr.frm_length]; have := HL.out; omega
        have hS : Hid ((⟨(Cr.mk (Cr.cl r k)).toArray⟩ : ByteArray).size = 32) := Cr.mk_cl_length r k
        have HN : Hid (∀ (v' : Value) (w2 : World), w2.ownsRow base 5 1 v' ((l ++ Cr.frm r k).length + (⟨(Cr.mk (Cr.cl r k)).toArray⟩ : ByteArray).size) (Lib.byteCells (l ++ Cr.frm r k) ++ Lib.strCells ⟨(Cr.mk (Cr.cl r k)).toArray⟩) → Owns w2 base v' (l ++ Cr.frm r (k + 1))) := by
          intro v' w2 h
          have := Owns.cat h
          rw [Cr.frm, ← List.append_assoc]
          exact this
        clear HM HB HO hb1
        unfold Owns at hraw
        generalize (⟨(Cr.mk (Cr.cl r k)).toArray⟩ : ByteArray) = S at *
        generalize l ++ Cr.frm r k = L at *
        go_wp2_with (at_builtin; go_must (refine Lib.wpList_append_own_string _ rfl _ _ 30 9 rfl base 5 i0 Tryd.underlying30 Tryd.underlying9 hi hz0 hz1 hz2 _ _ _ rfl hraw S rfl ?c3 ?c4 ?c5 ?_))
        case c3 => have := hS.out; unfold maxLen; omega
        case c4 => have := hS.out; omega
        case c5 => exact hbw
        intro v' w2 hown' hgrow _
        have R : Hid (Owns w2 base v' (l ++ Cr.frm r (k + 1)) ∧ Below base w w2) := ⟨HN.out v' w2 hown', hb2.grown hgrow hbw (fun q hq => (hraw.lt q hq).1)⟩
        clear hown' hgrow hraw HN
        go_wp2_with fail
        go_roundw
        case rel => exact ⟨k + 1, by omega, by go_num, Lib.hid R.out.1, Lib.hid R.out.2⟩
        case measure => simp [intOf]; omega
      · skip
        have e2 : ((k : Int) == (C : Int) - 1) = false := by rw [beq_eq_false_iff_ne]; omega
        have e3 : min ((k : Int) * 24 + 24) (r.size : Int) = (k : Int) * 24 + 24 := by have := HC.out; unfold Cr.cells at this; omega
        have ecl : (⟨((k : Int) == 0), false, (k : Int), r.extract (k * 24) (k * 24 + 24)⟩ : Cr.Cl) = Cr.cl r k := by
          rw [cl_more (by have := HC.out; omega), int_beq_zero, Nat.mul_comm]
        have hmk := make_yes ((k : Int) == 0) false k (r.extract (k * 24) (k * 24 + 24)) wr (HT.out.belowB h0 HB.out) (by rw [ecl]; exact Cr.cl_may (by have := HC.out; omega) hrs)
        rw [ecl] at hmk
        have HM := Lib.hid hmk
        clear hmk ecl
        have hrs2 : 24 * k + 24 ≤ r.size := by have := HC.out; unfold Cr.cells at this; omega
        go_wp2_with fail
        refine HM.out.mono ?_
        rintro e w1 ⟨rfl, hb1⟩
        have hraw : Owns w1 base u0 (l ++ Cr.frm r k) := HO.out.kept hb1
        have hb2 : Below base w w1 := HB.out.trans (hb1.mono (Nat.le_trans hb HB.out.size))
        have hbw : base ≤ w1.heap.size := below_next hb2 hb
        have hlen : (l ++ Cr.frm r k).length ≤ 1099513000000 := by rw [List.length_append, Cr.frm_length]; have := HL.out; omega
        have hS : Hid ((⟨(Cr.mk (Cr.cl r k)).toArray⟩ : ByteArray).size = 32) := Cr.mk_cl_length r k
        have HN : Hid (∀ (v' : Value) (w2 : World), w2.ownsRow base 5 1 v' ((l ++ Cr.frm r k).length + (⟨(Cr.mk (Cr.cl r k)).toArray⟩ : ByteArray).size) (Lib.byteCells (l ++ Cr.frm r k) ++ Lib.strCells ⟨(Cr.mk (Cr.cl r k)).toArray⟩) → Owns w2 base v' (l ++ Cr.frm r (k + 1))) := by
          intro v' w2 h
          have := Owns.cat h
          rw [Cr.frm, ← List.append_assoc]
          exact this
        clear HM HB HO hb1
        unfold Owns at hraw
        generalize (⟨(Cr.mk (Cr.cl r k)).toArray⟩ : ByteArray) = S at *
        generalize l ++ Cr.frm r k = L at *
        go_wp2_with (at_builtin; go_must (refine Lib.wpList_append_own_string _ rfl _ _ 30 9 rfl base 5 i0 Tryd.underlying30 Tryd.underlying9 hi hz0 hz1 hz2 _ _ _ rfl hraw S rfl ?c3 ?c4 ?c5 ?_))
        case c3 => have := hS.out; unfold maxLen; omega
        case c4 => have := hS.out; omega
        case c5 => exact hbw
        intro v' w2 hown' hgrow _
        have R : Hid (Owns w2 base v' (l ++ Cr.frm r (k + 1)) ∧ Below base w w2) := ⟨HN.out v' w2 hown', hb2.grown hgrow hbw (fun q hq => (hraw.lt q hq).1)⟩
        clear hown' hgrow hraw HN
        go_wp2_with fail
        go_roundw
        case rel => exact ⟨k + 1, by omega, by go_num, Lib.hid R.out.1, Lib.hid R.out.2⟩
        case measure => simp [intOf]; omega
    · obtain rfl : k = C := by omega
      go_wp2_with fail
      go_ret
      refine ⟨_, rfl, ?_, HB.out⟩
      rw [HF.out]; exact HO.out

end Go.Proofs.YtalmkgjinabceaaDoor

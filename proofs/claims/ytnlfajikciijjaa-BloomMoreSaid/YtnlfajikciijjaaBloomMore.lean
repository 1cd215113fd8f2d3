/- The walk of BloomMore. -/
import Derived.Test.YtnlfajikciijjaaBlG
import Derived.Deep.QuietTactic
import Derived.StillTailTactics
import Derived.RegionTactic
import Derived.ChangeAlike
namespace Go.Proofs.Ytnlfajikciijjaa
open Go.RowKit

/-- '[]byte(s)': a row of the call's own. -/
theorem bytes_new (w : World) (s : ByteArray) :
    ∃ (c : Nat) (w' : World), (convert 9 32 (.string s)).run Try.prog w = .ok (.slice (some ⟨w.heap.size, 0, none⟩) s.size c) w' ∧ Row w' w.heap.size s.data.toList ∧ w.heap.size < w'.heap.size ∧ Below w.heap.size w w' :=
  ⟨_, _, run_bytes_of_string (P := Try.prog) w 9 32 5 s Try.underlying9 Try.underlying32 Try.underlying5, row_new w.drew s _ _, by simp, ((Below.refl w.heap.size w).drew).alloc (Nat.le_refl _) _⟩
theorem or_byte (a b : UInt8) : bits .or .u8 (a.toNat : Int) (b.toNat : Int) = ((a ||| b).toNat : Int) := by
  rw [u8_or_nat _ _ a.toNat_lt b.toNat_lt, UInt8.toNat_or]
theorem Row.at {w : World} {B : Nat} {l : List UInt8} (h : Row w B l) (i : Nat) (hi : i < l.length) : w.cell? ⟨B, i, none⟩ = some (.int .u8 ((l.getD i 0).toNat : Int)) ∧ w.frozen? ⟨B, i, none⟩ = false := by
  have := h i hi
  rw [List.getD_eq_getElem?_getD, List.getElem?_eq_getElem hi]
  exact this
theorem below_drewN {B : Nat} {a w : World} (h : Below B a w) (q : Nat) : Below B a (w.drewN q) := ⟨h.os, h.tape, h.output, h.size, h.block⟩
theorem Row.apart {w : World} {B C i : Nat} {v : Value} {l : List UInt8} (h : Row w B l) (hne : C ≠ B) : Row (w.setCell ⟨C, i, none⟩ v) B l := fun j hj =>
  ⟨(World.cell?_setCell_other _ _ _ _ (fun hc => hne (by injection hc))).trans (h j hj).1, (World.frozen?_setCell _ _ _ _).trans (h j hj).2⟩

set_option maxHeartbeats 4000000 in
theorem more_00 (F M K : ByteArray) (W : World) (hf : F.size ≤ 4000) (hk : K.size ≤ 4000) :
    Calls Try.prog 8 #[.string F, .string M, .string K] W (Gives (.bool true) W) := by
  have hfi : (F.size : Int) ≤ 4000 := by omega
  have hki : (K.size : Int) ≤ 4000 := by omega
  obtain ⟨c1, w1, hcv1, hr1, hz1, hb1⟩ := bytes_new W F
  obtain ⟨c2, w2, hcv2, hr2, hz2, hb2⟩ := bytes_new w1 F
  have HR1 := Lib.hid (hr1.below hz1 hb2); have HR2 := Lib.hid hr2
  have HB2 := Lib.hid (Below.next hb1 hb2)
  obtain ⟨C, hC⟩ : ∃ C, C = w1.heap.size := ⟨_, rfl⟩
  rw [← hC] at hcv2 hz2 HR2
  have hne : W.heap.size ≠ C := by omega
  have hlt : W.heap.size < C := by omega
  clear hr1 hr2 hb1 hb2 hz1 hC
  have HL : Hid (F.data.toList.length = F.size) := Lib.hid (list_size F)
  have HLM : Hid (M.data.toList.length = M.size) := Lib.hid (list_size M)
  obtain ⟨L, hL⟩ : ∃ L, L = F.data.toList := ⟨_, rfl⟩
  obtain ⟨LM, hLM⟩ : ∃ L, L = M.data.toList := ⟨_, rfl⟩
  have HLF := Lib.hid hL
  have HLMM := Lib.hid hLM
  rw [← hL] at HR1 HR2 HL
  rw [← hLM] at HLM
  clear hL hLM

  go_enter Try.func8, Try.ntmps8
  go_wp2_with fail
  go_loopw [9] (fun i wr => ∃ k : Nat, k ≤ F.size ∧ i = .int .i64 k ∧ C < wr.heap.size ∧ Below W.heap.size W wr ∧ Row wr W.heap.size (Bl.more L LM k) ∧ Row wr C (Bl.ones1 L k)) (fun i _ => F.size - (intOf i).toNat)
  case atStart => exact ⟨0, Nat.zero_le _, rfl, hz2, HB2.out, by rw [Bl.more_zero]; exact HR1.out, by rw [Bl.ones1_zero]; exact HR2.out⟩
  case round =>
    obtain ⟨k, hkk, rfl, hzz, hbel, hrm, hro⟩ := hrel
    by_cases hltk : k < F.size
    · by_cases hmk : k < M.size
      · have hxm := index_byte M k hmk
        have hmk2 : (k : Int) < (M.size : Int) := by omega
        obtain ⟨x, v, hx0, hx1, hv0, hv1, HOR, HS1, HS2, HB3⟩ : ∃ (x v : UInt8), wr.cell? ⟨W.heap.size, k, none⟩ = some (.int .u8 (x.toNat : Int)) ∧ wr.frozen? ⟨W.heap.size, k, none⟩ = false ∧ wr.cell? ⟨C, k, none⟩ = some (.int .u8 (v.toNat : Int)) ∧ wr.frozen? ⟨C, k, none⟩ = false ∧
            Hid (bits .or .u8 (x.toNat : Int) (M[k].toNat : Int) = ((x ||| M[k]).toNat : Int)) ∧
            Hid (∀ u, Row ((wr.setCell ⟨W.heap.size, k, none⟩ (.int .u8 ((x ||| M[k]).toNat : Int))).setCell ⟨C, k, none⟩ u) W.heap.size (Bl.more L LM (k + 1))) ∧
            Hid (∀ u, Row ((wr.setCell ⟨W.heap.size, k, none⟩ u).setCell ⟨C, k, none⟩ (.int .u8 (255 : Int))) C (Bl.ones1 L (k + 1))) ∧
            Hid (∀ u t, Below W.heap.size W ((wr.setCell ⟨W.heap.size, k, none⟩ u).setCell ⟨C, k, none⟩ t)) := by
          have hL1 : k < (Bl.more L LM k).length := by rw [Bl.more_length, HL.out]; exact hltk
          have hL2 : k < (Bl.ones1 L k).length := by rw [Bl.ones1_length, HL.out]; exact hltk
          have g1 := hrm.at k hL1
          have g2 := hro.at k hL2
          refine ⟨_, _, g1.1, g1.2, g2.1, g2.2, Lib.hid (or_byte _ _), Lib.hid (fun u => ?_), Lib.hid (fun u => ?_), Lib.hid (fun u t => ?_)⟩
          · have hs := Row.set (w := wr) hrm k ((Bl.more L LM k).getD k 0 ||| M[k])
            have e : (Bl.more L LM k).set k ((Bl.more L LM k).getD k 0 ||| M[k]) = Bl.more L LM (k + 1) := by
              rw [Bl.more_get (by rw [HL.out]; exact hltk), if_neg (by omega), ← Bl.more_set (by rw [HLM.out]; exact hmk), ← list_get M k hmk, ← HLMM.out]
            rw [e] at hs
            exact hs.apart hne.symm
          · have hs := Row.set (w := wr.setCell ⟨W.heap.size, k, none⟩ u) (Row.apart (w := wr) hro hne) k 255
            rw [Bl.ones1_set] at hs
            exact hs
          · exact (Below.setCell (p := ⟨W.heap.size, k, none⟩) hbel (Nat.le_refl _) u).setCell (p := ⟨C, k, none⟩) (Nat.le_of_lt hlt) t
        clear hrm hro
        have HBEL := Lib.hid hbel; clear hbel
        go_wp2_with fail
        go_region
        rw [HOR.out]
        generalize (x ||| M[k]) = z at *
        go_wp2_with fail
        go_roundw
        case rel => exact ⟨k + 1, by omega, by go_num, by simpa using hzz, (HB3.out _ _).drew, HS1.out _, HS2.out _⟩
        case measure => simp [intOf]; omega
      · have hmk2 : ¬ (k : Int) < (M.size : Int) := by omega
        obtain ⟨v, hv0, hv1, HS1, HS2, HB3⟩ : ∃ (v : UInt8), wr.cell? ⟨C, k, none⟩ = some (.int .u8 (v.toNat : Int)) ∧ wr.frozen? ⟨C, k, none⟩ = false ∧
            Hid (∀ u, Row (wr.setCell ⟨C, k, none⟩ u) W.heap.size (Bl.more L LM (k + 1))) ∧
            Hid (Row (wr.setCell ⟨C, k, none⟩ (.int .u8 (255 : Int))) C (Bl.ones1 L (k + 1))) ∧
            Hid (∀ t, Below W.heap.size W (wr.setCell ⟨C, k, none⟩ t)) := by
          have hL2 : k < (Bl.ones1 L k).length := by rw [Bl.ones1_length, HL.out]; exact hltk
          have g2 := hro.at k hL2
          refine ⟨_, g2.1, g2.2, Lib.hid (fun u => ?_), Lib.hid ?_, Lib.hid (fun t => ?_)⟩
          · rw [← Bl.more_stay (by rw [HLM.out]; exact hmk)]
            exact hrm.apart hne.symm
          · have hs := Row.set hro k 255
            rw [Bl.ones1_set] at hs
            exact hs
          · exact hbel.setCell (p := ⟨C, k, none⟩) (Nat.le_of_lt hlt) t
        clear hrm hro hbel
        go_wp2_with fail
        go_roundw
        case rel => exact ⟨k + 1, by omega, by go_num, by simpa using hzz, HB3.out _, HS1.out _, HS2.out⟩
        case measure => simp [intOf]; omega
    · obtain rfl : F.size = k := by omega
      obtain ⟨FM, HFM⟩ : ∃ FM : ByteArray, Hid (FM = ⟨(Bl.more L LM F.size).toArray⟩) := ⟨_, Lib.hid rfl⟩
      obtain ⟨FO, HFO⟩ : ∃ FO : ByteArray, Hid (FO = ⟨(Bl.ones1 L F.size).toArray⟩) := ⟨_, Lib.hid rfl⟩
      have HSM : Hid (FM.size = F.size) := Lib.hid (by rw [HFM.out]; show (Bl.more L LM F.size).toArray.size = _; rw [List.size_toArray, Bl.more_length, HL.out])
      have HSO : Hid (FO.size = F.size) := Lib.hid (by rw [HFO.out]; show (Bl.ones1 L F.size).toArray.size = _; rw [List.size_toArray, Bl.ones1_length, HL.out])
      have HMM : Hid (Bl.may F.data.toList K.data.toList = true → Bl.may FM.data.toList K.data.toList = true) := Lib.hid (fun h => by rw [HFM.out]; rw [← HLF.out] at h; exact Bl.may_more _ h)
      have HMO : Hid (Bl.may FO.data.toList K.data.toList = decide ((0 : Int) < (F.size : Int))) := Lib.hid (by
        rw [HFO.out]
        have := Bl.may_ones L K.data.toList
        rw [HL.out] at this
        show Bl.may (Bl.ones1 L F.size) _ = _
        rw [this]
        exact decide_eq_decide.2 ⟨fun h => by omega, fun h => by omega⟩)
      have HTM : Hid (∀ w', Below wr.heap.size wr w' → (convert 32 9 (.slice (some ⟨W.heap.size, 0, none⟩) F.size c1)).run Try.prog w' = .ok (.string FM) w') := Lib.hid (fun w' hb => by
        have := (hrm.below (by omega) hb).text c1
        rw [Bl.more_length, HL.out] at this
        rw [this, HFM.out])
      have HTO : Hid (∀ w', Below wr.heap.size wr w' → (convert 32 9 (.slice (some ⟨C, 0, none⟩) F.size c2)).run Try.prog w' = .ok (.string FO) w') := Lib.hid (fun w' hb => by
        have := (hro.below (by omega) hb).text c2
        rw [Bl.ones1_length, HL.out] at this
        rw [this, HFO.out])
      have HBEL := Lib.hid hbel
      clear hrm hro hbel
      cases hmay : Bl.may F.data.toList K.data.toList with
      | false =>
        go_wp2_with fail
        refine (may_any F K _ (by omega) (by omega)).mono ?_
        rintro e w3 ⟨rfl, hb3⟩
        rw [hmay]
        have ht := HTO.out _ hb3
        have HB3 := Lib.hid hb3; clear hb3
        go_wp2_with fail
        refine (may_any FO K _ (by have := HSO.out; omega) (by omega)).mono ?_
        rintro e w4 ⟨rfl, hb4⟩
        rw [HMO.out]
        have HB4 := Lib.hid (Below.next HB3.out hb4); clear hb4
        go_wp2_with fail
        refine (awake_any _).mono ?_
        rintro e w5 ⟨rfl, hb5⟩
        go_wp2_with fail
        go_ret
        exact ⟨rfl, Below.next (HBEL.out.trans (HB4.out.mono (by omega))) hb5⟩
      | true =>
        have HMT := Lib.hid (HMM.out hmay)
        go_wp2_with fail
        refine (may_any F K _ (by omega) (by omega)).mono ?_
        rintro e w3 ⟨rfl, hb3⟩
        rw [hmay]
        have ht := HTM.out _ hb3
        have HB3 := Lib.hid hb3; clear hb3
        go_wp2_with fail
        refine (may_any FM K _ (by have := HSM.out; omega) (by omega)).mono ?_
        rintro e w4 ⟨rfl, hb4⟩
        rw [HMT.out]
        have HB4 := Lib.hid (Below.next HB3.out hb4); clear hb4
        have ht2 := HTO.out _ HB4.out
        go_wp2_with fail
        refine (may_any FO K _ (by have := HSO.out; omega) (by omega)).mono ?_
        rintro e w5 ⟨rfl, hb5⟩
        rw [HMO.out]
        have HB5 := Lib.hid (Below.next HB4.out hb5); clear hb5
        go_wp2_with fail
        refine (awake_any _).mono ?_
        rintro e w6 ⟨rfl, hb6⟩
        go_wp2_with fail
        go_ret
        exact ⟨rfl, Below.next (HBEL.out.trans (HB5.out.mono (by omega))) hb6⟩

set_option maxHeartbeats 4000000 in
theorem more_01 (F M K0 : ByteArray) (W : World) (hf : F.size ≤ 4000) (hk0 : 4000 < K0.size) (hk1 : K0.size ≤ 9223372036854775807) :
    Calls Try.prog 8 #[.string F, .string M, .string K0] W (Gives (.bool true) W) := by
  have hfi : (F.size : Int) ≤ 4000 := by omega
  obtain ⟨K, hKX⟩ : ∃ K, K0.extract 0 4000 = K := ⟨_, rfl⟩
  have hk : K.size ≤ 4000 := by rw [← hKX, ByteArray.size_extract]; omega
  have HKX := Lib.hid hKX; clear hKX
  have hki : (4000 : Int) < K0.size := by omega
  obtain ⟨c1, w1, hcv1, hr1, hz1, hb1⟩ := bytes_new W F
  obtain ⟨c2, w2, hcv2, hr2, hz2, hb2⟩ := bytes_new w1 F
  have HR1 := Lib.hid (hr1.below hz1 hb2); have HR2 := Lib.hid hr2
  have HB2 := Lib.hid (Below.next hb1 hb2)
  obtain ⟨C, hC⟩ : ∃ C, C = w1.heap.size := ⟨_, rfl⟩
  rw [← hC] at hcv2 hz2 HR2
  have hne : W.heap.size ≠ C := by omega
  have hlt : W.heap.size < C := by omega
  clear hr1 hr2 hb1 hb2 hz1 hC
  have HL : Hid (F.data.toList.length = F.size) := Lib.hid (list_size F)
  have HLM : Hid (M.data.toList.length = M.size) := Lib.hid (list_size M)
  obtain ⟨L, hL⟩ : ∃ L, L = F.data.toList := ⟨_, rfl⟩
  obtain ⟨LM, hLM⟩ : ∃ L, L = M.data.toList := ⟨_, rfl⟩
  have HLF := Lib.hid hL
  have HLMM := Lib.hid hLM
  rw [← hL] at HR1 HR2 HL
  rw [← hLM] at HLM
  clear hL hLM

  go_enter Try.func8, Try.ntmps8
  go_wp2_with fail
  rw [HKX.out]
  go_loopw [9] (fun i wr => ∃ k : Nat, k ≤ F.size ∧ i = .int .i64 k ∧ C < wr.heap.size ∧ Below W.heap.size W wr ∧ Row wr W.heap.size (Bl.more L LM k) ∧ Row wr C (Bl.ones1 L k)) (fun i _ => F.size - (intOf i).toNat)
  case atStart => exact ⟨0, Nat.zero_le _, rfl, hz2, HB2.out, by rw [Bl.more_zero]; exact HR1.out, by rw [Bl.ones1_zero]; exact HR2.out⟩
  case round =>
    obtain ⟨k, hkk, rfl, hzz, hbel, hrm, hro⟩ := hrel
    by_cases hltk : k < F.size
    · by_cases hmk : k < M.size
      · have hxm := index_byte M k hmk
        have hmk2 : (k : Int) < (M.size : Int) := by omega
        obtain ⟨x, v, hx0, hx1, hv0, hv1, HOR, HS1, HS2, HB3⟩ : ∃ (x v : UInt8), wr.cell? ⟨W.heap.size, k, none⟩ = some (.int .u8 (x.toNat : Int)) ∧ wr.frozen? ⟨W.heap.size, k, none⟩ = false ∧ wr.cell? ⟨C, k, none⟩ = some (.int .u8 (v.toNat : Int)) ∧ wr.frozen? ⟨C, k, none⟩ = false ∧
            Hid (bits .or .u8 (x.toNat : Int) (M[k].toNat : Int) = ((x ||| M[k]).toNat : Int)) ∧
            Hid (∀ u, Row ((wr.setCell ⟨W.heap.size, k, none⟩ (.int .u8 ((x ||| M[k]).toNat : Int))).setCell ⟨C, k, none⟩ u) W.heap.size (Bl.more L LM (k + 1))) ∧
            Hid (∀ u, Row ((wr.setCell ⟨W.heap.size, k, none⟩ u).setCell ⟨C, k, none⟩ (.int .u8 (255 : Int))) C (Bl.ones1 L (k + 1))) ∧
            Hid (∀ u t, Below W.heap.size W ((wr.setCell ⟨W.heap.size, k, none⟩ u).setCell ⟨C, k, none⟩ t)) := by
          have hL1 : k < (Bl.more L LM k).length := by rw [Bl.more_length, HL.out]; exact hltk
          have hL2 : k < (Bl.ones1 L k).length := by rw [Bl.ones1_length, HL.out]; exact hltk
          have g1 := hrm.at k hL1
          have g2 := hro.at k hL2
          refine ⟨_, _, g1.1, g1.2, g2.1, g2.2, Lib.hid (or_byte _ _), Lib.hid (fun u => ?_), Lib.hid (fun u => ?_), Lib.hid (fun u t => ?_)⟩
          · have hs := Row.set (w := wr) hrm k ((Bl.more L LM k).getD k 0 ||| M[k])
            have e : (Bl.more L LM k).set k ((Bl.more L LM k).getD k 0 ||| M[k]) = Bl.more L LM (k + 1) := by
              rw [Bl.more_get (by rw [HL.out]; exact hltk), if_neg (by omega), ← Bl.more_set (by rw [HLM.out]; exact hmk), ← list_get M k hmk, ← HLMM.out]
            rw [e] at hs
            exact hs.apart hne.symm
          · have hs := Row.set (w := wr.setCell ⟨W.heap.size, k, none⟩ u) (Row.apart (w := wr) hro hne) k 255
            rw [Bl.ones1_set] at hs
            exact hs
          · exact (Below.setCell (p := ⟨W.heap.size, k, none⟩) hbel (Nat.le_refl _) u).setCell (p := ⟨C, k, none⟩) (Nat.le_of_lt hlt) t
        clear hrm hro
        have HBEL := Lib.hid hbel; clear hbel
        go_wp2_with fail
        go_region
        rw [HOR.out]
        generalize (x ||| M[k]) = z at *
        go_wp2_with fail
        go_roundw
        case rel => exact ⟨k + 1, by omega, by go_num, by simpa using hzz, (HB3.out _ _).drew, HS1.out _, HS2.out _⟩
        case measure => simp [intOf]; omega
      · have hmk2 : ¬ (k : Int) < (M.size : Int) := by omega
        obtain ⟨v, hv0, hv1, HS1, HS2, HB3⟩ : ∃ (v : UInt8), wr.cell? ⟨C, k, none⟩ = some (.int .u8 (v.toNat : Int)) ∧ wr.frozen? ⟨C, k, none⟩ = false ∧
            Hid (∀ u, Row (wr.setCell ⟨C, k, none⟩ u) W.heap.size (Bl.more L LM (k + 1))) ∧
            Hid (Row (wr.setCell ⟨C, k, none⟩ (.int .u8 (255 : Int))) C (Bl.ones1 L (k + 1))) ∧
            Hid (∀ t, Below W.heap.size W (wr.setCell ⟨C, k, none⟩ t)) := by
          have hL2 : k < (Bl.ones1 L k).length := by rw [Bl.ones1_length, HL.out]; exact hltk
          have g2 := hro.at k hL2
          refine ⟨_, g2.1, g2.2, Lib.hid (fun u => ?_), Lib.hid ?_, Lib.hid (fun t => ?_)⟩
          · rw [← Bl.more_stay (by rw [HLM.out]; exact hmk)]
            exact hrm.apart hne.symm
          · have hs := Row.set hro k 255
            rw [Bl.ones1_set] at hs
            exact hs
          · exact hbel.setCell (p := ⟨C, k, none⟩) (Nat.le_of_lt hlt) t
        clear hrm hro hbel
        go_wp2_with fail
        go_roundw
        case rel => exact ⟨k + 1, by omega, by go_num, by simpa using hzz, HB3.out _, HS1.out _, HS2.out⟩
        case measure => simp [intOf]; omega
    · obtain rfl : F.size = k := by omega
      obtain ⟨FM, HFM⟩ : ∃ FM : ByteArray, Hid (FM = ⟨(Bl.more L LM F.size).toArray⟩) := ⟨_, Lib.hid rfl⟩
      obtain ⟨FO, HFO⟩ : ∃ FO : ByteArray, Hid (FO = ⟨(Bl.ones1 L F.size).toArray⟩) := ⟨_, Lib.hid rfl⟩
      have HSM : Hid (FM.size = F.size) := Lib.hid (by rw [HFM.out]; show (Bl.more L LM F.size).toArray.size = _; rw [List.size_toArray, Bl.more_length, HL.out])
      have HSO : Hid (FO.size = F.size) := Lib.hid (by rw [HFO.out]; show (Bl.ones1 L F.size).toArray.size = _; rw [List.size_toArray, Bl.ones1_length, HL.out])
      have HMM : Hid (Bl.may F.data.toList K.data.toList = true → Bl.may FM.data.toList K.data.toList = true) := Lib.hid (fun h => by rw [HFM.out]; rw [← HLF.out] at h; exact Bl.may_more _ h)
      have HMO : Hid (Bl.may FO.data.toList K.data.toList = decide ((0 : Int) < (F.size : Int))) := Lib.hid (by
        rw [HFO.out]
        have := Bl.may_ones L K.data.toList
        rw [HL.out] at this
        show Bl.may (Bl.ones1 L F.size) _ = _
        rw [this]
        exact decide_eq_decide.2 ⟨fun h => by omega, fun h => by omega⟩)
      have HTM : Hid (∀ w', Below wr.heap.size wr w' → (convert 32 9 (.slice (some ⟨W.heap.size, 0, none⟩) F.size c1)).run Try.prog w' = .ok (.string FM) w') := Lib.hid (fun w' hb => by
        have := (hrm.below (by omega) hb).text c1
        rw [Bl.more_length, HL.out] at this
        rw [this, HFM.out])
      have HTO : Hid (∀ w', Below wr.heap.size wr w' → (convert 32 9 (.slice (some ⟨C, 0, none⟩) F.size c2)).run Try.prog w' = .ok (.string FO) w') := Lib.hid (fun w' hb => by
        have := (hro.below (by omega) hb).text c2
        rw [Bl.ones1_length, HL.out] at this
        rw [this, HFO.out])
      have HBEL := Lib.hid hbel
      clear hrm hro hbel
      cases hmay : Bl.may F.data.toList K.data.toList with
      | false =>
        go_wp2_with fail
        refine (may_any F K _ (by omega) (by omega)).mono ?_
        rintro e w3 ⟨rfl, hb3⟩
        rw [hmay]
        have ht := HTO.out _ hb3
        have HB3 := Lib.hid hb3; clear hb3
        go_wp2_with fail
        refine (may_any FO K _ (by have := HSO.out; omega) (by omega)).mono ?_
        rintro e w4 ⟨rfl, hb4⟩
        rw [HMO.out]
        have HB4 := Lib.hid (Below.next HB3.out hb4); clear hb4
        go_wp2_with fail
        refine (awake_any _).mono ?_
        rintro e w5 ⟨rfl, hb5⟩
        go_wp2_with fail
        go_ret
        exact ⟨rfl, Below.next (HBEL.out.trans (HB4.out.mono (by omega))) hb5⟩
      | true =>
        have HMT := Lib.hid (HMM.out hmay)
        go_wp2_with fail
        refine (may_any F K _ (by omega) (by omega)).mono ?_
        rintro e w3 ⟨rfl, hb3⟩
        rw [hmay]
        have ht := HTM.out _ hb3
        have HB3 := Lib.hid hb3; clear hb3
        go_wp2_with fail
        refine (may_any FM K _ (by have := HSM.out; omega) (by omega)).mono ?_
        rintro e w4 ⟨rfl, hb4⟩
        rw [HMT.out]
        have HB4 := Lib.hid (Below.next HB3.out hb4); clear hb4
        have ht2 := HTO.out _ HB4.out
        go_wp2_with fail
        refine (may_any FO K _ (by have := HSO.out; omega) (by omega)).mono ?_
        rintro e w5 ⟨rfl, hb5⟩
        rw [HMO.out]
        have HB5 := Lib.hid (Below.next HB4.out hb5); clear hb5
        go_wp2_with fail
        refine (awake_any _).mono ?_
        rintro e w6 ⟨rfl, hb6⟩
        go_wp2_with fail
        go_ret
        exact ⟨rfl, Below.next (HBEL.out.trans (HB5.out.mono (by omega))) hb6⟩

set_option maxHeartbeats 4000000 in
theorem more_10 (F0 M K : ByteArray) (W : World) (hf0 : 4000 < F0.size) (hf1 : F0.size ≤ 9223372036854775807) (hk : K.size ≤ 4000) :
    Calls Try.prog 8 #[.string F0, .string M, .string K] W (Gives (.bool true) W) := by
  obtain ⟨F, hFX⟩ : ∃ F, F0.extract 0 4000 = F := ⟨_, rfl⟩
  have hf : F.size ≤ 4000 := by rw [← hFX, ByteArray.size_extract]; omega
  have HFX := Lib.hid hFX; clear hFX
  have hfi : (4000 : Int) < F0.size := by omega
  have hki : (K.size : Int) ≤ 4000 := by omega
  obtain ⟨c1, w1, hcv1, hr1, hz1, hb1⟩ := bytes_new W F
  obtain ⟨c2, w2, hcv2, hr2, hz2, hb2⟩ := bytes_new w1 F
  have HR1 := Lib.hid (hr1.below hz1 hb2); have HR2 := Lib.hid hr2
  have HB2 := Lib.hid (Below.next hb1 hb2)
  obtain ⟨C, hC⟩ : ∃ C, C = w1.heap.size := ⟨_, rfl⟩
  rw [← hC] at hcv2 hz2 HR2
  have hne : W.heap.size ≠ C := by omega
  have hlt : W.heap.size < C := by omega
  clear hr1 hr2 hb1 hb2 hz1 hC
  have HL : Hid (F.data.toList.length = F.size) := Lib.hid (list_size F)
  have HLM : Hid (M.data.toList.length = M.size) := Lib.hid (list_size M)
  obtain ⟨L, hL⟩ : ∃ L, L = F.data.toList := ⟨_, rfl⟩
  obtain ⟨LM, hLM⟩ : ∃ L, L = M.data.toList := ⟨_, rfl⟩
  have HLF := Lib.hid hL
  have HLMM := Lib.hid hLM
  rw [← hL] at HR1 HR2 HL
  rw [← hLM] at HLM
  clear hL hLM

  have hcw1 : (convert 9 32 (.string (F0.extract 0 4000))).run Try.prog W = .ok (.slice (some ⟨W.heap.size, 0, none⟩) F.size c1) w1 := by rw [HFX.out]; exact hcv1
  have hcw2 : (convert 9 32 (.string (F0.extract 0 4000))).run Try.prog w1 = .ok (.slice (some ⟨C, 0, none⟩) F.size c2) w2 := by rw [HFX.out]; exact hcv2
  clear hcv1 hcv2
  go_enter Try.func8, Try.ntmps8
  go_wp2_with fail
  rw [HFX.out]
  go_loopw [9] (fun i wr => ∃ k : Nat, k ≤ F.size ∧ i = .int .i64 k ∧ C < wr.heap.size ∧ Below W.heap.size W wr ∧ Row wr W.heap.size (Bl.more L LM k) ∧ Row wr C (Bl.ones1 L k)) (fun i _ => F.size - (intOf i).toNat)
  case atStart => exact ⟨0, Nat.zero_le _, rfl, hz2, HB2.out, by rw [Bl.more_zero]; exact HR1.out, by rw [Bl.ones1_zero]; exact HR2.out⟩
  case round =>
    obtain ⟨k, hkk, rfl, hzz, hbel, hrm, hro⟩ := hrel
    by_cases hltk : k < F.size
    · by_cases hmk : k < M.size
      · have hxm := index_byte M k hmk
        have hmk2 : (k : Int) < (M.size : Int) := by omega
        obtain ⟨x, v, hx0, hx1, hv0, hv1, HOR, HS1, HS2, HB3⟩ : ∃ (x v : UInt8), wr.cell? ⟨W.heap.size, k, none⟩ = some (.int .u8 (x.toNat : Int)) ∧ wr.frozen? ⟨W.heap.size, k, none⟩ = false ∧ wr.cell? ⟨C, k, none⟩ = some (.int .u8 (v.toNat : Int)) ∧ wr.frozen? ⟨C, k, none⟩ = false ∧
            Hid (bits .or .u8 (x.toNat : Int) (M[k].toNat : Int) = ((x ||| M[k]).toNat : Int)) ∧
            Hid (∀ u, Row ((wr.setCell ⟨W.heap.size, k, none⟩ (.int .u8 ((x ||| M[k]).toNat : Int))).setCell ⟨C, k, none⟩ u) W.heap.size (Bl.more L LM (k + 1))) ∧
            Hid (∀ u, Row ((wr.setCell ⟨W.heap.size, k, none⟩ u).setCell ⟨C, k, none⟩ (.int .u8 (255 : Int))) C (Bl.ones1 L (k + 1))) ∧
            Hid (∀ u t, Below W.heap.size W ((wr.setCell ⟨W.heap.size, k, none⟩ u).setCell ⟨C, k, none⟩ t)) := by
          have hL1 : k < (Bl.more L LM k).length := by rw [Bl.more_length, HL.out]; exact hltk
          have hL2 : k < (Bl.ones1 L k).length := by rw [Bl.ones1_length, HL.out]; exact hltk
          have g1 := hrm.at k hL1
          have g2 := hro.at k hL2
          refine ⟨_, _, g1.1, g1.2, g2.1, g2.2, Lib.hid (or_byte _ _), Lib.hid (fun u => ?_), Lib.hid (fun u => ?_), Lib.hid (fun u t => ?_)⟩
          · have hs := Row.set (w := wr) hrm k ((Bl.more L LM k).getD k 0 ||| M[k])
            have e : (Bl.more L LM k).set k ((Bl.more L LM k).getD k 0 ||| M[k]) = Bl.more L LM (k + 1) := by
              rw [Bl.more_get (by rw [HL.out]; exact hltk), if_neg (by omega), ← Bl.more_set (by rw [HLM.out]; exact hmk), ← list_get M k hmk, ← HLMM.out]
            rw [e] at hs
            exact hs.apart hne.symm
          · have hs := Row.set (w := wr.setCell ⟨W.heap.size, k, none⟩ u) (Row.apart (w := wr) hro hne) k 255
            rw [Bl.ones1_set] at hs
            exact hs
          · exact (Below.setCell (p := ⟨W.heap.size, k, none⟩) hbel (Nat.le_refl _) u).setCell (p := ⟨C, k, none⟩) (Nat.le_of_lt hlt) t
        clear hrm hro
        have HBEL := Lib.hid hbel; clear hbel
        go_wp2_with fail
        go_region
        rw [HOR.out]
        generalize (x ||| M[k]) = z at *
        go_wp2_with fail
        go_roundw
        case rel => exact ⟨k + 1, by omega, by go_num, by simpa using hzz, (HB3.out _ _).drew, HS1.out _, HS2.out _⟩
        case measure => simp [intOf]; omega
      · have hmk2 : ¬ (k : Int) < (M.size : Int) := by omega
        obtain ⟨v, hv0, hv1, HS1, HS2, HB3⟩ : ∃ (v : UInt8), wr.cell? ⟨C, k, none⟩ = some (.int .u8 (v.toNat : Int)) ∧ wr.frozen? ⟨C, k, none⟩ = false ∧
            Hid (∀ u, Row (wr.setCell ⟨C, k, none⟩ u) W.heap.size (Bl.more L LM (k + 1))) ∧
            Hid (Row (wr.setCell ⟨C, k, none⟩ (.int .u8 (255 : Int))) C (Bl.ones1 L (k + 1))) ∧
            Hid (∀ t, Below W.heap.size W (wr.setCell ⟨C, k, none⟩ t)) := by
          have hL2 : k < (Bl.ones1 L k).length := by rw [Bl.ones1_length, HL.out]; exact hltk
          have g2 := hro.at k hL2
          refine ⟨_, g2.1, g2.2, Lib.hid (fun u => ?_), Lib.hid ?_, Lib.hid (fun t => ?_)⟩
          · rw [← Bl.more_stay (by rw [HLM.out]; exact hmk)]
            exact hrm.apart hne.symm
          · have hs := Row.set hro k 255
            rw [Bl.ones1_set] at hs
            exact hs
          · exact hbel.setCell (p := ⟨C, k, none⟩) (Nat.le_of_lt hlt) t
        clear hrm hro hbel
        go_wp2_with fail
        go_roundw
        case rel => exact ⟨k + 1, by omega, by go_num, by simpa using hzz, HB3.out _, HS1.out _, HS2.out⟩
        case measure => simp [intOf]; omega
    · obtain rfl : F.size = k := by omega
      obtain ⟨FM, HFM⟩ : ∃ FM : ByteArray, Hid (FM = ⟨(Bl.more L LM F.size).toArray⟩) := ⟨_, Lib.hid rfl⟩
      obtain ⟨FO, HFO⟩ : ∃ FO : ByteArray, Hid (FO = ⟨(Bl.ones1 L F.size).toArray⟩) := ⟨_, Lib.hid rfl⟩
      have HSM : Hid (FM.size = F.size) := Lib.hid (by rw [HFM.out]; show (Bl.more L LM F.size).toArray.size = _; rw [List.size_toArray, Bl.more_length, HL.out])
      have HSO : Hid (FO.size = F.size) := Lib.hid (by rw [HFO.out]; show (Bl.ones1 L F.size).toArray.size = _; rw [List.size_toArray, Bl.ones1_length, HL.out])
      have HMM : Hid (Bl.may F.data.toList K.data.toList = true → Bl.may FM.data.toList K.data.toList = true) := Lib.hid (fun h => by rw [HFM.out]; rw [← HLF.out] at h; exact Bl.may_more _ h)
      have HMO : Hid (Bl.may FO.data.toList K.data.toList = decide ((0 : Int) < (F.size : Int))) := Lib.hid (by
        rw [HFO.out]
        have := Bl.may_ones L K.data.toList
        rw [HL.out] at this
        show Bl.may (Bl.ones1 L F.size) _ = _
        rw [this]
        exact decide_eq_decide.2 ⟨fun h => by omega, fun h => by omega⟩)
      have HTM : Hid (∀ w', Below wr.heap.size wr w' → (convert 32 9 (.slice (some ⟨W.heap.size, 0, none⟩) F.size c1)).run Try.prog w' = .ok (.string FM) w') := Lib.hid (fun w' hb => by
        have := (hrm.below (by omega) hb).text c1
        rw [Bl.more_length, HL.out] at this
        rw [this, HFM.out])
      have HTO : Hid (∀ w', Below wr.heap.size wr w' → (convert 32 9 (.slice (some ⟨C, 0, none⟩) F.size c2)).run Try.prog w' = .ok (.string FO) w') := Lib.hid (fun w' hb => by
        have := (hro.below (by omega) hb).text c2
        rw [Bl.ones1_length, HL.out] at this
        rw [this, HFO.out])
      have HBEL := Lib.hid hbel
      clear hrm hro hbel
      cases hmay : Bl.may F.data.toList K.data.toList with
      | false =>
        go_wp2_with fail
        refine (may_any F K _ (by omega) (by omega)).mono ?_
        rintro e w3 ⟨rfl, hb3⟩
        rw [hmay]
        have ht := HTO.out _ hb3
        have HB3 := Lib.hid hb3; clear hb3
        go_wp2_with fail
        refine (may_any FO K _ (by have := HSO.out; omega) (by omega)).mono ?_
        rintro e w4 ⟨rfl, hb4⟩
        rw [HMO.out]
        have HB4 := Lib.hid (Below.next HB3.out hb4); clear hb4
        go_wp2_with fail
        refine (awake_any _).mono ?_
        rintro e w5 ⟨rfl, hb5⟩
        go_wp2_with fail
        go_ret
        exact ⟨rfl, Below.next (HBEL.out.trans (HB4.out.mono (by omega))) hb5⟩
      | true =>
        have HMT := Lib.hid (HMM.out hmay)
        go_wp2_with fail
        refine (may_any F K _ (by omega) (by omega)).mono ?_
        rintro e w3 ⟨rfl, hb3⟩
        rw [hmay]
        have ht := HTM.out _ hb3
        have HB3 := Lib.hid hb3; clear hb3
        go_wp2_with fail
        refine (may_any FM K _ (by have := HSM.out; omega) (by omega)).mono ?_
        rintro e w4 ⟨rfl, hb4⟩
        rw [HMT.out]
        have HB4 := Lib.hid (Below.next HB3.out hb4); clear hb4
        have ht2 := HTO.out _ HB4.out
        go_wp2_with fail
        refine (may_any FO K _ (by have := HSO.out; omega) (by omega)).mono ?_
        rintro e w5 ⟨rfl, hb5⟩
        rw [HMO.out]
        have HB5 := Lib.hid (Below.next HB4.out hb5); clear hb5
        go_wp2_with fail
        refine (awake_any _).mono ?_
        rintro e w6 ⟨rfl, hb6⟩
        go_wp2_with fail
        go_ret
        exact ⟨rfl, Below.next (HBEL.out.trans (HB5.out.mono (by omega))) hb6⟩

set_option maxHeartbeats 4000000 in
theorem more_11 (F0 M K0 : ByteArray) (W : World) (hf0 : 4000 < F0.size) (hf1 : F0.size ≤ 9223372036854775807) (hk0 : 4000 < K0.size) (hk1 : K0.size ≤ 9223372036854775807) :
    Calls Try.prog 8 #[.string F0, .string M, .string K0] W (Gives (.bool true) W) := by
  obtain ⟨F, hFX⟩ : ∃ F, F0.extract 0 4000 = F := ⟨_, rfl⟩
  have hf : F.size ≤ 4000 := by rw [← hFX, ByteArray.size_extract]; omega
  have HFX := Lib.hid hFX; clear hFX
  have hfi : (4000 : Int) < F0.size := by omega
  obtain ⟨K, hKX⟩ : ∃ K, K0.extract 0 4000 = K := ⟨_, rfl⟩
  have hk : K.size ≤ 4000 := by rw [← hKX, ByteArray.size_extract]; omega
  have HKX := Lib.hid hKX; clear hKX
  have hki : (4000 : Int) < K0.size := by omega
  obtain ⟨c1, w1, hcv1, hr1, hz1, hb1⟩ := bytes_new W F
  obtain ⟨c2, w2, hcv2, hr2, hz2, hb2⟩ := bytes_new w1 F
  have HR1 := Lib.hid (hr1.below hz1 hb2); have HR2 := Lib.hid hr2
  have HB2 := Lib.hid (Below.next hb1 hb2)
  obtain ⟨C, hC⟩ : ∃ C, C = w1.heap.size := ⟨_, rfl⟩
  rw [← hC] at hcv2 hz2 HR2
  have hne : W.heap.size ≠ C := by omega
  have hlt : W.heap.size < C := by omega
  clear hr1 hr2 hb1 hb2 hz1 hC
  have HL : Hid (F.data.toList.length = F.size) := Lib.hid (list_size F)
  have HLM : Hid (M.data.toList.length = M.size) := Lib.hid (list_size M)
  obtain ⟨L, hL⟩ : ∃ L, L = F.data.toList := ⟨_, rfl⟩
  obtain ⟨LM, hLM⟩ : ∃ L, L = M.data.toList := ⟨_, rfl⟩
  have HLF := Lib.hid hL
  have HLMM := Lib.hid hLM
  rw [← hL] at HR1 HR2 HL
  rw [← hLM] at HLM
  clear hL hLM

  have hcw1 : (convert 9 32 (.string (F0.extract 0 4000))).run Try.prog W = .ok (.slice (some ⟨W.heap.size, 0, none⟩) F.size c1) w1 := by rw [HFX.out]; exact hcv1
  have hcw2 : (convert 9 32 (.string (F0.extract 0 4000))).run Try.prog w1 = .ok (.slice (some ⟨C, 0, none⟩) F.size c2) w2 := by rw [HFX.out]; exact hcv2
  clear hcv1 hcv2
  go_enter Try.func8, Try.ntmps8
  go_wp2_with fail
  rw [HFX.out]
  rw [HKX.out]
  go_loopw [9] (fun i wr => ∃ k : Nat, k ≤ F.size ∧ i = .int .i64 k ∧ C < wr.heap.size ∧ Below W.heap.size W wr ∧ Row wr W.heap.size (Bl.more L LM k) ∧ Row wr C (Bl.ones1 L k)) (fun i _ => F.size - (intOf i).toNat)
  case atStart => exact ⟨0, Nat.zero_le _, rfl, hz2, HB2.out, by rw [Bl.more_zero]; exact HR1.out, by rw [Bl.ones1_zero]; exact HR2.out⟩
  case round =>
    obtain ⟨k, hkk, rfl, hzz, hbel, hrm, hro⟩ := hrel
    by_cases hltk : k < F.size
    · by_cases hmk : k < M.size
      · have hxm := index_byte M k hmk
        have hmk2 : (k : Int) < (M.size : Int) := by omega
        obtain ⟨x, v, hx0, hx1, hv0, hv1, HOR, HS1, HS2, HB3⟩ : ∃ (x v : UInt8), wr.cell? ⟨W.heap.size, k, none⟩ = some (.int .u8 (x.toNat : Int)) ∧ wr.frozen? ⟨W.heap.size, k, none⟩ = false ∧ wr.cell? ⟨C, k, none⟩ = some (.int .u8 (v.toNat : Int)) ∧ wr.frozen? ⟨C, k, none⟩ = false ∧
            Hid (bits .or .u8 (x.toNat : Int) (M[k].toNat : Int) = ((x ||| M[k]).toNat : Int)) ∧
            Hid (∀ u, Row ((wr.setCell ⟨W.heap.size, k, none⟩ (.int .u8 ((x ||| M[k]).toNat : Int))).setCell ⟨C, k, none⟩ u) W.heap.size (Bl.more L LM (k + 1))) ∧
            Hid (∀ u, Row ((wr.setCell ⟨W.heap.size, k, none⟩ u).setCell ⟨C, k, none⟩ (.int .u8 (255 : Int))) C (Bl.ones1 L (k + 1))) ∧
            Hid (∀ u t, Below W.heap.size W ((wr.setCell ⟨W.heap.size, k, none⟩ u).setCell ⟨C, k, none⟩ t)) := by
          have hL1 : k < (Bl.more L LM k).length := by rw [Bl.more_length, HL.out]; exact hltk
          have hL2 : k < (Bl.ones1 L k).length := by rw [Bl.ones1_length, HL.out]; exact hltk
          have g1 := hrm.at k hL1
          have g2 := hro.at k hL2
          refine ⟨_, _, g1.1, g1.2, g2.1, g2.2, Lib.hid (or_byte _ _), Lib.hid (fun u => ?_), Lib.hid (fun u => ?_), Lib.hid (fun u t => ?_)⟩
          · have hs := Row.set (w := wr) hrm k ((Bl.more L LM k).getD k 0 ||| M[k])
            have e : (Bl.more L LM k).set k ((Bl.more L LM k).getD k 0 ||| M[k]) = Bl.more L LM (k + 1) := by
              rw [Bl.more_get (by rw [HL.out]; exact hltk), if_neg (by omega), ← Bl.more_set (by rw [HLM.out]; exact hmk), ← list_get M k hmk, ← HLMM.out]
            rw [e] at hs
            exact hs.apart hne.symm
          · have hs := Row.set (w := wr.setCell ⟨W.heap.size, k, none⟩ u) (Row.apart (w := wr) hro hne) k 255
            rw [Bl.ones1_set] at hs
            exact hs
          · exact (Below.setCell (p := ⟨W.heap.size, k, none⟩) hbel (Nat.le_refl _) u).setCell (p := ⟨C, k, none⟩) (Nat.le_of_lt hlt) t
        clear hrm hro
        have HBEL := Lib.hid hbel; clear hbel
        go_wp2_with fail
        go_region
        rw [HOR.out]
        generalize (x ||| M[k]) = z at *
        go_wp2_with fail
        go_roundw
        case rel => exact ⟨k + 1, by omega, by go_num, by simpa using hzz, (HB3.out _ _).drew, HS1.out _, HS2.out _⟩
        case measure => simp [intOf]; omega
      · have hmk2 : ¬ (k : Int) < (M.size : Int) := by omega
        obtain ⟨v, hv0, hv1, HS1, HS2, HB3⟩ : ∃ (v : UInt8), wr.cell? ⟨C, k, none⟩ = some (.int .u8 (v.toNat : Int)) ∧ wr.frozen? ⟨C, k, none⟩ = false ∧
            Hid (∀ u, Row (wr.setCell ⟨C, k, none⟩ u) W.heap.size (Bl.more L LM (k + 1))) ∧
            Hid (Row (wr.setCell ⟨C, k, none⟩ (.int .u8 (255 : Int))) C (Bl.ones1 L (k + 1))) ∧
            Hid (∀ t, Below W.heap.size W (wr.setCell ⟨C, k, none⟩ t)) := by
          have hL2 : k < (Bl.ones1 L k).length := by rw [Bl.ones1_length, HL.out]; exact hltk
          have g2 := hro.at k hL2
          refine ⟨_, g2.1, g2.2, Lib.hid (fun u => ?_), Lib.hid ?_, Lib.hid (fun t => ?_)⟩
          · rw [← Bl.more_stay (by rw [HLM.out]; exact hmk)]
            exact hrm.apart hne.symm
          · have hs := Row.set hro k 255
            rw [Bl.ones1_set] at hs
            exact hs
          · exact hbel.setCell (p := ⟨C, k, none⟩) (Nat.le_of_lt hlt) t
        clear hrm hro hbel
        go_wp2_with fail
        go_roundw
        case rel => exact ⟨k + 1, by omega, by go_num, by simpa using hzz, HB3.out _, HS1.out _, HS2.out⟩
        case measure => simp [intOf]; omega
    · obtain rfl : F.size = k := by omega
      obtain ⟨FM, HFM⟩ : ∃ FM : ByteArray, Hid (FM = ⟨(Bl.more L LM F.size).toArray⟩) := ⟨_, Lib.hid rfl⟩
      obtain ⟨FO, HFO⟩ : ∃ FO : ByteArray, Hid (FO = ⟨(Bl.ones1 L F.size).toArray⟩) := ⟨_, Lib.hid rfl⟩
      have HSM : Hid (FM.size = F.size) := Lib.hid (by rw [HFM.out]; show (Bl.more L LM F.size).toArray.size = _; rw [List.size_toArray, Bl.more_length, HL.out])
      have HSO : Hid (FO.size = F.size) := Lib.hid (by rw [HFO.out]; show (Bl.ones1 L F.size).toArray.size = _; rw [List.size_toArray, Bl.ones1_length, HL.out])
      have HMM : Hid (Bl.may F.data.toList K.data.toList = true → Bl.may FM.data.toList K.data.toList = true) := Lib.hid (fun h => by rw [HFM.out]; rw [← HLF.out] at h; exact Bl.may_more _ h)
      have HMO : Hid (Bl.may FO.data.toList K.data.toList = decide ((0 : Int) < (F.size : Int))) := Lib.hid (by
        rw [HFO.out]
        have := Bl.may_ones L K.data.toList
        rw [HL.out] at this
        show Bl.may (Bl.ones1 L F.size) _ = _
        rw [this]
        exact decide_eq_decide.2 ⟨fun h => by omega, fun h => by omega⟩)
      have HTM : Hid (∀ w', Below wr.heap.size wr w' → (convert 32 9 (.slice (some ⟨W.heap.size, 0, none⟩) F.size c1)).run Try.prog w' = .ok (.string FM) w') := Lib.hid (fun w' hb => by
        have := (hrm.below (by omega) hb).text c1
        rw [Bl.more_length, HL.out] at this
        rw [this, HFM.out])
      have HTO : Hid (∀ w', Below wr.heap.size wr w' → (convert 32 9 (.slice (some ⟨C, 0, none⟩) F.size c2)).run Try.prog w' = .ok (.string FO) w') := Lib.hid (fun w' hb => by
        have := (hro.below (by omega) hb).text c2
        rw [Bl.ones1_length, HL.out] at this
        rw [this, HFO.out])
      have HBEL := Lib.hid hbel
      clear hrm hro hbel
      cases hmay : Bl.may F.data.toList K.data.toList with
      | false =>
        go_wp2_with fail
        refine (may_any F K _ (by omega) (by omega)).mono ?_
        rintro e w3 ⟨rfl, hb3⟩
        rw [hmay]
        have ht := HTO.out _ hb3
        have HB3 := Lib.hid hb3; clear hb3
        go_wp2_with fail
        refine (may_any FO K _ (by have := HSO.out; omega) (by omega)).mono ?_
        rintro e w4 ⟨rfl, hb4⟩
        rw [HMO.out]
        have HB4 := Lib.hid (Below.next HB3.out hb4); clear hb4
        go_wp2_with fail
        refine (awake_any _).mono ?_
        rintro e w5 ⟨rfl, hb5⟩
        go_wp2_with fail
        go_ret
        exact ⟨rfl, Below.next (HBEL.out.trans (HB4.out.mono (by omega))) hb5⟩
      | true =>
        have HMT := Lib.hid (HMM.out hmay)
        go_wp2_with fail
        refine (may_any F K _ (by omega) (by omega)).mono ?_
        rintro e w3 ⟨rfl, hb3⟩
        rw [hmay]
        have ht := HTM.out _ hb3
        have HB3 := Lib.hid hb3; clear hb3
        go_wp2_with fail
        refine (may_any FM K _ (by have := HSM.out; omega) (by omega)).mono ?_
        rintro e w4 ⟨rfl, hb4⟩
        rw [HMT.out]
        have HB4 := Lib.hid (Below.next HB3.out hb4); clear hb4
        have ht2 := HTO.out _ HB4.out
        go_wp2_with fail
        refine (may_any FO K _ (by have := HSO.out; omega) (by omega)).mono ?_
        rintro e w5 ⟨rfl, hb5⟩
        rw [HMO.out]
        have HB5 := Lib.hid (Below.next HB4.out hb5); clear hb5
        go_wp2_with fail
        refine (awake_any _).mono ?_
        rintro e w6 ⟨rfl, hb6⟩
        go_wp2_with fail
        go_ret
        exact ⟨rfl, Below.next (HBEL.out.trans (HB5.out.mono (by omega))) hb6⟩

theorem more_walk (a0 a1 a2 : ByteArray) (W : World) (h0 : a0.size ≤ 9223372036854775807) (_h1 : a1.size ≤ 9223372036854775807) (h2 : a2.size ≤ 9223372036854775807) :
    Calls Try.prog 8 #[.string a0, .string a1, .string a2] W (Gives (.bool true) W) := by
  by_cases hf : 4000 < a0.size
  · by_cases hk : 4000 < a2.size
    · exact more_11 a0 a1 a2 W hf h0 hk h2
    · exact more_10 a0 a1 a2 W hf h0 (by omega)
  · by_cases hk : 4000 < a2.size
    · exact more_01 a0 a1 a2 W (by omega) hk h2
    · exact more_00 a0 a1 a2 W (by omega) (by omega)

end Go.Proofs.Ytnlfajikciijjaa

/- Texts on the program's own functions, several in one: BnBoC, BnBoG, BnBoH, BnBoI, BnBoJ, TbMath, TbRead. -/
import Derived.Test.YtphoihkbdogkhaaDoorPk8
import Derived.Test.YtphoihkbdogkhaaDoorPk1
import Derived.Deep.RegionLaw
import Derived.Deep.DeepCutAuto
import Derived.Deep.CutRange
import Derived.Test.YtphoihkbdogkhaaDoorPk6
import Derived.Deep.RegionHeld3

/- The walk of block's Add. -/
namespace Go.Proofs.YtphoihkbdogkhaaDoor.Bn.Bo
set_option maxRecDepth 100000
open Go Go.RowKit
set_option linter.unusedVariables false

theorem seesU_heap1 {w : World} {B n : Nat} {t : TypeId} (h : w.heap[B]? = some (.cells #[.int .u64 (n : Int)] t (0, 0))) : SeesU w (.slice (some ⟨B, 0, none⟩) 1 1) [n] := by
  refine Or.inr ⟨B, 0, 1, rfl, heap_lt h, fun i hi => ?_⟩
  obtain rfl : i = 0 := by simpa using hi
  rw [cell_of h]
  rfl
theorem undrew {w w2 : World} (h : Below w.drew.heap.size w.drew w2) : Below w.heap.size w w2 := ⟨h.os, h.tape, h.output, h.size, h.block⟩
theorem varl_one' (n : Nat) : varl [n] = Nm.row n := by simp [varl]
theorem textl_pair (s u : ByteArray) : textl [s, u] = txt s.data.toList ++ txt u.data.toList := by simp [textl, txt]
theorem seesS_heap2 {w : World} {B : Nat} {s u : ByteArray} {t : TypeId} (h : w.heap[B]? = some (.cells #[.string s, .string u] t (0, 0))) : SeesS w (.slice (some ⟨B, 0, none⟩) 2 2) [s, u] := by
  refine Or.inr ⟨B, 0, 2, rfl, heap_lt h, fun i hi => ?_⟩
  rw [cell_of h]
  match i, hi with
  | 0, _ => rfl
  | 1, _ => rfl
section
variable {w : World} {base : Nat} {L : BL} {s : St}
theorem add_long (h : Built w base L s) (k v : ByteArray) (hl : 1024 < k.size ∨ 1024 < v.size) :
    Calls Tryd.prog 28 #[.pointer (some ⟨L.se.b, L.se.o, none⟩), .string k, .string v] w fun e w' => e = .returned (.int .i64 3) ∧ w' = w := by
  by_cases hk : (1024 : Int) < k.size
  · go_enter Tryd.func28, Tryd.ntmps28
    go_wp2_with fail
    go_ret
    exact ⟨rfl, rfl⟩
  · have hv : (1024 : Int) < v.size := by omega
    go_enter Tryd.func28, Tryd.ntmps28
    go_wp2_with fail
    go_ret
    exact ⟨rfl, rfl⟩
theorem add_low (h : Built w base L s) (k v : ByteArray) (hk : ¬ (1024 : Int) < k.size) (hv : ¬ (1024 : Int) < v.size) (hn : (0 : Int) < s.n) (hlt : Op.bytesLess s.last.data.toList k.data.toList = false) :
    Calls Tryd.prog 28 #[.pointer (some ⟨L.se.b, L.se.o, none⟩), .string k, .string v] w fun e w' => e = .returned (.int .i64 1) ∧ w' = w := by
  have c2 := h.c2
  have c3 := h.c3
  clear h
  rcases bl_geq hlt with h1 | ⟨h1, h2⟩
  · clear hlt
    go_enter Tryd.func28, Tryd.ntmps28
    go_wp2_with fail
    go_ret
    exact ⟨rfl, rfl⟩
  · clear hlt
    go_enter Tryd.func28, Tryd.ntmps28
    go_wp2_with fail
    go_ret
    exact ⟨rfl, rfl⟩
set_option maxHeartbeats 4000000 in
set_option maxRecDepth 100000 in
theorem add_ok (h : Built w base L s) (hs : Sound s) (hn : s.n ≤ 2000000) (k v : ByteArray) (he : err s ⟨k, v⟩ = 0) :
    Calls Tryd.prog 28 #[.pointer (some ⟨L.se.b, L.se.o, none⟩), .string k, .string v] w fun e w' => e = .returned (.int .i64 0) ∧ GoesB base L w (step s ⟨k, v⟩) w' := by
  obtain ⟨hk, hv⟩ := err_size he
  dsimp only at hk hv
  have hk1 : ¬ (1024 : Int) < k.size := by omega
  have hv1 : ¬ (1024 : Int) < v.size := by omega
  have c2 := h.c2
  have c3 := h.c3
  have HH := Lib.hid h; have HS := Lib.hid hs; have HN := Lib.hid hn; have HE := Lib.hid he
  have HR := Lib.hid (fun W => isRestart_any s.n W (by omega))
  have HLT := Lib.hid (err_less he)
  have HK := Lib.hid hk; have HV := Lib.hid hv
  have hshk := (sh_le s k).1
  obtain ⟨SH, hSH⟩ : ∃ SH, SH = sh s k := ⟨_, rfl⟩
  rw [← hSH] at hshk
  have HSH := Lib.hid hSH; clear hSH
  have HSHK := Lib.hid hshk
  have hsh1 : (SH : Int) ≤ 1024 := by omega
  have hsh2 : (SH : Int) ≤ k.size := by omega
  have hwr : IntKind.u64.wrap (SH : Int) = SH := by rw [IntKind.wrap_u64]; omega
  have HCL := Lib.hid (fun W => clone_any k W (by omega))
  have HVR := Lib.hid (fun X W (hx : SeesU W X [SH]) => var_any X [SH] W hx (fun i => by cases i with
    | zero => show SH < _; omega
    | succ i => simp) (by simp))
  have HTX := Lib.hid (fun X W (hx : SeesS W X [k.extract SH k.size, v]) => text_any X [k.extract SH k.size, v] W hx (by simp) (by
    have : (k.extract SH k.size).size ≤ k.size := by rw [ByteArray.size_extract]; omega
    simp only [suml]; omega))
  clear h hs hn he hk hv hshk
  by_cases h0 : s.n = 0
  · have hz : ¬ (0 : Int) < s.n := by omega
    have H0 : Hid (decide (s.n % 4 = 0) = true) := Lib.hid (by rw [h0]; rfl)
    have HC : Hid (SH = 0) := Lib.hid (by rw [HSH.out]; unfold sh; rw [if_pos (by rw [h0])])
    clear h0
    have HP := Lib.hid (fun W => placeRow_any s.rows.length W (by have := HS.out.rows; have := HN.out; omega))
    have HPS : Hid (s.foot.length + (place s.rows.length).size ≤ 100000000000) := Lib.hid (by rw [place_size, HS.out.foot]; have := HN.out; omega)
    have hbl := heap_lt HH.out.box
    obtain ⟨⟨a, ca, ea⟩, a2, ca2, ea2⟩ := HH.out.shapes
    have c0 := HH.out.c0
    have c1 := HH.out.c1
    have f1 := HH.out.soft 1
    rw [ea] at c0
    rw [ea2] at c1
    have hn2 := HH.out.box_ne.2
    have hown := HH.out.foot
    rw [ea2] at hn2 hown
    have HA2 := Lib.hid ea2; clear ea2 ea
    have hlow : base ≤ w.heap.size := Nat.le_of_lt (Nat.lt_of_le_of_lt HH.out.low hbl)
    go_enter Tryd.func28, Tryd.ntmps28
    go_wp2_with fail
    refine (HR.out _).mono ?_
    rintro e w1 ⟨rfl, rfl⟩
    rw [H0.out]
    go_wp2_with fail
    go_cut [7] from 39 to 58 (fun u wr => u = .int .i64 (SH : Int) ∧ Hid (GoesB base L w { s with foot := ftn s } wr))
    case first =>
      go_region_law (first
        | (go_simp; go_at_call 56; refine (HP.out _).mono ?_; rintro e w2 ⟨rfl, hb2'⟩
           have hb2 := undrew hb2'
           have k0 : w2.cell? ⟨L.se.b, L.se.o, none⟩ = some (.slice a s.rows.length ca) := (hb2.cell (p := ⟨L.se.b, L.se.o, none⟩) hbl).trans c0
           have k1 : w2.cell? ⟨L.se.b, L.se.o + 1, none⟩ = some (.slice a2 s.foot.length ca2) := (hb2.cell (p := ⟨L.se.b, L.se.o + 1, none⟩) hbl).trans c1
           have kf1 : w2.frozen? ⟨L.se.b, L.se.o + 1, none⟩ = false := (hb2.frozen (p := ⟨L.se.b, L.se.o + 1, none⟩) hbl).trans f1)
        | (refine step_append_str (by rfl) _ _ (by rfl) base (.slice a2 s.foot.length ca2) s.foot (by rfl) (ownsRow_below hown hb2) (place s.rows.length) (by rfl) HPS.out (Nat.le_trans hlow hb2.size) ?_
           intro ao cap w3 hown3 hgrow hlie
           have k3 : w3.cell? ⟨L.se.b, L.se.o + 1, none⟩ = some (.slice a2 s.foot.length ca2) := (hgrow.cell_far ⟨L.se.b, L.se.o + 1, none⟩ (Nat.lt_of_lt_of_le hbl hb2.size) (Ne.symm hn2)).trans k1
           have kf3 : w3.frozen? ⟨L.se.b, L.se.o + 1, none⟩ = false := (hgrow.frozen_far ⟨L.se.b, L.se.o + 1, none⟩ (Nat.lt_of_lt_of_le hbl hb2.size) (Ne.symm hn2)).trans kf1))
      all_goals
        go_wp2_with fail
        go_meet
        case rel =>
          refine ⟨by rw [HC.out]; rfl, Lib.hid ?_⟩
          have hh : Built w2 base L s := HH.out.below hb2
          rw [← HA2.out] at hgrow hlie
          have hg := hh.grow_foot hown3 hgrow hlie
          rw [show s.foot ++ (place s.rows.length).data.toList = ftn s by unfold ftn; rw [if_pos (of_decide_eq_true H0.out)]; rfl] at hg
          exact GoesB.trans (L1 := L) rfl (Turns.of_below hb2) (fun k hk => Or.inl hk) hg
    case rest =>
      obtain ⟨rfl, HG1⟩ := hcut
      clear c0 c1 f1 hn2 hown hbl c2 c3 hlow
      have hfoot : Hid (({ s with foot := ftn s } : St).rows = s.rows) := Lib.hid rfl
      obtain ⟨R0, hR0⟩ : ∃ R0 : St, R0 = { s with foot := ftn s } := ⟨_, rfl⟩
      rw [← hR0] at HG1
      have HR0 := Lib.hid hR0; clear hR0 hfoot
      obtain ⟨L1, hL1, hb1, ht1, ho1⟩ := HG1.out
      obtain ⟨⟨a, ca, ea⟩, -⟩ := hb1.shapes
      have c0 := hb1.c0
      have f0 := hb1.soft0
      have hbl := heap_lt hb1.box
      have hn1 := hb1.box_ne.1
      have hown := hb1.rows
      have hlow : base ≤ wc.heap.size := Nat.le_of_lt (Nat.lt_of_le_of_lt hb1.low hbl)
      rw [ea] at c0 hn1 hown
      rw [hL1] at c0 f0 hbl hn1
      have HB1 := Lib.hid hb1; have HL1 := Lib.hid hL1; have HA := Lib.hid ea; have HT1 := Lib.hid ht1; have HO1 := Lib.hid ho1
      clear hb1 hL1 ht1 ho1 ea
      have HS1 : Hid (R0.rows.length ≤ 4200000000) := Lib.hid (by rw [HR0.out]; show s.rows.length ≤ _; have := HS.out.rows; have := HN.out; omega)
      have HV1 : Hid (∀ W : World, Calls Tryd.prog 58 #[.slice (some ⟨W.heap.size, 0, none⟩) 1 1] (W.alloc (.cells #[.int .u64 (SH : Int)] 24)).drew (Gives (.string ⟨(varl [SH]).toArray⟩) (W.alloc (.cells #[.int .u64 (SH : Int)] 24)).drew)) := Lib.hid fun W => HVR.out _ _ (seesU_heap1 (heap_alloc_new W _))
      have HV2 : Hid (∀ W : World, Calls Tryd.prog 58 #[.slice (some ⟨W.heap.size, 0, none⟩) 1 1] (W.alloc (.cells #[.int .u64 (SH : Int)] 24)) (Gives (.string ⟨(varl [SH]).toArray⟩) (W.alloc (.cells #[.int .u64 (SH : Int)] 24)))) := Lib.hid fun W => HVR.out _ _ (seesU_heap1 (heap_alloc_new W _))
      have HVS : Hid (R0.rows.length + (⟨(varl [SH]).toArray⟩ : ByteArray).size ≤ 100000000000) := Lib.hid (by
        have h1 := varl_length [SH]
        have h2 := HS1.out
        show _ + (varl [SH]).toArray.size ≤ _
        rw [List.size_toArray]
        simp at h1
        omega)
      generalize hVL : (⟨(varl [SH]).toArray⟩ : ByteArray) = VL at *
      have HVL := Lib.hid hVL; clear hVL
      have hblA : ∀ o, L.se.b < (wc.alloc o).heap.size := fun o => by rw [World.size_alloc]; omega
      have kk : ∀ o, (wc.alloc o).cell? ⟨L.se.b, L.se.o, none⟩ = some (.slice a R0.rows.length ca) := fun o => (((Below.refl _ wc).alloc (Nat.le_refl _) o).cell (p := ⟨L.se.b, L.se.o, none⟩) hbl).trans c0
      have kf : ∀ o, (wc.alloc o).frozen? ⟨L.se.b, L.se.o, none⟩ = false := fun o => (((Below.refl _ wc).alloc (Nat.le_refl _) o).frozen (p := ⟨L.se.b, L.se.o, none⟩) hbl).trans f0
      have hownA : ∀ o, Owns (wc.alloc o) base (.slice a R0.rows.length ca) R0.rows := fun o => hown.alloc o
      have HBA := Lib.hid hblA; have HKK := Lib.hid kk; have HKF := Lib.hid kf; have HOA := Lib.hid hownA
      clear hblA kk kf hownA
      go_wp2_with fail
      go_cut [] from 59 to 70 (fun wr => Hid (GoesB base L w { R0 with rows := R0.rows ++ VL.data.toList } wr))
      case first =>
        have kk0 := HKK.out (.cells #[.int .u64 (SH : Int)] 24)
        go_region_law (first
          | (go_simp; go_at_call 58; (with_reducible first | refine (HV1.out _).mono ?_ | refine (HV2.out _).mono ?_); rintro e w2 ⟨rfl, hb2'⟩
             have hb2 := undrew hb2'
             have k0 : w2.cell? ⟨L.se.b, L.se.o, none⟩ = some (.slice a R0.rows.length ca) := (hb2.cell (p := ⟨L.se.b, L.se.o, none⟩) (HBA.out _)).trans (HKK.out _)
             have kf0 : w2.frozen? ⟨L.se.b, L.se.o, none⟩ = false := (hb2.frozen (p := ⟨L.se.b, L.se.o, none⟩) (HBA.out _)).trans (HKF.out _))
          | (refine step_append_str (by rfl) _ _ (by rfl) base (.slice a R0.rows.length ca) R0.rows (by rfl) (ownsRow_below (HOA.out _) hb2) VL (by rfl) HVS.out (Nat.le_trans (Nat.le_trans hlow (by rw [World.size_alloc]; omega)) hb2.size) ?_
             intro ao cap w3 hown3 hgrow hlie
             have k3 : w3.cell? ⟨L.se.b, L.se.o, none⟩ = some (.slice a R0.rows.length ca) := (hgrow.cell_far ⟨L.se.b, L.se.o, none⟩ (Nat.lt_of_lt_of_le (HBA.out _) hb2.size) (Ne.symm hn1)).trans k0
             have kf3 : w3.frozen? ⟨L.se.b, L.se.o, none⟩ = false := (hgrow.frozen_far ⟨L.se.b, L.se.o, none⟩ (Nat.lt_of_lt_of_le (HBA.out _) hb2.size) (Ne.symm hn1)).trans kf0))
        all_goals
          go_wp2_with fail
          go_meet
          case rel =>
            have hh : Built w2 base L1 R0 := (HB1.out.below ((Below.refl _ wc).alloc (Nat.le_refl _) _)).below hb2
            rw [← HA.out] at hgrow hlie
            have hg := hh.grow_rows hown3 hgrow hlie
            rw [HL1.out] at hg
            exact Lib.hid (GoesB.trans HL1.out (HT1.out.trans (Turns.of_below (P := fun _ => False) (((Below.refl _ wc).alloc (Nat.le_refl _) _).trans (hb2.mono (by rw [World.size_alloc]; omega)))) (fun x hx => hx.elim)) (fun k hk => HO1.out k hk) hg)
      case rest =>
        clear c0 f0 hbl hn1 hown hlow HV1 HV2 HBA HKK HKF HOA HVS HS1 HA HB1 HL1 HT1 HO1 HG1
        have HG1 := hcut; clear hcut
        obtain ⟨R1, hR1⟩ : ∃ R1 : St, R1 = { R0 with rows := R0.rows ++ VL.data.toList } := ⟨_, rfl⟩
        rw [← hR1] at HG1
        have HR1 := Lib.hid hR1; clear hR1
        obtain ⟨L1, hL1, hb1, ht1, ho1⟩ := HG1.out
        obtain ⟨⟨a, ca, ea⟩, -⟩ := hb1.shapes
        have c0 := hb1.c0
        have f0 := hb1.soft0
        have hbl := heap_lt hb1.box
        have hn1 := hb1.box_ne.1
        have hown := hb1.rows
        have hlow : base ≤ wc.heap.size := Nat.le_of_lt (Nat.lt_of_le_of_lt hb1.low hbl)
        rw [ea] at c0 hn1 hown
        rw [hL1] at c0 f0 hbl hn1
        have HB1 := Lib.hid hb1; have HL1 := Lib.hid hL1; have HA := Lib.hid ea; have HT1 := Lib.hid ht1; have HO1 := Lib.hid ho1
        clear hb1 hL1 ht1 ho1 ea
        have HV1 : Hid (∀ W : World, Calls Tryd.prog 59 #[.slice (some ⟨W.heap.size, 0, none⟩) 2 2] (W.alloc (.cells #[.string (k.extract SH k.size), .string v] 9)).drew (Gives (.string ⟨(textl [k.extract SH k.size, v]).toArray⟩) (W.alloc (.cells #[.string (k.extract SH k.size), .string v] 9)).drew)) := Lib.hid fun W => HTX.out _ _ (seesS_heap2 (heap_alloc_new W _))
        have HVS : Hid (R1.rows.length + (⟨(textl [k.extract SH k.size, v]).toArray⟩ : ByteArray).size ≤ 100000000000) := Lib.hid (by
          have h1 := textl_length [k.extract SH k.size, v]
          have h2 : R1.rows.length ≤ 4200000000 + VL.size := by
            rw [HR1.out]
            show (R0.rows ++ VL.data.toList).length ≤ _
            rw [List.length_append, HR0.out, len]
            show s.rows.length + _ ≤ _
            have := HS.out.rows; have := HN.out; omega
          have h3 : VL.size ≤ 9 := by
            rw [← HVL.out]
            show (varl [SH]).toArray.size ≤ _
            have := varl_length [SH]
            rw [List.size_toArray]
            simpa using this
          have h4 : (k.extract SH k.size).size ≤ k.size := by rw [ByteArray.size_extract]; omega
          have h5 := HK.out
          have h6 := HV.out
          show _ + (textl _).toArray.size ≤ _
          rw [List.size_toArray]
          simp only [suml, List.length_cons, List.length_nil] at h1
          omega)
        generalize hTL : (⟨(textl [k.extract SH k.size, v]).toArray⟩ : ByteArray) = TL at *
        have HTL := Lib.hid hTL; clear hTL
        have hblA : ∀ o, L.se.b < (wc.alloc o).heap.size := fun o => by rw [World.size_alloc]; omega
        have kk : ∀ o, (wc.alloc o).cell? ⟨L.se.b, L.se.o, none⟩ = some (.slice a R1.rows.length ca) := fun o => (((Below.refl _ wc).alloc (Nat.le_refl _) o).cell (p := ⟨L.se.b, L.se.o, none⟩) hbl).trans c0
        have kf : ∀ o, (wc.alloc o).frozen? ⟨L.se.b, L.se.o, none⟩ = false := fun o => (((Below.refl _ wc).alloc (Nat.le_refl _) o).frozen (p := ⟨L.se.b, L.se.o, none⟩) hbl).trans f0
        have hownA : ∀ o, Owns (wc.alloc o) base (.slice a R1.rows.length ca) R1.rows := fun o => hown.alloc o
        have HBA := Lib.hid hblA; have HKK := Lib.hid kk; have HKF := Lib.hid kf; have HOA := Lib.hid hownA
        clear hblA kk kf hownA
        go_wp2_with fail
        go_cut [] from 71 to 84 (fun wr => Hid (GoesB base L w { R1 with rows := R1.rows ++ TL.data.toList } wr))
        case first =>
          have kk0 := HKK.out (.cells #[.string (k.extract SH k.size), .string v] 9)
          go_region_law (first
            | (go_simp; go_at_call 59; (with_reducible refine (HV1.out _).mono ?_); rintro e w2 ⟨rfl, hb2'⟩
               have hb2 := undrew hb2'
               have k0 : w2.cell? ⟨L.se.b, L.se.o, none⟩ = some (.slice a R1.rows.length ca) := (hb2.cell (p := ⟨L.se.b, L.se.o, none⟩) (HBA.out _)).trans (HKK.out _)
               have kf0 : w2.frozen? ⟨L.se.b, L.se.o, none⟩ = false := (hb2.frozen (p := ⟨L.se.b, L.se.o, none⟩) (HBA.out _)).trans (HKF.out _))
            | (refine step_append_str (by rfl) _ _ (by rfl) base (.slice a R1.rows.length ca) R1.rows (by rfl) (ownsRow_below (HOA.out _) hb2) TL (by rfl) HVS.out (Nat.le_trans (Nat.le_trans hlow (by rw [World.size_alloc]; omega)) hb2.size) ?_
               intro ao cap w3 hown3 hgrow hlie
               have k3 : w3.cell? ⟨L.se.b, L.se.o, none⟩ = some (.slice a R1.rows.length ca) := (hgrow.cell_far ⟨L.se.b, L.se.o, none⟩ (Nat.lt_of_lt_of_le (HBA.out _) hb2.size) (Ne.symm hn1)).trans k0
               have kf3 : w3.frozen? ⟨L.se.b, L.se.o, none⟩ = false := (hgrow.frozen_far ⟨L.se.b, L.se.o, none⟩ (Nat.lt_of_lt_of_le (HBA.out _) hb2.size) (Ne.symm hn1)).trans kf0))
          all_goals
            go_wp2_with fail
            go_meet
            case rel =>
              have hh : Built w2 base L1 R1 := (HB1.out.below ((Below.refl _ wc).alloc (Nat.le_refl _) _)).below hb2
              rw [← HA.out] at hgrow hlie
              have hg := hh.grow_rows hown3 hgrow hlie
              rw [HL1.out] at hg
              exact Lib.hid (GoesB.trans HL1.out (HT1.out.trans (Turns.of_below (P := fun _ => False) (((Below.refl _ wc).alloc (Nat.le_refl _) _).trans (hb2.mono (by rw [World.size_alloc]; omega)))) (fun x hx => hx.elim)) (fun k hk => HO1.out k hk) hg)
        case rest =>
          clear c0 f0 hbl hn1 hown hlow HV1 HBA HKK HKF HOA HVS HA HB1 HL1 HT1 HO1 HG1
          have HG1 := hcut; clear hcut
          obtain ⟨R2, hR2⟩ : ∃ R2 : St, R2 = { R1 with rows := R1.rows ++ TL.data.toList } := ⟨_, rfl⟩
          rw [← hR2] at HG1
          have HR2n : Hid (R2.n = s.n) := Lib.hid (by rw [hR2, HR1.out, HR0.out])
          have HE2 : Hid (({ R2 with n := s.n + 1, last := k } : St) = step s ⟨k, v⟩) := Lib.hid (by
            rw [hR2, HR1.out, HR0.out, ← HTL.out, ← HVL.out]
            show ({ rows := s.rows ++ varl [SH] ++ textl [k.extract SH k.size, v], foot := ftn s, n := s.n + 1, last := k } : St) = _
            unfold step one
            rw [← HSH.out, List.append_assoc, textl_pair, Lib.extract_to_end, varl_one'])
          clear hR2
          obtain ⟨L1, hL1, hb1, ht1, ho1⟩ := HG1.out
          have c2 := hb1.c2
          have f2 := hb1.soft 2
          rw [hL1, HR2n.out] at c2
          rw [hL1] at f2
          have hg2 := hb1.set_n (s.n + 1)
          have hnw : (s.n : Int) + 1 ≤ 2000001 := by have := HN.out; omega
          have hcast : ((s.n + 1 : Nat) : Int) = (s.n : Int) + 1 := by omega
          rw [hcast, hL1] at hg2
          have HG2 := Lib.hid (GoesB.trans hL1 ht1 ho1 hg2)
          clear hb1 hL1 ht1 ho1 hg2 hcast HG1
          go_wp2_with fail
          refine (HCL.out _).mono ?_
          rintro e w4 ⟨rfl, hb4⟩
          have HG4 := Lib.hid (HG2.out.below hb4)
          obtain ⟨L3, hL3, hb3, ht3, ho3⟩ := HG4.out
          have c3 := hb3.c3
          have f3 := hb3.soft 3
          rw [hL3] at c3 f3
          have hg5 := hb3.set_last k
          rw [hL3] at hg5
          have HG5 := Lib.hid (GoesB.trans hL3 ht3 ho3 hg5)
          clear hb3 hL3 ht3 ho3 hg5 hb4 HG2 HG4 c2 f2
          go_wp2_with fail
          go_ret
          rw [← HE2.out]
          exact ⟨rfl, HG5.out⟩
  · have hz : (0 : Int) < s.n := by omega
    obtain ⟨hx1, hx2⟩ := bl_leq (HLT.out.resolve_left h0)
    clear h0
    dsimp only at hx1 hx2
    by_cases hr : s.n % 4 = 0
    · have H0 : Hid (decide (s.n % 4 = 0) = true) := Lib.hid (decide_eq_true hr)
      have HC : Hid (SH = 0) := Lib.hid (by rw [HSH.out]; unfold sh; rw [if_pos hr])
      clear hr
      have HP := Lib.hid (fun W => placeRow_any s.rows.length W (by have := HS.out.rows; have := HN.out; omega))
      have HPS : Hid (s.foot.length + (place s.rows.length).size ≤ 100000000000) := Lib.hid (by rw [place_size, HS.out.foot]; have := HN.out; omega)
      have hbl := heap_lt HH.out.box
      obtain ⟨⟨a, ca, ea⟩, a2, ca2, ea2⟩ := HH.out.shapes
      have c0 := HH.out.c0
      have c1 := HH.out.c1
      have f1 := HH.out.soft 1
      rw [ea] at c0
      rw [ea2] at c1
      have hn2 := HH.out.box_ne.2
      have hown := HH.out.foot
      rw [ea2] at hn2 hown
      have HA2 := Lib.hid ea2; clear ea2 ea
      have hlow : base ≤ w.heap.size := Nat.le_of_lt (Nat.lt_of_le_of_lt HH.out.low hbl)
      go_enter Tryd.func28, Tryd.ntmps28
      go_wp2_with fail
      refine (HR.out _).mono ?_
      rintro e w1 ⟨rfl, rfl⟩
      rw [H0.out]
      go_wp2_with fail
      go_cut [7] from 39 to 58 (fun u wr => u = .int .i64 (SH : Int) ∧ Hid (GoesB base L w { s with foot := ftn s } wr))
      case first =>
        go_region_law (first
          | (go_simp; go_at_call 56; refine (HP.out _).mono ?_; rintro e w2 ⟨rfl, hb2'⟩
             have hb2 := undrew hb2'
             have k0 : w2.cell? ⟨L.se.b, L.se.o, none⟩ = some (.slice a s.rows.length ca) := (hb2.cell (p := ⟨L.se.b, L.se.o, none⟩) hbl).trans c0
             have k1 : w2.cell? ⟨L.se.b, L.se.o + 1, none⟩ = some (.slice a2 s.foot.length ca2) := (hb2.cell (p := ⟨L.se.b, L.se.o + 1, none⟩) hbl).trans c1
             have kf1 : w2.frozen? ⟨L.se.b, L.se.o + 1, none⟩ = false := (hb2.frozen (p := ⟨L.se.b, L.se.o + 1, none⟩) hbl).trans f1)
          | (refine step_append_str (by rfl) _ _ (by rfl) base (.slice a2 s.foot.length ca2) s.foot (by rfl) (ownsRow_below hown hb2) (place s.rows.length) (by rfl) HPS.out (Nat.le_trans hlow hb2.size) ?_
             intro ao cap w3 hown3 hgrow hlie
             have k3 : w3.cell? ⟨L.se.b, L.se.o + 1, none⟩ = some (.slice a2 s.foot.length ca2) := (hgrow.cell_far ⟨L.se.b, L.se.o + 1, none⟩ (Nat.lt_of_lt_of_le hbl hb2.size) (Ne.symm hn2)).trans k1
             have kf3 : w3.frozen? ⟨L.se.b, L.se.o + 1, none⟩ = false := (hgrow.frozen_far ⟨L.se.b, L.se.o + 1, none⟩ (Nat.lt_of_lt_of_le hbl hb2.size) (Ne.symm hn2)).trans kf1))
        all_goals
          go_wp2_with fail
          go_meet
          case rel =>
            refine ⟨by rw [HC.out]; rfl, Lib.hid ?_⟩
            have hh : Built w2 base L s := HH.out.below hb2
            rw [← HA2.out] at hgrow hlie
            have hg := hh.grow_foot hown3 hgrow hlie
            rw [show s.foot ++ (place s.rows.length).data.toList = ftn s by unfold ftn; rw [if_pos (of_decide_eq_true H0.out)]; rfl] at hg
            exact GoesB.trans (L1 := L) rfl (Turns.of_below hb2) (fun k hk => Or.inl hk) hg
      case rest =>
        obtain ⟨rfl, HG1⟩ := hcut
        clear c0 c1 f1 hn2 hown hbl c2 c3 hlow
        have hfoot : Hid (({ s with foot := ftn s } : St).rows = s.rows) := Lib.hid rfl
        obtain ⟨R0, hR0⟩ : ∃ R0 : St, R0 = { s with foot := ftn s } := ⟨_, rfl⟩
        rw [← hR0] at HG1
        have HR0 := Lib.hid hR0; clear hR0 hfoot
        obtain ⟨L1, hL1, hb1, ht1, ho1⟩ := HG1.out
        obtain ⟨⟨a, ca, ea⟩, -⟩ := hb1.shapes
        have c0 := hb1.c0
        have f0 := hb1.soft0
        have hbl := heap_lt hb1.box
        have hn1 := hb1.box_ne.1
        have hown := hb1.rows
        have hlow : base ≤ wc.heap.size := Nat.le_of_lt (Nat.lt_of_le_of_lt hb1.low hbl)
        rw [ea] at c0 hn1 hown
        rw [hL1] at c0 f0 hbl hn1
        have HB1 := Lib.hid hb1; have HL1 := Lib.hid hL1; have HA := Lib.hid ea; have HT1 := Lib.hid ht1; have HO1 := Lib.hid ho1
        clear hb1 hL1 ht1 ho1 ea
        have HS1 : Hid (R0.rows.length ≤ 4200000000) := Lib.hid (by rw [HR0.out]; show s.rows.length ≤ _; have := HS.out.rows; have := HN.out; omega)
        have HV1 : Hid (∀ W : World, Calls Tryd.prog 58 #[.slice (some ⟨W.heap.size, 0, none⟩) 1 1] (W.alloc (.cells #[.int .u64 (SH : Int)] 24)).drew (Gives (.string ⟨(varl [SH]).toArray⟩) (W.alloc (.cells #[.int .u64 (SH : Int)] 24)).drew)) := Lib.hid fun W => HVR.out _ _ (seesU_heap1 (heap_alloc_new W _))
        have HV2 : Hid (∀ W : World, Calls Tryd.prog 58 #[.slice (some ⟨W.heap.size, 0, none⟩) 1 1] (W.alloc (.cells #[.int .u64 (SH : Int)] 24)) (Gives (.string ⟨(varl [SH]).toArray⟩) (W.alloc (.cells #[.int .u64 (SH : Int)] 24)))) := Lib.hid fun W => HVR.out _ _ (seesU_heap1 (heap_alloc_new W _))
        have HVS : Hid (R0.rows.length + (⟨(varl [SH]).toArray⟩ : ByteArray).size ≤ 100000000000) := Lib.hid (by
          have h1 := varl_length [SH]
          have h2 := HS1.out
          show _ + (varl [SH]).toArray.size ≤ _
          rw [List.size_toArray]
          simp at h1
          omega)
        generalize hVL : (⟨(varl [SH]).toArray⟩ : ByteArray) = VL at *
        have HVL := Lib.hid hVL; clear hVL
        have hblA : ∀ o, L.se.b < (wc.alloc o).heap.size := fun o => by rw [World.size_alloc]; omega
        have kk : ∀ o, (wc.alloc o).cell? ⟨L.se.b, L.se.o, none⟩ = some (.slice a R0.rows.length ca) := fun o => (((Below.refl _ wc).alloc (Nat.le_refl _) o).cell (p := ⟨L.se.b, L.se.o, none⟩) hbl).trans c0
        have kf : ∀ o, (wc.alloc o).frozen? ⟨L.se.b, L.se.o, none⟩ = false := fun o => (((Below.refl _ wc).alloc (Nat.le_refl _) o).frozen (p := ⟨L.se.b, L.se.o, none⟩) hbl).trans f0
        have hownA : ∀ o, Owns (wc.alloc o) base (.slice a R0.rows.length ca) R0.rows := fun o => hown.alloc o
        have HBA := Lib.hid hblA; have HKK := Lib.hid kk; have HKF := Lib.hid kf; have HOA := Lib.hid hownA
        clear hblA kk kf hownA
        go_wp2_with fail
        go_cut [] from 59 to 70 (fun wr => Hid (GoesB base L w { R0 with rows := R0.rows ++ VL.data.toList } wr))
        case first =>
          have kk0 := HKK.out (.cells #[.int .u64 (SH : Int)] 24)
          go_region_law (first
            | (go_simp; go_at_call 58; (with_reducible first | refine (HV1.out _).mono ?_ | refine (HV2.out _).mono ?_); rintro e w2 ⟨rfl, hb2'⟩
               have hb2 := undrew hb2'
               have k0 : w2.cell? ⟨L.se.b, L.se.o, none⟩ = some (.slice a R0.rows.length ca) := (hb2.cell (p := ⟨L.se.b, L.se.o, none⟩) (HBA.out _)).trans (HKK.out _)
               have kf0 : w2.frozen? ⟨L.se.b, L.se.o, none⟩ = false := (hb2.frozen (p := ⟨L.se.b, L.se.o, none⟩) (HBA.out _)).trans (HKF.out _))
            | (refine step_append_str (by rfl) _ _ (by rfl) base (.slice a R0.rows.length ca) R0.rows (by rfl) (ownsRow_below (HOA.out _) hb2) VL (by rfl) HVS.out (Nat.le_trans (Nat.le_trans hlow (by rw [World.size_alloc]; omega)) hb2.size) ?_
               intro ao cap w3 hown3 hgrow hlie
               have k3 : w3.cell? ⟨L.se.b, L.se.o, none⟩ = some (.slice a R0.rows.length ca) := (hgrow.cell_far ⟨L.se.b, L.se.o, none⟩ (Nat.lt_of_lt_of_le (HBA.out _) hb2.size) (Ne.symm hn1)).trans k0
               have kf3 : w3.frozen? ⟨L.se.b, L.se.o, none⟩ = false := (hgrow.frozen_far ⟨L.se.b, L.se.o, none⟩ (Nat.lt_of_lt_of_le (HBA.out _) hb2.size) (Ne.symm hn1)).trans kf0))
          all_goals
            go_wp2_with fail
            go_meet
            case rel =>
              have hh : Built w2 base L1 R0 := (HB1.out.below ((Below.refl _ wc).alloc (Nat.le_refl _) _)).below hb2
              rw [← HA.out] at hgrow hlie
              have hg := hh.grow_rows hown3 hgrow hlie
              rw [HL1.out] at hg
              exact Lib.hid (GoesB.trans HL1.out (HT1.out.trans (Turns.of_below (P := fun _ => False) (((Below.refl _ wc).alloc (Nat.le_refl _) _).trans (hb2.mono (by rw [World.size_alloc]; omega)))) (fun x hx => hx.elim)) (fun k hk => HO1.out k hk) hg)
        case rest =>
          clear c0 f0 hbl hn1 hown hlow HV1 HV2 HBA HKK HKF HOA HVS HS1 HA HB1 HL1 HT1 HO1 HG1
          have HG1 := hcut; clear hcut
          obtain ⟨R1, hR1⟩ : ∃ R1 : St, R1 = { R0 with rows := R0.rows ++ VL.data.toList } := ⟨_, rfl⟩
          rw [← hR1] at HG1
          have HR1 := Lib.hid hR1; clear hR1
          obtain ⟨L1, hL1, hb1, ht1, ho1⟩ := HG1.out
          obtain ⟨⟨a, ca, ea⟩, -⟩ := hb1.shapes
          have c0 := hb1.c0
          have f0 := hb1.soft0
          have hbl := heap_lt hb1.box
          have hn1 := hb1.box_ne.1
          have hown := hb1.rows
          have hlow : base ≤ wc.heap.size := Nat.le_of_lt (Nat.lt_of_le_of_lt hb1.low hbl)
          rw [ea] at c0 hn1 hown
          rw [hL1] at c0 f0 hbl hn1
          have HB1 := Lib.hid hb1; have HL1 := Lib.hid hL1; have HA := Lib.hid ea; have HT1 := Lib.hid ht1; have HO1 := Lib.hid ho1
          clear hb1 hL1 ht1 ho1 ea
          have HV1 : Hid (∀ W : World, Calls Tryd.prog 59 #[.slice (some ⟨W.heap.size, 0, none⟩) 2 2] (W.alloc (.cells #[.string (k.extract SH k.size), .string v] 9)).drew (Gives (.string ⟨(textl [k.extract SH k.size, v]).toArray⟩) (W.alloc (.cells #[.string (k.extract SH k.size), .string v] 9)).drew)) := Lib.hid fun W => HTX.out _ _ (seesS_heap2 (heap_alloc_new W _))
          have HVS : Hid (R1.rows.length + (⟨(textl [k.extract SH k.size, v]).toArray⟩ : ByteArray).size ≤ 100000000000) := Lib.hid (by
            have h1 := textl_length [k.extract SH k.size, v]
            have h2 : R1.rows.length ≤ 4200000000 + VL.size := by
              rw [HR1.out]
              show (R0.rows ++ VL.data.toList).length ≤ _
              rw [List.length_append, HR0.out, len]
              show s.rows.length + _ ≤ _
              have := HS.out.rows; have := HN.out; omega
            have h3 : VL.size ≤ 9 := by
              rw [← HVL.out]
              show (varl [SH]).toArray.size ≤ _
              have := varl_length [SH]
              rw [List.size_toArray]
              simpa using this
            have h4 : (k.extract SH k.size).size ≤ k.size := by rw [ByteArray.size_extract]; omega
            have h5 := HK.out
            have h6 := HV.out
            show _ + (textl _).toArray.size ≤ _
            rw [List.size_toArray]
            simp only [suml, List.length_cons, List.length_nil] at h1
            omega)
          generalize hTL : (⟨(textl [k.extract SH k.size, v]).toArray⟩ : ByteArray) = TL at *
          have HTL := Lib.hid hTL; clear hTL
          have hblA : ∀ o, L.se.b < (wc.alloc o).heap.size := fun o => by rw [World.size_alloc]; omega
          have kk : ∀ o, (wc.alloc o).cell? ⟨L.se.b, L.se.o, none⟩ = some (.slice a R1.rows.length ca) := fun o => (((Below.refl _ wc).alloc (Nat.le_refl _) o).cell (p := ⟨L.se.b, L.se.o, none⟩) hbl).trans c0
          have kf : ∀ o, (wc.alloc o).frozen? ⟨L.se.b, L.se.o, none⟩ = false := fun o => (((Below.refl _ wc).alloc (Nat.le_refl _) o).frozen (p := ⟨L.se.b, L.se.o, none⟩) hbl).trans f0
          have hownA : ∀ o, Owns (wc.alloc o) base (.slice a R1.rows.length ca) R1.rows := fun o => hown.alloc o
          have HBA := Lib.hid hblA; have HKK := Lib.hid kk; have HKF := Lib.hid kf; have HOA := Lib.hid hownA
          clear hblA kk kf hownA
          go_wp2_with fail
          go_cut [] from 71 to 84 (fun wr => Hid (GoesB base L w { R1 with rows := R1.rows ++ TL.data.toList } wr))
          case first =>
            have kk0 := HKK.out (.cells #[.string (k.extract SH k.size), .string v] 9)
            go_region_law (first
              | (go_simp; go_at_call 59; (with_reducible refine (HV1.out _).mono ?_); rintro e w2 ⟨rfl, hb2'⟩
                 have hb2 := undrew hb2'
                 have k0 : w2.cell? ⟨L.se.b, L.se.o, none⟩ = some (.slice a R1.rows.length ca) := (hb2.cell (p := ⟨L.se.b, L.se.o, none⟩) (HBA.out _)).trans (HKK.out _)
                 have kf0 : w2.frozen? ⟨L.se.b, L.se.o, none⟩ = false := (hb2.frozen (p := ⟨L.se.b, L.se.o, none⟩) (HBA.out _)).trans (HKF.out _))
              | (refine step_append_str (by rfl) _ _ (by rfl) base (.slice a R1.rows.length ca) R1.rows (by rfl) (ownsRow_below (HOA.out _) hb2) TL (by rfl) HVS.out (Nat.le_trans (Nat.le_trans hlow (by rw [World.size_alloc]; omega)) hb2.size) ?_
                 intro ao cap w3 hown3 hgrow hlie
                 have k3 : w3.cell? ⟨L.se.b, L.se.o, none⟩ = some (.slice a R1.rows.length ca) := (hgrow.cell_far ⟨L.se.b, L.se.o, none⟩ (Nat.lt_of_lt_of_le (HBA.out _) hb2.size) (Ne.symm hn1)).trans k0
                 have kf3 : w3.frozen? ⟨L.se.b, L.se.o, none⟩ = false := (hgrow.frozen_far ⟨L.se.b, L.se.o, none⟩ (Nat.lt_of_lt_of_le (HBA.out _) hb2.size) (Ne.symm hn1)).trans kf0))
            all_goals
              go_wp2_with fail
              go_meet
              case rel =>
                have hh : Built w2 base L1 R1 := (HB1.out.below ((Below.refl _ wc).alloc (Nat.le_refl _) _)).below hb2
                rw [← HA.out] at hgrow hlie
                have hg := hh.grow_rows hown3 hgrow hlie
                rw [HL1.out] at hg
                exact Lib.hid (GoesB.trans HL1.out (HT1.out.trans (Turns.of_below (P := fun _ => False) (((Below.refl _ wc).alloc (Nat.le_refl _) _).trans (hb2.mono (by rw [World.size_alloc]; omega)))) (fun x hx => hx.elim)) (fun k hk => HO1.out k hk) hg)
          case rest =>
            clear c0 f0 hbl hn1 hown hlow HV1 HBA HKK HKF HOA HVS HA HB1 HL1 HT1 HO1 HG1
            have HG1 := hcut; clear hcut
            obtain ⟨R2, hR2⟩ : ∃ R2 : St, R2 = { R1 with rows := R1.rows ++ TL.data.toList } := ⟨_, rfl⟩
            rw [← hR2] at HG1
            have HR2n : Hid (R2.n = s.n) := Lib.hid (by rw [hR2, HR1.out, HR0.out])
            have HE2 : Hid (({ R2 with n := s.n + 1, last := k } : St) = step s ⟨k, v⟩) := Lib.hid (by
              rw [hR2, HR1.out, HR0.out, ← HTL.out, ← HVL.out]
              show ({ rows := s.rows ++ varl [SH] ++ textl [k.extract SH k.size, v], foot := ftn s, n := s.n + 1, last := k } : St) = _
              unfold step one
              rw [← HSH.out, List.append_assoc, textl_pair, Lib.extract_to_end, varl_one'])
            clear hR2
            obtain ⟨L1, hL1, hb1, ht1, ho1⟩ := HG1.out
            have c2 := hb1.c2
            have f2 := hb1.soft 2
            rw [hL1, HR2n.out] at c2
            rw [hL1] at f2
            have hg2 := hb1.set_n (s.n + 1)
            have hnw : (s.n : Int) + 1 ≤ 2000001 := by have := HN.out; omega
            have hcast : ((s.n + 1 : Nat) : Int) = (s.n : Int) + 1 := by omega
            rw [hcast, hL1] at hg2
            have HG2 := Lib.hid (GoesB.trans hL1 ht1 ho1 hg2)
            clear hb1 hL1 ht1 ho1 hg2 hcast HG1
            go_wp2_with fail
            refine (HCL.out _).mono ?_
            rintro e w4 ⟨rfl, hb4⟩
            have HG4 := Lib.hid (HG2.out.below hb4)
            obtain ⟨L3, hL3, hb3, ht3, ho3⟩ := HG4.out
            have c3 := hb3.c3
            have f3 := hb3.soft 3
            rw [hL3] at c3 f3
            have hg5 := hb3.set_last k
            rw [hL3] at hg5
            have HG5 := Lib.hid (GoesB.trans hL3 ht3 ho3 hg5)
            clear hb3 hL3 ht3 ho3 hg5 hb4 HG2 HG4 c2 f2
            go_wp2_with fail
            go_ret
            rw [← HE2.out]
            exact ⟨rfl, HG5.out⟩
    · have H0 : Hid (decide (s.n % 4 = 0) = false) := Lib.hid (decide_eq_false hr)
      have HC : Hid (SH = cm s.last.data.toList k.data.toList) := Lib.hid (by rw [HSH.out]; unfold sh; rw [if_neg hr])
      clear hr
      have HCM := Lib.hid (fun W => common_any s.last k W (by have := HS.out.last; omega) (by have := HK.out; omega))
      rw [← HC.out] at HCM
      go_enter Tryd.func28, Tryd.ntmps28
      go_wp2_with fail
      refine (HR.out _).mono ?_
      rintro e w1 ⟨rfl, rfl⟩
      rw [H0.out]
      go_wp2_with fail
      refine (HCM.out _).mono ?_
      rintro e wc ⟨rfl, hbc⟩
      have HG1 : Hid (GoesB base L w { s with foot := ftn s } wc) := Lib.hid (by
        rw [show ({ s with foot := ftn s } : St) = s by unfold ftn; rw [if_neg (of_decide_eq_false H0.out)]]
        exact (GoesB.refl HH.out).below hbc)
      clear hbc c2 c3
      have hfoot : Hid (({ s with foot := ftn s } : St).rows = s.rows) := Lib.hid rfl
      obtain ⟨R0, hR0⟩ : ∃ R0 : St, R0 = { s with foot := ftn s } := ⟨_, rfl⟩
      rw [← hR0] at HG1
      have HR0 := Lib.hid hR0; clear hR0 hfoot
      obtain ⟨L1, hL1, hb1, ht1, ho1⟩ := HG1.out
      obtain ⟨⟨a, ca, ea⟩, -⟩ := hb1.shapes
      have c0 := hb1.c0
      have f0 := hb1.soft0
      have hbl := heap_lt hb1.box
      have hn1 := hb1.box_ne.1
      have hown := hb1.rows
      have hlow : base ≤ wc.heap.size := Nat.le_of_lt (Nat.lt_of_le_of_lt hb1.low hbl)
      rw [ea] at c0 hn1 hown
      rw [hL1] at c0 f0 hbl hn1
      have HB1 := Lib.hid hb1; have HL1 := Lib.hid hL1; have HA := Lib.hid ea; have HT1 := Lib.hid ht1; have HO1 := Lib.hid ho1
      clear hb1 hL1 ht1 ho1 ea
      have HS1 : Hid (R0.rows.length ≤ 4200000000) := Lib.hid (by rw [HR0.out]; show s.rows.length ≤ _; have := HS.out.rows; have := HN.out; omega)
      have HV1 : Hid (∀ W : World, Calls Tryd.prog 58 #[.slice (some ⟨W.heap.size, 0, none⟩) 1 1] (W.alloc (.cells #[.int .u64 (SH : Int)] 24)).drew (Gives (.string ⟨(varl [SH]).toArray⟩) (W.alloc (.cells #[.int .u64 (SH : Int)] 24)).drew)) := Lib.hid fun W => HVR.out _ _ (seesU_heap1 (heap_alloc_new W _))
      have HV2 : Hid (∀ W : World, Calls Tryd.prog 58 #[.slice (some ⟨W.heap.size, 0, none⟩) 1 1] (W.alloc (.cells #[.int .u64 (SH : Int)] 24)) (Gives (.string ⟨(varl [SH]).toArray⟩) (W.alloc (.cells #[.int .u64 (SH : Int)] 24)))) := Lib.hid fun W => HVR.out _ _ (seesU_heap1 (heap_alloc_new W _))
      have HVS : Hid (R0.rows.length + (⟨(varl [SH]).toArray⟩ : ByteArray).size ≤ 100000000000) := Lib.hid (by
        have h1 := varl_length [SH]
        have h2 := HS1.out
        show _ + (varl [SH]).toArray.size ≤ _
        rw [List.size_toArray]
        simp at h1
        omega)
      generalize hVL : (⟨(varl [SH]).toArray⟩ : ByteArray) = VL at *
      have HVL := Lib.hid hVL; clear hVL
      have hblA : ∀ o, L.se.b < (wc.alloc o).heap.size := fun o => by rw [World.size_alloc]; omega
      have kk : ∀ o, (wc.alloc o).cell? ⟨L.se.b, L.se.o, none⟩ = some (.slice a R0.rows.length ca) := fun o => (((Below.refl _ wc).alloc (Nat.le_refl _) o).cell (p := ⟨L.se.b, L.se.o, none⟩) hbl).trans c0
      have kf : ∀ o, (wc.alloc o).frozen? ⟨L.se.b, L.se.o, none⟩ = false := fun o => (((Below.refl _ wc).alloc (Nat.le_refl _) o).frozen (p := ⟨L.se.b, L.se.o, none⟩) hbl).trans f0
      have hownA : ∀ o, Owns (wc.alloc o) base (.slice a R0.rows.length ca) R0.rows := fun o => hown.alloc o
      have HBA := Lib.hid hblA; have HKK := Lib.hid kk; have HKF := Lib.hid kf; have HOA := Lib.hid hownA
      clear hblA kk kf hownA
      go_wp2_with fail
      go_cut [] from 59 to 70 (fun wr => Hid (GoesB base L w { R0 with rows := R0.rows ++ VL.data.toList } wr))
      case first =>
        have kk0 := HKK.out (.cells #[.int .u64 (SH : Int)] 24)
        go_region_law (first
          | (go_simp; go_at_call 58; (with_reducible first | refine (HV1.out _).mono ?_ | refine (HV2.out _).mono ?_); rintro e w2 ⟨rfl, hb2'⟩
             have hb2 := undrew hb2'
             have k0 : w2.cell? ⟨L.se.b, L.se.o, none⟩ = some (.slice a R0.rows.length ca) := (hb2.cell (p := ⟨L.se.b, L.se.o, none⟩) (HBA.out _)).trans (HKK.out _)
             have kf0 : w2.frozen? ⟨L.se.b, L.se.o, none⟩ = false := (hb2.frozen (p := ⟨L.se.b, L.se.o, none⟩) (HBA.out _)).trans (HKF.out _))
          | (refine step_append_str (by rfl) _ _ (by rfl) base (.slice a R0.rows.length ca) R0.rows (by rfl) (ownsRow_below (HOA.out _) hb2) VL (by rfl) HVS.out (Nat.le_trans (Nat.le_trans hlow (by rw [World.size_alloc]; omega)) hb2.size) ?_
             intro ao cap w3 hown3 hgrow hlie
             have k3 : w3.cell? ⟨L.se.b, L.se.o, none⟩ = some (.slice a R0.rows.length ca) := (hgrow.cell_far ⟨L.se.b, L.se.o, none⟩ (Nat.lt_of_lt_of_le (HBA.out _) hb2.size) (Ne.symm hn1)).trans k0
             have kf3 : w3.frozen? ⟨L.se.b, L.se.o, none⟩ = false := (hgrow.frozen_far ⟨L.se.b, L.se.o, none⟩ (Nat.lt_of_lt_of_le (HBA.out _) hb2.size) (Ne.symm hn1)).trans kf0))
        all_goals
          go_wp2_with fail
          go_meet
          case rel =>
            have hh : Built w2 base L1 R0 := (HB1.out.below ((Below.refl _ wc).alloc (Nat.le_refl _) _)).below hb2
            rw [← HA.out] at hgrow hlie
            have hg := hh.grow_rows hown3 hgrow hlie
            rw [HL1.out] at hg
            exact Lib.hid (GoesB.trans HL1.out (HT1.out.trans (Turns.of_below (P := fun _ => False) (((Below.refl _ wc).alloc (Nat.le_refl _) _).trans (hb2.mono (by rw [World.size_alloc]; omega)))) (fun x hx => hx.elim)) (fun k hk => HO1.out k hk) hg)
      case rest =>
        clear c0 f0 hbl hn1 hown hlow HV1 HV2 HBA HKK HKF HOA HVS HS1 HA HB1 HL1 HT1 HO1 HG1
        have HG1 := hcut; clear hcut
        obtain ⟨R1, hR1⟩ : ∃ R1 : St, R1 = { R0 with rows := R0.rows ++ VL.data.toList } := ⟨_, rfl⟩
        rw [← hR1] at HG1
        have HR1 := Lib.hid hR1; clear hR1
        obtain ⟨L1, hL1, hb1, ht1, ho1⟩ := HG1.out
        obtain ⟨⟨a, ca, ea⟩, -⟩ := hb1.shapes
        have c0 := hb1.c0
        have f0 := hb1.soft0
        have hbl := heap_lt hb1.box
        have hn1 := hb1.box_ne.1
        have hown := hb1.rows
        have hlow : base ≤ wc.heap.size := Nat.le_of_lt (Nat.lt_of_le_of_lt hb1.low hbl)
        rw [ea] at c0 hn1 hown
        rw [hL1] at c0 f0 hbl hn1
        have HB1 := Lib.hid hb1; have HL1 := Lib.hid hL1; have HA := Lib.hid ea; have HT1 := Lib.hid ht1; have HO1 := Lib.hid ho1
        clear hb1 hL1 ht1 ho1 ea
        have HV1 : Hid (∀ W : World, Calls Tryd.prog 59 #[.slice (some ⟨W.heap.size, 0, none⟩) 2 2] (W.alloc (.cells #[.string (k.extract SH k.size), .string v] 9)).drew (Gives (.string ⟨(textl [k.extract SH k.size, v]).toArray⟩) (W.alloc (.cells #[.string (k.extract SH k.size), .string v] 9)).drew)) := Lib.hid fun W => HTX.out _ _ (seesS_heap2 (heap_alloc_new W _))
        have HVS : Hid (R1.rows.length + (⟨(textl [k.extract SH k.size, v]).toArray⟩ : ByteArray).size ≤ 100000000000) := Lib.hid (by
          have h1 := textl_length [k.extract SH k.size, v]
          have h2 : R1.rows.length ≤ 4200000000 + VL.size := by
            rw [HR1.out]
            show (R0.rows ++ VL.data.toList).length ≤ _
            rw [List.length_append, HR0.out, len]
            show s.rows.length + _ ≤ _
            have := HS.out.rows; have := HN.out; omega
          have h3 : VL.size ≤ 9 := by
            rw [← HVL.out]
            show (varl [SH]).toArray.size ≤ _
            have := varl_length [SH]
            rw [List.size_toArray]
            simpa using this
          have h4 : (k.extract SH k.size).size ≤ k.size := by rw [ByteArray.size_extract]; omega
          have h5 := HK.out
          have h6 := HV.out
          show _ + (textl _).toArray.size ≤ _
          rw [List.size_toArray]
          simp only [suml, List.length_cons, List.length_nil] at h1
          omega)
        generalize hTL : (⟨(textl [k.extract SH k.size, v]).toArray⟩ : ByteArray) = TL at *
        have HTL := Lib.hid hTL; clear hTL
        have hblA : ∀ o, L.se.b < (wc.alloc o).heap.size := fun o => by rw [World.size_alloc]; omega
        have kk : ∀ o, (wc.alloc o).cell? ⟨L.se.b, L.se.o, none⟩ = some (.slice a R1.rows.length ca) := fun o => (((Below.refl _ wc).alloc (Nat.le_refl _) o).cell (p := ⟨L.se.b, L.se.o, none⟩) hbl).trans c0
        have kf : ∀ o, (wc.alloc o).frozen? ⟨L.se.b, L.se.o, none⟩ = false := fun o => (((Below.refl _ wc).alloc (Nat.le_refl _) o).frozen (p := ⟨L.se.b, L.se.o, none⟩) hbl).trans f0
        have hownA : ∀ o, Owns (wc.alloc o) base (.slice a R1.rows.length ca) R1.rows := fun o => hown.alloc o
        have HBA := Lib.hid hblA; have HKK := Lib.hid kk; have HKF := Lib.hid kf; have HOA := Lib.hid hownA
        clear hblA kk kf hownA
        go_wp2_with fail
        go_cut [] from 71 to 84 (fun wr => Hid (GoesB base L w { R1 with rows := R1.rows ++ TL.data.toList } wr))
        case first =>
          have kk0 := HKK.out (.cells #[.string (k.extract SH k.size), .string v] 9)
          go_region_law (first
            | (go_simp; go_at_call 59; (with_reducible refine (HV1.out _).mono ?_); rintro e w2 ⟨rfl, hb2'⟩
               have hb2 := undrew hb2'
               have k0 : w2.cell? ⟨L.se.b, L.se.o, none⟩ = some (.slice a R1.rows.length ca) := (hb2.cell (p := ⟨L.se.b, L.se.o, none⟩) (HBA.out _)).trans (HKK.out _)
               have kf0 : w2.frozen? ⟨L.se.b, L.se.o, none⟩ = false := (hb2.frozen (p := ⟨L.se.b, L.se.o, none⟩) (HBA.out _)).trans (HKF.out _))
            | (refine step_append_str (by rfl) _ _ (by rfl) base (.slice a R1.rows.length ca) R1.rows (by rfl) (ownsRow_below (HOA.out _) hb2) TL (by rfl) HVS.out (Nat.le_trans (Nat.le_trans hlow (by rw [World.size_alloc]; omega)) hb2.size) ?_
               intro ao cap w3 hown3 hgrow hlie
               have k3 : w3.cell? ⟨L.se.b, L.se.o, none⟩ = some (.slice a R1.rows.length ca) := (hgrow.cell_far ⟨L.se.b, L.se.o, none⟩ (Nat.lt_of_lt_of_le (HBA.out _) hb2.size) (Ne.symm hn1)).trans k0
               have kf3 : w3.frozen? ⟨L.se.b, L.se.o, none⟩ = false := (hgrow.frozen_far ⟨L.se.b, L.se.o, none⟩ (Nat.lt_of_lt_of_le (HBA.out _) hb2.size) (Ne.symm hn1)).trans kf0))
          all_goals
            go_wp2_with fail
            go_meet
            case rel =>
              have hh : Built w2 base L1 R1 := (HB1.out.below ((Below.refl _ wc).alloc (Nat.le_refl _) _)).below hb2
              rw [← HA.out] at hgrow hlie
              have hg := hh.grow_rows hown3 hgrow hlie
              rw [HL1.out] at hg
              exact Lib.hid (GoesB.trans HL1.out (HT1.out.trans (Turns.of_below (P := fun _ => False) (((Below.refl _ wc).alloc (Nat.le_refl _) _).trans (hb2.mono (by rw [World.size_alloc]; omega)))) (fun x hx => hx.elim)) (fun k hk => HO1.out k hk) hg)
        case rest =>
          clear c0 f0 hbl hn1 hown hlow HV1 HBA HKK HKF HOA HVS HA HB1 HL1 HT1 HO1 HG1
          have HG1 := hcut; clear hcut
          obtain ⟨R2, hR2⟩ : ∃ R2 : St, R2 = { R1 with rows := R1.rows ++ TL.data.toList } := ⟨_, rfl⟩
          rw [← hR2] at HG1
          have HR2n : Hid (R2.n = s.n) := Lib.hid (by rw [hR2, HR1.out, HR0.out])
          have HE2 : Hid (({ R2 with n := s.n + 1, last := k } : St) = step s ⟨k, v⟩) := Lib.hid (by
            rw [hR2, HR1.out, HR0.out, ← HTL.out, ← HVL.out]
            show ({ rows := s.rows ++ varl [SH] ++ textl [k.extract SH k.size, v], foot := ftn s, n := s.n + 1, last := k } : St) = _
            unfold step one
            rw [← HSH.out, List.append_assoc, textl_pair, Lib.extract_to_end, varl_one'])
          clear hR2
          obtain ⟨L1, hL1, hb1, ht1, ho1⟩ := HG1.out
          have c2 := hb1.c2
          have f2 := hb1.soft 2
          rw [hL1, HR2n.out] at c2
          rw [hL1] at f2
          have hg2 := hb1.set_n (s.n + 1)
          have hnw : (s.n : Int) + 1 ≤ 2000001 := by have := HN.out; omega
          have hcast : ((s.n + 1 : Nat) : Int) = (s.n : Int) + 1 := by omega
          rw [hcast, hL1] at hg2
          have HG2 := Lib.hid (GoesB.trans hL1 ht1 ho1 hg2)
          clear hb1 hL1 ht1 ho1 hg2 hcast HG1
          go_wp2_with fail
          refine (HCL.out _).mono ?_
          rintro e w4 ⟨rfl, hb4⟩
          have HG4 := Lib.hid (HG2.out.below hb4)
          obtain ⟨L3, hL3, hb3, ht3, ho3⟩ := HG4.out
          have c3 := hb3.c3
          have f3 := hb3.soft 3
          rw [hL3] at c3 f3
          have hg5 := hb3.set_last k
          rw [hL3] at hg5
          have HG5 := Lib.hid (GoesB.trans hL3 ht3 ho3 hg5)
          clear hb3 hL3 ht3 ho3 hg5 hb4 HG2 HG4 c2 f2
          go_wp2_with fail
          go_ret
          rw [← HE2.out]
          exact ⟨rfl, HG5.out⟩
end
end Go.Proofs.YtphoihkbdogkhaaDoor.Bn.Bo

/- The walks of block's build, parts, Open. -/
namespace Go.Proofs.YtphoihkbdogkhaaDoor.Bn.Bo
set_option maxRecDepth 100000
open Go Go.RowKit
set_option linter.unusedVariables false

/-- What a builder holds behind an Add. -/
def after (s : St) (e : En) : St := if err s e = 0 then step s e else s
theorem Sound.after {s : St} (h : Sound s) (e : En) : Sound (after s e) := by
  unfold Bo.after
  split
  · rename_i he
    exact h.step he
  · exact h
theorem after_n (s : St) (e : En) : (after s e).n ≤ s.n + 1 := by
  unfold after
  split
  · exact Nat.le_refl _
  · omega
theorem add_any {w : World} {base : Nat} {L : BL} {s : St} (h : Built w base L s) (hs : Sound s) (hn : s.n ≤ 2000000) (k v : ByteArray) :
    Calls Tryd.prog 28 #[.pointer (some ⟨L.se.b, L.se.o, none⟩), .string k, .string v] w fun e w' => e = .returned (.int .i64 (err s ⟨k, v⟩ : Int)) ∧ GoesB base L w (after s ⟨k, v⟩) w' := by
  by_cases hl : 1024 < k.size ∨ 1024 < v.size
  · have he : err s ⟨k, v⟩ = 3 := by unfold err; rw [if_pos hl]
    unfold after
    rw [he, if_neg (by decide)]
    refine (add_long h k v hl).mono ?_
    rintro e w' ⟨rfl, rfl⟩
    exact ⟨rfl, GoesB.refl h⟩
  · by_cases hlt : s.n ≠ 0 ∧ Op.bytesLess s.last.data.toList k.data.toList = false
    · have he : err s ⟨k, v⟩ = 1 := by unfold err; rw [if_neg hl, if_pos hlt]
      unfold after
      rw [he, if_neg (by decide)]
      refine (add_low h k v (by omega) (by omega) (by omega) hlt.2).mono ?_
      rintro e w' ⟨rfl, rfl⟩
      exact ⟨rfl, GoesB.refl h⟩
    · have he : err s ⟨k, v⟩ = 0 := by unfold err; rw [if_neg hl, if_neg hlt]
      unfold after
      rw [if_pos he]
      refine (add_ok h hs hn k v he).mono ?_
      rintro e w' ⟨rfl, hg⟩
      exact ⟨by rw [he]; rfl, hg⟩
theorem GoesB.to_below {w w' : World} {base : Nat} {L : BL} {s s' : St} (h : Built w base L s) (hg : GoesB base L w s' w') : Below base w w' := by
  obtain ⟨L', e, h1, h2, h3⟩ := hg
  exact h2.to_below (Nat.le_of_lt (Nat.lt_of_le_of_lt h.low (heap_lt h.box))) (fun k hk => h.own_ge hk)
theorem good_append : ∀ (a b : List En) (s : St), goodb s (a ++ b) = (goodb s a && goodb (run s a) b)
  | [], b, s => by rw [List.nil_append, goodb, Bool.true_and]; rfl
  | e :: a, b, s => by rw [List.cons_append, goodb, good_append a, goodb, run_cons, Bool.and_assoc]
theorem bld_stop {l : List En} {k : Nat} {e : En} (hk : l[k]? = some e) (he : err (run st0 (l.take k)) e ≠ 0) : bld l = [] := by
  have h1 : l = l.take k ++ (e :: l.drop (k + 1)) := by
    obtain ⟨hlt, hke⟩ := List.getElem?_eq_some_iff.1 hk
    rw [← hke, ← List.drop_eq_getElem_cons hlt, List.take_append_drop]
  unfold bld
  rw [if_neg]
  rw [h1, good_append, goodb, decide_eq_false he]
  simp
/-- A builder in a block of its own. -/
def own (w : World) : Seat := ⟨w.heap.size, 0, [], [], 64, rfl, by decide⟩
theorem new_built (w : World) : Built (w.alloc (.cells #[.slice none 0 0, .slice none 0 0, .int .i64 0, .string ⟨#[]⟩] 64)) w.heap.size ⟨own w, .slice none 0 0, .slice none 0 0⟩ st0 :=
  ⟨heap_alloc_new w _, Owns.nil _ _, Owns.nil _ _, fun k hk => by simp [Value.ownBlock] at hk, Nat.le_refl _⟩

set_option maxHeartbeats 4000000 in
set_option maxRecDepth 100000 in
theorem build_any (a : Option Addr) (n c : Nat) (rs : List Row) (w : World) (base0 : Nat) (h : OwnsR w base0 (.slice a n c) rs) (hl : rs.length = n) (hn : n ≤ 1000000) :
    Calls Tryd.prog 88 #[.slice a n c] w (Gives (.string ⟨(bld (rs.map Prod.snd)).toArray⟩) w) := by
  have HH := Lib.hid h; clear h
  have HLEN := Lib.hid hl; clear hl
  obtain ⟨X, hX⟩ : ∃ X : ByteArray, X = ⟨(bld (rs.map Prod.snd)).toArray⟩ := ⟨_, rfl⟩
  rw [← hX]
  have HX := Lib.hid hX; clear hX
  have HNB := Lib.hid (new_built w)
  go_enter Tryd.func88, Tryd.ntmps88
  go_wp2_with fail
  go_loopw [8] (fun i wr => ∃ (k : Nat), k ≤ n ∧ i = .int .i64 k ∧ Hid (goodb st0 ((rs.map Prod.snd).take k) = true ∧ ∃ L, L.se = own w ∧ Built wr w.heap.size L (run st0 ((rs.map Prod.snd).take k)) ∧ Below w.heap.size w wr)) (fun i _ => n - (intOf i).toNat)
  case atStart => exact ⟨0, Nat.zero_le _, rfl, Lib.hid ⟨rfl, _, rfl, HNB.out, (Below.refl _ _).alloc (Nat.le_refl _) _⟩⟩
  case round =>
    obtain ⟨k, hk, rfl, HI⟩ := hrel
    obtain ⟨hg, L, hL, hb, hbel⟩ := HI.out
    by_cases hlt : k < n
    · obtain ⟨⟨kv, en⟩, hrow⟩ : ∃ x, rs[k]? = some x := ⟨_, List.getElem?_eq_getElem (by rw [HLEN.out]; exact hlt)⟩
      obtain ⟨g, rfl, hgl, k0, k1⟩ := HH.out.at hrow
      have hgb : ∀ j, wr.cell? ⟨g, j, none⟩ = w.cell? ⟨g, j, none⟩ := fun j => hbel.cell (p := ⟨g, j, none⟩) hgl
      have c0 := (hgb _).trans k0
      have c1 := (hgb _).trans k1
      dsimp only at c0 c1
      have hsee := (HH.out.sees _ (List.mem_of_getElem? hrow)).below hbel
      dsimp only at hsee
      obtain ⟨ka, kc, e, -⟩ := id hsee
      rw [e] at c0
      rw [e] at hsee
      have hcv : ∀ o, (convert 34 9 (.slice ka en.key.data.toList.length kc)).run Tryd.prog (wr.alloc o) = .ok (.string en.key) (wr.alloc o) := fun o => (hsee.below ((Below.refl _ _).alloc (Nat.le_refl _) o)).convert
      have hnn : (run st0 ((rs.map Prod.snd).take k)).n = k := by
        rw [run_n, List.length_take, List.length_map, HLEN.out]
        show 0 + _ = _
        omega
      have hso := sound_run _ _ sound0 hg
      have HADD : ∀ o, Hid (Calls Tryd.prog 28 #[.pointer (some ⟨w.heap.size, 0, none⟩), .string en.key, .string en.val] (wr.alloc o) fun e w' => e = .returned (.int .i64 (err (run st0 ((rs.map Prod.snd).take k)) en : Int)) ∧ GoesB w.heap.size L (wr.alloc o) (after (run st0 ((rs.map Prod.snd).take k)) en) w') := fun o => Lib.hid (by
        have := add_any (hb.below ((Below.refl _ wr).alloc (Nat.le_refl _) o)) hso (by rw [hnn]; omega) en.key en.val
        rw [hL] at this
        exact this)
      have hat : (rs.map Prod.snd)[k]? = some en := by rw [List.getElem?_map, hrow]; rfl
      have HTK : Hid ((rs.map Prod.snd).take (k + 1) = (rs.map Prod.snd).take k ++ [en]) := Lib.hid (by
        obtain ⟨h1, h2⟩ := List.getElem?_eq_some_iff.1 hat
        rw [List.take_succ_eq_append_getElem h1, h2])
      have HSTOP := Lib.hid (fun he => bld_stop hat he)
      have HGB := Lib.hid (fun o w' s' (hg' : GoesB w.heap.size L (wr.alloc o) s' w') => GoesB.to_below (hb.below ((Below.refl _ wr).alloc (Nat.le_refl _) o)) hg')
      have HBEL := Lib.hid hbel; have HL := Lib.hid hL; have HG := Lib.hid hg
      generalize en.key.data.toList.length = kz at *
      clear hsee hso hb hbel hL hg HI hnn hat hgb k0 k1 hrow e HNB
      by_cases he : err (run st0 ((rs.map Prod.snd).take k)) en = 0
      · have HE := Lib.hid he
        rw [he] at HADD
        clear he HSTOP
        go_wp2_with fail
        refine (HADD _).out.mono ?_
        rintro e w2 ⟨rfl, hg2⟩
        have HG2 := Lib.hid hg2; clear hg2
        go_wp2_with fail
        go_roundw
        case rel =>
          refine ⟨k + 1, by omega, by go_num, Lib.hid ?_⟩
          have hb2 := HGB.out _ _ _ HG2.out
          obtain ⟨L2, e2, h2, -, -⟩ := HG2.out
          have ha : after (run st0 ((rs.map Prod.snd).take k)) en = run st0 ((rs.map Prod.snd).take (k + 1)) := by
            unfold after
            rw [if_pos HE.out, HTK.out, run_snoc]
          rw [ha] at h2
          refine ⟨?_, L2, e2.trans HL.out, h2, ?_⟩
          · rw [HTK.out, good_snoc, HG.out, decide_eq_true HE.out]; rfl
          · exact (HBEL.out.alloc HBEL.out.size _).trans hb2
        case measure => simp [intOf]; omega
      · have HS := Lib.hid (HSTOP.out he)
        have hne : ((err (run st0 ((rs.map Prod.snd).take k)) en : Nat) : Int) ≠ 0 := by omega
        have HX2 : Hid (X = ⟨#[]⟩) := Lib.hid (by rw [HX.out, HS.out])
        clear HSTOP he HS
        generalize err (run st0 ((rs.map Prod.snd).take k)) en = E at *
        go_wp2_with fail
        refine (HADD _).out.mono ?_
        rintro e w2 ⟨rfl, hg2⟩
        have HG2 := Lib.hid hg2; clear hg2
        go_wp2_with fail
        go_ret
        rw [HX2.out]
        exact ⟨rfl, (HBEL.out.alloc HBEL.out.size _).trans (HGB.out _ _ _ HG2.out)⟩
    · obtain rfl : k = n := by omega
      have ht : (rs.map Prod.snd).take k = rs.map Prod.snd := List.take_of_length_le (by rw [List.length_map, HLEN.out]; omega)
      rw [ht] at hg hb
      have hnn : (run st0 (rs.map Prod.snd)).n = k := by
        rw [run_n, List.length_map, HLEN.out]
        show 0 + _ = _
        omega
      have hso := sound_run _ _ sound0 hg
      have HFIN := Lib.hid (finish_any hb (by have := hso.rows; rw [hnn] at this; omega) (by rw [hso.foot, hnn]; omega) (by rw [hnn]; omega))
      rw [hL] at HFIN
      have HX2 : Hid (X = ⟨(fin (run st0 (rs.map Prod.snd))).toArray⟩) := Lib.hid (by rw [HX.out, bld, if_pos hg]; rfl)
      have HGB := Lib.hid (fun s' w' (hg' : GoesB w.heap.size L wr s' w') => GoesB.to_below hb hg')
      have HBEL := Lib.hid hbel
      clear hg hb hL hbel HI ht hnn hso HNB
      go_wp2_with fail
      refine HFIN.out.mono ?_
      rintro e w2 ⟨rfl, hg2⟩
      have HG2 := Lib.hid hg2; clear hg2
      go_wp2_with fail
      go_ret
      rw [HX2.out]
      exact ⟨rfl, HBEL.out.trans (HGB.out _ _ HG2.out)⟩
/-- Its length. -/
theorem val_u64 (l : List UInt8) (h : l.length = 4) : Nm.val l < 4294967296 := by
  have := Nm.val_lt l
  rw [h] at this
  simpa using this
/-- What parts answers. -/
def partsV (o : Option (List UInt8 × Nat)) : Value := match o with
  | none => .tuple #[.string ⟨#[]⟩, .int .u64 0, .bool false]
  | some (r, n) => .tuple #[.string ⟨r.toArray⟩, .int .u64 (n : Int), .bool true]
set_option maxRecDepth 100000 in
theorem parts_any (s : ByteArray) (w : World) (hs : s.size ≤ 1000000000) :
    Calls Tryd.prog 86 #[.string s] w fun e w' => e = .returned (partsV (parts s.data.toList)) ∧ w = w' := by
  by_cases h4 : s.size < 4
  · have e : parts s.data.toList = none := by unfold parts; rw [if_pos (by rw [len]; exact h4)]
    have h4i : (s.size : Int) - 4 < 0 := by omega
    rw [e]
    clear e h4
    go_enter Tryd.func86, Tryd.ntmps86
    go_wp2_with fail
    go_ret3
    exact ⟨rfl, rfl⟩
  · obtain ⟨d, hd⟩ : ∃ d, s.size = d + 4 := ⟨s.size - 4, by omega⟩
    have hdi : (s.size : Int) - 4 = d := by omega
    obtain ⟨N, hN⟩ : ∃ N, N = Nm.val (s.data.toList.drop d) := ⟨_, rfl⟩
    have hN4 : N < 4294967296 := by rw [hN]; exact val_u64 _ (by rw [List.length_drop, len, hd]; omega)
    have HRB : Hid (∀ W, Calls Tryd.prog 63 #[.string (s.extract d s.size), .int .i64 4] W fun e w' => e = .returned (.tuple #[.int .u64 (N : Int), .bool true]) ∧ W = w') := Lib.hid (fun W => by
      have hz : (s.extract d s.size).size = 4 := by rw [ByteArray.size_extract]; omega
      have := readBig_yes (s.extract d s.size) 4 W (by omega) (by omega) (by rw [hz]; omega) (by rw [hz]; omega)
      have e : (s.extract d s.size).data.toList.take (4 : Int).toNat = s.data.toList.drop d := by
        rw [Lib.extract_to_end]
        exact List.take_of_length_le (by rw [List.length_drop, len, hd]; show d + 4 - d ≤ 4; omega)
      rw [e, ← hN] at this
      exact this)
    obtain ⟨F, hF⟩ : ∃ F, F = (N + 3) / 4 * 4 := ⟨_, rfl⟩
    have hFi : ((N : Int) + 4 - 1) / 4 * 4 = F := by omega
    have hFt : Int.tdiv ((N : Int) + 4 - 1) 4 * 4 = F := by rw [Int.tdiv_eq_ediv_of_nonneg (by omega)]; exact hFi
    have hFb : F < 4294967300 := by omega
    have hw1 : IntKind.u64.wrap ((N : Int) + 4) = (N : Int) + 4 := by rw [IntKind.wrap_u64]; omega
    have hw2 : IntKind.u64.wrap ((N : Int) + 4 - 1) = (N : Int) + 4 - 1 := by rw [IntKind.wrap_u64]; omega
    have hw3 : IntKind.u64.wrap (F : Int) = F := by rw [IntKind.wrap_u64]; omega
    have hw4 : IntKind.u64.wrap (d : Int) = d := by rw [IntKind.wrap_u64]; omega
    have hw5 : IntKind.i64.wrap (F : Int) = F := by rw [IntKind.wrap_i64]; omega
    have hd2 : (d : Int) ≤ s.size := by omega
    have hd0 : ¬ (d : Int) < 0 := by omega
    have hd1 : (0 : Int) ≤ d := by omega
    have hd5 : (d : Int) ≤ 1000000000 := by omega
    have hF5 : (F : Int) < 4294967300 := by omega
    have HD := Lib.hid hd; clear hd
    by_cases hlt : d < F
    · have HE : Hid (parts s.data.toList = none) := Lib.hid (by
        unfold parts
        rw [len, HD.out, if_neg (by omega), Nat.add_sub_cancel, ← hN, ← hF, if_pos hlt])
      have hlti : (d : Int) < F := by omega
      rw [HE.out]
      clear HE h4 hN hF hlt
      go_enter Tryd.func86, Tryd.ntmps86
      go_wp2_with fail
      refine (HRB.out _).mono ?_
      rintro e w1 ⟨rfl, rfl⟩
      go_wp2_with fail
      go_ret3
      exact ⟨rfl, rfl⟩
    · have HE : Hid (partsV (parts s.data.toList) = .tuple #[.string (s.extract 0 (d - F)), .int .u64 (N : Int), .bool true]) := Lib.hid (by
        unfold parts
        rw [len, HD.out, if_neg (by omega), Nat.add_sub_cancel, ← hN, ← hF, if_neg hlt]
        unfold partsV
        simp only
        rw [Lib.extract_eq]
        rfl)
      have hlti : ¬ (d : Int) < F := by omega
      have HWQ : Hid (IntKind.i64.wrap ((d - F : Nat) : Int) = ((d - F : Nat) : Int)) := Lib.hid (by rw [IntKind.wrap_i64]; omega)
      have hdf : (d : Int) - F = ((d - F : Nat) : Int) := by omega
      have hdf2 : ((d - F : Nat) : Int) ≤ s.size := by omega
      rw [HE.out]
      clear HE h4 hN hF hlt hF5 hFb hs hN4
      have hq0 : (0 : Int) ≤ ((d - F : Nat) : Int) := by omega
      have hwq : IntKind.i64.wrap ((d : Int) - F) = ((d - F : Nat) : Int) := by rw [hdf]; exact HWQ.out
      generalize d - F = q at *
      go_enter Tryd.func86, Tryd.ntmps86
      go_wp2_with fail
      refine (HRB.out _).mono ?_
      rintro e w1 ⟨rfl, rfl⟩
      go_wp2_with fail
      go_ret3
      exact ⟨rfl, rfl⟩
end Go.Proofs.YtphoihkbdogkhaaDoor.Bn.Bo

/- The walks of block's Open, Len, At. -/
namespace Go.Proofs.YtphoihkbdogkhaaDoor.Bn.Bo
set_option maxRecDepth 100000
open Go Go.RowKit
set_option linter.unusedVariables false

/-- A block lies there. -/
structure Blk (w : World) (base p : Nat) (v : Value) (rs : List Row) : Prop where
  box : w.heap[p]? = some (.cells #[v] 142 (0, 0))
  own : OwnsR w base v rs
theorem Blk.below {w w' : World} {base p : Nat} {v : Value} {rs : List Row} (h : Blk w base p v rs) (hb : Below w.heap.size w w') : Blk w' base p v rs := ⟨(hb.block _ (heap_lt h.box)).trans h.box, h.own.below hb⟩
theorem Blk.c0 {w : World} {base p : Nat} {v : Value} {rs : List Row} (h : Blk w base p v rs) : w.cell? ⟨p, 0, none⟩ = some v := by rw [cell_of h.box]; rfl
/-- A block was opened, or none. -/
def Opened (o : Option (List En)) (w : World) (e : Ending) (w' : World) : Prop :=
  Below w.heap.size w w' ∧ match o with
  | none => e = .returned (.tuple #[.pointer none, .int .i64 8])
  | some l => ∃ p v rs, e = .returned (.tuple #[.pointer (some ⟨p, 0, none⟩), .int .i64 0]) ∧ Blk w' w.heap.size p v rs ∧ rs.map Prod.snd = l ∧ w.heap.size ≤ p

set_option maxHeartbeats 1000000 in
theorem open_any (s : ByteArray) (w : World) (hs : s.size ≤ 1000000) :
    Calls Tryd.prog 64 #[.string s] w (Opened (opn s.data.toList) w) := by
  have HS := Lib.hid hs
  have HP := Lib.hid (fun W => parts_any s W (by omega))
  cases hp : parts s.data.toList with
  | none =>
    have HE : Hid (opn s.data.toList = none) := Lib.hid (by unfold opn; rw [hp])
    rw [hp] at HP
    rw [HE.out]
    unfold partsV at HP
    dsimp only at HP
    clear hp
    go_enter Tryd.func64, Tryd.ntmps64
    go_wp2_with fail
    refine (HP.out _).mono ?_
    rintro e w1 ⟨rfl, rfl⟩
    go_wp2_with fail
    go_ret2
    exact ⟨Below.refl _ _, rfl⟩
  | some x =>
    obtain ⟨r, n⟩ := x
    rw [hp] at HP
    have hn : n ≤ 1000000 ∧ r.length ≤ 1000000 := by
      unfold parts at hp
      split at hp
      · cases hp
      · split at hp
        · cases hp
        · simp only [Option.some.injEq, Prod.mk.injEq] at hp
          rw [len] at hp
          obtain ⟨rfl, rfl⟩ := hp
          rename_i h1 h2
          rw [len] at h1 h2
          rw [List.length_take, len]
          omega
    have HRE := Lib.hid (fun W => readEntries_any ⟨r.toArray⟩ n W (by rw [size_mk]; exact hn.2) hn.1)
    have HNN := Lib.hid hn.1
    unfold partsV at HP
    dsimp only at HP
    cases hr : rds n 0 [] r with
    | none =>
      have HE : Hid (opn s.data.toList = none) := Lib.hid (by unfold opn; rw [hp]; simp only; rw [hr])
      rw [HE.out]
      have HRE2 : Hid (∀ W, Calls Tryd.prog 87 #[.string ⟨r.toArray⟩, .int .u64 (n : Int)] W (EsRead none W)) := Lib.hid (fun W => by have := HRE.out W; rw [show rds n 0 [] (⟨r.toArray⟩ : ByteArray).data.toList = none from hr] at this; exact this)
      clear hp hn hr HRE
      generalize (⟨r.toArray⟩ : ByteArray) = RB at *
      go_enter Tryd.func64, Tryd.ntmps64
      go_wp2_with fail
      refine (HP.out _).mono ?_
      rintro e w1 ⟨rfl, rfl⟩
      go_wp2_with fail
      refine (HRE2.out _).mono ?_
      rintro e w2 ⟨hb2, he⟩
      dsimp only at he
      subst he
      go_wp2_with fail
      go_ret2
      exact ⟨hb2, rfl⟩
    | some l =>
      have HRE2 : Hid (∀ W, Calls Tryd.prog 87 #[.string ⟨r.toArray⟩, .int .u64 (n : Int)] W (EsRead (some l) W)) := Lib.hid (fun W => by have := HRE.out W; rw [show rds n 0 [] (⟨r.toArray⟩ : ByteArray).data.toList = some l from hr] at this; exact this)
      have hll := rds_length _ _ _ _ _ hr
      have HO : Hid (opn s.data.toList = if bld l = s.data.toList then some l else none) := Lib.hid (by unfold opn; rw [hp]; simp only; rw [hr])
      have HLL := Lib.hid hll
      clear hp hn hr HRE hll
      generalize (⟨r.toArray⟩ : ByteArray) = RB at *
      by_cases hb : bld l = s.data.toList
      · rw [HO.out, if_pos hb]
        have HBB : Hid ((⟨(bld l).toArray⟩ : ByteArray) = s) := Lib.hid (by rw [hb])
        clear hb HO
        go_enter Tryd.func64, Tryd.ntmps64
        go_wp2_with fail
        refine (HP.out _).mono ?_
        rintro e w1 ⟨rfl, rfl⟩
        go_wp2_with fail
        refine (HRE2.out _).mono ?_
        rintro e w2 ⟨hb2, v, rs, rfl, hown, hrs⟩
        obtain ⟨a, c, rfl⟩ := hown.shape
        have hlen : rs.length = n := by rw [← HLL.out, ← hrs, List.length_map]
        have HBU := Lib.hid (build_any a rs.length c rs w2 _ hown rfl (by rw [hlen]; exact HNN.out))
        rw [hrs, HBB.out] at HBU
        have HB2 := Lib.hid hb2; have HOWN := Lib.hid hown; have HRS := Lib.hid hrs
        clear hb2 hown hrs hlen
        generalize rs.length = rl at *
        go_wp2_with fail
        refine HBU.out.mono ?_
        rintro e w3 ⟨rfl, hb3⟩
        have HB3 := Lib.hid hb3; clear hb3
        go_wp2_with fail
        go_ret2
        have hs3 := HB3.out.size
        have hs2 := HB2.out.size
        exact ⟨(HB2.out.trans (HB3.out.mono hs2)).alloc (by omega) _, _, _, rs, rfl, ⟨heap_alloc_new _ _, (HOWN.out.below HB3.out).below ((Below.refl _ _).alloc (Nat.le_refl _) _)⟩, HRS.out, by omega⟩
      · rw [HO.out, if_neg hb]
        have hne : ((⟨(bld l).toArray⟩ : ByteArray).toList == s.toList) = false := by
          rw [ByteArray.toList_eq, ByteArray.toList_eq]
          exact beq_eq_false_iff_ne.2 hb
        clear hb HO
        go_enter Tryd.func64, Tryd.ntmps64
        go_wp2_with fail
        refine (HP.out _).mono ?_
        rintro e w1 ⟨rfl, rfl⟩
        go_wp2_with fail
        refine (HRE2.out _).mono ?_
        rintro e w2 ⟨hb2, v, rs, rfl, hown, hrs⟩
        obtain ⟨a, c, rfl⟩ := hown.shape
        have hlen : rs.length = n := by rw [← HLL.out, ← hrs, List.length_map]
        have HBU := Lib.hid (build_any a rs.length c rs w2 _ hown rfl (by rw [hlen]; exact HNN.out))
        rw [hrs] at HBU
        generalize (⟨(bld l).toArray⟩ : ByteArray) = X at *
        have HB2 := Lib.hid hb2
        clear hb2 hown hrs hlen
        generalize rs.length = rl at *
        go_wp2_with fail
        refine HBU.out.mono ?_
        rintro e w3 ⟨rfl, hb3⟩
        have HB3 := Lib.hid hb3; clear hb3
        go_wp2_with fail
        go_ret2
        exact ⟨HB2.out.trans (HB3.out.mono HB2.out.size), rfl⟩

theorem len_nil (w : World) : Calls Tryd.prog 67 #[.pointer none] w fun e w' => e = .returned (.int .i64 0) ∧ w = w' := by
  go_enter Tryd.func67, Tryd.ntmps67
  go_wp2_with fail
  go_ret
  exact ⟨rfl, rfl⟩
theorem len_any {w : World} {base p : Nat} {v : Value} {rs : List Row} (h : Blk w base p v rs) : Calls Tryd.prog 67 #[.pointer (some ⟨p, 0, none⟩)] w fun e w' => e = .returned (.int .i64 (rs.length : Int)) ∧ w = w' := by
  obtain ⟨a, c, rfl⟩ := h.own.shape
  have c0 := h.c0
  clear h
  generalize rs.length = n at *
  go_enter Tryd.func67, Tryd.ntmps67
  go_wp2_with fail
  go_ret
  exact ⟨rfl, rfl⟩
/-- What At answers. -/
def atV (l : List En) (i : Int) : Value := if i < 0 then .tuple #[.string ⟨#[]⟩, .string ⟨#[]⟩, .bool false] else match l[i.toNat]? with
  | none => .tuple #[.string ⟨#[]⟩, .string ⟨#[]⟩, .bool false]
  | some e => .tuple #[.string e.key, .string e.val, .bool true]
theorem at_low (p : Option Addr) (i : Int) (w : World) (hi : i < 0) : Calls Tryd.prog 61 #[.pointer p, .int .i64 i] w (Gives (.tuple #[.string ⟨#[]⟩, .string ⟨#[]⟩, .bool false]) w) := by
  go_enter Tryd.func61, Tryd.ntmps61
  go_wp2_with fail
  go_ret3
  exact ⟨rfl, Below.refl _ _⟩
theorem at_nil (i : Int) (w : World) (hi : 0 ≤ i) : Calls Tryd.prog 61 #[.pointer none, .int .i64 i] w (Gives (.tuple #[.string ⟨#[]⟩, .string ⟨#[]⟩, .bool false]) w) := by
  have h0 : ¬ i < 0 := by omega
  go_enter Tryd.func61, Tryd.ntmps61
  go_wp2_with fail
  refine (len_nil _).mono ?_
  rintro e w1 ⟨rfl, rfl⟩
  go_wp2_with fail
  go_ret3
  exact ⟨rfl, Below.refl _ _⟩
theorem at_high {w : World} {base p : Nat} {v : Value} {rs : List Row} (h : Blk w base p v rs) (i : Int) (hi : (rs.length : Int) ≤ i) : Calls Tryd.prog 61 #[.pointer (some ⟨p, 0, none⟩), .int .i64 i] w (Gives (.tuple #[.string ⟨#[]⟩, .string ⟨#[]⟩, .bool false]) w) := by
  have h0 : ¬ i < 0 := by omega
  have HL := Lib.hid (len_any h)
  clear h
  generalize rs.length = n at *
  go_enter Tryd.func61, Tryd.ntmps61
  go_wp2_with fail
  refine HL.out.mono ?_
  rintro e w1 ⟨rfl, rfl⟩
  go_wp2_with fail
  go_ret3
  exact ⟨rfl, Below.refl _ _⟩
end Go.Proofs.YtphoihkbdogkhaaDoor.Bn.Bo

/- The walks of block's At, Seek. -/
namespace Go.Proofs.YtphoihkbdogkhaaDoor.Bn.Bo
set_option maxRecDepth 100000
open Go Go.RowKit
set_option linter.unusedVariables false

/-- The box of an entry that is told, and its key. -/
abbrev TS (w : World) (a : Option Addr) (n c : Nat) (key val : ByteArray) (w' : World) : Prop :=
  w'.cell? ⟨w.heap.size, 0, none⟩ = some (.slice a n c) ∧ w'.cell? ⟨w.heap.size, 1, none⟩ = some (.string val) ∧ (convert 34 9 (.slice a n c)).run Tryd.prog w' = .ok (.string key) w' ∧ (Boxed w (.slice a n c) (.string val) w' ∧ SeesB w' (.slice a n c) key.data.toList)
theorem TS.of {w w' : World} {a : Option Addr} {n c : Nat} {key val : ByteArray} (h : Boxed w (.slice a n c) (.string val) w') (hs : SeesB w' (.slice a n c) key.data.toList) : TS w a n c key val w' := by
  obtain ⟨c0, c1, -, -⟩ := h.cells
  exact ⟨c0, c1, hs.convert, h, hs⟩
theorem TS.b {w w' : World} {a : Option Addr} {n c : Nat} {key val : ByteArray} (h : TS w a n c key val w') : Boxed w (.slice a n c) (.string val) w' ∧ SeesB w' (.slice a n c) key.data.toList := h.2.2.2
theorem TS.call {w w' w2 : World} {a : Option Addr} {n c : Nat} {key val : ByteArray} (h : TS w a n c key val w') (hb : Below w'.heap.size w' w2) : TS w a n c key val w2 := TS.of (h.b.1.call hb) (h.b.2.below hb)

set_option maxHeartbeats 1000000 in
theorem at_in {w : World} {base p : Nat} {v : Value} {rs : List Row} (h : Blk w base p v rs) (k : Nat) (x : Row) (hx : rs[k]? = some x) (hv : x.2.val.size ≤ 1000000000) :
    Calls Tryd.prog 61 #[.pointer (some ⟨p, 0, none⟩), .int .i64 (k : Int)] w (Gives (.tuple #[.string x.2.key, .string x.2.val, .bool true]) w) := by
  obtain ⟨a, c, rfl⟩ := h.own.shape
  have c0 := h.c0
  have HL := Lib.hid (len_any h)
  obtain ⟨g, rfl, hgl, k0, k1⟩ := h.own.at hx
  have hsee := h.own.sees _ (List.mem_of_getElem? hx)
  obtain ⟨ka, kc, e, -⟩ := id hsee
  have hk := (List.getElem?_eq_some_iff.1 hx).1
  have hki : (k : Int) < rs.length := by omega
  have hk0 : ¬ (k : Int) < 0 := by omega
  have hk1 : (0 : Int) ≤ k := by omega
  rw [e] at k0
  rw [e] at hsee
  have HC := Lib.hid (fun W => clone_any x.2.val W (by omega))
  have HSEE := Lib.hid hsee
  obtain ⟨kv, ⟨key, val⟩⟩ := x
  dsimp only at *
  generalize key.data.toList.length = kl at *
  have hT : TS w ka kl kc key val (w.alloc (.cells #[.slice ka kl kc, .string val] 139)) := TS.of (Boxed.new w _ _) (HSEE.out.below ((Below.refl _ _).alloc (Nat.le_refl _) _))
  have hT2 : TS w ka kl kc key val (w.alloc (.cells #[.slice ka kl kc, .string val] 139)).drew := TS.of ⟨hT.b.1.h, hT.b.1.hb.drew⟩ (hT.b.2.frame (fun _ _ _ _ => rfl))
  have hT1 := Lib.hid hT; clear hT
  have HT2 := Lib.hid hT2; clear hT2
  clear h hsee hx hk e
  generalize rs.length = n at *
  go_enter Tryd.func61, Tryd.ntmps61
  go_wp2_with fail
  refine HL.out.mono ?_
  rintro e w1 ⟨rfl, rfl⟩
  go_wp2_with fail
  go_region_held3 (fun w' => w'.cell? ⟨w.heap.size, 0, none⟩ = some (.slice ka kl kc) ∧ w'.cell? ⟨w.heap.size, 1, none⟩ = some (.string val) ∧ (convert 34 9 (.slice ka kl kc)).run Tryd.prog w' = .ok (.string key) w' ∧ (Boxed w (.slice ka kl kc) (.string val) w' ∧ SeesB w' (.slice ka kl kc) key.data.toList))
    (first | exact HT2.out | exact TS.call (by assumption) hb4)
    (first | (go_at_call 26; refine (HC.out _).mono ?_; rintro x w4 ⟨rfl, hb4⟩))
  have hF : TS w ka kl kc key val w4 := by assumption
  have HB := Lib.hid hF.b.1.hb
  clear hF
  go_wp2_with fail
  go_ret3
  exact ⟨rfl, HB.out⟩

/-- At, of a block that lies there. -/
theorem at_any {w : World} {base p : Nat} {v : Value} {rs : List Row} (h : Blk w base p v rs) (i : Int) (hv : ∀ x ∈ rs, x.2.val.size ≤ 1000000000) :
    Calls Tryd.prog 61 #[.pointer (some ⟨p, 0, none⟩), .int .i64 i] w (Gives (atV (rs.map Prod.snd) i) w) := by
  by_cases h0 : i < 0
  · unfold atV
    rw [if_pos h0]
    exact at_low _ i w h0
  · obtain ⟨k, rfl⟩ := Int.eq_ofNat_of_zero_le (show 0 ≤ i by omega)
    unfold atV
    rw [if_neg h0, Int.toNat_natCast, List.getElem?_map]
    cases hx : rs[k]? with
    | none =>
      have := List.getElem?_eq_none_iff.1 hx
      exact at_high h _ (by omega)
    | some x => exact at_in h k x hx (hv x (List.mem_of_getElem? hx))
end Go.Proofs.YtphoihkbdogkhaaDoor.Bn.Bo

/- The walks of sort.Search and of block's Seek. -/
namespace Go.Proofs.YtphoihkbdogkhaaDoor.Bn.Bo
set_option maxRecDepth 100000
open Go Go.RowKit
set_option linter.unusedVariables false

/-- The keys rise. -/
def Asc (l : List En) : Prop := l.Pairwise fun a b => Op.bytesLess a.key.data.toList b.key.data.toList = true
theorem good_asc : ∀ (l : List En) (s : St), goodb s l = true → (∀ e ∈ l, s.n = 0 ∨ Op.bytesLess s.last.data.toList e.key.data.toList = true) ∧ Asc l
  | [], s, _ => ⟨fun e he => (by cases he), List.Pairwise.nil⟩
  | e :: l, s, h => by
    rw [goodb, Bool.and_eq_true, decide_eq_true_eq] at h
    obtain ⟨h1, h2⟩ := good_asc l _ h.2
    have h3 : ∀ e' ∈ l, Op.bytesLess e.key.data.toList e'.key.data.toList = true := fun e' he' => (h1 e' he').resolve_left (by show s.n + 1 ≠ 0; omega)
    refine ⟨fun e' he' => ?_, List.Pairwise.cons h3 h2⟩
    rcases List.mem_cons.1 he' with rfl | hm
    · exact err_less h.1
    · rcases err_less h.1 with h0 | h0
      · exact Or.inl h0
      · exact Or.inr (bl_trans _ _ _ h0 (h3 e' hm))
/-- Where a key stands, or would stand. -/
def seekN : List En → ByteArray → Nat
  | [], _ => 0
  | e :: l, k => if Op.bytesLess e.key.data.toList k.data.toList = true then seekN l k + 1 else 0
theorem seekN_le : ∀ (l : List En) (k : ByteArray), seekN l k ≤ l.length
  | [], _ => Nat.le_refl _
  | e :: l, k => by
    have := seekN_le l k
    unfold seekN
    split
    · rw [List.length_cons]; omega
    · omega
theorem seekN_below : ∀ (l : List En) (k : ByteArray) (i : Nat) (e : En), l[i]? = some e → i < seekN l k → Op.bytesLess e.key.data.toList k.data.toList = true
  | [], _, _, _, h, _ => by simp at h
  | a :: l, k, i, e, h, hi => by
    unfold seekN at hi
    split at hi
    · rename_i ha
      cases i with
      | zero =>
        simp only [List.getElem?_cons_zero, Option.some.injEq] at h
        rw [← h]; exact ha
      | succ i =>
        simp only [List.getElem?_cons_succ] at h
        exact seekN_below l k i e h (by omega)
    · omega
theorem seekN_above : ∀ (l : List En) (k : ByteArray) (i : Nat) (e : En), Asc l → l[i]? = some e → seekN l k ≤ i → Op.bytesLess e.key.data.toList k.data.toList = false
  | [], _, _, _, _, h, _ => by simp at h
  | a :: l, k, i, e, ha, h, hi => by
    unfold seekN at hi
    have hp := List.pairwise_cons.1 ha
    split at hi
    · cases i with
      | zero => omega
      | succ i =>
        simp only [List.getElem?_cons_succ] at h
        exact seekN_above l k i e hp.2 h (by omega)
    · rename_i hn
      have hn' : Op.bytesLess a.key.data.toList k.data.toList = false := by simpa using hn
      cases i with
      | zero =>
        simp only [List.getElem?_cons_zero, Option.some.injEq] at h
        rw [← h]; exact hn'
      | succ i =>
        simp only [List.getElem?_cons_succ] at h
        have h1 := hp.1 e (List.mem_of_getElem? h)
        cases hc : Op.bytesLess e.key.data.toList k.data.toList with
        | false => rfl
        | true =>
          rw [bl_trans _ _ _ h1 hc] at hn'
          cases hn'
/-- The only place like that. -/
theorem seekN_eq {l : List En} {k : ByteArray} {n : Nat} (hn : n ≤ l.length) (h1 : ∀ i e, l[i]? = some e → i < n → Op.bytesLess e.key.data.toList k.data.toList = true) (h2 : ∀ e, l[n]? = some e → Op.bytesLess e.key.data.toList k.data.toList = false) : seekN l k = n := by
  induction l generalizing n with
  | nil => simp at hn; simp [seekN, hn]
  | cons a l ih =>
    unfold seekN
    cases n with
    | zero => rw [if_neg]; rw [h2 a rfl]; decide
    | succ n =>
      rw [if_pos (h1 0 a rfl (by omega)), ih (by simpa using hn) (fun i e h hi => h1 (i + 1) e (by simpa using h) (by omega)) (fun e h => h2 e (by simpa using h))]

set_option maxHeartbeats 2000000 in
theorem search_any (n r : Nat) (pa pb : Value) (pr : Nat → Bool) (w : World) (hn : n ≤ 1000000) (hr : r ≤ n)
    (hf : ∀ k, k < n → ∀ W, Below w.heap.size w W → Calls Tryd.prog 84 #[.int .i64 (k : Int), pa, pb] W (Gives (.bool (pr k)) W))
    (h1 : ∀ k, k < r → pr k = false) (h2 : ∀ k, r ≤ k → k < n → pr k = true) :
    Calls Tryd.prog 83 #[.int .i64 (n : Int), .func (.func 84) #[] #[pa, pb]] w (Gives (.int .i64 (r : Int)) w) := by
  have HF := Lib.hid hf
  have H1 := Lib.hid h1
  have H2 := Lib.hid h2
  clear hf h1 h2
  go_enter Tryd.func83, Tryd.ntmps83
  go_wp2_with fail
  go_loopw [5, 6] (fun i j wr => ∃ (a b : Nat), i = .int .i64 a ∧ j = .int .i64 b ∧ a ≤ r ∧ r ≤ b ∧ b ≤ n ∧ Hid (Below w.heap.size w wr)) (fun i j _ => (intOf j).toNat - (intOf i).toNat)
  case atStart => exact ⟨0, n, rfl, rfl, Nat.zero_le _, hr, Nat.le_refl _, Lib.hid (Below.refl _ _)⟩
  case round =>
    obtain ⟨a, b, rfl, rfl, ha, hb, hbn, HB⟩ := hrel
    by_cases hlt : a < b
    · obtain ⟨h, hh⟩ : ∃ h, h = (a + b) / 2 := ⟨_, rfl⟩
      have hm : IntKind.u64.wrap ((a : Int) + b) = (a : Int) + b := by rw [IntKind.wrap_u64]; omega
      have hdiv : ((a : Int) + b) / 2 = h := by omega
      have hw5 : IntKind.i64.wrap (h : Int) = h := by rw [IntKind.wrap_i64]; omega
      have hbnds : a ≤ h ∧ h < b := by omega
      have HHB := Lib.hid hbnds
      clear hh hbnds
      go_wp2_with fail
      refine (HF.out h (by have := HHB.out; omega) wr HB.out).mono ?_
      rintro e w2 ⟨rfl, hb2⟩
      have HB2 : Hid (Below w.heap.size w w2) := Lib.hid (HB.out.trans (hb2.mono HB.out.size))
      clear hb2
      cases hp : pr h with
      | true =>
        have hrh : r ≤ h := by
          rcases Nat.lt_or_ge h r with hx | hx
          · rw [H1.out h hx] at hp; cases hp
          · exact hx
        have HRH := Lib.hid hrh
        clear hp hrh
        go_wp2_with fail
        go_roundw
        case rel => exact ⟨a, h, rfl, rfl, ha, HRH.out, by have := HHB.out; omega, HB2⟩
        case measure => have := HHB.out; simp [intOf]; omega
      | false =>
        have hrh : h < r := by
          rcases Nat.lt_or_ge h r with hx | hx
          · exact hx
          · rw [H2.out h hx (by have := HHB.out; omega)] at hp; cases hp
        have HRH := Lib.hid hrh
        clear hp hrh
        go_wp2_with fail
        go_roundw
        case rel => exact ⟨h + 1, b, by go_num, rfl, by have := HRH.out; omega, hb, hbn, HB2⟩
        case measure => have := HHB.out; simp [intOf]; omega
    · obtain rfl : a = b := by omega
      obtain rfl : r = a := by omega
      go_wp2_with fail
      go_ret
      exact ⟨rfl, HB.out⟩

theorem seek1_any {w : World} {base p q : Nat} {v : Value} {rs : List Row} (h : Blk w base p v rs) (key : ByteArray) (hp : w.cell? ⟨q, 0, none⟩ = some (.pointer (some ⟨p, 0, none⟩))) (hk : w.cell? ⟨q + 1, 0, none⟩ = some (.string key)) (k : Nat) (x : Row) (hx : rs[k]? = some x) :
    Calls Tryd.prog 84 #[.int .i64 (k : Int), .pointer (some ⟨q, 0, none⟩), .pointer (some ⟨q + 1, 0, none⟩)] w (Gives (.bool (!Op.bytesLess x.2.key.data.toList key.data.toList)) w) := by
  obtain ⟨a, c, rfl⟩ := h.own.shape
  have c0 := h.c0
  obtain ⟨g, rfl, hgl, k0, k1⟩ := h.own.at hx
  have hsee := h.own.sees _ (List.mem_of_getElem? hx)
  obtain ⟨ka, kc, e, -⟩ := id hsee
  have hkl := (List.getElem?_eq_some_iff.1 hx).1
  have hki : (k : Int) < rs.length := by omega
  have hk1 : (0 : Int) ≤ k := by omega
  rw [e] at k0
  have hcv := hsee.convert
  have hcd := (show SeesB w.drew x.1 x.2.key.data.toList from hsee.frame (fun _ _ _ _ => rfl)).convert
  rw [e] at hcv hcd
  obtain ⟨kv, ⟨xk, xv⟩⟩ := x
  dsimp only at *
  have hcv2 : (convert 34 9 (.slice ka xk.data.toList.length kc)).run Tryd.prog w = .ok (.string xk) w := hcv
  have hcd2 : (convert 34 9 (.slice ka xk.data.toList.length kc)).run Tryd.prog w.drew = .ok (.string xk) w.drew := hcd
  clear hcv hcd
  generalize xk.data.toList.length = kl at *
  clear h hsee hx hkl e
  generalize rs.length = n at *
  cases hlt : Op.bytesLess xk.data.toList key.data.toList with
  | true =>
    have hlt1 : Op.bytesLess xk.toList key.toList = true := by rw [ByteArray.toList_eq, ByteArray.toList_eq]; exact hlt
    clear hlt
    go_enter Tryd.func84, Tryd.ntmps84
    go_wp2_with fail
    go_region
    go_wp2_with fail
    go_ret
    exact ⟨rfl, (Below.refl _ _).drew⟩
  | false =>
    have hlt1 : Op.bytesLess xk.toList key.toList = false := by rw [ByteArray.toList_eq, ByteArray.toList_eq]; exact hlt
    clear hlt
    go_enter Tryd.func84, Tryd.ntmps84
    go_wp2_with fail
    go_region
    go_wp2_with fail
    go_ret
    exact ⟨rfl, (Below.refl _ _).drew⟩

/-- The boxes of what Seek's closure captures. -/
theorem caught (w : World) (x : Option Addr) (key : ByteArray) (w' : World) (hb : Below ((w.alloc (.cells #[.pointer x] 76)).alloc (.cells #[.string key] 9)).heap.size ((w.alloc (.cells #[.pointer x] 76)).alloc (.cells #[.string key] 9)) w') :
    w'.cell? ⟨w.heap.size, 0, none⟩ = some (.pointer x) ∧ w'.cell? ⟨w.heap.size + 1, 0, none⟩ = some (.string key) := by
  constructor
  · refine (hb.cell (p := ⟨w.heap.size, 0, none⟩) (by simp; omega)).trans ?_
    refine (((Below.refl _ _).alloc (Nat.le_refl _) _).cell (p := ⟨w.heap.size, 0, none⟩) (by simp)).trans ?_
    rw [cell_of (heap_alloc_new w _)]
    rfl
  · refine (hb.cell (p := ⟨w.heap.size + 1, 0, none⟩) (by simp)).trans ?_
    have := heap_alloc_new (w.alloc (.cells #[.pointer x] 76)) (.cells #[.string key] 9)
    rw [World.size_alloc] at this
    rw [cell_of this]
    rfl
set_option maxHeartbeats 1000000 in
theorem seek_any {w : World} {base p : Nat} {v : Value} {rs : List Row} (h : Blk w base p v rs) (key : ByteArray) (hn : rs.length ≤ 1000000) (ha : Asc (rs.map Prod.snd)) :
    Calls Tryd.prog 60 #[.pointer (some ⟨p, 0, none⟩), .string key] w (Gives (.int .i64 (seekN (rs.map Prod.snd) key : Int)) w) := by
  have hmf : ∀ (fn : Fn) (first cap : Array Value) (w : World), (Instr.makeFunc fn first cap).run Tryd.prog w = .ok (.func fn first cap) w := fun _ _ _ _ => rfl
  obtain ⟨W2, hW2⟩ : ∃ W2, W2 = (w.alloc (.cells #[.pointer (some ⟨p, 0, none⟩)] 76)).alloc (.cells #[.string key] 9) := ⟨_, rfl⟩
  have hbw : Below w.heap.size w W2 := by rw [hW2]; exact ((Below.refl _ _).alloc (Nat.le_refl _) _).alloc (by simp) _
  have hb2 := h.below hbw
  have HC : ∀ w', Below W2.heap.size W2 w' → w'.cell? ⟨w.heap.size, 0, none⟩ = some (.pointer (some ⟨p, 0, none⟩)) ∧ w'.cell? ⟨w.heap.size + 1, 0, none⟩ = some (.string key) := fun w' hb => by
    rw [hW2] at hb
    exact caught w _ key w' hb
  have HL := Lib.hid (len_any hb2)
  have HSR := Lib.hid (search_any rs.length (seekN (rs.map Prod.snd) key) (.pointer (some ⟨w.heap.size, 0, none⟩)) (.pointer (some ⟨w.heap.size + 1, 0, none⟩)) (fun k => match rs[k]? with
      | none => true
      | some x => !Op.bytesLess x.2.key.data.toList key.data.toList) W2 hn (by have := seekN_le (rs.map Prod.snd) key; rwa [List.length_map] at this)
    (fun k hk W hb => by
      obtain ⟨c0, c1⟩ := HC W hb
      have hx : rs[k]? = some rs[k] := List.getElem?_eq_getElem hk
      simp only [hx]
      exact seek1_any (hb2.below hb) key c0 c1 k _ hx)
    (fun k hk => by
      have hkl : k < rs.length := by have := seekN_le (rs.map Prod.snd) key; rw [List.length_map] at this; omega
      have hx : rs[k]? = some rs[k] := List.getElem?_eq_getElem hkl
      simp only [hx]
      rw [seekN_below (rs.map Prod.snd) key k rs[k].2 (by rw [List.getElem?_map, hx]; rfl) hk]
      rfl)
    (fun k hk hkl => by
      have hx : rs[k]? = some rs[k] := List.getElem?_eq_getElem hkl
      simp only [hx]
      rw [seekN_above (rs.map Prod.snd) key k rs[k].2 ha (by rw [List.getElem?_map, hx]; rfl) hk]
      rfl))
  have HBW := Lib.hid hbw
  clear h hb2 HC hbw
  generalize seekN (rs.map Prod.snd) key = r at *
  generalize rs.length = n at *
  go_enter Tryd.func60, Tryd.ntmps60
  go_wp2_with fail
  rw [← hW2]
  refine HL.out.mono ?_
  rintro e w1 ⟨rfl, rfl⟩
  clear hW2
  go_wp2_with fail
  refine HSR.out.mono ?_
  rintro e w3 ⟨rfl, hb3⟩
  go_wp2_with fail
  go_ret
  exact ⟨rfl, HBW.out.trans (hb3.mono HBW.out.size)⟩
theorem seek_nil (key : ByteArray) (w : World) :
    Calls Tryd.prog 60 #[.pointer none, .string key] w (Gives (.int .i64 0) w) := by
  have hmf : ∀ (fn : Fn) (first cap : Array Value) (w : World), (Instr.makeFunc fn first cap).run Tryd.prog w = .ok (.func fn first cap) w := fun _ _ _ _ => rfl
  obtain ⟨W2, hW2⟩ : ∃ W2, W2 = (w.alloc (.cells #[.pointer none] 76)).alloc (.cells #[.string key] 9) := ⟨_, rfl⟩
  have hbw : Below w.heap.size w W2 := by rw [hW2]; exact ((Below.refl _ _).alloc (Nat.le_refl _) _).alloc (by simp) _
  have HL := Lib.hid (len_nil W2)
  have HSR := Lib.hid (search_any 0 0 (.pointer (some ⟨w.heap.size, 0, none⟩)) (.pointer (some ⟨w.heap.size + 1, 0, none⟩)) (fun _ => true) W2 (by omega) (Nat.le_refl _) (fun k hk => by omega) (fun k hk => by omega) (fun k _ hk => by omega))
  have HBW := Lib.hid hbw
  clear hbw
  go_enter Tryd.func60, Tryd.ntmps60
  go_wp2_with fail
  rw [← hW2]
  refine HL.out.mono ?_
  rintro e w1 ⟨rfl, rfl⟩
  clear hW2
  go_wp2_with fail
  refine HSR.out.mono ?_
  rintro e w3 ⟨rfl, hb3⟩
  go_wp2_with fail
  go_ret
  exact ⟨rfl, HBW.out.trans (hb3.mono HBW.out.size)⟩
end Go.Proofs.YtphoihkbdogkhaaDoor.Bn.Bo

/- Tables as plain data: entries, data blocks, what a builder holds. No function is named here. -/
namespace Go.Proofs.YtphoihkbdogkhaaDoor.Tb
open Go Go.RowKit Go.Proofs.YtphoihkbdogkhaaDoor.Bn
set_option linter.unusedVariables false
set_option maxRecDepth 100000

/-- An entry. -/
structure Ent where
  key : ByteArray
  val : ByteArray
  seq : Nat
  gone : Bool
def zeroE : Ent := ⟨⟨#[]⟩, ⟨#[]⟩, 0, false⟩
def bmk (l : List UInt8) : ByteArray := ⟨l.toArray⟩
theorem bmk_list (l : List UInt8) : (bmk l).data.toList = l := rfl
theorem bmk_size (l : List UInt8) : (bmk l).size = l.length := by show l.toArray.size = _; rw [List.size_toArray]
theorem bmk_self (a : ByteArray) : bmk a.data.toList = a := rfl
abbrev kl (e : Ent) : List UInt8 := e.key.data.toList
/-- Its internal key, what stands beside it, both. -/
def pl (e : Ent) : ByteArray := bmk (Mm.place (kl e) e.seq)
def vr (e : Ent) : ByteArray := bmk (if e.gone = true then [1] else 0 :: e.val.data.toList)
def enOf (e : Ent) : En := ⟨pl e, vr e⟩
def less (a b : ByteArray) : Bool := Op.bytesLess a.data.toList b.data.toList
structure OkE (e : Ent) : Prop where
  k1 : 1 ≤ e.key.size
  k2 : e.key.size ≤ 64
  v : e.val.size ≤ 512
  q1 : 1 ≤ e.seq
  q2 : e.seq ≤ 9223372036854775808
  g : e.gone = true → e.val.size = 0
def may (e : Ent) : Bool := decide (e.key.size ≠ 0 ∧ 1 ≤ e.seq ∧ e.seq ≤ 9223372036854775808 ∧ ¬ (e.gone = true ∧ e.val.size ≠ 0))
structure Good (l : List Ent) : Prop where
  ok : ∀ e ∈ l, OkE e
  asc : l.Pairwise fun a b => less (pl a) (pl b) = true
theorem good_nil : Good [] := ⟨fun e he => (by cases he), List.Pairwise.nil⟩
theorem pl_size (e : Ent) (h : OkE e) : (pl e).size ≤ 139 := by
  have h1 := Mm.place_length (kl e) e.seq
  have h2 : (kl e).length = e.key.size := Bo.len e.key
  have := h.k2
  unfold pl
  rw [bmk_size]
  omega
theorem pl_size' (e : Ent) : (pl e).size ≤ 2 * e.key.size + 11 := by
  have h1 := Mm.place_length (kl e) e.seq
  have h2 : (kl e).length = e.key.size := Bo.len e.key
  unfold pl
  rw [bmk_size]
  omega
theorem vr_size (e : Ent) : (vr e).size ≤ 1 + e.val.size ∧ 1 ≤ (vr e).size := by
  have := Bo.len e.val
  unfold vr
  rw [bmk_size]
  split
  · simp
  · simp; omega
theorem snoc_ind {α : Type} {P : List α → Prop} (h0 : P []) (h1 : ∀ l e, P l → P (l ++ [e])) (l : List α) : P l := by
  have : ∀ r : List α, P r.reverse := by
    intro r
    induction r with
    | nil => exact h0
    | cons a r ih => rw [List.reverse_cons]; exact h1 _ _ ih
  have h := this l.reverse
  rwa [List.reverse_reverse] at h

/-! ### Data blocks -/

/-- A data block's bytes. -/
def cb (c : List Ent) : List UInt8 := Bo.bytes (c.map enOf)
def cstep (p : List (List Ent) × List Ent) (e : Ent) : List (List Ent) × List Ent :=
  if 256 ≤ (cb (p.2 ++ [e])).length then (p.1 ++ [p.2 ++ [e]], []) else (p.1, p.2 ++ [e])
/-- The data blocks that entries end, and what is left. -/
def cut (l : List Ent) : List (List Ent) × List Ent := l.foldl cstep ([], [])
theorem cut_nil : cut [] = ([], []) := rfl
theorem cut_snoc (l : List Ent) (e : Ent) : cut (l ++ [e]) = cstep (cut l) e := by unfold cut; rw [List.foldl_append]; rfl
def tail (c : List Ent) : List (List Ent) := if c.isEmpty then [] else [c]
/-- All data blocks. -/
def chunks (l : List Ent) : List (List Ent) := (cut l).1 ++ tail (cut l).2
theorem cut_flat (l : List Ent) : (cut l).1.flatten ++ (cut l).2 = l := by
  refine snoc_ind (P := fun l => (cut l).1.flatten ++ (cut l).2 = l) rfl (fun l e ih => ?_) l
  rw [cut_snoc]
  unfold cstep
  split
  · rw [List.flatten_append, List.flatten_singleton, List.append_nil, ← List.append_assoc, ih]
  · show (cut l).1.flatten ++ ((cut l).2 ++ [e]) = _
    rw [← List.append_assoc, ih]
theorem cut_ne (l : List Ent) : ∀ c ∈ (cut l).1, c ≠ [] := by
  refine snoc_ind (P := fun l => ∀ c ∈ (cut l).1, c ≠ []) (fun c hc => by cases hc) (fun l e ih => ?_) l
  rw [cut_snoc]
  unfold cstep
  split
  · intro c hc
    rcases List.mem_append.1 hc with hc | hc
    · exact ih c hc
    · rw [List.mem_singleton.1 hc]; simp
  · exact ih
theorem tail_flat (c : List Ent) : (tail c).flatten = c := by
  unfold tail
  cases c <;> simp
theorem chunks_flat (l : List Ent) : (chunks l).flatten = l := by
  unfold chunks
  rw [List.flatten_append, tail_flat, cut_flat]
theorem chunks_ne (l : List Ent) : ∀ c ∈ chunks l, c ≠ [] := by
  intro c hc
  rcases List.mem_append.1 hc with hc | hc
  · exact cut_ne l c hc
  · unfold tail at hc
    split at hc
    · cases hc
    · rename_i h
      rw [List.mem_singleton.1 hc]
      intro e
      rw [e] at h
      exact h rfl
/-- The internal key of the last one. -/
def lastP (c : List Ent) : ByteArray := match c.getLast? with
  | none => ⟨#[]⟩
  | some e => pl e
theorem lastP_snoc (c : List Ent) (e : Ent) : lastP (c ++ [e]) = pl e := by unfold lastP; rw [List.getLast?_concat]
theorem lastP_mem {c : List Ent} (h : c ≠ []) : ∃ e ∈ c, lastP c = pl e := by
  refine ⟨c.getLast h, List.getLast_mem h, ?_⟩
  unfold lastP
  rw [List.getLast?_eq_some_getLast h]
def idxE (a : Nat) (c : List Ent) : En := ⟨lastP c, bmk (Nm.row a ++ Nm.row (cb c).length)⟩
/-- The index, of data blocks from a place on. -/
def idxF : Nat → List (List Ent) → List En
  | _, [] => []
  | a, c :: d => idxE a c :: idxF (a + (cb c).length) d
def datas (d : List (List Ent)) : List UInt8 := (d.map cb).flatten
theorem datas_cons (c : List Ent) (d : List (List Ent)) : datas (c :: d) = cb c ++ datas d := rfl
theorem datas_append (d d' : List (List Ent)) : datas (d ++ d') = datas d ++ datas d' := by unfold datas; rw [List.map_append, List.flatten_append]
theorem datas_one (c : List Ent) : datas [c] = cb c := by simp [datas]
theorem idxF_snoc : ∀ (d : List (List Ent)) (a : Nat) (c : List Ent), idxF a (d ++ [c]) = idxF a d ++ [idxE (a + (datas d).length) c]
  | [], a, c => by simp [idxF, datas]
  | b :: d, a, c => by
    rw [List.cons_append, idxF, idxF_snoc d, idxF, datas_cons, List.length_append, ← Nat.add_assoc]
    rfl
theorem idxF_length : ∀ (d : List (List Ent)) (a : Nat), (idxF a d).length = d.length
  | [], _ => rfl
  | c :: d, a => by rw [idxF, List.length_cons, idxF_length d, List.length_cons]
theorem idxF_key : ∀ (d : List (List Ent)) (a i : Nat), (idxF a d)[i]?.map En.key = d[i]?.map lastP
  | [], _, _ => by simp [idxF]
  | c :: d, a, 0 => rfl
  | c :: d, a, i + 1 => by
    rw [idxF, List.getElem?_cons_succ, List.getElem?_cons_succ]
    exact idxF_key d _ i
theorem idxF_mem {d : List (List Ent)} {a : Nat} {x : En} (h : x ∈ idxF a d) : ∃ c ∈ d, x.key = lastP c := by
  obtain ⟨i, hi⟩ := List.mem_iff_getElem?.1 h
  have := idxF_key d a i
  rw [hi] at this
  cases hc : d[i]? with
  | none => rw [hc] at this; cases this
  | some c =>
    rw [hc] at this
    exact ⟨c, List.mem_of_getElem? hc, by simpa using this⟩

/-! ### What may be added to a block -/

theorem goodb_of : ∀ (l : List En) (s : Bo.St), (∀ e ∈ l, e.key.size ≤ 1024 ∧ e.val.size ≤ 1024) → (∀ e ∈ l, s.n = 0 ∨ less s.last e.key = true) → Bo.Asc l → Bo.goodb s l = true
  | [], _, _, _, _ => rfl
  | e :: l, s, h1, h2, h3 => by
    have hp := List.pairwise_cons.1 h3
    obtain ⟨z1, z2⟩ := h1 e (by simp)
    have he : Bo.err s e = 0 := by
      unfold Bo.err
      rw [if_neg (by omega), if_neg]
      rintro ⟨n1, n2⟩
      rcases h2 e (by simp) with h | h
      · exact n1 h
      · unfold less at h; rw [h] at n2; cases n2
    rw [Bo.goodb, decide_eq_true he, Bool.true_and]
    exact goodb_of l _ (fun x hx => h1 x (by simp [hx])) (fun x hx => Or.inr (hp.1 x hx)) hp.2
theorem good_sizes {l : List Ent} (h : ∀ e ∈ l, OkE e) : ∀ x ∈ l.map enOf, x.key.size ≤ 1024 ∧ x.val.size ≤ 1024 := by
  intro x hx
  obtain ⟨e, he, rfl⟩ := List.mem_map.1 hx
  have h1 := pl_size e (h e he)
  have h2 := (vr_size e).1
  have h3 := (h e he).v
  exact ⟨by show (pl e).size ≤ _; omega, by show (vr e).size ≤ _; omega⟩
theorem asc_map {l : List Ent} (h : l.Pairwise fun a b => less (pl a) (pl b) = true) : Bo.Asc (l.map enOf) := List.pairwise_map.2 h
theorem goodb_ents {l : List Ent} (h : Good l) : Bo.goodb Bo.st0 (l.map enOf) = true :=
  goodb_of _ _ (good_sizes h.ok) (fun _ _ => Or.inl rfl) (asc_map h.asc)
theorem Good.sub {l m : List Ent} (h : Good l) (hs : m.Sublist l) : Good m := ⟨fun e he => h.ok e (hs.subset he), List.Pairwise.sublist hs h.asc⟩
theorem asc_idx : ∀ (d : List (List Ent)) (a : Nat), (∀ c ∈ d, c ≠ []) → (d.flatten.Pairwise fun a b => less (pl a) (pl b) = true) → Bo.Asc (idxF a d)
  | [], _, _, _ => List.Pairwise.nil
  | c :: d, a, hn, hp => by
    rw [List.flatten_cons] at hp
    obtain ⟨p1, p2, p3⟩ := List.pairwise_append.1 hp
    refine List.Pairwise.cons (fun x hx => ?_) (asc_idx d _ (fun x hx => hn x (by simp [hx])) p2)
    obtain ⟨c', hc', e⟩ := idxF_mem hx
    obtain ⟨u, hu, e1⟩ := lastP_mem (hn c (by simp))
    obtain ⟨v, hv, e2⟩ := lastP_mem (hn c' (by simp [hc']))
    show Op.bytesLess (lastP c).data.toList x.key.data.toList = true
    rw [e, e1, e2]
    exact p3 u hu v (List.mem_flatten.2 ⟨c', hc', hv⟩)
theorem idx_sizes {d : List (List Ent)} {a : Nat} (hn : ∀ c ∈ d, c ≠ []) (h : ∀ e ∈ d.flatten, OkE e) : ∀ x ∈ idxF a d, x.key.size ≤ 139 ∧ x.val.size ≤ 18 := by
  induction d generalizing a with
  | nil => intro x hx; cases hx
  | cons c d ih =>
    intro x hx
    rw [idxF] at hx
    rcases List.mem_cons.1 hx with rfl | hx
    · obtain ⟨u, hu, e1⟩ := lastP_mem (hn c (by simp))
      have h1 := Nm.row_length a
      have h2 := Nm.row_length (cb c).length
      refine ⟨?_, ?_⟩
      · show (lastP c).size ≤ 139
        rw [e1]
        exact pl_size u (h u (by rw [List.flatten_cons]; exact List.mem_append_left _ hu))
      · show (bmk _).size ≤ 18
        rw [bmk_size, List.length_append]
        omega
    · exact ih (fun x hx => hn x (by simp [hx])) (fun e he => h e (by rw [List.flatten_cons]; exact List.mem_append_right _ he)) x hx
theorem goodb_idx {d : List (List Ent)} {a : Nat} (hn : ∀ c ∈ d, c ≠ []) (h : Good d.flatten) : Bo.goodb Bo.st0 (idxF a d) = true :=
  goodb_of _ _ (fun x hx => by have := idx_sizes hn h.ok x hx; omega) (fun _ _ => Or.inl rfl) (asc_idx d a hn h.asc)
theorem after_run {l : List En} {e : En} (h : Bo.goodb Bo.st0 (l ++ [e]) = true) : Bo.after (Bo.run Bo.st0 l) e = Bo.run Bo.st0 (l ++ [e]) := by
  rw [Bo.good_snoc, Bool.and_eq_true, decide_eq_true_eq] at h
  unfold Bo.after
  rw [if_pos h.2, Bo.run_snoc]

/-! ### What a builder holds -/

/-- Each key once. -/
def addKey (ks : List ByteArray) (k : ByteArray) : List ByteArray := if ks.getLast? = some k then ks else ks ++ [k]
def keysOf (l : List Ent) : List ByteArray := l.foldl (fun ks e => addKey ks e.key) []
theorem keysOf_snoc (l : List Ent) (e : Ent) : keysOf (l ++ [e]) = addKey (keysOf l) e.key := by unfold keysOf; rw [List.foldl_append]; rfl
theorem addKey_last (ks : List ByteArray) (k : ByteArray) : (addKey ks k).getLast? = some k := by
  unfold addKey
  split
  · assumption
  · rw [List.getLast?_concat]
theorem keysOf_last (l : List Ent) : (keysOf l).getLast? = l.getLast?.map Ent.key := by
  refine snoc_ind (P := fun l => (keysOf l).getLast? = l.getLast?.map Ent.key) rfl (fun l e _ => ?_) l
  rw [keysOf_snoc, addKey_last, List.getLast?_concat]
  rfl
theorem addKey_mem {ks : List ByteArray} {k x : ByteArray} : x ∈ addKey ks k ↔ x ∈ ks ∨ x = k := by
  unfold addKey
  split
  · rename_i h
    constructor
    · exact Or.inl
    · rintro (h1 | rfl)
      · exact h1
      · exact List.mem_of_getLast? h
  · simp
theorem keysOf_mem (l : List Ent) (k : ByteArray) : k ∈ keysOf l ↔ ∃ e ∈ l, e.key = k := by
  refine snoc_ind (P := fun l => k ∈ keysOf l ↔ ∃ e ∈ l, e.key = k) (by simp [keysOf]) (fun l e ih => ?_) l
  rw [keysOf_snoc, addKey_mem, ih]
  constructor
  · rintro (⟨x, hx, rfl⟩ | rfl)
    · exact ⟨x, by simp [hx], rfl⟩
    · exact ⟨e, by simp, rfl⟩
  · rintro ⟨x, hx, rfl⟩
    rcases List.mem_append.1 hx with hx | hx
    · exact Or.inl ⟨x, hx, rfl⟩
    · rw [List.mem_singleton.1 hx]; exact Or.inr rfl
theorem addKey_length (ks : List ByteArray) (k : ByteArray) : (addKey ks k).length ≤ ks.length + 1 := by
  unfold addKey
  split
  · omega
  · simp
theorem keysOf_length (l : List Ent) : (keysOf l).length ≤ l.length := by
  refine snoc_ind (P := fun l => (keysOf l).length ≤ l.length) (by simp [keysOf]) (fun l e ih => ?_) l
  rw [keysOf_snoc, List.length_append]
  have := addKey_length (keysOf l) e.key
  show _ ≤ l.length + 1
  omega
theorem addKey_head (ks : List ByteArray) (k : ByteArray) (h : ks ≠ []) : (addKey ks k).head? = ks.head? := by
  unfold addKey
  split
  · rfl
  · cases ks with
    | nil => exact absurd rfl h
    | cons a r => rfl
theorem keysOf_ne {l : List Ent} (h : l ≠ []) : keysOf l ≠ [] := by
  intro e
  have := keysOf_last l
  rw [e] at this
  cases hl : l.getLast? with
  | none => exact h (List.getLast?_eq_none_iff.1 hl)
  | some x => rw [hl] at this; cases this
theorem keysOf_head (l : List Ent) : (keysOf l).head? = l.head?.map Ent.key := by
  refine snoc_ind (P := fun l => (keysOf l).head? = l.head?.map Ent.key) rfl (fun l e ih => ?_) l
  rw [keysOf_snoc]
  by_cases h : l = []
  · subst h
    rfl
  · rw [addKey_head _ _ (keysOf_ne h), ih]
    cases l with
    | nil => exact absurd rfl h
    | cons a r => rfl
def leastOf : List Ent → Nat
  | [] => 0
  | e :: r => r.foldl (fun m x => min m x.seq) e.seq
def mostOf (l : List Ent) : Nat := l.foldl (fun m x => max m x.seq) 0
theorem leastOf_snoc (l : List Ent) (e : Ent) : leastOf (l ++ [e]) = if l = [] then e.seq else min (leastOf l) e.seq := by
  cases l with
  | nil => rfl
  | cons a r => rw [if_neg (by simp), List.cons_append, leastOf, List.foldl_append]; rfl
theorem mostOf_snoc (l : List Ent) (e : Ent) : mostOf (l ++ [e]) = max (mostOf l) e.seq := by unfold mostOf; rw [List.foldl_append]; rfl

/-- What a builder holds. -/
structure TS where
  nn : Nat
  lev : Int
  cnt : Nat
  least : Nat
  most : Nat
  keys : List ByteArray
  data : Bo.St
  index : Bo.St
  told : List UInt8
  last : ByteArray
  done : Bool
def TS.new (n : Nat) (lev : Int) : TS := ⟨n, lev, 0, 0, 0, [], Bo.st0, Bo.st0, [], ⟨#[]⟩, false⟩
def TS.note (s : TS) (e : Ent) : TS := { s with cnt := s.cnt + 1, least := if s.cnt = 0 then e.seq else min s.least e.seq, most := max s.most e.seq, keys := addKey s.keys e.key }
def TS.put (s : TS) (e : Ent) : TS := ({ s with data := Bo.after s.data (enOf e), last := pl e } : TS).note e
/-- The index entry of the block that goes on. -/
def TS.ix (s : TS) : En := ⟨s.last, bmk (Nm.row s.told.length ++ Nm.row (Bo.fin s.data).length)⟩
def TS.endB (s : TS) : TS := { s with data := Bo.st0, index := Bo.after s.index s.ix, told := s.told ++ Bo.fin s.data }
def errE (s : TS) (e : Ent) : Nat := if s.done = true then 9 else if 64 < e.key.size ∨ 512 < e.val.size then 3 else if may e = true ∧ less s.last (pl e) = true then 0 else 1
def addS (s : TS) (e : Ent) : TS := if errE s e ≠ 0 then s else if 256 ≤ (Bo.fin (s.put e).data).length then (s.put e).endB else s.put e
def piece (s : TS) (e : Ent) : List UInt8 := if errE s e ≠ 0 then [] else if 256 ≤ (Bo.fin (s.put e).data).length then Bo.fin (s.put e).data else []
/-- What a builder holds that so many entries were added to. -/
structure Inv (s : TS) (l : List Ent) : Prop where
  data : s.data = Bo.run Bo.st0 ((cut l).2.map enOf)
  index : s.index = Bo.run Bo.st0 (idxF 0 (cut l).1)
  told : s.told = datas (cut l).1
  last : s.last = lastP l
  cnt : s.cnt = l.length
  keys : s.keys = keysOf l
  least : s.least = leastOf l
  most : s.most = mostOf l
  done : s.done = false
theorem inv_new (n : Nat) (lev : Int) : Inv (TS.new n lev) [] := ⟨rfl, rfl, rfl, rfl, rfl, rfl, rfl, rfl, rfl⟩
theorem errE_zero {s : TS} {e : Ent} (h : errE s e = 0) : OkE e ∧ less s.last (pl e) = true := by
  unfold errE at h
  split at h
  · cases h
  · split at h
    · cases h
    · split at h
      · rename_i h1 h2
        obtain ⟨h2, h3⟩ := h2
        unfold may at h2
        obtain ⟨a, b, c, d⟩ := of_decide_eq_true h2
        refine ⟨⟨by omega, by omega, by omega, b, c, fun g => ?_⟩, h3⟩
        by_cases hv : e.val.size = 0
        · exact hv
        · exact absurd ⟨g, hv⟩ d
      · cases h
theorem errE_ok {s : TS} {e : Ent} (hd : s.done = false) (h : OkE e) (hl : less s.last (pl e) = true) : errE s e = 0 := by
  unfold errE
  have hm : may e = true := by
    unfold may
    refine decide_eq_true ⟨by have := h.k1; omega, h.q1, h.q2, ?_⟩
    rintro ⟨g, hv⟩
    exact hv (h.g g)
  rw [if_neg (by rw [hd]; decide), if_neg (by have := h.k2; have := h.v; omega), if_pos ⟨hm, hl⟩]
theorem less_trans {a b c : ByteArray} (h : less a b = true) (k : less b c = true) : less a c = true := Bo.bl_trans _ _ _ h k
theorem less_irr (a : ByteArray) : less a a = false := Nm.bytesLess_self _
theorem lastP_all {l : List Ent} (g : Good l) {p : ByteArray} (h : less (lastP l) p = true) : ∀ a ∈ l, less (pl a) p = true := by
  intro a ha
  have hne : l ≠ [] := by rintro rfl; cases ha
  have e : lastP l = pl (l.getLast hne) := by
    unfold lastP
    rw [List.getLast?_eq_some_getLast hne]
  rw [e] at h
  have hl := List.dropLast_concat_getLast hne
  rw [← hl] at ha
  rcases List.mem_append.1 ha with ha | ha
  · have hp := g.asc
    rw [← hl] at hp
    exact less_trans ((List.pairwise_append.1 hp).2.2 a ha _ (by simp)) h
  · rw [List.mem_singleton.1 ha]; exact h
theorem good_snoc {l : List Ent} {e : Ent} (g : Good l) (h : OkE e) (hl : less (lastP l) (pl e) = true) : Good (l ++ [e]) := by
  refine ⟨fun x hx => ?_, List.pairwise_append.2 ⟨g.asc, List.pairwise_singleton _ _, fun a ha b hb => ?_⟩⟩
  · rcases List.mem_append.1 hx with hx | hx
    · exact g.ok x hx
    · rw [List.mem_singleton.1 hx]; exact h
  · rw [List.mem_singleton.1 hb]
    exact lastP_all g hl a ha
theorem good_last {l : List Ent} {e : Ent} (g : Good (l ++ [e])) : less (lastP l) (pl e) = true := by
  by_cases h : l = []
  · subst h
    show Op.bytesLess [] (Mm.place _ _) = true
    rw [Mm.place_cat]
    rfl
  · obtain ⟨x, hx, e1⟩ := lastP_mem h
    rw [e1]
    exact (List.pairwise_append.1 g.asc).2.2 x hx e (by simp)
theorem cut_good {l : List Ent} (g : Good l) : Good (cut l).2 ∧ Good (cut l).1.flatten := by
  have h := cut_flat l
  constructor
  · exact g.sub (by conv => rhs; rw [← h]
                    exact List.sublist_append_right _ _)
  · exact g.sub (by conv => rhs; rw [← h]
                    exact List.sublist_append_left _ _)
theorem flat_snoc (d : List (List Ent)) (c : List Ent) : (d ++ [c]).flatten = d.flatten ++ c := by simp
theorem cut_last {l : List Ent} (h : (cut l).2 ≠ []) : lastP (cut l).2 = lastP l := by
  have e := cut_flat l
  have h1 : l.getLast? = (cut l).2.getLast? := by
    conv => lhs; rw [← e]
    rw [List.getLast?_append, List.getLast?_eq_some_getLast h]
    rfl
  unfold lastP
  rw [h1]
/-- An entry more. -/
theorem inv_step {s : TS} {l : List Ent} {e : Ent} (h : Inv s l) (g : Good l) (he : errE s e = 0) : Good (l ++ [e]) ∧ Inv (addS s e) (l ++ [e]) ∧
    (s.put e).data = Bo.run Bo.st0 (((cut l).2 ++ [e]).map enOf) ∧ Bo.fin (s.put e).data = cb ((cut l).2 ++ [e]) := by
  obtain ⟨h1, h2⟩ := errE_zero he
  rw [h.last] at h2
  have g2 := good_snoc g h1 h2
  have gc : Good ((cut l).2 ++ [e]) := by
    refine g2.sub ?_
    conv => rhs; rw [← cut_flat l]
    rw [List.append_assoc]
    exact List.sublist_append_right _ _
  have hd : (s.put e).data = Bo.run Bo.st0 (((cut l).2 ++ [e]).map enOf) := by
    show Bo.after s.data (enOf e) = _
    have := goodb_ents gc
    rw [List.map_append, List.map_singleton] at this ⊢
    rw [h.data, after_run this]
  have hf : Bo.fin (s.put e).data = cb ((cut l).2 ++ [e]) := by rw [hd]; rfl
  refine ⟨g2, ?_, hd, hf⟩
  have hk : s.cnt = 0 ↔ l = [] := by rw [h.cnt]; exact List.length_eq_zero_iff
  have hlast : (s.put e).last = lastP (l ++ [e]) := by rw [lastP_snoc]; rfl
  have hcnt : (s.put e).cnt = (l ++ [e]).length := by show s.cnt + 1 = _; rw [h.cnt, List.length_append]; rfl
  have hkeys : (s.put e).keys = keysOf (l ++ [e]) := by show addKey s.keys e.key = _; rw [h.keys, keysOf_snoc]
  have hleast : (s.put e).least = leastOf (l ++ [e]) := by
    show (if s.cnt = 0 then e.seq else min s.least e.seq) = _
    rw [leastOf_snoc, h.least]
    by_cases h0 : l = []
    · rw [if_pos (hk.2 h0), if_pos h0]
    · rw [if_neg (fun x => h0 (hk.1 x)), if_neg h0]
  have hmost : (s.put e).most = mostOf (l ++ [e]) := by show max s.most e.seq = _; rw [h.most, mostOf_snoc]
  unfold addS
  rw [if_neg (by rw [he]; simp), hf]
  have hc : cut (l ++ [e]) = cstep (cut l) e := cut_snoc l e
  unfold cstep at hc
  by_cases hz : 256 ≤ (cb ((cut l).2 ++ [e])).length
  · rw [if_pos hz] at hc ⊢
    refine ⟨?_, ?_, ?_, hlast, hcnt, hkeys, hleast, hmost, h.done⟩
    · rw [hc]; rfl
    · rw [hc]
      show Bo.after s.index (s.put e).ix = Bo.run Bo.st0 (idxF 0 ((cut l).1 ++ [(cut l).2 ++ [e]]))
      have hix : (s.put e).ix = idxE (0 + (datas (cut l).1).length) ((cut l).2 ++ [e]) := by
        show (⟨pl e, bmk (Nm.row s.told.length ++ Nm.row (Bo.fin (s.put e).data).length)⟩ : En) = _
        unfold idxE
        rw [lastP_snoc, h.told, hf, Nat.zero_add]
      have hg : Bo.goodb Bo.st0 (idxF 0 ((cut l).1 ++ [(cut l).2 ++ [e]])) = true := by
        refine goodb_idx (fun c hc => ?_) ?_
        · rcases List.mem_append.1 hc with hc | hc
          · exact cut_ne l c hc
          · rw [List.mem_singleton.1 hc]; simp
        · rw [flat_snoc, ← List.append_assoc, cut_flat]
          exact g2
      rw [idxF_snoc] at hg ⊢
      rw [hix, h.index, after_run hg]
    · rw [hc]
      show s.told ++ Bo.fin (s.put e).data = _
      rw [h.told, hf, datas_append, datas_one]
  · rw [if_neg hz] at hc ⊢
    refine ⟨?_, ?_, ?_, hlast, hcnt, hkeys, hleast, hmost, h.done⟩
    · rw [hc]; exact hd
    · rw [hc]; exact h.index
    · rw [hc]; exact h.told
theorem addS_err {s : TS} {e : Ent} (he : errE s e ≠ 0) : addS s e = s ∧ piece s e = [] := by
  unfold addS piece
  rw [if_pos he, if_pos he]
  exact ⟨rfl, rfl⟩
theorem told_step (s : TS) (e : Ent) : (addS s e).told = s.told ++ piece s e := by
  unfold addS piece
  split
  · simp
  · split
    · rfl
    · simp; rfl

/-! ### The end of a table -/

def TS.lst (s : TS) : TS := if 0 < s.data.n then s.endB else s
def kls (ks : List ByteArray) : List (List UInt8) := ks.map fun k => k.data.toList
def foot (a b n : Nat) : List UInt8 := Nm.big a 4 ++ (Nm.big b 4 ++ Nm.big n 4)
def TS.t2 (s : TS) : List UInt8 := s.lst.told ++ Bl.mk (kls s.keys)
def TS.t3 (s : TS) : List UInt8 := s.t2 ++ Bo.fin s.lst.index
def TS.t4 (s : TS) : List UInt8 := s.t3 ++ foot s.lst.told.length s.t2.length s.cnt
def TS.t5 (s : TS) : List UInt8 := s.t4 ++ Nm.big (Cr.crc s.t4) 4
def rest (s : TS) : List UInt8 := s.t5.drop s.told.length
def t2 (l : List Ent) : List UInt8 := datas (chunks l) ++ Bl.mk (kls (keysOf l))
def t3 (l : List Ent) : List UInt8 := t2 l ++ Bo.bytes (idxF 0 (chunks l))
def t4 (l : List Ent) : List UInt8 := t3 l ++ foot (datas (chunks l)).length (t2 l).length l.length
/-- A table's bytes. -/
def whole (l : List Ent) : List UInt8 := t4 l ++ Nm.big (Cr.crc (t4 l)) 4
theorem run_n0 (l : List En) : (Bo.run Bo.st0 l).n = l.length := by rw [Bo.run_n]; show 0 + _ = _; omega
theorem lst_is {s : TS} {l : List Ent} (h : Inv s l) (g : Good l) : s.lst.told = datas (chunks l) ∧ s.lst.index = Bo.run Bo.st0 (idxF 0 (chunks l)) := by
  have hn : s.data.n = (cut l).2.length := by rw [h.data, run_n0, List.length_map]
  unfold TS.lst chunks tail
  by_cases h0 : (cut l).2 = []
  · rw [if_neg (by rw [hn, h0]; simp), h0]
    show s.told = datas ((cut l).1 ++ []) ∧ s.index = Bo.run Bo.st0 (idxF 0 ((cut l).1 ++ []))
    rw [List.append_nil]
    exact ⟨h.told, h.index⟩
  · have hp : 0 < (cut l).2.length := List.length_pos_iff.2 h0
    rw [if_pos (by rw [hn]; exact hp), if_neg (by simpa using h0)]
    have hf : Bo.fin s.data = cb (cut l).2 := by rw [h.data]; rfl
    constructor
    · show s.told ++ Bo.fin s.data = _
      rw [h.told, hf, datas_append, datas_one]
    · show Bo.after s.index s.ix = _
      have hix : s.ix = idxE (0 + (datas (cut l).1).length) (cut l).2 := by
        unfold TS.ix idxE
        rw [h.last, cut_last h0, h.told, hf, Nat.zero_add]
      have hg : Bo.goodb Bo.st0 (idxF 0 ((cut l).1 ++ [(cut l).2])) = true := by
        refine goodb_idx (fun c hc => ?_) ?_
        · rcases List.mem_append.1 hc with hc | hc
          · exact cut_ne l c hc
          · rw [List.mem_singleton.1 hc]; exact h0
        · rw [flat_snoc, cut_flat]
          exact g
      rw [idxF_snoc] at hg ⊢
      rw [hix, h.index, after_run hg]
theorem t5_is {s : TS} {l : List Ent} (h : Inv s l) (g : Good l) : s.t2 = t2 l ∧ s.t3 = t3 l ∧ s.t4 = t4 l ∧ s.t5 = whole l := by
  obtain ⟨e1, e2⟩ := lst_is h g
  have a2 : s.t2 = t2 l := by unfold TS.t2 t2; rw [e1, h.keys]
  have a3 : s.t3 = t3 l := by unfold TS.t3 t3; rw [a2, e2]; rfl
  have a4 : s.t4 = t4 l := by unfold TS.t4 t4; rw [a3, a2, e1, h.cnt]
  exact ⟨a2, a3, a4, by unfold TS.t5 whole; rw [a4]⟩
theorem told_pre {s : TS} {l : List Ent} (h : Inv s l) (g : Good l) : s.told ++ rest s = whole l ∧ s.told.length ≤ (whole l).length := by
  have e : ∃ t, whole l = s.told ++ t := by
    unfold whole t4 t3 t2 chunks
    rw [datas_append, ← h.told, List.append_assoc, List.append_assoc, List.append_assoc, List.append_assoc]
    exact ⟨_, rfl⟩
  obtain ⟨t, e⟩ := e
  unfold rest
  rw [(t5_is h g).2.2.2, e, List.drop_left, List.length_append]
  exact ⟨rfl, by omega⟩
end Go.Proofs.YtphoihkbdogkhaaDoor.Tb

/- Tables read of their bytes, as plain data. No function is named here. -/
namespace Go.Proofs.YtphoihkbdogkhaaDoor.Tb
open Go Go.RowKit Go.Proofs.YtphoihkbdogkhaaDoor.Bn
set_option linter.unusedVariables false
set_option maxRecDepth 100000

/-! ### How long a table is -/

theorem rows_le {m : Nat} : ∀ (l : List En) (s : Bo.St), (∀ e ∈ l, e.key.size + e.val.size ≤ m) → (Bo.rows s l).length ≤ (27 + m) * l.length
  | [], _, _ => by simp [Bo.rows]
  | e :: l, s, h => by
    have h1 := rows_le l (Bo.step s e) (fun x hx => h x (by simp [hx]))
    have h2 := (Bo.one_length s e).2
    have h3 := h e (by simp)
    rw [Bo.rows, List.length_append, List.length_cons, Nat.mul_succ]
    omega
theorem bytes_le {m : Nat} (l : List En) (h : ∀ e ∈ l, e.key.size + e.val.size ≤ m) : (Bo.bytes l).length ≤ (28 + m) * l.length + 7 := by
  have h1 := rows_le l Bo.st0 h
  have h2 := Bo.foot_length l Bo.st0 rfl
  have h3 := Bo.run_rows l Bo.st0
  have h4 := Bo.fin_length (Bo.run Bo.st0 l)
  rw [run_n0] at h2
  rw [show Bo.st0.rows = [] from rfl, List.nil_append] at h3
  rw [h3, h2] at h4
  show (Bo.fin (Bo.run Bo.st0 l)).length ≤ _
  rw [show 28 + m = (27 + m) + 1 by omega, Nat.succ_mul]
  omega
theorem cb_le {c : List Ent} (h : ∀ e ∈ c, OkE e) : (cb c).length ≤ 680 * c.length + 7 := by
  have h1 := bytes_le (m := 652) (c.map enOf) (fun x hx => by
    obtain ⟨e, he, rfl⟩ := List.mem_map.1 hx
    have h1 := pl_size e (h e he)
    have h2 := (vr_size e).1
    have h3 := (h e he).v
    show (pl e).size + (vr e).size ≤ _
    omega)
  rw [List.length_map] at h1
  exact h1
theorem datas_le : ∀ (d : List (List Ent)), (∀ c ∈ d, c ≠ []) → (∀ e ∈ d.flatten, OkE e) → (datas d).length ≤ 687 * d.flatten.length ∧ d.length ≤ d.flatten.length
  | [], _, _ => by simp [datas]
  | c :: d, hn, h => by
    obtain ⟨h1, h2⟩ := datas_le d (fun x hx => hn x (by simp [hx])) (fun e he => h e (by rw [List.flatten_cons]; exact List.mem_append_right _ he))
    have h3 := cb_le (c := c) (fun e he => h e (by rw [List.flatten_cons]; exact List.mem_append_left _ he))
    have h4 : 1 ≤ c.length := List.length_pos_iff.2 (hn c (by simp))
    rw [datas_cons, List.flatten_cons, List.length_append, List.length_append, List.length_cons]
    omega
theorem mk_le (ks : List ByteArray) : (Bl.mk (kls ks)).length ≤ 2 * ks.length + 9 := by
  rw [Bl.mk_length]
  unfold Bl.size kls
  rw [List.length_map]
  omega
theorem foot_length (a b n : Nat) : (foot a b n).length = 12 := by unfold foot; simp [Nm.big_length]
structure Lens (l : List Ent) : Prop where
  d : (datas (chunks l)).length ≤ 687 * l.length
  c : (chunks l).length ≤ l.length
  f2 : (t2 l).length ≤ 689 * l.length + 9
  f3 : (t3 l).length ≤ 874 * l.length + 16
  f4 : (t4 l).length = (t3 l).length + 12
  w : (whole l).length = (t3 l).length + 16
theorem lens {l : List Ent} (g : Good l) : Lens l := by
  obtain ⟨h1, h2⟩ := datas_le (chunks l) (chunks_ne l) (by rw [chunks_flat]; exact g.ok)
  rw [chunks_flat] at h1 h2
  have h3 := mk_le (keysOf l)
  have h4 := keysOf_length l
  have f2 : (t2 l).length ≤ 689 * l.length + 9 := by unfold t2; rw [List.length_append]; omega
  have h5 := bytes_le (m := 157) (idxF 0 (chunks l)) (fun x hx => by have := idx_sizes (chunks_ne l) (by rw [chunks_flat]; exact g.ok) x hx; omega)
  rw [idxF_length] at h5
  have f3 : (t3 l).length ≤ 874 * l.length + 16 := by unfold t3; rw [List.length_append]; omega
  have f4 : (t4 l).length = (t3 l).length + 12 := by unfold t4; rw [List.length_append, foot_length]
  exact ⟨h1, h2, f2, f3, f4, by unfold whole; rw [List.length_append, f4, Nm.big_length]⟩

/-! ### Entries, read -/

def entOf (x : En) : Ent :=
  if x.val.size = 0 ∨ x.key.size < 8 then zeroE else
  match prl (x.key.data.toList.take (x.key.size - 8)) with
  | some [p] => ⟨p.s, bmk (x.val.data.toList.drop 1), 18446744073709551615 - Nm.val (x.key.data.toList.drop (x.key.size - 8)), decide (x.val.data.toList.head? = some 1)⟩
  | _ => zeroE
theorem byte_nil {a : ByteArray} (h : a.size = 0) : a = ⟨#[]⟩ := by
  obtain ⟨⟨l⟩⟩ := a
  have : l.length = 0 := h
  rw [List.length_eq_zero_iff.1 this]
theorem entOf_enOf {e : Ent} (h : OkE e) : entOf (enOf e) = e := by
  obtain ⟨k, v, q, g⟩ := e
  have h1 : (pl ⟨k, v, q, g⟩).data.toList = one k.data.toList ++ Nm.big (18446744073709551615 - q) 8 := place_one _ _
  have h2 : (pl ⟨k, v, q, g⟩).size = (one k.data.toList).length + 8 := by rw [← Bo.len, h1, List.length_append, Nm.big_length]
  have hv := vr_size ⟨k, v, q, g⟩
  have q2 := h.q2
  have q1 := h.q1
  dsimp only at q1 q2
  unfold entOf
  show (if (vr ⟨k, v, q, g⟩).size = 0 ∨ (pl ⟨k, v, q, g⟩).size < 8 then zeroE else _) = _
  rw [if_neg (by omega)]
  show (match prl ((pl ⟨k, v, q, g⟩).data.toList.take ((pl ⟨k, v, q, g⟩).size - 8)) with
    | some [p] => (⟨p.s, bmk ((vr ⟨k, v, q, g⟩).data.toList.drop 1), 18446744073709551615 - Nm.val ((pl ⟨k, v, q, g⟩).data.toList.drop ((pl ⟨k, v, q, g⟩).size - 8)), decide ((vr ⟨k, v, q, g⟩).data.toList.head? = some 1)⟩ : Ent)
    | _ => zeroE) = _
  rw [h1, h2, Nat.add_sub_cancel, List.take_left, List.drop_left, prl_one, Nm.val_big, Nat.mod_eq_of_lt (by omega)]
  simp only
  have e3 : 18446744073709551615 - (18446744073709551615 - q) = q := by omega
  rw [e3]
  have hk : (⟨k.data.toList.toArray⟩ : ByteArray) = k := rfl
  rw [hk]
  cases g with
  | true =>
    have hv0 : v = ⟨#[]⟩ := byte_nil (h.g rfl)
    subst hv0
    rfl
  | false =>
    have e4 : (vr ⟨k, v, q, false⟩).data.toList = 0 :: v.data.toList := rfl
    rw [e4]
    simp only [List.drop_succ_cons, List.drop_zero, bmk_self, List.head?_cons]
    rfl
theorem ents_map {l : List Ent} (h : ∀ e ∈ l, OkE e) : (l.map enOf).map entOf = l := by
  rw [List.map_map]
  conv => rhs; rw [← List.map_id l]
  refine List.map_congr_left fun e he => ?_
  exact entOf_enOf (h e he)

/-! ### A table, read -/

structure T where
  filter : List UInt8
  idx : List En
  blks : List (List En)
/-- The second number of an index row. -/
def szOf (r : List UInt8) : Option Nat := (Nm.rv (r.drop (match Nm.rv r with | none => 0 | some x => x.2))).map (·.1)
/-- The data blocks that a text begins with. -/
def rdB : List UInt8 → List En → Option (List (List En))
  | _, [] => some []
  | s, x :: r => match szOf x.val.data.toList with
    | none => none
    | some n => if s.length < n then none else match Bo.opn (s.take n) with
      | none => none
      | some b => match rdB (s.drop n) r with
        | none => none
        | some bs => some (b :: bs)
def fAt (s : List UInt8) : Nat := Nm.val ((s.drop (s.length - 16)).take 4)
def iAt (s : List UInt8) : Nat := Nm.val ((s.drop (s.length - 12)).take 4)
def rd (s : List UInt8) : Option T :=
  if s.length < 16 then none
  else if iAt s < fAt s ∨ s.length - 16 < iAt s then none
  else match Bo.opn ((s.take (s.length - 16)).drop (iAt s)) with
  | none => none
  | some x => match rdB (s.take (fAt s)) x with
    | none => none
    | some bs => some ⟨(s.take (iAt s)).drop (fAt s), x, bs⟩
def all (t : T) : List Ent := t.blks.flatten.map entOf
def goodT : TS → List Ent → Bool
  | _, [] => true
  | s, e :: l => decide (errE s e = 0) && goodT (addS s e) l
/-- The bytes of some entries' table; none, if they may not be one's. -/
def bldT (l : List Ent) : List UInt8 := if goodT (TS.new 0 0) l = true ∧ l ≠ [] then whole l else []
def openT (s : List UInt8) : Option T := match rd s with
  | none => none
  | some t => if bldT (all t) = s then some t else none

theorem goodT_good : ∀ (l : List Ent) {s : TS} {p : List Ent}, Inv s p → Good p → goodT s l = true → Good (p ++ l)
  | [], _, p, _, g, _ => by rwa [List.append_nil]
  | e :: l, s, p, h, g, ht => by
    rw [goodT, Bool.and_eq_true, decide_eq_true_eq] at ht
    obtain ⟨g2, h2, _⟩ := inv_step h g ht.1
    have := goodT_good l h2 g2 ht.2
    rwa [List.append_assoc] at this
theorem good_goodT : ∀ (l : List Ent) {s : TS} {p : List Ent}, Inv s p → Good (p ++ l) → goodT s l = true
  | [], _, _, _, _ => rfl
  | e :: l, s, p, h, g => by
    have gp : Good p := g.sub (List.sublist_append_left _ _)
    have g1 : Good (p ++ [e]) := g.sub (by
      rw [show p ++ e :: l = (p ++ [e]) ++ l by simp]
      exact List.sublist_append_left _ _)
    have he : errE s e = 0 := errE_ok h.done (g1.ok e (by simp)) (by rw [h.last]; exact good_last g1)
    obtain ⟨_, h2, _⟩ := inv_step h gp he
    rw [goodT, decide_eq_true he, Bool.true_and]
    exact good_goodT l h2 (by rwa [List.append_assoc])
theorem goodT_iff (l : List Ent) : goodT (TS.new 0 0) l = true ↔ Good l :=
  ⟨fun h => by have := goodT_good l (inv_new 0 0) good_nil h; simpa using this, fun h => good_goodT l (inv_new 0 0) (by simpa using h)⟩
theorem whole_ne (l : List Ent) : whole l ≠ [] := by
  intro e
  have := congrArg List.length e
  unfold whole at this
  rw [List.length_append, Nm.big_length] at this
  simp at this
theorem openT_some {s : List UInt8} {t : T} (h : openT s = some t) : rd s = some t ∧ ((all t ≠ [] ∧ Good (all t) ∧ whole (all t) = s) ∨ s = []) := by
  unfold openT at h
  cases hr : rd s with
  | none => rw [hr] at h; cases h
  | some t' =>
    rw [hr] at h
    simp only at h
    by_cases hb : bldT (all t') = s
    · rw [if_pos hb] at h
      simp only [Option.some.injEq] at h
      subst h
      refine ⟨rfl, ?_⟩
      unfold bldT at hb
      by_cases hc : goodT (TS.new 0 0) (all t') = true ∧ all t' ≠ []
      · rw [if_pos hc] at hb
        exact Or.inl ⟨hc.2, (goodT_iff _).1 hc.1, hb⟩
      · rw [if_neg hc] at hb
        exact Or.inr hb.symm
    · rw [if_neg hb] at h; cases h
theorem rd_nil : rd [] = none := rfl
theorem openT_good {s : List UInt8} {t : T} (h : openT s = some t) : all t ≠ [] ∧ Good (all t) ∧ whole (all t) = s := by
  obtain ⟨h1, h2 | rfl⟩ := openT_some h
  · exact h2
  · rw [rd_nil] at h1; cases h1

theorem szOf_rows (a n : Nat) (ha : a < 18446744073709551616) (hn : n < 18446744073709551616) : szOf (Nm.row a ++ Nm.row n) = some n := by
  unfold szOf
  rw [Nm.rv_row ha]
  simp only
  have := Nm.rv_row hn []
  rw [List.append_nil] at this
  rw [List.drop_left, this]
  rfl
theorem rdB_datas : ∀ (d : List (List Ent)) (a : Nat) (t : List UInt8), (∀ c ∈ d, c ≠ []) → Good d.flatten → a + (datas d).length < 4000000000 → d.flatten.length < 4000000000 → rdB (datas d ++ t) (idxF a d) = some (d.map fun c => c.map enOf)
  | [], _, _, _, _, _, _ => rfl
  | c :: d, a, t, hn, g, ha, hl => by
    rw [datas_cons, List.length_append] at ha
    rw [List.flatten_cons, List.length_append] at hl
    rw [List.flatten_cons] at g
    have gc : Good c := g.sub (List.sublist_append_left _ _)
    have gd : Good d.flatten := g.sub (List.sublist_append_right _ _)
    rw [idxF, rdB, datas_cons, List.append_assoc]
    have e1 : (idxE a c).val.data.toList = Nm.row a ++ Nm.row (cb c).length := rfl
    rw [e1, szOf_rows a _ (by omega) (by omega)]
    simp only
    rw [if_neg (by rw [List.length_append]; omega), List.take_left, List.drop_left]
    have e2 : Bo.opn (cb c) = some (c.map enOf) := Bo.opn_bytes _ (goodb_ents gc) (by rw [List.length_map]; omega)
    rw [e2]
    simp only
    rw [rdB_datas d _ t (fun x hx => hn x (by simp [hx])) gd (by omega) (by omega)]
    rfl
/-- A table of entries, as it is read. -/
def tabOf (l : List Ent) : T := ⟨Bl.mk (kls (keysOf l)), idxF 0 (chunks l), (chunks l).map fun c => c.map enOf⟩
theorem all_tabOf {l : List Ent} (g : Good l) : all (tabOf l) = l := by
  have e : (tabOf l).blks.flatten = l.map enOf := by
    show ((chunks l).map fun c => c.map enOf).flatten = _
    rw [← List.map_flatten, chunks_flat]
  unfold all
  rw [e, ents_map g.ok]
theorem val_big4 {n : Nat} (h : n < 4294967296) : Nm.val (Nm.big n 4) = n := by rw [Nm.val_big]; exact Nat.mod_eq_of_lt h
theorem rd_whole {l : List Ent} (g : Good l) (hl : l.length ≤ 1000000) : rd (whole l) = some (tabOf l) := by
  have hs := lens g
  obtain ⟨d, c, f2, f3, f4, w⟩ := hs
  have e0 : whole l = t3 l ++ (Nm.big (datas (chunks l)).length 4 ++ (Nm.big (t2 l).length 4 ++ (Nm.big l.length 4 ++ Nm.big (Cr.crc (t4 l)) 4))) := by
    unfold whole t4 foot
    simp only [List.append_assoc]
  have e1 : (whole l).length - 16 = (t3 l).length := by omega
  have e2 : (whole l).length - 12 = (t3 l ++ Nm.big (datas (chunks l)).length 4).length := by rw [List.length_append, Nm.big_length]; omega
  have d1 : fAt (whole l) = (datas (chunks l)).length := by
    unfold fAt
    rw [e1]
    conv => lhs; arg 1; rw [e0]
    rw [List.drop_left, List.take_append_of_le_length (by rw [Nm.big_length]; exact Nat.le_refl _), List.take_of_length_le (by rw [Nm.big_length]; exact Nat.le_refl _), val_big4 (by omega)]
  have d2 : iAt (whole l) = (t2 l).length := by
    unfold iAt
    rw [e2]
    conv => lhs; arg 1; rw [e0, ← List.append_assoc]
    rw [List.drop_left, List.take_append_of_le_length (by rw [Nm.big_length]; exact Nat.le_refl _), List.take_of_length_le (by rw [Nm.big_length]; exact Nat.le_refl _), val_big4 (by omega)]
  have le1 : (datas (chunks l)).length ≤ (t2 l).length := by unfold t2; rw [List.length_append]; omega
  have le2 : (t2 l).length ≤ (t3 l).length := by unfold t3; rw [List.length_append]; omega
  unfold rd
  rw [if_neg (by omega), d1, d2, if_neg (by omega), e1]
  have e3 : (whole l).take (t3 l).length = t3 l := by
    rw [e0]
    exact List.take_left
  have e4 : (t3 l).drop (t2 l).length = Bo.bytes (idxF 0 (chunks l)) := by
    unfold t3
    exact List.drop_left
  have hgx : Bo.goodb Bo.st0 (idxF 0 (chunks l)) = true := goodb_idx (chunks_ne l) (by rw [chunks_flat]; exact g)
  rw [e3, e4, Bo.opn_bytes _ hgx (by rw [idxF_length]; omega)]
  simp only
  have e5 : ∃ t, whole l = datas (chunks l) ++ t := by
    rw [e0]
    unfold t3 t2
    simp only [List.append_assoc]
    exact ⟨_, rfl⟩
  have e6 : (whole l).take (datas (chunks l)).length = datas (chunks l) := by
    obtain ⟨t, e5⟩ := e5
    rw [e5]
    exact List.take_left
  have h7 := rdB_datas (chunks l) 0 [] (chunks_ne l) (by rw [chunks_flat]; exact g) (by omega) (by rw [chunks_flat]; omega)
  rw [List.append_nil] at h7
  rw [e6, h7]
  simp only
  have e8 : (whole l).take (t2 l).length = t2 l := by
    have : ∃ t, whole l = t2 l ++ t := by
      rw [e0]
      unfold t3
      simp only [List.append_assoc]
      exact ⟨_, rfl⟩
    obtain ⟨t, e⟩ := this
    rw [e]
    exact List.take_left
  have e9 : (t2 l).drop (datas (chunks l)).length = Bl.mk (kls (keysOf l)) := by
    unfold t2
    exact List.drop_left
  rw [e8, e9]
  rfl
theorem openT_whole {l : List Ent} (g : Good l) (hn : l ≠ []) (hl : l.length ≤ 1000000) : openT (whole l) = some (tabOf l) := by
  unfold openT
  rw [rd_whole g hl]
  simp only
  rw [if_pos]
  unfold bldT
  rw [all_tabOf g, if_pos ⟨(goodT_iff l).2 g, hn⟩]

/-! ### Bytes of which one is another one -/

theorem set_split {l : List UInt8} {k : Nat} (h : k < l.length) (b : UInt8) : l = l.take k ++ [l[k]] ++ l.drop (k + 1) ∧ l.set k b = l.take k ++ [b] ++ l.drop (k + 1) := by
  constructor
  · rw [List.append_assoc, List.singleton_append, ← List.drop_eq_getElem_cons h, List.take_append_drop]
  · rw [List.set_eq_take_append_cons_drop, if_pos h, List.append_assoc]
    rfl
theorem turned {l : List Ent} (g : Good l) (k : Nat) (hk : k < (whole l).length) (b : UInt8) (hb : b ≠ (whole l)[k]) : openT ((whole l).set k b) = none := by
  cases ho : openT ((whole l).set k b) with
  | none => rfl
  | some t =>
    exfalso
    obtain ⟨_, _, hw⟩ := openT_good ho
    obtain ⟨e1, e2⟩ := set_split hk b
    have hlen : (whole (all t)).length = (whole l).length := by rw [hw, List.length_set]
    generalize hm : all t = m at *
    have w1 : (whole l).length = (t4 l).length + 4 := by unfold whole; rw [List.length_append, Nm.big_length]
    have w2 : (whole m).length = (t4 m).length + 4 := by unfold whole; rw [List.length_append, Nm.big_length]
    have h4 : (t4 m).length = (t4 l).length := by omega
    have c1 : (whole l).take (t4 l).length = t4 l ∧ (whole l).drop (t4 l).length = Nm.big (Cr.crc (t4 l)) 4 := by unfold whole; exact ⟨List.take_left, List.drop_left⟩
    have c2 : (whole m).take (t4 m).length = t4 m ∧ (whole m).drop (t4 m).length = Nm.big (Cr.crc (t4 m)) 4 := by unfold whole; exact ⟨List.take_left, List.drop_left⟩
    rw [h4, hw] at c2
    by_cases hlt : k < (t4 l).length
    · -- the sum stands as it was
      have hd : ((whole l).set k b).drop (t4 l).length = (whole l).drop (t4 l).length := by
        rw [List.drop_set_of_lt hlt]
      have hc : Nm.big (Cr.crc (t4 m)) 4 = Nm.big (Cr.crc (t4 l)) 4 := by rw [← c2.2, hd, c1.2]
      have hcc := Nm.big_inj (Cr.crc_lt _) (Cr.crc_lt _) hc
      have hk4 : k < (t4 l).length := hlt
      have hg : (t4 l)[k] = (whole l)[k] := by
        have : (whole l)[k]? = (t4 l)[k]? := by
          unfold whole
          rw [List.getElem?_append_left hlt]
        rw [List.getElem?_eq_getElem hk, List.getElem?_eq_getElem hlt] at this
        exact (Option.some.inj this).symm
      obtain ⟨f1, f2⟩ := set_split hlt b
      have hm4 : t4 m = (t4 l).set k b := by
        rw [← c2.1, List.take_set, c1.1]
      rw [hm4, f2] at hcc
      conv at hcc => rhs; rw [f1]
      have := Cr.crc_burst (by simp) (by simp) hcc
      simp only [List.cons.injEq, and_true] at this
      exact hb (this.trans hg)
    · have ht : ((whole l).set k b).take (t4 l).length = (whole l).take (t4 l).length := by
        rw [List.take_set, List.set_eq_of_length_le (by rw [List.length_take]; omega)]
      have hm4 : t4 m = t4 l := by rw [← c2.1, ht, c1.1]
      have : whole m = whole l := by unfold whole; rw [hm4]
      rw [hw] at this
      have h5 := congrArg (fun x => x[k]?) this
      simp only [List.getElem?_set_self hk, List.getElem?_eq_getElem hk, Option.some.injEq] at h5
      exact hb h5
end Go.Proofs.YtphoihkbdogkhaaDoor.Tb

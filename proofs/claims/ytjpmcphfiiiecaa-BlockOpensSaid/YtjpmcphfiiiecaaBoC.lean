/- The walk of block's Add. -/
import Derived.Test.YtjpmcphfiiiecaaBoB
import Derived.Test.YtjpmcphfiiiecaaBoOrd
import Derived.Deep.RegionLaw
import Derived.Deep.DeepCutAuto
import Derived.Deep.CutRange
namespace Go.Proofs.Ytjpmcphfiiiecaa.Bo
open Go Go.RowKit
set_option linter.unusedVariables false

theorem seesU_heap1 {w : World} {B n : Nat} {t : TypeId} (h : w.heap[B]? = some (.cells #[.int .u64 (n : Int)] t (0, 0))) : SeesU w (.slice (some ⟨B, 0, none⟩) 1 1) [n] := by
  refine Or.inr ⟨B, 0, 1, rfl, heap_lt h, fun i hi => ?_⟩
  obtain rfl : i = 0 := by simpa using hi
  rw [cell_of h]
  rfl
theorem undrew {w w2 : World} (h : Below w.drew.heap.size w.drew w2) : Below w.heap.size w w2 := ⟨h.os, h.tape, h.output, h.size, h.block⟩
theorem varl_one' (n : Nat) : varl [n] = Nm.row n := by simp [varl]
theorem textl_pair (s u : ByteArray) : textl [s, u] = txt s.data.toList ++ txt u.data.toList := by simp [textl, txt]
theorem seesS_heap2 {w : World} {B : Nat} {s u : ByteArray} {t : TypeId} (h : w.heap[B]? = some (.cells #[.string s, .string u] t (0, 0))) : SeesS w (.slice (some ⟨B, 0, none⟩) 2 2) [s, u] := by
  refine Or.inr ⟨B, 0, 2, rfl, heap_lt h, fun i hi => ?_⟩
  rw [cell_of h]
  match i, hi with
  | 0, _ => rfl
  | 1, _ => rfl
section
variable {w : World} {base : Nat} {L : BL} {s : St}
theorem add_long (h : Built w base L s) (k v : ByteArray) (hl : 1024 < k.size ∨ 1024 < v.size) :
    Calls Try.prog 11 #[.pointer (some ⟨L.b, 0, none⟩), .string k, .string v] w fun e w' => e = .returned (.int .i64 3) ∧ w' = w := by
  by_cases hk : (1024 : Int) < k.size
  · go_enter Try.func11, Try.ntmps11
    go_wp2_with fail
    go_ret
    exact ⟨rfl, rfl⟩
  · have hv : (1024 : Int) < v.size := by omega
    go_enter Try.func11, Try.ntmps11
    go_wp2_with fail
    go_ret
    exact ⟨rfl, rfl⟩
theorem add_low (h : Built w base L s) (k v : ByteArray) (hk : ¬ (1024 : Int) < k.size) (hv : ¬ (1024 : Int) < v.size) (hn : (0 : Int) < s.n) (hlt : Op.bytesLess s.last.data.toList k.data.toList = false) :
    Calls Try.prog 11 #[.pointer (some ⟨L.b, 0, none⟩), .string k, .string v] w fun e w' => e = .returned (.int .i64 1) ∧ w' = w := by
  have c2 := h.c2
  have c3 := h.c3
  clear h
  rcases bl_geq hlt with h1 | ⟨h1, h2⟩
  · clear hlt
    go_enter Try.func11, Try.ntmps11
    go_wp2_with fail
    go_ret
    exact ⟨rfl, rfl⟩
  · clear hlt
    go_enter Try.func11, Try.ntmps11
    go_wp2_with fail
    go_ret
    exact ⟨rfl, rfl⟩
set_option maxHeartbeats 4000000 in
set_option maxRecDepth 100000 in
theorem add_ok (h : Built w base L s) (hs : Sound s) (hn : s.n ≤ 2000000) (k v : ByteArray) (he : err s ⟨k, v⟩ = 0) :
    Calls Try.prog 11 #[.pointer (some ⟨L.b, 0, none⟩), .string k, .string v] w fun e w' => e = .returned (.int .i64 0) ∧ GoesB base L w (step s ⟨k, v⟩) w' := by
  obtain ⟨hk, hv⟩ := err_size he
  dsimp only at hk hv
  have hk1 : ¬ (1024 : Int) < k.size := by omega
  have hv1 : ¬ (1024 : Int) < v.size := by omega
  have c2 := h.c2
  have c3 := h.c3
  have HH := Lib.hid h; have HS := Lib.hid hs; have HN := Lib.hid hn; have HE := Lib.hid he
  have HR := Lib.hid (fun W => isRestart_any s.n W (by omega))
  have HLT := Lib.hid (err_less he)
  have HK := Lib.hid hk; have HV := Lib.hid hv
  have hshk := (sh_le s k).1
  obtain ⟨SH, hSH⟩ : ∃ SH, SH = sh s k := ⟨_, rfl⟩
  rw [← hSH] at hshk
  have HSH := Lib.hid hSH; clear hSH
  have HSHK := Lib.hid hshk
  have hsh1 : (SH : Int) ≤ 1024 := by omega
  have hsh2 : (SH : Int) ≤ k.size := by omega
  have hwr : IntKind.u64.wrap (SH : Int) = SH := by rw [IntKind.wrap_u64]; omega
  have HCL := Lib.hid (fun W => clone_any k W (by omega))
  have HVR := Lib.hid (fun X W (hx : SeesU W X [SH]) => var_any X [SH] W hx (fun i => by cases i with
    | zero => show SH < _; omega
    | succ i => simp) (by simp))
  have HTX := Lib.hid (fun X W (hx : SeesS W X [k.extract SH k.size, v]) => text_any X [k.extract SH k.size, v] W hx (by simp) (by
    have : (k.extract SH k.size).size ≤ k.size := by rw [ByteArray.size_extract]; omega
    simp only [suml]; omega))
  clear h hs hn he hk hv hshk
  by_cases h0 : s.n = 0
  · have hz : ¬ (0 : Int) < s.n := by omega
    have H0 : Hid (decide (s.n % 4 = 0) = true) := Lib.hid (by rw [h0]; rfl)
    have HC : Hid (SH = 0) := Lib.hid (by rw [HSH.out]; unfold sh; rw [if_pos (by rw [h0])])
    clear h0
    have HP := Lib.hid (fun W => placeRow_any s.rows.length W (by have := HS.out.rows; have := HN.out; omega))
    have HPS : Hid (s.foot.length + (place s.rows.length).size ≤ 100000000000) := Lib.hid (by rw [place_size, HS.out.foot]; have := HN.out; omega)
    have hbl := heap_lt HH.out.box
    obtain ⟨⟨a, ca, ea⟩, a2, ca2, ea2⟩ := HH.out.shapes
    have c0 := HH.out.c0
    have c1 := HH.out.c1
    have f1 := HH.out.soft 1
    rw [ea] at c0
    rw [ea2] at c1
    have hn2 := HH.out.box_ne.2
    have hown := HH.out.foot
    rw [ea2] at hn2 hown
    have HA2 := Lib.hid ea2; clear ea2 ea
    have hlow : base ≤ w.heap.size := Nat.le_of_lt (Nat.lt_of_le_of_lt HH.out.low hbl)
    go_enter Try.func11, Try.ntmps11
    go_wp2_with fail
    refine (HR.out _).mono ?_
    rintro e w1 ⟨rfl, rfl⟩
    rw [H0.out]
    go_wp2_with fail
    go_cut [7] from 39 to 58 (fun u wr => u = .int .i64 (SH : Int) ∧ Hid (GoesB base L w { s with foot := ftn s } wr))
    case first =>
      go_region_law (first
        | (go_simp; go_at_call 25; refine (HP.out _).mono ?_; rintro e w2 ⟨rfl, hb2'⟩
           have hb2 := undrew hb2'
           have k0 : w2.cell? ⟨L.b, 0, none⟩ = some (.slice a s.rows.length ca) := (hb2.cell (p := ⟨L.b, 0, none⟩) hbl).trans c0
           have k1 : w2.cell? ⟨L.b, 1, none⟩ = some (.slice a2 s.foot.length ca2) := (hb2.cell (p := ⟨L.b, 1, none⟩) hbl).trans c1
           have kf1 : w2.frozen? ⟨L.b, 1, none⟩ = false := (hb2.frozen (p := ⟨L.b, 1, none⟩) hbl).trans f1)
        | (refine step_append_str (by rfl) _ _ (by rfl) base (.slice a2 s.foot.length ca2) s.foot (by rfl) (ownsRow_below hown hb2) (place s.rows.length) (by rfl) HPS.out (Nat.le_trans hlow hb2.size) ?_
           intro ao cap w3 hown3 hgrow hlie
           have k3 : w3.cell? ⟨L.b, 1, none⟩ = some (.slice a2 s.foot.length ca2) := (hgrow.cell_far ⟨L.b, 1, none⟩ (Nat.lt_of_lt_of_le hbl hb2.size) (Ne.symm hn2)).trans k1
           have kf3 : w3.frozen? ⟨L.b, 1, none⟩ = false := (hgrow.frozen_far ⟨L.b, 1, none⟩ (Nat.lt_of_lt_of_le hbl hb2.size) (Ne.symm hn2)).trans kf1))
      all_goals
        go_wp2_with fail
        go_meet
        case rel =>
          refine ⟨by rw [HC.out]; rfl, Lib.hid ?_⟩
          have hh : Built w2 base L s := HH.out.below hb2
          rw [← HA2.out] at hgrow hlie
          have hg := hh.grow_foot hown3 hgrow hlie
          rw [show s.foot ++ (place s.rows.length).data.toList = ftn s by unfold ftn; rw [if_pos (of_decide_eq_true H0.out)]; rfl] at hg
          exact GoesB.trans (L1 := L) rfl (Turns.of_below hb2) (fun k hk => Or.inl hk) hg
    case rest =>
      obtain ⟨rfl, HG1⟩ := hcut
      clear c0 c1 f1 hn2 hown hbl c2 c3 hlow
      have hfoot : Hid (({ s with foot := ftn s } : St).rows = s.rows) := Lib.hid rfl
      obtain ⟨R0, hR0⟩ : ∃ R0 : St, R0 = { s with foot := ftn s } := ⟨_, rfl⟩
      rw [← hR0] at HG1
      have HR0 := Lib.hid hR0; clear hR0 hfoot
      obtain ⟨L1, hL1, hb1, ht1, ho1⟩ := HG1.out
      obtain ⟨⟨a, ca, ea⟩, -⟩ := hb1.shapes
      have c0 := hb1.c0
      have f0 := hb1.soft 0
      have hbl := heap_lt hb1.box
      have hn1 := hb1.box_ne.1
      have hown := hb1.rows
      have hlow : base ≤ wc.heap.size := Nat.le_of_lt (Nat.lt_of_le_of_lt hb1.low hbl)
      rw [ea] at c0 hn1 hown
      rw [hL1] at c0 f0 hbl hn1
      have HB1 := Lib.hid hb1; have HL1 := Lib.hid hL1; have HA := Lib.hid ea; have HT1 := Lib.hid ht1; have HO1 := Lib.hid ho1
      clear hb1 hL1 ht1 ho1 ea
      have HS1 : Hid (R0.rows.length ≤ 4200000000) := Lib.hid (by rw [HR0.out]; show s.rows.length ≤ _; have := HS.out.rows; have := HN.out; omega)
      have HV1 : Hid (∀ W : World, Calls Try.prog 27 #[.slice (some ⟨W.heap.size, 0, none⟩) 1 1] (W.alloc (.cells #[.int .u64 (SH : Int)] 58)).drew (Gives (.string ⟨(varl [SH]).toArray⟩) (W.alloc (.cells #[.int .u64 (SH : Int)] 58)).drew)) := Lib.hid fun W => HVR.out _ _ (seesU_heap1 (heap_alloc_new W _))
      have HV2 : Hid (∀ W : World, Calls Try.prog 27 #[.slice (some ⟨W.heap.size, 0, none⟩) 1 1] (W.alloc (.cells #[.int .u64 (SH : Int)] 58)) (Gives (.string ⟨(varl [SH]).toArray⟩) (W.alloc (.cells #[.int .u64 (SH : Int)] 58)))) := Lib.hid fun W => HVR.out _ _ (seesU_heap1 (heap_alloc_new W _))
      have HVS : Hid (R0.rows.length + (⟨(varl [SH]).toArray⟩ : ByteArray).size ≤ 100000000000) := Lib.hid (by
        have h1 := varl_length [SH]
        have h2 := HS1.out
        show _ + (varl [SH]).toArray.size ≤ _
        rw [List.size_toArray]
        simp at h1
        omega)
      generalize hVL : (⟨(varl [SH]).toArray⟩ : ByteArray) = VL at *
      have HVL := Lib.hid hVL; clear hVL
      have hblA : ∀ o, L.b < (wc.alloc o).heap.size := fun o => by rw [World.size_alloc]; omega
      have kk : ∀ o, (wc.alloc o).cell? ⟨L.b, 0, none⟩ = some (.slice a R0.rows.length ca) := fun o => (((Below.refl _ wc).alloc (Nat.le_refl _) o).cell (p := ⟨L.b, 0, none⟩) hbl).trans c0
      have kf : ∀ o, (wc.alloc o).frozen? ⟨L.b, 0, none⟩ = false := fun o => (((Below.refl _ wc).alloc (Nat.le_refl _) o).frozen (p := ⟨L.b, 0, none⟩) hbl).trans f0
      have hownA : ∀ o, Owns (wc.alloc o) base (.slice a R0.rows.length ca) R0.rows := fun o => hown.alloc o
      have HBA := Lib.hid hblA; have HKK := Lib.hid kk; have HKF := Lib.hid kf; have HOA := Lib.hid hownA
      clear hblA kk kf hownA
      go_wp2_with fail
      go_cut [] from 59 to 70 (fun wr => Hid (GoesB base L w { R0 with rows := R0.rows ++ VL.data.toList } wr))
      case first =>
        have kk0 := HKK.out (.cells #[.int .u64 (SH : Int)] 58)
        go_region_law (first
          | (go_simp; go_at_call 27; (with_reducible first | refine (HV1.out _).mono ?_ | refine (HV2.out _).mono ?_); rintro e w2 ⟨rfl, hb2'⟩
             have hb2 := undrew hb2'
             have k0 : w2.cell? ⟨L.b, 0, none⟩ = some (.slice a R0.rows.length ca) := (hb2.cell (p := ⟨L.b, 0, none⟩) (HBA.out _)).trans (HKK.out _)
             have kf0 : w2.frozen? ⟨L.b, 0, none⟩ = false := (hb2.frozen (p := ⟨L.b, 0, none⟩) (HBA.out _)).trans (HKF.out _))
          | (refine step_append_str (by rfl) _ _ (by rfl) base (.slice a R0.rows.length ca) R0.rows (by rfl) (ownsRow_below (HOA.out _) hb2) VL (by rfl) HVS.out (Nat.le_trans (Nat.le_trans hlow (by rw [World.size_alloc]; omega)) hb2.size) ?_
             intro ao cap w3 hown3 hgrow hlie
             have k3 : w3.cell? ⟨L.b, 0, none⟩ = some (.slice a R0.rows.length ca) := (hgrow.cell_far ⟨L.b, 0, none⟩ (Nat.lt_of_lt_of_le (HBA.out _) hb2.size) (Ne.symm hn1)).trans k0
             have kf3 : w3.frozen? ⟨L.b, 0, none⟩ = false := (hgrow.frozen_far ⟨L.b, 0, none⟩ (Nat.lt_of_lt_of_le (HBA.out _) hb2.size) (Ne.symm hn1)).trans kf0))
        all_goals
          go_wp2_with fail
          go_meet
          case rel =>
            have hh : Built w2 base L1 R0 := (HB1.out.below ((Below.refl _ wc).alloc (Nat.le_refl _) _)).below hb2
            rw [← HA.out] at hgrow hlie
            have hg := hh.grow_rows hown3 hgrow hlie
            rw [HL1.out] at hg
            exact Lib.hid (GoesB.trans HL1.out (HT1.out.trans (Turns.of_below (P := fun _ => False) (((Below.refl _ wc).alloc (Nat.le_refl _) _).trans (hb2.mono (by rw [World.size_alloc]; omega)))) (fun x hx => hx.elim)) (fun k hk => HO1.out k hk) hg)
      case rest =>
        clear c0 f0 hbl hn1 hown hlow HV1 HV2 HBA HKK HKF HOA HVS HS1 HA HB1 HL1 HT1 HO1 HG1
        have HG1 := hcut; clear hcut
        obtain ⟨R1, hR1⟩ : ∃ R1 : St, R1 = { R0 with rows := R0.rows ++ VL.data.toList } := ⟨_, rfl⟩
        rw [← hR1] at HG1
        have HR1 := Lib.hid hR1; clear hR1
        obtain ⟨L1, hL1, hb1, ht1, ho1⟩ := HG1.out
        obtain ⟨⟨a, ca, ea⟩, -⟩ := hb1.shapes
        have c0 := hb1.c0
        have f0 := hb1.soft 0
        have hbl := heap_lt hb1.box
        have hn1 := hb1.box_ne.1
        have hown := hb1.rows
        have hlow : base ≤ wc.heap.size := Nat.le_of_lt (Nat.lt_of_le_of_lt hb1.low hbl)
        rw [ea] at c0 hn1 hown
        rw [hL1] at c0 f0 hbl hn1
        have HB1 := Lib.hid hb1; have HL1 := Lib.hid hL1; have HA := Lib.hid ea; have HT1 := Lib.hid ht1; have HO1 := Lib.hid ho1
        clear hb1 hL1 ht1 ho1 ea
        have HV1 : Hid (∀ W : World, Calls Try.prog 28 #[.slice (some ⟨W.heap.size, 0, none⟩) 2 2] (W.alloc (.cells #[.string (k.extract SH k.size), .string v] 9)).drew (Gives (.string ⟨(textl [k.extract SH k.size, v]).toArray⟩) (W.alloc (.cells #[.string (k.extract SH k.size), .string v] 9)).drew)) := Lib.hid fun W => HTX.out _ _ (seesS_heap2 (heap_alloc_new W _))
        have HVS : Hid (R1.rows.length + (⟨(textl [k.extract SH k.size, v]).toArray⟩ : ByteArray).size ≤ 100000000000) := Lib.hid (by
          have h1 := textl_length [k.extract SH k.size, v]
          have h2 : R1.rows.length ≤ 4200000000 + VL.size := by
            rw [HR1.out]
            show (R0.rows ++ VL.data.toList).length ≤ _
            rw [List.length_append, HR0.out, len]
            show s.rows.length + _ ≤ _
            have := HS.out.rows; have := HN.out; omega
          have h3 : VL.size ≤ 9 := by
            rw [← HVL.out]
            show (varl [SH]).toArray.size ≤ _
            have := varl_length [SH]
            rw [List.size_toArray]
            simpa using this
          have h4 : (k.extract SH k.size).size ≤ k.size := by rw [ByteArray.size_extract]; omega
          have h5 := HK.out
          have h6 := HV.out
          show _ + (textl _).toArray.size ≤ _
          rw [List.size_toArray]
          simp only [suml, List.length_cons, List.length_nil] at h1
          omega)
        generalize hTL : (⟨(textl [k.extract SH k.size, v]).toArray⟩ : ByteArray) = TL at *
        have HTL := Lib.hid hTL; clear hTL
        have hblA : ∀ o, L.b < (wc.alloc o).heap.size := fun o => by rw [World.size_alloc]; omega
        have kk : ∀ o, (wc.alloc o).cell? ⟨L.b, 0, none⟩ = some (.slice a R1.rows.length ca) := fun o => (((Below.refl _ wc).alloc (Nat.le_refl _) o).cell (p := ⟨L.b, 0, none⟩) hbl).trans c0
        have kf : ∀ o, (wc.alloc o).frozen? ⟨L.b, 0, none⟩ = false := fun o => (((Below.refl _ wc).alloc (Nat.le_refl _) o).frozen (p := ⟨L.b, 0, none⟩) hbl).trans f0
        have hownA : ∀ o, Owns (wc.alloc o) base (.slice a R1.rows.length ca) R1.rows := fun o => hown.alloc o
        have HBA := Lib.hid hblA; have HKK := Lib.hid kk; have HKF := Lib.hid kf; have HOA := Lib.hid hownA
        clear hblA kk kf hownA
        go_wp2_with fail
        go_cut [] from 71 to 84 (fun wr => Hid (GoesB base L w { R1 with rows := R1.rows ++ TL.data.toList } wr))
        case first =>
          have kk0 := HKK.out (.cells #[.string (k.extract SH k.size), .string v] 9)
          go_region_law (first
            | (go_simp; go_at_call 28; (with_reducible refine (HV1.out _).mono ?_); rintro e w2 ⟨rfl, hb2'⟩
               have hb2 := undrew hb2'
               have k0 : w2.cell? ⟨L.b, 0, none⟩ = some (.slice a R1.rows.length ca) := (hb2.cell (p := ⟨L.b, 0, none⟩) (HBA.out _)).trans (HKK.out _)
               have kf0 : w2.frozen? ⟨L.b, 0, none⟩ = false := (hb2.frozen (p := ⟨L.b, 0, none⟩) (HBA.out _)).trans (HKF.out _))
            | (refine step_append_str (by rfl) _ _ (by rfl) base (.slice a R1.rows.length ca) R1.rows (by rfl) (ownsRow_below (HOA.out _) hb2) TL (by rfl) HVS.out (Nat.le_trans (Nat.le_trans hlow (by rw [World.size_alloc]; omega)) hb2.size) ?_
               intro ao cap w3 hown3 hgrow hlie
               have k3 : w3.cell? ⟨L.b, 0, none⟩ = some (.slice a R1.rows.length ca) := (hgrow.cell_far ⟨L.b, 0, none⟩ (Nat.lt_of_lt_of_le (HBA.out _) hb2.size) (Ne.symm hn1)).trans k0
               have kf3 : w3.frozen? ⟨L.b, 0, none⟩ = false := (hgrow.frozen_far ⟨L.b, 0, none⟩ (Nat.lt_of_lt_of_le (HBA.out _) hb2.size) (Ne.symm hn1)).trans kf0))
          all_goals
            go_wp2_with fail
            go_meet
            case rel =>
              have hh : Built w2 base L1 R1 := (HB1.out.below ((Below.refl _ wc).alloc (Nat.le_refl _) _)).below hb2
              rw [← HA.out] at hgrow hlie
              have hg := hh.grow_rows hown3 hgrow hlie
              rw [HL1.out] at hg
              exact Lib.hid (GoesB.trans HL1.out (HT1.out.trans (Turns.of_below (P := fun _ => False) (((Below.refl _ wc).alloc (Nat.le_refl _) _).trans (hb2.mono (by rw [World.size_alloc]; omega)))) (fun x hx => hx.elim)) (fun k hk => HO1.out k hk) hg)
        case rest =>
          clear c0 f0 hbl hn1 hown hlow HV1 HBA HKK HKF HOA HVS HA HB1 HL1 HT1 HO1 HG1
          have HG1 := hcut; clear hcut
          obtain ⟨R2, hR2⟩ : ∃ R2 : St, R2 = { R1 with rows := R1.rows ++ TL.data.toList } := ⟨_, rfl⟩
          rw [← hR2] at HG1
          have HR2n : Hid (R2.n = s.n) := Lib.hid (by rw [hR2, HR1.out, HR0.out])
          have HE2 : Hid (({ R2 with n := s.n + 1, last := k } : St) = step s ⟨k, v⟩) := Lib.hid (by
            rw [hR2, HR1.out, HR0.out, ← HTL.out, ← HVL.out]
            show ({ rows := s.rows ++ varl [SH] ++ textl [k.extract SH k.size, v], foot := ftn s, n := s.n + 1, last := k } : St) = _
            unfold step one
            rw [← HSH.out, List.append_assoc, textl_pair, Lib.extract_to_end, varl_one'])
          clear hR2
          obtain ⟨L1, hL1, hb1, ht1, ho1⟩ := HG1.out
          have c2 := hb1.c2
          have f2 := hb1.soft 2
          rw [hL1, HR2n.out] at c2
          rw [hL1] at f2
          have hg2 := hb1.set_n (s.n + 1)
          have hnw : (s.n : Int) + 1 ≤ 2000001 := by have := HN.out; omega
          have hcast : ((s.n + 1 : Nat) : Int) = (s.n : Int) + 1 := by omega
          rw [hcast, hL1] at hg2
          have HG2 := Lib.hid (GoesB.trans hL1 ht1 ho1 hg2)
          clear hb1 hL1 ht1 ho1 hg2 hcast HG1
          go_wp2_with fail
          refine (HCL.out _).mono ?_
          rintro e w4 ⟨rfl, hb4⟩
          have HG4 := Lib.hid (HG2.out.below hb4)
          obtain ⟨L3, hL3, hb3, ht3, ho3⟩ := HG4.out
          have c3 := hb3.c3
          have f3 := hb3.soft 3
          rw [hL3] at c3 f3
          have hg5 := hb3.set_last k
          rw [hL3] at hg5
          have HG5 := Lib.hid (GoesB.trans hL3 ht3 ho3 hg5)
          clear hb3 hL3 ht3 ho3 hg5 hb4 HG2 HG4 c2 f2
          go_wp2_with fail
          go_ret
          rw [← HE2.out]
          exact ⟨rfl, HG5.out⟩
  · have hz : (0 : Int) < s.n := by omega
    obtain ⟨hx1, hx2⟩ := bl_leq (HLT.out.resolve_left h0)
    clear h0
    dsimp only at hx1 hx2
    by_cases hr : s.n % 4 = 0
    · have H0 : Hid (decide (s.n % 4 = 0) = true) := Lib.hid (decide_eq_true hr)
      have HC : Hid (SH = 0) := Lib.hid (by rw [HSH.out]; unfold sh; rw [if_pos hr])
      clear hr
      have HP := Lib.hid (fun W => placeRow_any s.rows.length W (by have := HS.out.rows; have := HN.out; omega))
      have HPS : Hid (s.foot.length + (place s.rows.length).size ≤ 100000000000) := Lib.hid (by rw [place_size, HS.out.foot]; have := HN.out; omega)
      have hbl := heap_lt HH.out.box
      obtain ⟨⟨a, ca, ea⟩, a2, ca2, ea2⟩ := HH.out.shapes
      have c0 := HH.out.c0
      have c1 := HH.out.c1
      have f1 := HH.out.soft 1
      rw [ea] at c0
      rw [ea2] at c1
      have hn2 := HH.out.box_ne.2
      have hown := HH.out.foot
      rw [ea2] at hn2 hown
      have HA2 := Lib.hid ea2; clear ea2 ea
      have hlow : base ≤ w.heap.size := Nat.le_of_lt (Nat.lt_of_le_of_lt HH.out.low hbl)
      go_enter Try.func11, Try.ntmps11
      go_wp2_with fail
      refine (HR.out _).mono ?_
      rintro e w1 ⟨rfl, rfl⟩
      rw [H0.out]
      go_wp2_with fail
      go_cut [7] from 39 to 58 (fun u wr => u = .int .i64 (SH : Int) ∧ Hid (GoesB base L w { s with foot := ftn s } wr))
      case first =>
        go_region_law (first
          | (go_simp; go_at_call 25; refine (HP.out _).mono ?_; rintro e w2 ⟨rfl, hb2'⟩
             have hb2 := undrew hb2'
             have k0 : w2.cell? ⟨L.b, 0, none⟩ = some (.slice a s.rows.length ca) := (hb2.cell (p := ⟨L.b, 0, none⟩) hbl).trans c0
             have k1 : w2.cell? ⟨L.b, 1, none⟩ = some (.slice a2 s.foot.length ca2) := (hb2.cell (p := ⟨L.b, 1, none⟩) hbl).trans c1
             have kf1 : w2.frozen? ⟨L.b, 1, none⟩ = false := (hb2.frozen (p := ⟨L.b, 1, none⟩) hbl).trans f1)
          | (refine step_append_str (by rfl) _ _ (by rfl) base (.slice a2 s.foot.length ca2) s.foot (by rfl) (ownsRow_below hown hb2) (place s.rows.length) (by rfl) HPS.out (Nat.le_trans hlow hb2.size) ?_
             intro ao cap w3 hown3 hgrow hlie
             have k3 : w3.cell? ⟨L.b, 1, none⟩ = some (.slice a2 s.foot.length ca2) := (hgrow.cell_far ⟨L.b, 1, none⟩ (Nat.lt_of_lt_of_le hbl hb2.size) (Ne.symm hn2)).trans k1
             have kf3 : w3.frozen? ⟨L.b, 1, none⟩ = false := (hgrow.frozen_far ⟨L.b, 1, none⟩ (Nat.lt_of_lt_of_le hbl hb2.size) (Ne.symm hn2)).trans kf1))
        all_goals
          go_wp2_with fail
          go_meet
          case rel =>
            refine ⟨by rw [HC.out]; rfl, Lib.hid ?_⟩
            have hh : Built w2 base L s := HH.out.below hb2
            rw [← HA2.out] at hgrow hlie
            have hg := hh.grow_foot hown3 hgrow hlie
            rw [show s.foot ++ (place s.rows.length).data.toList = ftn s by unfold ftn; rw [if_pos (of_decide_eq_true H0.out)]; rfl] at hg
            exact GoesB.trans (L1 := L) rfl (Turns.of_below hb2) (fun k hk => Or.inl hk) hg
      case rest =>
        obtain ⟨rfl, HG1⟩ := hcut
        clear c0 c1 f1 hn2 hown hbl c2 c3 hlow
        have hfoot : Hid (({ s with foot := ftn s } : St).rows = s.rows) := Lib.hid rfl
        obtain ⟨R0, hR0⟩ : ∃ R0 : St, R0 = { s with foot := ftn s } := ⟨_, rfl⟩
        rw [← hR0] at HG1
        have HR0 := Lib.hid hR0; clear hR0 hfoot
        obtain ⟨L1, hL1, hb1, ht1, ho1⟩ := HG1.out
        obtain ⟨⟨a, ca, ea⟩, -⟩ := hb1.shapes
        have c0 := hb1.c0
        have f0 := hb1.soft 0
        have hbl := heap_lt hb1.box
        have hn1 := hb1.box_ne.1
        have hown := hb1.rows
        have hlow : base ≤ wc.heap.size := Nat.le_of_lt (Nat.lt_of_le_of_lt hb1.low hbl)
        rw [ea] at c0 hn1 hown
        rw [hL1] at c0 f0 hbl hn1
        have HB1 := Lib.hid hb1; have HL1 := Lib.hid hL1; have HA := Lib.hid ea; have HT1 := Lib.hid ht1; have HO1 := Lib.hid ho1
        clear hb1 hL1 ht1 ho1 ea
        have HS1 : Hid (R0.rows.length ≤ 4200000000) := Lib.hid (by rw [HR0.out]; show s.rows.length ≤ _; have := HS.out.rows; have := HN.out; omega)
        have HV1 : Hid (∀ W : World, Calls Try.prog 27 #[.slice (some ⟨W.heap.size, 0, none⟩) 1 1] (W.alloc (.cells #[.int .u64 (SH : Int)] 58)).drew (Gives (.string ⟨(varl [SH]).toArray⟩) (W.alloc (.cells #[.int .u64 (SH : Int)] 58)).drew)) := Lib.hid fun W => HVR.out _ _ (seesU_heap1 (heap_alloc_new W _))
        have HV2 : Hid (∀ W : World, Calls Try.prog 27 #[.slice (some ⟨W.heap.size, 0, none⟩) 1 1] (W.alloc (.cells #[.int .u64 (SH : Int)] 58)) (Gives (.string ⟨(varl [SH]).toArray⟩) (W.alloc (.cells #[.int .u64 (SH : Int)] 58)))) := Lib.hid fun W => HVR.out _ _ (seesU_heap1 (heap_alloc_new W _))
        have HVS : Hid (R0.rows.length + (⟨(varl [SH]).toArray⟩ : ByteArray).size ≤ 100000000000) := Lib.hid (by
          have h1 := varl_length [SH]
          have h2 := HS1.out
          show _ + (varl [SH]).toArray.size ≤ _
          rw [List.size_toArray]
          simp at h1
          omega)
        generalize hVL : (⟨(varl [SH]).toArray⟩ : ByteArray) = VL at *
        have HVL := Lib.hid hVL; clear hVL
        have hblA : ∀ o, L.b < (wc.alloc o).heap.size := fun o => by rw [World.size_alloc]; omega
        have kk : ∀ o, (wc.alloc o).cell? ⟨L.b, 0, none⟩ = some (.slice a R0.rows.length ca) := fun o => (((Below.refl _ wc).alloc (Nat.le_refl _) o).cell (p := ⟨L.b, 0, none⟩) hbl).trans c0
        have kf : ∀ o, (wc.alloc o).frozen? ⟨L.b, 0, none⟩ = false := fun o => (((Below.refl _ wc).alloc (Nat.le_refl _) o).frozen (p := ⟨L.b, 0, none⟩) hbl).trans f0
        have hownA : ∀ o, Owns (wc.alloc o) base (.slice a R0.rows.length ca) R0.rows := fun o => hown.alloc o
        have HBA := Lib.hid hblA; have HKK := Lib.hid kk; have HKF := Lib.hid kf; have HOA := Lib.hid hownA
        clear hblA kk kf hownA
        go_wp2_with fail
        go_cut [] from 59 to 70 (fun wr => Hid (GoesB base L w { R0 with rows := R0.rows ++ VL.data.toList } wr))
        case first =>
          have kk0 := HKK.out (.cells #[.int .u64 (SH : Int)] 58)
          go_region_law (first
            | (go_simp; go_at_call 27; (with_reducible first | refine (HV1.out _).mono ?_ | refine (HV2.out _).mono ?_); rintro e w2 ⟨rfl, hb2'⟩
               have hb2 := undrew hb2'
               have k0 : w2.cell? ⟨L.b, 0, none⟩ = some (.slice a R0.rows.length ca) := (hb2.cell (p := ⟨L.b, 0, none⟩) (HBA.out _)).trans (HKK.out _)
               have kf0 : w2.frozen? ⟨L.b, 0, none⟩ = false := (hb2.frozen (p := ⟨L.b, 0, none⟩) (HBA.out _)).trans (HKF.out _))
            | (refine step_append_str (by rfl) _ _ (by rfl) base (.slice a R0.rows.length ca) R0.rows (by rfl) (ownsRow_below (HOA.out _) hb2) VL (by rfl) HVS.out (Nat.le_trans (Nat.le_trans hlow (by rw [World.size_alloc]; omega)) hb2.size) ?_
               intro ao cap w3 hown3 hgrow hlie
               have k3 : w3.cell? ⟨L.b, 0, none⟩ = some (.slice a R0.rows.length ca) := (hgrow.cell_far ⟨L.b, 0, none⟩ (Nat.lt_of_lt_of_le (HBA.out _) hb2.size) (Ne.symm hn1)).trans k0
               have kf3 : w3.frozen? ⟨L.b, 0, none⟩ = false := (hgrow.frozen_far ⟨L.b, 0, none⟩ (Nat.lt_of_lt_of_le (HBA.out _) hb2.size) (Ne.symm hn1)).trans kf0))
          all_goals
            go_wp2_with fail
            go_meet
            case rel =>
              have hh : Built w2 base L1 R0 := (HB1.out.below ((Below.refl _ wc).alloc (Nat.le_refl _) _)).below hb2
              rw [← HA.out] at hgrow hlie
              have hg := hh.grow_rows hown3 hgrow hlie
              rw [HL1.out] at hg
              exact Lib.hid (GoesB.trans HL1.out (HT1.out.trans (Turns.of_below (P := fun _ => False) (((Below.refl _ wc).alloc (Nat.le_refl _) _).trans (hb2.mono (by rw [World.size_alloc]; omega)))) (fun x hx => hx.elim)) (fun k hk => HO1.out k hk) hg)
        case rest =>
          clear c0 f0 hbl hn1 hown hlow HV1 HV2 HBA HKK HKF HOA HVS HS1 HA HB1 HL1 HT1 HO1 HG1
          have HG1 := hcut; clear hcut
          obtain ⟨R1, hR1⟩ : ∃ R1 : St, R1 = { R0 with rows := R0.rows ++ VL.data.toList } := ⟨_, rfl⟩
          rw [← hR1] at HG1
          have HR1 := Lib.hid hR1; clear hR1
          obtain ⟨L1, hL1, hb1, ht1, ho1⟩ := HG1.out
          obtain ⟨⟨a, ca, ea⟩, -⟩ := hb1.shapes
          have c0 := hb1.c0
          have f0 := hb1.soft 0
          have hbl := heap_lt hb1.box
          have hn1 := hb1.box_ne.1
          have hown := hb1.rows
          have hlow : base ≤ wc.heap.size := Nat.le_of_lt (Nat.lt_of_le_of_lt hb1.low hbl)
          rw [ea] at c0 hn1 hown
          rw [hL1] at c0 f0 hbl hn1
          have HB1 := Lib.hid hb1; have HL1 := Lib.hid hL1; have HA := Lib.hid ea; have HT1 := Lib.hid ht1; have HO1 := Lib.hid ho1
          clear hb1 hL1 ht1 ho1 ea
          have HV1 : Hid (∀ W : World, Calls Try.prog 28 #[.slice (some ⟨W.heap.size, 0, none⟩) 2 2] (W.alloc (.cells #[.string (k.extract SH k.size), .string v] 9)).drew (Gives (.string ⟨(textl [k.extract SH k.size, v]).toArray⟩) (W.alloc (.cells #[.string (k.extract SH k.size), .string v] 9)).drew)) := Lib.hid fun W => HTX.out _ _ (seesS_heap2 (heap_alloc_new W _))
          have HVS : Hid (R1.rows.length + (⟨(textl [k.extract SH k.size, v]).toArray⟩ : ByteArray).size ≤ 100000000000) := Lib.hid (by
            have h1 := textl_length [k.extract SH k.size, v]
            have h2 : R1.rows.length ≤ 4200000000 + VL.size := by
              rw [HR1.out]
              show (R0.rows ++ VL.data.toList).length ≤ _
              rw [List.length_append, HR0.out, len]
              show s.rows.length + _ ≤ _
              have := HS.out.rows; have := HN.out; omega
            have h3 : VL.size ≤ 9 := by
              rw [← HVL.out]
              show (varl [SH]).toArray.size ≤ _
              have := varl_length [SH]
              rw [List.size_toArray]
              simpa using this
            have h4 : (k.extract SH k.size).size ≤ k.size := by rw [ByteArray.size_extract]; omega
            have h5 := HK.out
            have h6 := HV.out
            show _ + (textl _).toArray.size ≤ _
            rw [List.size_toArray]
            simp only [suml, List.length_cons, List.length_nil] at h1
            omega)
          generalize hTL : (⟨(textl [k.extract SH k.size, v]).toArray⟩ : ByteArray) = TL at *
          have HTL := Lib.hid hTL; clear hTL
          have hblA : ∀ o, L.b < (wc.alloc o).heap.size := fun o => by rw [World.size_alloc]; omega
          have kk : ∀ o, (wc.alloc o).cell? ⟨L.b, 0, none⟩ = some (.slice a R1.rows.length ca) := fun o => (((Below.refl _ wc).alloc (Nat.le_refl _) o).cell (p := ⟨L.b, 0, none⟩) hbl).trans c0
          have kf : ∀ o, (wc.alloc o).frozen? ⟨L.b, 0, none⟩ = false := fun o => (((Below.refl _ wc).alloc (Nat.le_refl _) o).frozen (p := ⟨L.b, 0, none⟩) hbl).trans f0
          have hownA : ∀ o, Owns (wc.alloc o) base (.slice a R1.rows.length ca) R1.rows := fun o => hown.alloc o
          have HBA := Lib.hid hblA; have HKK := Lib.hid kk; have HKF := Lib.hid kf; have HOA := Lib.hid hownA
          clear hblA kk kf hownA
          go_wp2_with fail
          go_cut [] from 71 to 84 (fun wr => Hid (GoesB base L w { R1 with rows := R1.rows ++ TL.data.toList } wr))
          case first =>
            have kk0 := HKK.out (.cells #[.string (k.extract SH k.size), .string v] 9)
            go_region_law (first
              | (go_simp; go_at_call 28; (with_reducible refine (HV1.out _).mono ?_); rintro e w2 ⟨rfl, hb2'⟩
                 have hb2 := undrew hb2'
                 have k0 : w2.cell? ⟨L.b, 0, none⟩ = some (.slice a R1.rows.length ca) := (hb2.cell (p := ⟨L.b, 0, none⟩) (HBA.out _)).trans (HKK.out _)
                 have kf0 : w2.frozen? ⟨L.b, 0, none⟩ = false := (hb2.frozen (p := ⟨L.b, 0, none⟩) (HBA.out _)).trans (HKF.out _))
              | (refine step_append_str (by rfl) _ _ (by rfl) base (.slice a R1.rows.length ca) R1.rows (by rfl) (ownsRow_below (HOA.out _) hb2) TL (by rfl) HVS.out (Nat.le_trans (Nat.le_trans hlow (by rw [World.size_alloc]; omega)) hb2.size) ?_
                 intro ao cap w3 hown3 hgrow hlie
                 have k3 : w3.cell? ⟨L.b, 0, none⟩ = some (.slice a R1.rows.length ca) := (hgrow.cell_far ⟨L.b, 0, none⟩ (Nat.lt_of_lt_of_le (HBA.out _) hb2.size) (Ne.symm hn1)).trans k0
                 have kf3 : w3.frozen? ⟨L.b, 0, none⟩ = false := (hgrow.frozen_far ⟨L.b, 0, none⟩ (Nat.lt_of_lt_of_le (HBA.out _) hb2.size) (Ne.symm hn1)).trans kf0))
            all_goals
              go_wp2_with fail
              go_meet
              case rel =>
                have hh : Built w2 base L1 R1 := (HB1.out.below ((Below.refl _ wc).alloc (Nat.le_refl _) _)).below hb2
                rw [← HA.out] at hgrow hlie
                have hg := hh.grow_rows hown3 hgrow hlie
                rw [HL1.out] at hg
                exact Lib.hid (GoesB.trans HL1.out (HT1.out.trans (Turns.of_below (P := fun _ => False) (((Below.refl _ wc).alloc (Nat.le_refl _) _).trans (hb2.mono (by rw [World.size_alloc]; omega)))) (fun x hx => hx.elim)) (fun k hk => HO1.out k hk) hg)
          case rest =>
            clear c0 f0 hbl hn1 hown hlow HV1 HBA HKK HKF HOA HVS HA HB1 HL1 HT1 HO1 HG1
            have HG1 := hcut; clear hcut
            obtain ⟨R2, hR2⟩ : ∃ R2 : St, R2 = { R1 with rows := R1.rows ++ TL.data.toList } := ⟨_, rfl⟩
            rw [← hR2] at HG1
            have HR2n : Hid (R2.n = s.n) := Lib.hid (by rw [hR2, HR1.out, HR0.out])
            have HE2 : Hid (({ R2 with n := s.n + 1, last := k } : St) = step s ⟨k, v⟩) := Lib.hid (by
              rw [hR2, HR1.out, HR0.out, ← HTL.out, ← HVL.out]
              show ({ rows := s.rows ++ varl [SH] ++ textl [k.extract SH k.size, v], foot := ftn s, n := s.n + 1, last := k } : St) = _
              unfold step one
              rw [← HSH.out, List.append_assoc, textl_pair, Lib.extract_to_end, varl_one'])
            clear hR2
            obtain ⟨L1, hL1, hb1, ht1, ho1⟩ := HG1.out
            have c2 := hb1.c2
            have f2 := hb1.soft 2
            rw [hL1, HR2n.out] at c2
            rw [hL1] at f2
            have hg2 := hb1.set_n (s.n + 1)
            have hnw : (s.n : Int) + 1 ≤ 2000001 := by have := HN.out; omega
            have hcast : ((s.n + 1 : Nat) : Int) = (s.n : Int) + 1 := by omega
            rw [hcast, hL1] at hg2
            have HG2 := Lib.hid (GoesB.trans hL1 ht1 ho1 hg2)
            clear hb1 hL1 ht1 ho1 hg2 hcast HG1
            go_wp2_with fail
            refine (HCL.out _).mono ?_
            rintro e w4 ⟨rfl, hb4⟩
            have HG4 := Lib.hid (HG2.out.below hb4)
            obtain ⟨L3, hL3, hb3, ht3, ho3⟩ := HG4.out
            have c3 := hb3.c3
            have f3 := hb3.soft 3
            rw [hL3] at c3 f3
            have hg5 := hb3.set_last k
            rw [hL3] at hg5
            have HG5 := Lib.hid (GoesB.trans hL3 ht3 ho3 hg5)
            clear hb3 hL3 ht3 ho3 hg5 hb4 HG2 HG4 c2 f2
            go_wp2_with fail
            go_ret
            rw [← HE2.out]
            exact ⟨rfl, HG5.out⟩
    · have H0 : Hid (decide (s.n % 4 = 0) = false) := Lib.hid (decide_eq_false hr)
      have HC : Hid (SH = cm s.last.data.toList k.data.toList) := Lib.hid (by rw [HSH.out]; unfold sh; rw [if_neg hr])
      clear hr
      have HCM := Lib.hid (fun W => common_any s.last k W (by have := HS.out.last; omega) (by have := HK.out; omega))
      rw [← HC.out] at HCM
      go_enter Try.func11, Try.ntmps11
      go_wp2_with fail
      refine (HR.out _).mono ?_
      rintro e w1 ⟨rfl, rfl⟩
      rw [H0.out]
      go_wp2_with fail
      refine (HCM.out _).mono ?_
      rintro e wc ⟨rfl, hbc⟩
      have HG1 : Hid (GoesB base L w { s with foot := ftn s } wc) := Lib.hid (by
        rw [show ({ s with foot := ftn s } : St) = s by unfold ftn; rw [if_neg (of_decide_eq_false H0.out)]]
        exact (GoesB.refl HH.out).below hbc)
      clear hbc c2 c3
      have hfoot : Hid (({ s with foot := ftn s } : St).rows = s.rows) := Lib.hid rfl
      obtain ⟨R0, hR0⟩ : ∃ R0 : St, R0 = { s with foot := ftn s } := ⟨_, rfl⟩
      rw [← hR0] at HG1
      have HR0 := Lib.hid hR0; clear hR0 hfoot
      obtain ⟨L1, hL1, hb1, ht1, ho1⟩ := HG1.out
      obtain ⟨⟨a, ca, ea⟩, -⟩ := hb1.shapes
      have c0 := hb1.c0
      have f0 := hb1.soft 0
      have hbl := heap_lt hb1.box
      have hn1 := hb1.box_ne.1
      have hown := hb1.rows
      have hlow : base ≤ wc.heap.size := Nat.le_of_lt (Nat.lt_of_le_of_lt hb1.low hbl)
      rw [ea] at c0 hn1 hown
      rw [hL1] at c0 f0 hbl hn1
      have HB1 := Lib.hid hb1; have HL1 := Lib.hid hL1; have HA := Lib.hid ea; have HT1 := Lib.hid ht1; have HO1 := Lib.hid ho1
      clear hb1 hL1 ht1 ho1 ea
      have HS1 : Hid (R0.rows.length ≤ 4200000000) := Lib.hid (by rw [HR0.out]; show s.rows.length ≤ _; have := HS.out.rows; have := HN.out; omega)
      have HV1 : Hid (∀ W : World, Calls Try.prog 27 #[.slice (some ⟨W.heap.size, 0, none⟩) 1 1] (W.alloc (.cells #[.int .u64 (SH : Int)] 58)).drew (Gives (.string ⟨(varl [SH]).toArray⟩) (W.alloc (.cells #[.int .u64 (SH : Int)] 58)).drew)) := Lib.hid fun W => HVR.out _ _ (seesU_heap1 (heap_alloc_new W _))
      have HV2 : Hid (∀ W : World, Calls Try.prog 27 #[.slice (some ⟨W.heap.size, 0, none⟩) 1 1] (W.alloc (.cells #[.int .u64 (SH : Int)] 58)) (Gives (.string ⟨(varl [SH]).toArray⟩) (W.alloc (.cells #[.int .u64 (SH : Int)] 58)))) := Lib.hid fun W => HVR.out _ _ (seesU_heap1 (heap_alloc_new W _))
      have HVS : Hid (R0.rows.length + (⟨(varl [SH]).toArray⟩ : ByteArray).size ≤ 100000000000) := Lib.hid (by
        have h1 := varl_length [SH]
        have h2 := HS1.out
        show _ + (varl [SH]).toArray.size ≤ _
        rw [List.size_toArray]
        simp at h1
        omega)
      generalize hVL : (⟨(varl [SH]).toArray⟩ : ByteArray) = VL at *
      have HVL := Lib.hid hVL; clear hVL
      have hblA : ∀ o, L.b < (wc.alloc o).heap.size := fun o => by rw [World.size_alloc]; omega
      have kk : ∀ o, (wc.alloc o).cell? ⟨L.b, 0, none⟩ = some (.slice a R0.rows.length ca) := fun o => (((Below.refl _ wc).alloc (Nat.le_refl _) o).cell (p := ⟨L.b, 0, none⟩) hbl).trans c0
      have kf : ∀ o, (wc.alloc o).frozen? ⟨L.b, 0, none⟩ = false := fun o => (((Below.refl _ wc).alloc (Nat.le_refl _) o).frozen (p := ⟨L.b, 0, none⟩) hbl).trans f0
      have hownA : ∀ o, Owns (wc.alloc o) base (.slice a R0.rows.length ca) R0.rows := fun o => hown.alloc o
      have HBA := Lib.hid hblA; have HKK := Lib.hid kk; have HKF := Lib.hid kf; have HOA := Lib.hid hownA
      clear hblA kk kf hownA
      go_wp2_with fail
      go_cut [] from 59 to 70 (fun wr => Hid (GoesB base L w { R0 with rows := R0.rows ++ VL.data.toList } wr))
      case first =>
        have kk0 := HKK.out (.cells #[.int .u64 (SH : Int)] 58)
        go_region_law (first
          | (go_simp; go_at_call 27; (with_reducible first | refine (HV1.out _).mono ?_ | refine (HV2.out _).mono ?_); rintro e w2 ⟨rfl, hb2'⟩
             have hb2 := undrew hb2'
             have k0 : w2.cell? ⟨L.b, 0, none⟩ = some (.slice a R0.rows.length ca) := (hb2.cell (p := ⟨L.b, 0, none⟩) (HBA.out _)).trans (HKK.out _)
             have kf0 : w2.frozen? ⟨L.b, 0, none⟩ = false := (hb2.frozen (p := ⟨L.b, 0, none⟩) (HBA.out _)).trans (HKF.out _))
          | (refine step_append_str (by rfl) _ _ (by rfl) base (.slice a R0.rows.length ca) R0.rows (by rfl) (ownsRow_below (HOA.out _) hb2) VL (by rfl) HVS.out (Nat.le_trans (Nat.le_trans hlow (by rw [World.size_alloc]; omega)) hb2.size) ?_
             intro ao cap w3 hown3 hgrow hlie
             have k3 : w3.cell? ⟨L.b, 0, none⟩ = some (.slice a R0.rows.length ca) := (hgrow.cell_far ⟨L.b, 0, none⟩ (Nat.lt_of_lt_of_le (HBA.out _) hb2.size) (Ne.symm hn1)).trans k0
             have kf3 : w3.frozen? ⟨L.b, 0, none⟩ = false := (hgrow.frozen_far ⟨L.b, 0, none⟩ (Nat.lt_of_lt_of_le (HBA.out _) hb2.size) (Ne.symm hn1)).trans kf0))
        all_goals
          go_wp2_with fail
          go_meet
          case rel =>
            have hh : Built w2 base L1 R0 := (HB1.out.below ((Below.refl _ wc).alloc (Nat.le_refl _) _)).below hb2
            rw [← HA.out] at hgrow hlie
            have hg := hh.grow_rows hown3 hgrow hlie
            rw [HL1.out] at hg
            exact Lib.hid (GoesB.trans HL1.out (HT1.out.trans (Turns.of_below (P := fun _ => False) (((Below.refl _ wc).alloc (Nat.le_refl _) _).trans (hb2.mono (by rw [World.size_alloc]; omega)))) (fun x hx => hx.elim)) (fun k hk => HO1.out k hk) hg)
      case rest =>
        clear c0 f0 hbl hn1 hown hlow HV1 HV2 HBA HKK HKF HOA HVS HS1 HA HB1 HL1 HT1 HO1 HG1
        have HG1 := hcut; clear hcut
        obtain ⟨R1, hR1⟩ : ∃ R1 : St, R1 = { R0 with rows := R0.rows ++ VL.data.toList } := ⟨_, rfl⟩
        rw [← hR1] at HG1
        have HR1 := Lib.hid hR1; clear hR1
        obtain ⟨L1, hL1, hb1, ht1, ho1⟩ := HG1.out
        obtain ⟨⟨a, ca, ea⟩, -⟩ := hb1.shapes
        have c0 := hb1.c0
        have f0 := hb1.soft 0
        have hbl := heap_lt hb1.box
        have hn1 := hb1.box_ne.1
        have hown := hb1.rows
        have hlow : base ≤ wc.heap.size := Nat.le_of_lt (Nat.lt_of_le_of_lt hb1.low hbl)
        rw [ea] at c0 hn1 hown
        rw [hL1] at c0 f0 hbl hn1
        have HB1 := Lib.hid hb1; have HL1 := Lib.hid hL1; have HA := Lib.hid ea; have HT1 := Lib.hid ht1; have HO1 := Lib.hid ho1
        clear hb1 hL1 ht1 ho1 ea
        have HV1 : Hid (∀ W : World, Calls Try.prog 28 #[.slice (some ⟨W.heap.size, 0, none⟩) 2 2] (W.alloc (.cells #[.string (k.extract SH k.size), .string v] 9)).drew (Gives (.string ⟨(textl [k.extract SH k.size, v]).toArray⟩) (W.alloc (.cells #[.string (k.extract SH k.size), .string v] 9)).drew)) := Lib.hid fun W => HTX.out _ _ (seesS_heap2 (heap_alloc_new W _))
        have HVS : Hid (R1.rows.length + (⟨(textl [k.extract SH k.size, v]).toArray⟩ : ByteArray).size ≤ 100000000000) := Lib.hid (by
          have h1 := textl_length [k.extract SH k.size, v]
          have h2 : R1.rows.length ≤ 4200000000 + VL.size := by
            rw [HR1.out]
            show (R0.rows ++ VL.data.toList).length ≤ _
            rw [List.length_append, HR0.out, len]
            show s.rows.length + _ ≤ _
            have := HS.out.rows; have := HN.out; omega
          have h3 : VL.size ≤ 9 := by
            rw [← HVL.out]
            show (varl [SH]).toArray.size ≤ _
            have := varl_length [SH]
            rw [List.size_toArray]
            simpa using this
          have h4 : (k.extract SH k.size).size ≤ k.size := by rw [ByteArray.size_extract]; omega
          have h5 := HK.out
          have h6 := HV.out
          show _ + (textl _).toArray.size ≤ _
          rw [List.size_toArray]
          simp only [suml, List.length_cons, List.length_nil] at h1
          omega)
        generalize hTL : (⟨(textl [k.extract SH k.size, v]).toArray⟩ : ByteArray) = TL at *
        have HTL := Lib.hid hTL; clear hTL
        have hblA : ∀ o, L.b < (wc.alloc o).heap.size := fun o => by rw [World.size_alloc]; omega
        have kk : ∀ o, (wc.alloc o).cell? ⟨L.b, 0, none⟩ = some (.slice a R1.rows.length ca) := fun o => (((Below.refl _ wc).alloc (Nat.le_refl _) o).cell (p := ⟨L.b, 0, none⟩) hbl).trans c0
        have kf : ∀ o, (wc.alloc o).frozen? ⟨L.b, 0, none⟩ = false := fun o => (((Below.refl _ wc).alloc (Nat.le_refl _) o).frozen (p := ⟨L.b, 0, none⟩) hbl).trans f0
        have hownA : ∀ o, Owns (wc.alloc o) base (.slice a R1.rows.length ca) R1.rows := fun o => hown.alloc o
        have HBA := Lib.hid hblA; have HKK := Lib.hid kk; have HKF := Lib.hid kf; have HOA := Lib.hid hownA
        clear hblA kk kf hownA
        go_wp2_with fail
        go_cut [] from 71 to 84 (fun wr => Hid (GoesB base L w { R1 with rows := R1.rows ++ TL.data.toList } wr))
        case first =>
          have kk0 := HKK.out (.cells #[.string (k.extract SH k.size), .string v] 9)
          go_region_law (first
            | (go_simp; go_at_call 28; (with_reducible refine (HV1.out _).mono ?_); rintro e w2 ⟨rfl, hb2'⟩
               have hb2 := undrew hb2'
               have k0 : w2.cell? ⟨L.b, 0, none⟩ = some (.slice a R1.rows.length ca) := (hb2.cell (p := ⟨L.b, 0, none⟩) (HBA.out _)).trans (HKK.out _)
               have kf0 : w2.frozen? ⟨L.b, 0, none⟩ = false := (hb2.frozen (p := ⟨L.b, 0, none⟩) (HBA.out _)).trans (HKF.out _))
            | (refine step_append_str (by rfl) _ _ (by rfl) base (.slice a R1.rows.length ca) R1.rows (by rfl) (ownsRow_below (HOA.out _) hb2) TL (by rfl) HVS.out (Nat.le_trans (Nat.le_trans hlow (by rw [World.size_alloc]; omega)) hb2.size) ?_
               intro ao cap w3 hown3 hgrow hlie
               have k3 : w3.cell? ⟨L.b, 0, none⟩ = some (.slice a R1.rows.length ca) := (hgrow.cell_far ⟨L.b, 0, none⟩ (Nat.lt_of_lt_of_le (HBA.out _) hb2.size) (Ne.symm hn1)).trans k0
               have kf3 : w3.frozen? ⟨L.b, 0, none⟩ = false := (hgrow.frozen_far ⟨L.b, 0, none⟩ (Nat.lt_of_lt_of_le (HBA.out _) hb2.size) (Ne.symm hn1)).trans kf0))
          all_goals
            go_wp2_with fail
            go_meet
            case rel =>
              have hh : Built w2 base L1 R1 := (HB1.out.below ((Below.refl _ wc).alloc (Nat.le_refl _) _)).below hb2
              rw [← HA.out] at hgrow hlie
              have hg := hh.grow_rows hown3 hgrow hlie
              rw [HL1.out] at hg
              exact Lib.hid (GoesB.trans HL1.out (HT1.out.trans (Turns.of_below (P := fun _ => False) (((Below.refl _ wc).alloc (Nat.le_refl _) _).trans (hb2.mono (by rw [World.size_alloc]; omega)))) (fun x hx => hx.elim)) (fun k hk => HO1.out k hk) hg)
        case rest =>
          clear c0 f0 hbl hn1 hown hlow HV1 HBA HKK HKF HOA HVS HA HB1 HL1 HT1 HO1 HG1
          have HG1 := hcut; clear hcut
          obtain ⟨R2, hR2⟩ : ∃ R2 : St, R2 = { R1 with rows := R1.rows ++ TL.data.toList } := ⟨_, rfl⟩
          rw [← hR2] at HG1
          have HR2n : Hid (R2.n = s.n) := Lib.hid (by rw [hR2, HR1.out, HR0.out])
          have HE2 : Hid (({ R2 with n := s.n + 1, last := k } : St) = step s ⟨k, v⟩) := Lib.hid (by
            rw [hR2, HR1.out, HR0.out, ← HTL.out, ← HVL.out]
            show ({ rows := s.rows ++ varl [SH] ++ textl [k.extract SH k.size, v], foot := ftn s, n := s.n + 1, last := k } : St) = _
            unfold step one
            rw [← HSH.out, List.append_assoc, textl_pair, Lib.extract_to_end, varl_one'])
          clear hR2
          obtain ⟨L1, hL1, hb1, ht1, ho1⟩ := HG1.out
          have c2 := hb1.c2
          have f2 := hb1.soft 2
          rw [hL1, HR2n.out] at c2
          rw [hL1] at f2
          have hg2 := hb1.set_n (s.n + 1)
          have hnw : (s.n : Int) + 1 ≤ 2000001 := by have := HN.out; omega
          have hcast : ((s.n + 1 : Nat) : Int) = (s.n : Int) + 1 := by omega
          rw [hcast, hL1] at hg2
          have HG2 := Lib.hid (GoesB.trans hL1 ht1 ho1 hg2)
          clear hb1 hL1 ht1 ho1 hg2 hcast HG1
          go_wp2_with fail
          refine (HCL.out _).mono ?_
          rintro e w4 ⟨rfl, hb4⟩
          have HG4 := Lib.hid (HG2.out.below hb4)
          obtain ⟨L3, hL3, hb3, ht3, ho3⟩ := HG4.out
          have c3 := hb3.c3
          have f3 := hb3.soft 3
          rw [hL3] at c3 f3
          have hg5 := hb3.set_last k
          rw [hL3] at hg5
          have HG5 := Lib.hid (GoesB.trans hL3 ht3 ho3 hg5)
          clear hb3 hL3 ht3 ho3 hg5 hb4 HG2 HG4 c2 f2
          go_wp2_with fail
          go_ret
          rw [← HE2.out]
          exact ⟨rfl, HG5.out⟩
end
end Go.Proofs.Ytjpmcphfiiiecaa.Bo

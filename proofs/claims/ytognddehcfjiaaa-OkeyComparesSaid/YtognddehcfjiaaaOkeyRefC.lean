/- The walk of the document's own Compare for layer 2. -/
import Derived.Test.YtognddehcfjiaaaOkeyRefB
namespace Go.Proofs.Ytognddehcfjiaaa
open Go.RowKit
set_option linter.unusedVariables false

set_option maxRecDepth 100000 in
set_option maxHeartbeats 4000000 in
theorem refCompare_any (ao bo : Option Addr) (la ca lb cb : Nat) (xs ys : List Pt) (w : World) (hA : SeesP w (.slice ao la ca) xs) (hB : SeesP w (.slice bo lb cb) ys) (hla : la ≤ 1000000) (hlb : lb ≤ 1000000)
    (hnx : ∀ i, (xs.getD i pd).n < 18446744073709551616) (hny : ∀ i, (ys.getD i pd).n < 18446744073709551616) (hsx : ∀ i, (xs.getD i pd).s.size ≤ 1000000000) (hsy : ∀ i, (ys.getD i pd).s.size ≤ 1000000000) :
    Calls Try.prog 21 #[.slice ao la ca, .slice bo lb cb] w (Gives (.int .i64 (cmpL xs ys)) w) := by
  obtain ⟨hlenA, ba, offa, hcA⟩ := hA.get
  obtain ⟨hlenB, bb, offb, hcB⟩ := hB.get
  clear hA hB
  have HLA := Lib.hid hlenA; have HLB := Lib.hid hlenB; have HCA := Lib.hid hcA; have HCB := Lib.hid hcB
  have HNX := Lib.hid hnx; have HNY := Lib.hid hny; have HSX := Lib.hid hsx; have HSY := Lib.hid hsy
  clear hlenA hlenB hcA hcB hnx hny hsx hsy
  have H0 : Hid (cmpL xs ys = cmpL (xs.drop 0) (ys.drop 0)) := rfl
  generalize hR : cmpL xs ys = R at *
  clear hR
  go_enter Try.func21, Try.ntmps21
  go_wp2_with fail
  go_loopw [5] (fun i wr => ∃ k : Nat, k ≤ la ∧ k ≤ lb ∧ i = .int .i64 k ∧ R = cmpL (xs.drop k) (ys.drop k) ∧ Below w.heap.size w wr) (fun i _ => la - (intOf i).toNat)
  case atStart => exact ⟨0, Nat.zero_le _, Nat.zero_le _, rfl, H0.out, Below.refl _ _⟩
  case round =>
    obtain ⟨k, hka, hkb, rfl, hR, hbel⟩ := hrel
    have HR := Lib.hid hR; clear hR H0
    have hsz := hbel.size
    by_cases hlt : k < la
    · by_cases hlt2 : k < lb
      · obtain ⟨rfl, hba, hpa⟩ := HCA.out k hlt
        obtain ⟨c0, c1, c2⟩ := hpa.below hbel hba
        obtain ⟨rfl, hbb, hpb⟩ := HCB.out k hlt2
        obtain ⟨d0, d1, d2⟩ := hpb.below hbel hbb
        have hba' : ba < wr.heap.size := by omega
        have hbb' : bb < wr.heap.size := by omega
        have HS : Hid (cmpL (xs.drop k) (ys.drop k) = if cmpPt (xs.getD k pd) (ys.getD k pd) = 0 then cmpL (xs.drop (k + 1)) (ys.drop (k + 1)) else cmpPt (xs.getD k pd) (ys.getD k pd)) := cmpL_step xs ys k (by rw [HLA.out]; exact hlt) (by rw [HLB.out]; exact hlt2)
        have HT := Lib.hid (cmpPt_cases (xs.getD k pd) (ys.getD k pd) (HNX.out k) (HNY.out k))
        have HP := Lib.hid (fun W => refAhead_any (xs.getD k pd) (ys.getD k pd) W (HSX.out k) (HSY.out k))
        have HQ := Lib.hid (fun W => refAhead_any (ys.getD k pd) (xs.getD k pd) W (HSY.out k) (HSX.out k))
        clear hpa hpb
        have hk0 : (0 : Int) ≤ (k : Int) := by omega
        have hk1 : (k : Int) < (la : Int) := by omega
        have hk2 : (k : Int) < (lb : Int) := by omega
        generalize xs.getD k pd = x at *
        generalize ys.getD k pd = y at *
        unfold partV at HP HQ
        rcases HT.out with ⟨h1, h2, _⟩ | ⟨h1, h2, _⟩ | ⟨h1, h2, _⟩
        · have HS2 : Hid (cmpL (xs.drop k) (ys.drop k) = cmpL (xs.drop (k + 1)) (ys.drop (k + 1))) := by rw [HS.out, if_pos h1]; exact rfl
          rw [h1] at HP
          rw [h2] at HQ
          have e : decide ((0 : Int) = -1) = false := by decide
          rw [e] at HP HQ
          clear h1 h2 HS HT e
          go_wp2_with fail
          go_region_held3 (fun w' => (w'.cell? ⟨ba, offa + k * 3, none⟩ = some (.bool x.t) ∧ w'.cell? ⟨ba, offa + k * 3 + 1, none⟩ = some (.string x.s) ∧ w'.cell? ⟨ba, offa + k * 3 + 2, none⟩ = some (.int .u64 x.n)) ∧ (w'.cell? ⟨bb, offb + k * 3, none⟩ = some (.bool y.t) ∧ w'.cell? ⟨bb, offb + k * 3 + 1, none⟩ = some (.string y.s) ∧ w'.cell? ⟨bb, offb + k * 3 + 2, none⟩ = some (.int .u64 y.n)))
            (first
              | go_keep
              | (go_split_ands
                 refine ⟨⟨?_, ?_, ?_⟩, ⟨?_, ?_, ?_⟩⟩
                 · (rw [hb1.cell (p := ⟨ba, offa + k * 3, none⟩) hba']; assumption)
                 · (rw [hb1.cell (p := ⟨ba, offa + k * 3 + 1, none⟩) hba']; assumption)
                 · (rw [hb1.cell (p := ⟨ba, offa + k * 3 + 2, none⟩) hba']; assumption)
                 · (rw [hb1.cell (p := ⟨bb, offb + k * 3, none⟩) hbb']; assumption)
                 · (rw [hb1.cell (p := ⟨bb, offb + k * 3 + 1, none⟩) hbb']; assumption)
                 · (rw [hb1.cell (p := ⟨bb, offb + k * 3 + 2, none⟩) hbb']; assumption)))
            (first | (go_at_call 31; refine (HP.out _).mono ?_; rintro e w1 ⟨rfl, hb1⟩))
          obtain ⟨p0, p1, p2⟩ : PtAt w1 ba (offa + k * 3) x := PtAt.below (w := wr.drew) ⟨c0, c1, c2⟩ hb1 hba'
          obtain ⟨q0, q1, q2⟩ : PtAt w1 bb (offb + k * 3) y := PtAt.below (w := wr.drew) ⟨d0, d1, d2⟩ hb1 hbb'
          have hba2 : ba < w1.heap.size := Nat.lt_of_lt_of_le hba' hb1.size
          have hbb2 : bb < w1.heap.size := Nat.lt_of_lt_of_le hbb' hb1.size
          have hbw : Below w.heap.size w w1 := hbel.drew.trans (hb1.mono hsz)
          clear c0 c1 c2 d0 d1 d2 hb1
          go_wp2_with fail
          go_region_held3 (fun w' => (w'.cell? ⟨ba, offa + k * 3, none⟩ = some (.bool x.t) ∧ w'.cell? ⟨ba, offa + k * 3 + 1, none⟩ = some (.string x.s) ∧ w'.cell? ⟨ba, offa + k * 3 + 2, none⟩ = some (.int .u64 x.n)) ∧ (w'.cell? ⟨bb, offb + k * 3, none⟩ = some (.bool y.t) ∧ w'.cell? ⟨bb, offb + k * 3 + 1, none⟩ = some (.string y.s) ∧ w'.cell? ⟨bb, offb + k * 3 + 2, none⟩ = some (.int .u64 y.n)))
            (first
              | go_keep
              | (go_split_ands
                 refine ⟨⟨?_, ?_, ?_⟩, ⟨?_, ?_, ?_⟩⟩
                 · (rw [hb2.cell (p := ⟨ba, offa + k * 3, none⟩) hba2]; assumption)
                 · (rw [hb2.cell (p := ⟨ba, offa + k * 3 + 1, none⟩) hba2]; assumption)
                 · (rw [hb2.cell (p := ⟨ba, offa + k * 3 + 2, none⟩) hba2]; assumption)
                 · (rw [hb2.cell (p := ⟨bb, offb + k * 3, none⟩) hbb2]; assumption)
                 · (rw [hb2.cell (p := ⟨bb, offb + k * 3 + 1, none⟩) hbb2]; assumption)
                 · (rw [hb2.cell (p := ⟨bb, offb + k * 3 + 2, none⟩) hbb2]; assumption)))
            (first | (go_at_call 31; refine (HQ.out _).mono ?_; rintro e w2 ⟨rfl, hb2⟩))
          go_wp2_with fail
          go_roundw
          case rel => exact ⟨k + 1, by omega, by omega, by go_num, HR.out.trans HS2.out, hbw.drew.trans (hb2.mono hbw.size)⟩
          case measure => simp [intOf]; omega
        · have HS2 : Hid (cmpL (xs.drop k) (ys.drop k) = -1) := by rw [HS.out, if_neg (by omega)]; exact h1
          rw [h1] at HP
          have e : decide ((-1 : Int) = -1) = true := by decide
          rw [e] at HP
          clear h1 h2 HS HT e HQ
          go_wp2_with fail
          go_region_held3 (fun w' => (w'.cell? ⟨ba, offa + k * 3, none⟩ = some (.bool x.t) ∧ w'.cell? ⟨ba, offa + k * 3 + 1, none⟩ = some (.string x.s) ∧ w'.cell? ⟨ba, offa + k * 3 + 2, none⟩ = some (.int .u64 x.n)) ∧ (w'.cell? ⟨bb, offb + k * 3, none⟩ = some (.bool y.t) ∧ w'.cell? ⟨bb, offb + k * 3 + 1, none⟩ = some (.string y.s) ∧ w'.cell? ⟨bb, offb + k * 3 + 2, none⟩ = some (.int .u64 y.n)))
            (first
              | go_keep
              | (go_split_ands
                 refine ⟨⟨?_, ?_, ?_⟩, ⟨?_, ?_, ?_⟩⟩
                 · (rw [hb1.cell (p := ⟨ba, offa + k * 3, none⟩) hba']; assumption)
                 · (rw [hb1.cell (p := ⟨ba, offa + k * 3 + 1, none⟩) hba']; assumption)
                 · (rw [hb1.cell (p := ⟨ba, offa + k * 3 + 2, none⟩) hba']; assumption)
                 · (rw [hb1.cell (p := ⟨bb, offb + k * 3, none⟩) hbb']; assumption)
                 · (rw [hb1.cell (p := ⟨bb, offb + k * 3 + 1, none⟩) hbb']; assumption)
                 · (rw [hb1.cell (p := ⟨bb, offb + k * 3 + 2, none⟩) hbb']; assumption)))
            (first | (go_at_call 31; refine (HP.out _).mono ?_; rintro e w1 ⟨rfl, hb1⟩))
          have hbw : Below w.heap.size w w1 := hbel.drew.trans (hb1.mono hsz)
          clear hb1
          go_wp2_with fail
          go_ret
          rw [HR.out, HS2.out]
          exact ⟨rfl, hbw⟩
        · have HS2 : Hid (cmpL (xs.drop k) (ys.drop k) = 1) := by rw [HS.out, if_neg (by omega)]; exact h1
          rw [h1] at HP
          rw [h2] at HQ
          have e : decide ((1 : Int) = -1) = false := by decide
          have e' : decide ((-1 : Int) = -1) = true := by decide
          rw [e] at HP
          rw [e'] at HQ
          clear h1 h2 HS HT e e'
          go_wp2_with fail
          go_region_held3 (fun w' => (w'.cell? ⟨ba, offa + k * 3, none⟩ = some (.bool x.t) ∧ w'.cell? ⟨ba, offa + k * 3 + 1, none⟩ = some (.string x.s) ∧ w'.cell? ⟨ba, offa + k * 3 + 2, none⟩ = some (.int .u64 x.n)) ∧ (w'.cell? ⟨bb, offb + k * 3, none⟩ = some (.bool y.t) ∧ w'.cell? ⟨bb, offb + k * 3 + 1, none⟩ = some (.string y.s) ∧ w'.cell? ⟨bb, offb + k * 3 + 2, none⟩ = some (.int .u64 y.n)))
            (first
              | go_keep
              | (go_split_ands
                 refine ⟨⟨?_, ?_, ?_⟩, ⟨?_, ?_, ?_⟩⟩
                 · (rw [hb1.cell (p := ⟨ba, offa + k * 3, none⟩) hba']; assumption)
                 · (rw [hb1.cell (p := ⟨ba, offa + k * 3 + 1, none⟩) hba']; assumption)
                 · (rw [hb1.cell (p := ⟨ba, offa + k * 3 + 2, none⟩) hba']; assumption)
                 · (rw [hb1.cell (p := ⟨bb, offb + k * 3, none⟩) hbb']; assumption)
                 · (rw [hb1.cell (p := ⟨bb, offb + k * 3 + 1, none⟩) hbb']; assumption)
                 · (rw [hb1.cell (p := ⟨bb, offb + k * 3 + 2, none⟩) hbb']; assumption)))
            (first | (go_at_call 31; refine (HP.out _).mono ?_; rintro e w1 ⟨rfl, hb1⟩))
          obtain ⟨p0, p1, p2⟩ : PtAt w1 ba (offa + k * 3) x := PtAt.below (w := wr.drew) ⟨c0, c1, c2⟩ hb1 hba'
          obtain ⟨q0, q1, q2⟩ : PtAt w1 bb (offb + k * 3) y := PtAt.below (w := wr.drew) ⟨d0, d1, d2⟩ hb1 hbb'
          have hba2 : ba < w1.heap.size := Nat.lt_of_lt_of_le hba' hb1.size
          have hbb2 : bb < w1.heap.size := Nat.lt_of_lt_of_le hbb' hb1.size
          have hbw : Below w.heap.size w w1 := hbel.drew.trans (hb1.mono hsz)
          clear c0 c1 c2 d0 d1 d2 hb1
          go_wp2_with fail
          go_region_held3 (fun w' => (w'.cell? ⟨ba, offa + k * 3, none⟩ = some (.bool x.t) ∧ w'.cell? ⟨ba, offa + k * 3 + 1, none⟩ = some (.string x.s) ∧ w'.cell? ⟨ba, offa + k * 3 + 2, none⟩ = some (.int .u64 x.n)) ∧ (w'.cell? ⟨bb, offb + k * 3, none⟩ = some (.bool y.t) ∧ w'.cell? ⟨bb, offb + k * 3 + 1, none⟩ = some (.string y.s) ∧ w'.cell? ⟨bb, offb + k * 3 + 2, none⟩ = some (.int .u64 y.n)))
            (first
              | go_keep
              | (go_split_ands
                 refine ⟨⟨?_, ?_, ?_⟩, ⟨?_, ?_, ?_⟩⟩
                 · (rw [hb2.cell (p := ⟨ba, offa + k * 3, none⟩) hba2]; assumption)
                 · (rw [hb2.cell (p := ⟨ba, offa + k * 3 + 1, none⟩) hba2]; assumption)
                 · (rw [hb2.cell (p := ⟨ba, offa + k * 3 + 2, none⟩) hba2]; assumption)
                 · (rw [hb2.cell (p := ⟨bb, offb + k * 3, none⟩) hbb2]; assumption)
                 · (rw [hb2.cell (p := ⟨bb, offb + k * 3 + 1, none⟩) hbb2]; assumption)
                 · (rw [hb2.cell (p := ⟨bb, offb + k * 3 + 2, none⟩) hbb2]; assumption)))
            (first | (go_at_call 31; refine (HQ.out _).mono ?_; rintro e w2 ⟨rfl, hb2⟩))
          go_wp2_with fail
          go_ret
          rw [HR.out, HS2.out]
          exact ⟨rfl, hbw.drew.trans (hb2.mono hbw.size)⟩
      · have HE : Hid (cmpL (xs.drop k) (ys.drop k) = 1) := cmpL_more xs ys k (by rw [HLA.out]; exact hlt) (by rw [HLB.out]; omega)
        have hn : ¬ la < lb := by omega
        have hn2 : lb < la := by omega
        go_wp2_with fail
        go_ret
        rw [HR.out, HE.out]
        exact ⟨rfl, hbel⟩
    · by_cases hlt2 : la < lb
      · have HE : Hid (cmpL (xs.drop k) (ys.drop k) = -1) := cmpL_less xs ys k (by rw [HLA.out]; omega) (by rw [HLB.out]; omega)
        go_wp2_with fail
        go_ret
        rw [HR.out, HE.out]
        exact ⟨rfl, hbel⟩
      · have HE : Hid (cmpL (xs.drop k) (ys.drop k) = 0) := cmpL_end xs ys k (by rw [HLA.out]; omega) (by rw [HLB.out]; omega)
        have hn2 : ¬ lb < la := by omega
        go_wp2_with fail
        go_ret
        rw [HR.out, HE.out]
        exact ⟨rfl, hbel⟩

end Go.Proofs.Ytognddehcfjiaaa

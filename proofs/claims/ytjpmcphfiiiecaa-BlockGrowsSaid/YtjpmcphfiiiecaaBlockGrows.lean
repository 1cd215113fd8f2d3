/- The walk of BlockGrows. -/
import Derived.Test.YtjpmcphfiiiecaaBoArgs
import Derived.Deep.RegionLaw
import Derived.Deep.RegionHeld3
namespace Go.Proofs.Ytjpmcphfiiiecaa.Bo
open Go Go.RowKit
set_option linter.unusedVariables false

theorem row_short2 {n : Nat} (h : n < 65536) : (Nm.row n).length ≤ 3 := by
  by_cases h1 : n < 248
  · rw [Nm.row_short h1]; simp
  · rw [Nm.row_long h1, List.length_cons, Nm.big_length]
    have := (Nm.wid_le (n := n) (w := 2) (by omega) (by omega)).2 (by simpa using h)
    omega
theorem after_done {s : St} {e : En} (h : err s e = 0) : after s e = step s e := by unfold after; rw [if_pos h]
/-- How a block grows. -/
theorem grows {s : St} {e : En} (h : err s e = 0) : (fin s).length + 3 + e.val.size ≤ (fin (step s e)).length ∧ (fin (step s e)).length ≤ (fin s).length + (9 + e.key.size + e.val.size + 4) := by
  obtain ⟨hk, hv⟩ := err_size h
  rw [fin_length, fin_length]
  have h1 := (one_length s e).1
  have h2 : (step s e).rows.length = s.rows.length + (one s e).length := by show (s.rows ++ one s e).length = _; rw [List.length_append]
  have h3 : s.foot.length ≤ (step s e).foot.length ∧ (step s e).foot.length ≤ s.foot.length + 4 := by
    show s.foot.length ≤ (ftn s).length ∧ (ftn s).length ≤ _
    unfold ftn
    split
    · rw [List.length_append, Nm.big_length]; omega
    · omega
  have h4 : (one s e).length ≤ 9 + e.key.size + e.val.size := by
    have a1 := (sh_le s e.key).1
    have a2 := row_short2 (n := sh s e.key) (by omega)
    have a3 : (e.key.data.toList.drop (sh s e.key)).length ≤ e.key.size := by rw [List.length_drop, len]; omega
    have a4 := row_short2 (n := (e.key.data.toList.drop (sh s e.key)).length) (by omega)
    have a5 := row_short2 (n := e.val.data.toList.length) (by rw [len]; omega)
    unfold one txt
    rw [List.length_append, List.length_append, List.length_append, List.length_append, len]
    rw [len] at a5
    omega
  omega

/-- A builder lies there, and what was there is as it was. -/
structure GB (w w1 : World) (L : BL) (s : St) (w' : World) : Prop where
  h : Built w' w1.heap.size L s
  hb : Below w.heap.size w w'
theorem GB.call {w w1 w' w2 : World} {L : BL} {s : St} (h : GB w w1 L s w') (hb : Below w'.heap.size w' w2) : GB w w1 L s w2 := ⟨h.h.below hb, h.hb.trans (hb.mono h.hb.size)⟩
theorem GB.cell {w w1 w' w2 : World} {L : BL} {s : St} {b o : Nat} {v : Value} (h : GB w w1 L s w') (hb : b < w.heap.size) (hc : w.cell? ⟨b, o, none⟩ = some v) (h2 : Below w'.heap.size w' w2) : w2.cell? ⟨b, o, none⟩ = some v :=
  ((h.call h2).hb.cell (p := ⟨b, o, none⟩) hb).trans hc
theorem size_gb {w w1 w' : World} {L : BL} {s : St} {B : Nat} (h : GB w w1 L s w') (hs : Sound s) (hB : L.b = B) (hn : s.n ≤ 1000) :
    Calls Try.prog 9 #[.pointer (some ⟨B, 0, none⟩)] w' (Gives (.int .i64 ((fin s).length : Int)) w') := by
  have := size_any h.h (by have := hs.rows; omega) (by rw [hs.foot]; omega)
  rwa [hB] at this
theorem count_gb {w w1 w' : World} {L : BL} {s : St} {B : Nat} (h : GB w w1 L s w') (hB : L.b = B) :
    Calls Try.prog 10 #[.pointer (some ⟨B, 0, none⟩)] w' fun e w2 => e = .returned (.int .i64 (s.n : Int)) ∧ w2 = w' := by
  have := count_any h.h
  rwa [hB] at this

set_option maxHeartbeats 4000000 in
set_option maxRecDepth 100000 in
theorem grows_walk (a : Option Addr) (n c : Nat) (l : List Ac) (w : World) (h : SeesA w (.slice a n c) l) :
    Calls Try.prog 8 #[.slice a n c] w (Gives (.bool true) w) := by
  have HGR := Lib.hid (great_any a n c l w h)
  have HH := Lib.hid h
  have HL := Lib.hid h.len
  clear h
  cases hg : greatA l with
  | true =>
    rw [hg] at HGR
    go_enter Try.func8, Try.ntmps8
    go_wp2_with fail
    refine HGR.out.mono ?_
    rintro e w1 ⟨rfl, hb1⟩
    go_wp2_with fail
    refine (awake_any _).mono ?_
    rintro e w2 ⟨rfl, hb2⟩
    go_wp2_with fail
    go_ret
    exact ⟨rfl, hb1.trans (hb2.mono hb1.size)⟩
  | false =>
    rw [hg] at HGR
    have hn : n ≤ 120 := by
      unfold greatA at hg
      rw [Bool.or_eq_false_iff, decide_eq_false_iff_not] at hg
      rw [← HL.out]
      omega
    clear hg
    go_enter Try.func8, Try.ntmps8
    go_wp2_with fail
    refine HGR.out.mono ?_
    rintro e w1 ⟨rfl, hb1⟩
    have HNB := Lib.hid (new_built w1)
    have HB0 : Hid (Below w.heap.size w (w1.alloc (.cells #[.slice none 0 0, .slice none 0 0, .int .i64 0, .string ⟨#[]⟩] 25))) := Lib.hid (hb1.alloc hb1.size _)
    have HW1 := Lib.hid hb1.size
    clear hb1 HGR
    go_wp2_with fail
    go_loopw [4] (fun i wr => ∃ (k : Nat), k ≤ n ∧ i = .int .i64 k ∧ Hid (∃ s L, L.b = w1.heap.size ∧ Built wr w1.heap.size L s ∧ Sound s ∧ s.n ≤ k ∧ Below w.heap.size w wr)) (fun i _ => n - (intOf i).toNat)
    case atStart => exact ⟨0, Nat.zero_le _, rfl, Lib.hid ⟨st0, _, rfl, HNB.out, sound0, Nat.le_refl _, HB0.out⟩⟩
    case round =>
      obtain ⟨k, hk, rfl, HI⟩ := hrel
      obtain ⟨s, L, hLb, hbt, hso, hsn, hbel⟩ := HI.out
      by_cases hlt : k < n
      · obtain ⟨x, hx⟩ : ∃ x, l[k]? = some x := ⟨_, List.getElem?_eq_getElem (by rw [HL.out]; exact hlt)⟩
        obtain ⟨b, off, rfl, hb, ⟨hd, hz1, hz2⟩, k0, k1, k2⟩ := HH.out.get hx
        have hkn : (k : Int) < n := by omega
        have HK1 := Lib.hid k1; have HK2 := Lib.hid k2; have HBL := Lib.hid hb
        obtain ⟨d, ⟨key, val⟩⟩ := x
        dsimp only at *
        have hF1 : s.rows.length ≤ 300000 := by have := hso.rows; omega
        have hF2 : s.foot.length ≤ 300000 := by rw [hso.foot]; omega
        have HF := Lib.hid (fin_length s)
        have HSZ := Lib.hid (size_any hbt (by omega) (by omega))
        rw [hLb] at HSZ
        have HBT := Lib.hid hbt; have HSO := Lib.hid hso; have HSN := Lib.hid hsn; have HBEL := Lib.hid hbel
        have hfl : (fin s).length ≤ 600004 := by have := HF.out; omega
        clear k0 k1 k2 hx hd HI hbt hso hsn hbel hF1 hF2 hb HNB HB0
        go_wp2_with fail
        refine HSZ.out.mono ?_
        rintro e w2 ⟨rfl, hb2⟩
        have HBT2 := Lib.hid (HBT.out.below hb2)
        have HB2 := Lib.hid (HBEL.out.trans (hb2.mono HBEL.out.size))
        clear HSZ hb2 HBT HBEL
        have HCN := Lib.hid (count_any HBT2.out)
        rw [hLb] at HCN
        go_wp2_with fail
        refine HCN.out.mono ?_
        rintro e w3 ⟨rfl, rfl⟩
        have c1 : w3.cell? ⟨b, off + k * 3 + 1, none⟩ = some (.string key) := (HB2.out.cell (p := ⟨b, _, none⟩) HBL.out).trans HK1.out
        have c2 : w3.cell? ⟨b, off + k * 3 + 2, none⟩ = some (.string val) := (HB2.out.cell (p := ⟨b, _, none⟩) HBL.out).trans HK2.out
        have HADD := Lib.hid (add_any HBT2.out.drew HSO.out (by have := HSN.out; omega) key val)
        rw [hLb] at HADD
        clear HCN
        go_wp2_with fail
        go_region_law (go_simp; go_at_call 11; refine HADD.out.mono ?_; rintro e w4 ⟨rfl, hg4⟩)
        all_goals
          have HB4 := Lib.hid (HB2.out.drew.trans ((GoesB.to_below HBT2.out.drew hg4).mono HW1.out))
          obtain ⟨L4, hL4, hb4, -, -⟩ := hg4
          rw [hLb] at hL4
          have HSA := Lib.hid (HSO.out.after ⟨key, val⟩)
          have HNA := Lib.hid (after_n s ⟨key, val⟩)
          by_cases he : err s ⟨key, val⟩ = 0
          · have HGW := Lib.hid (grows he)
            have hst : after s ⟨key, val⟩ = step s ⟨key, val⟩ := after_done he
            rw [hst] at hb4 HSA HNA
            rw [he]
            have hnn : (step s ⟨key, val⟩).n = s.n + 1 := rfl
            have hF1 : (step s ⟨key, val⟩).rows.length ≤ 300000 := by have := HSA.out.rows; have := HSN.out; omega
            have hF2 : (step s ⟨key, val⟩).foot.length ≤ 300000 := by rw [HSA.out.foot]; have := HSN.out; omega
            have HSZ := Lib.hid (size_any hb4 (by omega) (by omega))
            have HCN := Lib.hid (count_any hb4)
            rw [hnn] at HCN
            rw [hL4] at HSZ HCN
            have d1 : w4.cell? ⟨b, off + k * 3 + 1, none⟩ = some (.string key) := (HB4.out.cell (p := ⟨b, _, none⟩) HBL.out).trans HK1.out
            have d2 : w4.cell? ⟨b, off + k * 3 + 2, none⟩ = some (.string val) := (HB4.out.cell (p := ⟨b, _, none⟩) HBL.out).trans HK2.out
            have HBT4 := Lib.hid hb4
            obtain ⟨hks, hvs⟩ := err_size he
            have hksi : (key.size : Int) ≤ 1024 := by have : key.size ≤ 1024 := hks; omega
            have hvsi : (val.size : Int) ≤ 1024 := by have : val.size ≤ 1024 := hvs; omega
            clear c1 c2 hst he hb4 hnn hF1 hF2 hks hvs
            go_wp2_with fail
            go_region
            have d3 : w4.drew.cell? ⟨b, off + k * 3 + 2, none⟩ = some (.string val) := d2
            have HBD : Hid (GB w w1 L4 (step s ⟨key, val⟩) w4.drew) := Lib.hid ⟨HBT4.out.drew, HB4.out.drew⟩
            have HSZ2 := Lib.hid (fun W (hs : GB w w1 L4 (step s ⟨key, val⟩) W) => size_gb hs HSA.out hL4 (by have := HSN.out; have := HNA.out; omega))
            have HCN2 := Lib.hid (fun W (hs : GB w w1 L4 (step s ⟨key, val⟩) W) => count_gb hs hL4)
            have HBBL := HBL.out
            have d3' : w4.drew.drew.cell? ⟨b, off + k * 3 + 2, none⟩ = some (.string val) := d2
            have HBD' : Hid (GB w w1 L4 (step s ⟨key, val⟩) w4.drew.drew) := Lib.hid ⟨HBT4.out.drew.drew, HB4.out.drew.drew⟩
            have hs0 : b < w4.drew.heap.size := Nat.lt_of_lt_of_le HBL.out HB4.out.size
            rw [show (step s ⟨key, val⟩).n = s.n + 1 from rfl] at HCN2
            have hg1 : ¬ ((fin (step s ⟨key, val⟩)).length : Int) < ((fin s).length : Int) + 3 + val.size := by have := HGW.out.1; omega
            have hg2 : ¬ ((fin s).length : Int) + (6 + (key.size : Int) + 3 + val.size + 4) < ((fin (step s ⟨key, val⟩)).length : Int) := by have := HGW.out.2; omega
            have hg3 : ((s.n + 1 : Nat) : Int) = (s.n : Int) + 1 := by omega
            rw [hg3] at HCN2
            have hsn1 : (s.n : Int) ≤ 120 := by have := HSN.out; omega
            have hfl2 : ((fin s).length : Int) ≤ 600004 := by omega
            have HST := Lib.hid (show ∃ s', s' = step s ⟨key, val⟩ from ⟨_, rfl⟩)
            obtain ⟨s', hs'⟩ := HST.out
            rw [← hs'] at HSZ2 HCN2 HBD HBD' hg1 hg2
            have hw1 : IntKind.i64.wrap ((s.n : Int) + 1) = (s.n : Int) + 1 := by rw [IntKind.wrap_i64]; omega
            have hw2 : IntKind.i64.wrap (((fin s).length : Int) + 3) = ((fin s).length : Int) + 3 := by rw [IntKind.wrap_i64]; omega
            have hw3 : IntKind.i64.wrap (((fin s).length : Int) + 3 + val.size) = ((fin s).length : Int) + 3 + val.size := by rw [IntKind.wrap_i64]; omega
            have hw4 : IntKind.i64.wrap (((fin s).length : Int) + (6 + (key.size : Int) + 3 + val.size + 4)) = ((fin s).length : Int) + (6 + (key.size : Int) + 3 + val.size + 4) := by rw [IntKind.wrap_i64]; omega
            generalize hF0 : (fin s).length = F at *
            generalize hF1 : (fin s').length = F1 at *
            have HF0 := Lib.hid hF0; have HF1 := Lib.hid hF1
            have hg1' := decide_eq_false hg1
            have hg2' := decide_eq_false hg2
            clear d1 d2 HSZ HCN HGW hg3 HF hfl HST hF0 hF1
            have HS' := Lib.hid hs'; clear hs'
            go_wp2_with fail
            go_region_held3 (fun w' => w'.cell? ⟨b, off + k * 3 + 2, none⟩ = some (.string val) ∧ GB w w1 L4 s' w')
              (first | exact ⟨d3, HBD.out⟩ | exact ⟨d3', HBD'.out⟩ | assumption | exact ⟨GB.cell (And.right (by assumption)) HBBL HK2.out hb7, GB.call (And.right (by assumption)) hb7⟩)
              (first
                | (go_at_call 10; refine (HCN2.out _ (And.right (by assumption))).mono ?_; rintro e w6 ⟨rfl, rfl⟩)
                | (go_at_call 9; refine (HSZ2.out _ (And.right (by assumption))).mono ?_; rintro e w7 ⟨rfl, hb7⟩))
            have hE : w7.cell? ⟨b, off + k * 3 + 2, none⟩ = some (.string val) ∧ GB w w1 L4 s' w7 := by assumption
            have HE := Lib.hid hE.2
            clear hE
            go_wp2_with fail
            go_roundw
            case rel => exact ⟨k + 1, by omega, by go_num, Lib.hid ⟨s', L4, hL4, HE.out.h, by rw [HS'.out]; exact HSA.out, by rw [HS'.out]; have := HSN.out; have := HNA.out; omega, HE.out.hb⟩⟩
            case measure => simp [intOf]; omega
          · have hst : after s ⟨key, val⟩ = s := by unfold after; rw [if_neg he]
            rw [hst] at hb4
            have hne : ((err s ⟨key, val⟩ : Nat) : Int) ≠ 0 := by omega
            have hF1 : s.rows.length ≤ 300000 := by have := HSO.out.rows; have := HSN.out; omega
            have hF2 : s.foot.length ≤ 300000 := by rw [HSO.out.foot]; have := HSN.out; omega
            have HSZ := Lib.hid (size_any hb4 (by omega) (by omega))
            rw [hL4] at HSZ
            have HBT4 := Lib.hid hb4
            generalize err s ⟨key, val⟩ = E at *
            clear c1 c2 he hst hb4 hF1 hF2
            go_wp2_with fail
            refine HSZ.out.mono ?_
            rintro e w5 ⟨rfl, hb5⟩
            have HBT5 := Lib.hid (HBT4.out.below hb5)
            have HB5 := Lib.hid (HB4.out.trans (hb5.mono HB4.out.size))
            have HCN := Lib.hid (count_any HBT5.out)
            rw [hL4] at HCN
            clear hb5 HBT4 HB4
            go_wp2_with fail
            refine HCN.out.mono ?_
            rintro e w6 ⟨rfl, rfl⟩
            go_wp2_with fail
            go_roundw
            case rel => exact ⟨k + 1, by omega, by go_num, Lib.hid ⟨s, L4, hL4, HBT5.out, HSO.out, by have := HSN.out; omega, HB5.out⟩⟩
            case measure => simp [intOf]; omega
      · obtain rfl : k = n := by omega
        have HBEL := Lib.hid hbel
        go_wp2_with fail
        refine (awake_any _).mono ?_
        rintro e w2 ⟨rfl, hb2⟩
        go_wp2_with fail
        go_ret
        exact ⟨rfl, HBEL.out.trans (hb2.mono HBEL.out.size)⟩
end Go.Proofs.Ytjpmcphfiiiecaa.Bo

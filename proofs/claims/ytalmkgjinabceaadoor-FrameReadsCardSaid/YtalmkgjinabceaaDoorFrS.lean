/- Walks of the document's own first, Read. -/
import Derived.Test.YtalmkgjinabceaaDoorFrR
import Derived.Test.YtalmkgjinabceaaDoorFrD
namespace Go.Proofs.YtalmkgjinabceaaDoor
open Go.RowKit

/-- What the document's first answers. -/
def fsV (o : Option (ByteArray × Nat)) : Value := match o with
  | some (r, _) => .tuple #[.string r, .bool true]
  | none => .tuple #[.string ⟨#[]⟩, .bool false]

set_option maxHeartbeats 2000000 in
theorem refFirst_any (s : ByteArray) (w : World) (hs : s.size ≤ 1000000000) :
    Calls Tryd.prog 22 #[.string s] w (Gives (fsV (Cr.frl s.data.toList)) w) := by
  obtain ⟨R, hR⟩ : ∃ R, R = Cr.frl s.data.toList := ⟨_, rfl⟩
  rw [← hR]
  have HR0 : Hid (R = Cr.scan (s.data.toList.drop (32 * 0)) 0 []) := hR
  clear hR
  go_enter Tryd.func22, Tryd.ntmps22
  go_wp2_with fail
  go_loopw [4, 5] (fun x n wr => ∃ (k : Nat) (D : ByteArray), 32 * k ≤ s.size ∧ x = .string D ∧ n = .int .i64 k ∧ D.size ≤ 524288 ∧ Hid (R = Cr.scan (s.data.toList.drop (32 * k)) k D.data.toList) ∧ Hid (Below w.heap.size w wr)) (fun _ n _ => s.size - 32 * (intOf n).toNat)
  case atStart => exact ⟨0, ⟨#[]⟩, by omega, rfl, rfl, Nat.zero_le _, HR0, Lib.hid (Below.refl _ _)⟩
  case round =>
    obtain ⟨k, D, hk, rfl, rfl, hD, HR, HB⟩ := hrel
    clear HR0
    by_cases hlt : (s.size : Int) < 32 * (k : Int) + 32
    · have HE : Hid (R = none) := by rw [HR.out]; exact Lib.hid (Cr.scan_short (by rw [List.length_drop, Cr.size_list]; omega) _ _)
      go_wp2_with fail
      go_ret2
      rw [HE.out]
      exact ⟨rfl, HB.out⟩
    · have hle : 32 * (k : Int) + 32 ≤ (s.size : Int) := by omega
      clear hlt
      have hrd := refRead_any (s.extract (32 * k) (32 * k + 32)) wr
      have HX : Hid ((s.extract (32 * k) (32 * k + 32)).data.toList = (s.data.toList.drop (32 * k)).take 32) := by rw [Cr.extract_list, Nat.add_sub_cancel_left]; exact Lib.hid rfl
      have HLD : Hid (32 ≤ (s.data.toList.drop (32 * k)).length) := by rw [List.length_drop, Cr.size_list]; exact Lib.hid (by omega)
      have HRDC := Lib.hid hrd; clear hrd
      go_wp2_with fail
      refine HRDC.out.mono ?_
      rintro e w1 ⟨rfl, hb1⟩
      clear HRDC
      have HB1 : Hid (Below w.heap.size w w1) := Lib.hid (Below.next HB.out hb1)
      clear hb1
      cases hrdl : Cr.rd ((s.data.toList.drop (32 * k)).take 32) with
      | none =>
        have HE : Hid (R = none) := by rw [HR.out]; exact Lib.hid (Cr.scan_none hrdl _ _)
        have HV : Hid (rdV (s.extract (32 * k) (32 * k + 32)) = noV) := by unfold rdV; rw [HX.out, hrdl]; exact Lib.hid rfl
        rw [HV.out]
        unfold noV
        clear HX HV hrdl
        go_wp2_with fail
        go_ret2
        rw [HE.out]
        exact ⟨rfl, Below.next_alloc HB1.out _⟩
      | some c =>
        obtain ⟨hmay, _, _⟩ := Cr.rd_some hrdl
        have hd24 := Cr.may_size hmay
        obtain ⟨hn0, hn1⟩ := Cr.may_num hmay
        have HV : Hid (rdV (s.extract (32 * k) (32 * k + 32)) = .tuple #[clV c, .bool true]) := by unfold rdV; rw [HX.out, hrdl]; exact Lib.hid rfl
        rw [HV.out]
        clear HX HV hmay
        have HRDL := Lib.hid hrdl; clear hrdl
        have HB2 : Hid (∀ o, Below w.heap.size w (w1.alloc o)) := Lib.hid (fun o => Below.next_alloc HB1.out o)
        obtain ⟨f, l, n, d⟩ := c
        unfold clV
        dsimp only at hd24 hn0 hn1 ⊢
        have hsum : D.size + d.size ≤ 524312 := by omega
        have HSUM := Lib.hid hsum
        have hsumI : (D.size : Int) + (d.size : Int) ≤ 524312 := by omega
        by_cases hnk : n = (k : Int)
        · subst hnk
          by_cases hlong : (524288 : Int) < (D.size : Int) + (d.size : Int)
          · have HE : Hid (R = none) := by rw [HR.out]; exact Lib.hid (Cr.scan_bad HRDL.out (Or.inr (by rw [Cr.size_list]; dsimp only; omega)))
            clear hsum hd24 hD
            go_wp2_with fail
            go_ret2
            rw [HE.out]
            exact ⟨rfl, HB2.out _⟩
          · have hsh : (D.size : Int) + (d.size : Int) ≤ 524288 := by omega
            have HSH : Hid (D.data.toList.length + d.size ≤ 524288) := by rw [Cr.size_list]; exact Lib.hid (by omega)
            have hno : ¬ 9223372036854775807 < D.size + d.size := by omega
            have HCAT : Hid (D.data.toList ++ d.data.toList = (D ++ d).data.toList) := by rw [cat_list]; exact Lib.hid rfl
            have HCS : Hid ((D ++ d).size ≤ 524288) := by rw [ByteArray.size_append]; exact Lib.hid (by omega)
            clear hlong hsum hsumI hd24 hD
            cases l with
            | true =>
              have HE : Hid (R = some (D ++ d, k + 1)) := by
                have h1 := Cr.scan_last HLD.out HRDL.out rfl HSH.out rfl
                dsimp only at h1
                rw [HCAT.out, Cr.of_toList] at h1
                rw [HR.out, h1]; exact Lib.hid rfl
              go_wp2_with fail
              go_ret2
              rw [HE.out]
              exact ⟨rfl, HB2.out _⟩
            | false =>
              have HE : Hid (R = Cr.scan (s.data.toList.drop (32 * (k + 1))) (k + 1) (D ++ d).data.toList) := by
                have h1 := Cr.scan_more HLD.out HRDL.out rfl HSH.out rfl
                dsimp only at h1
                rw [HCAT.out, List.drop_drop] at h1
                rw [HR.out, h1]; exact Lib.hid (by rw [Nat.mul_add])
              go_wp2_with fail
              go_roundw
              case rel => exact ⟨k + 1, D ++ d, by omega, rfl, by go_num, HCS.out, HE, Lib.hid (HB2.out _)⟩
              case measure => simp [intOf]; omega
        · have HE : Hid (R = none) := by rw [HR.out]; exact Lib.hid (Cr.scan_bad HRDL.out (Or.inl hnk))
          have hne : (n == (k : Int)) = false := by rw [beq_eq_false_iff_ne]; exact hnk
          clear hsum hsumI
          go_wp2_with fail
          go_ret2
          rw [HE.out]
          exact ⟨rfl, HB2.out _⟩

set_option maxHeartbeats 1000000 in
theorem refRead4_any (s : ByteArray) (w : World) (hs : s.size ≤ 1000000000) :
    Calls Tryd.prog 16 #[.string s] w (RecsRead (Cr.rda s.data.toList) w) := by
  obtain ⟨i0, hi, hz0, hz1, hz2⟩ := info_parts info_string
  obtain ⟨P, hP⟩ : ∃ P, P = Cr.rda s.data.toList := ⟨_, rfl⟩
  rw [← hP]
  have HP0 : Hid (P = ([] ++ (Cr.rda (s.data.toList.drop 0)).1, 0 + (Cr.rda (s.data.toList.drop 0)).2)) := by rw [hP, List.drop_zero, Nat.zero_add]; exact Lib.hid rfl
  clear hP
  go_enter Tryd.func16, Tryd.ntmps16
  go_wp2_with fail
  go_loopw [4, 5] (fun u z wr => ∃ (W : Nat) (rs : List ByteArray), W ≤ s.size ∧ z = .int .i64 W ∧ Hid (OwnsS wr w.heap.size u rs) ∧ rs.length ≤ W ∧ Hid (P = (rs ++ (Cr.rda (s.data.toList.drop W)).1, W + (Cr.rda (s.data.toList.drop W)).2)) ∧ Hid (Below w.heap.size w wr)) (fun _ z _ => s.size - (intOf z).toNat)
  case atStart => exact ⟨0, [], Nat.zero_le _, rfl, Lib.hid (OwnsS.nil _ _), Nat.le_refl _, HP0, Lib.hid (Below.refl _ _)⟩
  case round =>
    obtain ⟨W, rs, hW, rfl, HO, hrs, HP, HB⟩ := hrel
    clear HP0
    have HBS : Hid (w.heap.size ≤ wr.heap.size) := HB.out.size
    have hfr := refFirst_any (s.extract W s.size) wr (by rw [Cr.size_extract']; omega)
    rw [drop_list] at hfr
    have HFR := Lib.hid hfr; clear hfr
    go_wp2_with fail
    refine HFR.out.mono ?_
    rintro e w1 ⟨rfl, hb1⟩
    clear HFR
    have HO1 : Hid (OwnsS w1 w.heap.size u4 rs) := HO.out.kept hb1
    have HB1 : Hid (Below w.heap.size w w1) := Lib.hid (HB.out.trans (hb1.mono HBS.out))
    clear hb1 HO HB
    cases hf : Cr.frl (s.data.toList.drop W) with
    | none =>
      have HE : Hid (P = (rs, W)) := by rw [HP.out, Cr.rda_none hf, List.append_nil]; exact Lib.hid rfl
      unfold fsV
      clear hf HP
      go_wp2_with fail
      go_ret2
      rw [HE.out]
      exact ⟨_, rfl, HO1.out, HB1.out⟩
    | some x =>
      obtain ⟨r, k⟩ := x
      have hk := Cr.frl_pos hf
      obtain ⟨hkc, hrz, hk2, _⟩ := Cr.frl_some hf
      rw [List.length_drop, Cr.size_list] at hk2
      have HRZ := Lib.hid hrz
      have HKC := Lib.hid hkc
      have HE : Hid (P = ((rs ++ [r]) ++ (Cr.rda (s.data.toList.drop (W + 32 * k))).1, (W + 32 * k) + (Cr.rda (s.data.toList.drop (W + 32 * k))).2)) := by
        rw [HP.out, Cr.rda_some hf, List.drop_drop, List.append_assoc, Nat.add_assoc]; exact Lib.hid rfl
      unfold fsV
      clear hf HP hkc hrz
      have hraw : w1.ownsRow w.heap.size 9 1 u4 rs.length (rs.map .string) := HO1.out
      have HBW : Hid (w.heap.size ≤ w1.heap.size) := HB1.out.size
      have HRS : Hid (rs.length ≤ 1000000000) := Lib.hid (by omega)
      go_wp2_with (at_builtin; go_must (refine wpList_append_own _ rfl _ _ 25 rfl w.heap.size 9 i0 _ 1 16 Tryd.underlying25 hi hz0 hz1 hz2 rfl (by decide) _ _ _ rfl (hraw.alloc _) ⟨w1.heap.size, 0, none⟩ 1 1 [_] rfl rfl (cell_one_new _ _ _) ?c2 ?c3 ?c4 ?c5 ?_))
      case c2 => intro u hu; simp at hu; subst hu; rfl
      case c3 => have := HRS.out; unfold maxLen; omega
      case c4 => have := HRS.out; omega
      case c5 => have := HBW.out; simp; omega
      intro v2 w2 hown2 hgrow2 _
      have HW : Hid (OwnsS w2 w.heap.size v2 (rs ++ [r]) ∧ Below w.heap.size w w2) :=
        ⟨OwnsS.snoc hown2, ((Below.next_alloc HB1.out _)).grown hgrow2 (by have := HBW.out; simp; omega) (fun q hq => (hraw.lt q hq).1)⟩
      clear hown2 hgrow2 hraw HB1 HO1
      go_wp2_with fail
      refine (refFrame_any r _ HRZ.out).mono ?_
      rintro e w3 ⟨rfl, hb3⟩
      have HW3 : Hid (OwnsS w3 w.heap.size v2 (rs ++ [r]) ∧ Below w.heap.size w w3) := ⟨HW.out.1.kept hb3, Below.next HW.out.2 hb3⟩
      clear hb3 HW
      have hfs : ((⟨(Cr.frame r).toArray⟩ : ByteArray).size : Int) = 32 * (k : Int) := by
        have h1 : (⟨(Cr.frame r).toArray⟩ : ByteArray).size = 32 * Cr.cells r := Cr.frame_length r
        rw [h1, HKC.out]; omega
      generalize (⟨(Cr.frame r).toArray⟩ : ByteArray) = F at *
      go_wp2_with fail
      go_roundw
      case rel => exact ⟨W + 32 * k, rs ++ [r], by omega, by go_num, Lib.hid HW3.out.1, by rw [List.length_append, List.length_singleton]; omega, HE, Lib.hid HW3.out.2⟩
      case measure => simp [intOf]; omega

end Go.Proofs.YtalmkgjinabceaaDoor

/- The walk of frame.firstRecord. -/
import Derived.Test.YtalmkgjinabceaaDoorFrB
namespace Go.Proofs.YtalmkgjinabceaaDoor
open Go.RowKit

/-- What firstRecord answers. -/
def frV (o : Option (ByteArray × Nat)) : Value := match o with
  | some (r, k) => .tuple #[.string r, .int .i64 (32 * k : Nat), .bool true]
  | none => .tuple #[.string ⟨#[]⟩, .int .i64 0, .bool false]

theorem drop_take (s : ByteArray) (a b : Nat) : (s.extract a (a + b)).data.toList = (s.data.toList.drop a).take b := by
  rw [Cr.extract_list, Nat.add_sub_cancel_left]

set_option maxHeartbeats 2000000 in
theorem firstRecord_any (s : ByteArray) (w : World) (hT : Tab w) (hs : s.size ≤ 1000000000) :
    Calls Tryd.prog 20 #[.string s] w (Gives (frV (Cr.frl s.data.toList)) w) := by
  obtain ⟨i0, hi, hz0, hz1, hz2⟩ := info_parts info_u8
  have h0 := hT.lt
  have HT := Lib.hid hT; clear hT
  obtain ⟨R, hR⟩ : ∃ R, R = Cr.frl s.data.toList := ⟨_, rfl⟩
  rw [← hR]
  have HR0 : Hid (R = Cr.scan (s.data.toList.drop (32 * 0)) 0 []) := hR
  clear hR
  go_enter Tryd.func20, Tryd.ntmps20
  go_wp2_with fail
  go_loopw [3, 5, 6] (fun z u n wr => ∃ (k : Nat) (D : List UInt8), 32 * k ≤ s.size ∧ z = .int .i64 (32 * (k : Int)) ∧ n = .int .i64 k ∧ Hid (Owns wr w.heap.size u D) ∧ D.length ≤ 524288 ∧ Hid (R = Cr.scan (s.data.toList.drop (32 * k)) k D) ∧ Hid (Below w.heap.size w wr)) (fun z _ _ _ => s.size - (intOf z).toNat)
  case atStart => exact ⟨0, [], by omega, rfl, rfl, Lib.hid (Owns.nil _ _), by simp, HR0, Lib.hid (Below.refl _ _)⟩
  case round =>
    obtain ⟨k, D, hk, rfl, rfl, HO, hD, HR, HB⟩ := hrel
    clear HR0
    have HBS : Hid (w.heap.size ≤ wr.heap.size) := HB.out.size
    by_cases hlt : s.size < 32 * k + 32
    · have HE : Hid (R = none) := by rw [HR.out]; exact Lib.hid (Cr.scan_short (by rw [List.length_drop, Cr.size_list]; omega) _ _)
      go_wp2_with fail
      go_ret3
      rw [HE.out]
      exact ⟨rfl, HB.out⟩
    · have hle : 32 * k + 32 ≤ s.size := by omega
      have hT2 : Tab wr := HT.out.belowB h0 HB.out
      have hrd := read_any (s.extract (32 * k) (32 * k + 32)) wr hT2
      have HX : Hid ((s.extract (32 * k) (32 * k + 32)).data.toList = (s.data.toList.drop (32 * k)).take 32) := drop_take s _ _
      have HLD : Hid (32 ≤ (s.data.toList.drop (32 * k)).length) := by rw [List.length_drop, Cr.size_list]; exact Lib.hid (by omega)
      go_wp2_with fail
      refine hrd.mono ?_
      rintro e w1 ⟨rfl, hb1⟩
      clear hrd
      have HO1 : Hid (Owns w1 w.heap.size u5 D) := HO.out.kept hb1
      have HB1 : Hid (Below w.heap.size w w1) := Lib.hid (HB.out.trans (hb1.mono HBS.out))
      clear hb1 hT2
      cases hrdl : Cr.rd ((s.data.toList.drop (32 * k)).take 32) with
      | none =>
        have HE : Hid (R = none) := by rw [HR.out]; exact Lib.hid (Cr.scan_none hrdl _ _)
        have HV : Hid (rdV (s.extract (32 * k) (32 * k + 32)) = noV) := by unfold rdV; rw [HX.out, hrdl]; exact Lib.hid rfl
        rw [HV.out]
        unfold noV
        clear HX HV hrdl
        go_wp2_with fail
        go_ret3
        rw [HE.out]
        exact ⟨rfl, Below.next_alloc HB1.out _⟩
      | some c =>
        obtain ⟨hmay, _, _⟩ := Cr.rd_some hrdl
        have hd24 := Cr.may_size hmay
        obtain ⟨hn0, hn1⟩ := Cr.may_num hmay
        have HV : Hid (rdV (s.extract (32 * k) (32 * k + 32)) = .tuple #[clV c, .bool true]) := by unfold rdV; rw [HX.out, hrdl]; exact Lib.hid rfl
        rw [HV.out]
        clear HX HV hmay
        have HRDL := Lib.hid hrdl; clear hrdl
        have HB2 : Hid (∀ o, Below w.heap.size w (w1.alloc o)) := Lib.hid (fun o => Below.next_alloc HB1.out o)
        have HO2 : Hid (∀ o, Owns (w1.alloc o) w.heap.size u5 D) := Lib.hid (fun o => HO1.out.kept ((Below.refl _ _).alloc (Nat.le_refl _) _))
        obtain ⟨f, l, n, d⟩ := c
        unfold clV
        dsimp only at hd24 hn0 hn1 ⊢
        by_cases hnk : n = (k : Int)
        · subst hnk
          have hds : (D ++ d.data.toList).length = D.length + d.size := by rw [List.length_append, Cr.size_list]
          have HLT : Hid (∀ q, u5.ownBlock = some q → q < w1.heap.size) := Lib.hid (fun q hq => (World.ownsRow.lt HO1.out q hq).2)
          have hraw : ∀ o, (w1.alloc o).ownsRow w.heap.size 5 1 u5 D.length (Lib.byteCells D) := fun o => HO2.out o
          have HBW : Hid (w.heap.size ≤ w1.heap.size) := HB1.out.size
          have hsd : D.length + d.size ≤ 524312 := by omega
          have HDS := Lib.hid hds; have HDL := Lib.hid hsd
          clear hds hsd HO2 HO HB
          go_wp2_with (at_builtin; go_must (refine Lib.wpList_append_own_string _ rfl _ _ 30 9 rfl w.heap.size 5 i0 Tryd.underlying30 Tryd.underlying9 hi hz0 hz1 hz2 _ _ _ rfl (hraw _) d rfl ?c3 ?c4 ?c5 ?_))
          case c3 => have := HDL.out; unfold maxLen; omega
          case c4 => have := HDL.out; omega
          case c5 => have := HBW.out; simp; omega
          intro v' w2 hown' hgrow _
          have hcl : w2.cell? ⟨w1.heap.size, 1, none⟩ = some (.bool l) := by
            refine (World.cell?_of_block (hgrow.block w1.heap.size (by simp) (fun e => ?_))).trans ?_
            · have := HLT.out w1.heap.size e.symm
              omega
            · rw [World.cell?_alloc_mark]; rfl
          have HW : Hid (Owns w2 w.heap.size v' (D ++ d.data.toList) ∧ Below w.heap.size w w2) := ⟨Owns.cat hown', (HB2.out _).grown hgrow (by have := HBW.out; simp; omega) (fun q hq => (World.ownsRow.lt HO1.out q hq).1)⟩
          obtain ⟨va, vc, hva⟩ := HW.out.1.shape
          rw [HDS.out] at hva
          subst hva
          clear hown' hgrow hraw HB2 HO1 HLT HB1
          by_cases hlong : 524288 < D.length + d.size
          · have HE : Hid (R = none) := by rw [HR.out]; exact Lib.hid (Cr.scan_bad HRDL.out (Or.inr hlong))
            have hlong2 : (524288 : Int) < (D.length : Int) + (d.size : Int) := by omega
            clear hlong
            go_wp2_with fail
            go_ret3
            rw [HE.out]
            exact ⟨rfl, HW.out.2⟩
          · have hsh : D.length + d.size ≤ 524288 := by omega
            have hsh2 : (D.length : Int) + (d.size : Int) ≤ 524288 := by omega
            have HSH := Lib.hid hsh
            clear hlong hsh
            cases l with
            | true =>
              have HE : Hid (R = some (⟨(D ++ d.data.toList).toArray⟩, k + 1)) := by rw [HR.out]; exact Lib.hid (Cr.scan_last HLD.out HRDL.out rfl HSH.out rfl)
              have hcv := HW.out.1.convert
              go_wp2_with fail
              go_ret3
              rw [HE.out]
              refine ⟨?_, HW.out.2⟩
              have e : 32 * (k : Int) + 32 = ((32 * (k + 1) : Nat) : Int) := by omega
              exact congrArg (fun z => Ending.returned (.tuple #[.string ⟨(D ++ d.data.toList).toArray⟩, .int .i64 z, .bool true])) e
            | false =>
              have HE : Hid (R = Cr.scan (s.data.toList.drop (32 * (k + 1))) (k + 1) (D ++ d.data.toList)) := by
                rw [HR.out, Cr.scan_more HLD.out HRDL.out rfl HSH.out rfl, List.drop_drop]; exact Lib.hid (by rw [Nat.mul_add])
              go_wp2_with fail
              go_roundw
              case rel => exact ⟨k + 1, D ++ d.data.toList, by omega, by go_num, by go_num, Lib.hid HW.out.1, by rw [HDS.out]; exact HSH.out, HE, Lib.hid HW.out.2⟩
              case measure => simp [intOf]; omega
        · have HE : Hid (R = none) := by rw [HR.out]; exact Lib.hid (Cr.scan_bad HRDL.out (Or.inl hnk))
          have hne : (n == (k : Int)) = false := by rw [beq_eq_false_iff_ne]; exact hnk
          clear hnk
          go_wp2_with fail
          go_ret3
          rw [HE.out]
          exact ⟨rfl, HB2.out _⟩

end Go.Proofs.YtalmkgjinabceaaDoor

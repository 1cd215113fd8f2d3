/- The walk of SkipPlays over a list that New did not make. -/
import Derived.Test.YtghfgffgcknbmaaSkPl
namespace Go.Proofs.Ytghfgffgcknbmaa.Sk
open Go Go.RowKit
set_option linter.unusedVariables false
set_option linter.unusedSimpArgs false

set_option maxHeartbeats 4000000 in
set_option maxRecDepth 100000 in
theorem plays_t (ao : Option Addr) (n cap : Nat) (l : List Ac) (w : World) (h : SeesA w (.slice ao n cap) l) :
    Calls Try.prog 3 #[.slice ao n cap, .bool true] w fun e w' => e = .returned (.bool true) ∧ Below w.heap.size w w' := by
  have HL : Hid (l.length = n) := Lib.hid h.len
  have HAW := Lib.hid awake_any
  have HG := Lib.hid (great_any w h)
  have HS := Lib.hid h
  clear h
  go_enter Try.func3, Try.ntmps3
  go_wp2_with fail
  refine HG.out.mono ?_
  rintro e w1 ⟨b, rfl, hb1, hsm⟩
  have B1 := Lib.hid hb1
  have HSM := Lib.hid hsm
  clear hb1 hsm HG
  cases b with
  | true =>
    go_wp2_with fail
    refine (HAW.out _).mono ?_
    rintro e w2 ⟨rfl, hb2⟩
    have B2 := Lib.hid (Below.next B1.out hb2)
    clear hb2
    go_wp2_with fail
    go_ret
    exact ⟨rfl, B2.out⟩
  | false =>
    have HSL := Lib.hid (HSM.out rfl)
    have hn : (n : Int) ≤ 120 := by have := HSL.out.1; have := HL.out; omega
    clear HSM
    go_wp2_with fail
    refine (new_any w1).mono ?_
    rintro e w2 ⟨rfl, hb2, hl2⟩
    have B2 := Lib.hid (Below.next B1.out hb2)
    have L2 := Lib.hid hl2
    clear hb2 hl2
    have M0 := Lib.hid (mine_nil (base := w.heap.size) (empty_list (w := w2) rfl) B2.out.size)
    have B0 := Lib.hid (B2.out.alloc B2.out.size (.cells #[.slice none 0 0, .int .i64 0, .int .i64 0, .int .i64 0, .int .i64 0, .int .i64 0, .int .i64 0, .int .i64 0, .int .i64 0, .int .i64 0, .int .i64 0, .int .i64 0, .int .i64 0] 30))
    go_wp2_with fail
    go_loopw [7, 8] (fun v i wr => ∃ (k : Nat) (L : Lay), k ≤ n ∧ i = .int .i64 (k : Int) ∧ L.b = w2.heap.size ∧ Hid (Mine w.heap.size wr L (mkS hx (l.take k)) (mkR hx (l.take k))) ∧ Hid (Items w.heap.size wr v (mkR hx (l.take k))) ∧ Hid (Below w.heap.size w wr)) (fun _ i _ => n - (intOf i).toNat)
    case atStart => exact ⟨0, _, Nat.zero_le _, rfl, rfl, M0, Lib.hid (World.ownsRow_nil ..), B0⟩
    case round =>
      obtain ⟨k, L, hk, rfl, hLb, HM, HI, HB⟩ := hrel
      obtain ⟨ao2, cap2, ev⟩ := row_any HI.out
      subst ev
      by_cases hkn : k < n
      · obtain ⟨x, hxk⟩ : ∃ x, l[k]? = some x := ⟨l[k]'(by rw [HL.out]; exact hkn), List.getElem?_eq_getElem _⟩
        obtain ⟨b, off, rfl, hb, hx0, c0', c1', c2', c3'⟩ := HS.out.get hxk
        have HCX : Hid (∀ W, Below w.heap.size w W → W.cell? ⟨b, off + k * 4, none⟩ = some (.int .u8 (x.op : Int)) ∧ W.cell? ⟨b, off + k * 4 + 1, none⟩ = some (.string x.key) ∧ W.cell? ⟨b, off + k * 4 + 2, none⟩ = some (.string x.val) ∧ W.cell? ⟨b, off + k * 4 + 3, none⟩ = some (.int .i64 x.h)) := Lib.hid fun W hw =>
          ⟨(hw.cell (p := ⟨b, off + k * 4, none⟩) hb).trans c0', (hw.cell (p := ⟨b, off + k * 4 + 1, none⟩) hb).trans c1', (hw.cell (p := ⟨b, off + k * 4 + 2, none⟩) hb).trans c2', (hw.cell (p := ⟨b, off + k * 4 + 3, none⟩) hb).trans c3'⟩
        have hki : (k : Int) < n := by omega
        have hxs := HSL.out.2 x (List.mem_of_getElem? hxk)
        have HTS := Lib.hid (mkS_take (f := hx) hxk)
        have HTR := Lib.hid (mkR_take (f := hx) hxk)
        have hrl := mkR_len hx (l.take k)
        have hrl2 : (l.take k).length ≤ k := by rw [List.length_take]; omega
        have HFW : Hid ((mkR hx (l.take k)).length < 100000) := Lib.hid (by omega)
        obtain ⟨c0x, _, _, _⟩ := HCX.out _ HB.out
        by_cases ho : x.op = 0
        · have HSS : Hid (mkS hx (l.take (k + 1)) = put (item hx x) (mkS hx (l.take k))) := Lib.hid (by rw [HTS.out]; unfold stepS; rw [if_pos ho])
          have HRR : Hid (mkR hx (l.take (k + 1)) = rput (item hx x) (mkR hx (l.take k))) := Lib.hid (by rw [HTR.out]; unfold stepR; rw [if_pos ho])
          have HD := Lib.hid (Below.trans HB.out (c := wr.drew) ⟨rfl, rfl, rfl, Nat.le_refl _, fun _ _ => rfl⟩)
          have HRS := Lib.hid (refSet_any (w := wr.drew) (HI.out.below ⟨rfl, rfl, rfl, Nat.le_refl _, fun _ _ => rfl⟩) x.key x.val x.h HFW.out)
          rw [← HM.out.lies.kin.find] at HRS
          have HSEA : Hid (∀ W (hM : Mine w.heap.size W L (mkS hx (l.take k)) (mkR hx (l.take k))) (hW : w.heap.size ≤ W.heap.size), Calls Try.prog 13 #[.pointer (some ⟨w2.heap.size, 0, none⟩), .string x.key, .string x.val, .int .i64 x.h] W fun e w' => e = .returned (.bool (find x.key.data.toList (mkS hx (l.take k))).isNone) ∧ SetTo w.heap.size L (mkS hx (l.take k)) (mkR hx (l.take k)) (item hx x) W w') := Lib.hid fun W hM hW => by
            have := set_mine hM hW x.key x.val x.h (by omega) HFW.out
            rw [hLb] at this
            exact this
          generalize (find x.key.data.toList (mkS hx (l.take k))).isNone = fl at *
          obtain ⟨_, c1, c2, c3⟩ := HCX.out _ HB.out
          rw [ho] at c0x
          clear c0' c1' c2' c3' HTS HTR hxk hrl hrl2
          go_wp2_with fail
          go_region_held3 (fun w' => w'.cell? ⟨b, off + k * 4 + 1, none⟩ = some (.string x.key) ∧ w'.cell? ⟨b, off + k * 4 + 2, none⟩ = some (.string x.val) ∧ w'.cell? ⟨b, off + k * 4 + 3, none⟩ = some (.int .i64 x.h))
            (first
              | (go_keep; done)
              | (go_split_ands
                 exact (HCX.out _ (Below.next HD.out hb3)).2))
            (first
              | (go_at_call 12; refine HRS.out.mono ?_; rintro e w3 ⟨v3, rfl, hi3, hb3⟩))
          have HD3 := Lib.hid (Below.next HD.out hb3)
          have HI3a : Hid (Items w.heap.size w3 v3 (rput (item hx x) (mkR hx (l.take k)))) := Lib.hid (Items.mono hi3 HD.out.size)
          have HM3a := Lib.hid ((HM.out.below (Below.trans (b := wr.drew) ⟨rfl, rfl, rfl, Nat.le_refl _, fun _ _ => rfl⟩ hb3)))
          obtain ⟨d0, d1, d2, d3⟩ := HCX.out _ HD3.out
          clear hi3 hb3 c1 c2 c3
          go_wp2_with fail
          obtain ⟨ao3, cap3, ev3⟩ := row_any HI3a.out
          subst ev3
          have HSE := Lib.hid (HSEA.out w3.drew ⟨HM3a.out.lies.drew, HM3a.out.from_⟩ HD3.out.size)
          have HD4 := Lib.hid (Below.trans HD3.out (c := w3.drew) ⟨rfl, rfl, rfl, Nat.le_refl _, fun _ _ => rfl⟩)
          clear HRS HSEA c0x ho d0
          refine wp_region_held_drew (S := fun w' => w'.cell? ⟨b, off + k * 4 + 1, none⟩ = some (.string x.key) ∧ w'.cell? ⟨b, off + k * 4 + 2, none⟩ = some (.string x.val) ∧ w'.cell? ⟨b, off + k * 4 + 3, none⟩ = some (.int .i64 x.h)) (by kernel_rfl) ⟨d1, d2, d3⟩ (fun hS => ?_)
          refine wpAnyH_take (i := 0) (v := ?vb0) rfl (by kernel_rfl) (by kernel_rfl) (by kernel_rfl) (fun _ _ _ h => h) (Or.inl ⟨by kernel_rfl, ?yb0⟩) hS ?_; case yb0 => (rintro w' ⟨s1, s2, s3⟩; go_simp; try with_reducible rfl)
          simp only [Act.put, List.setIfInBounds_toArray, List.set_cons_zero, List.set_cons_succ]
          refine wpAnyH_take (i := 1) (v := ?vb1) rfl (by kernel_rfl) (by kernel_rfl) (by kernel_rfl) (fun _ _ _ h => h) (Or.inl ⟨by kernel_rfl, ?yb1⟩) hS ?_; case yb1 => (rintro w' ⟨s1, s2, s3⟩; go_simp; try with_reducible rfl)
          simp only [Act.put, List.setIfInBounds_toArray, List.set_cons_zero, List.set_cons_succ]
          refine wpAnyH_take (i := 2) (v := ?vb2) rfl (by kernel_rfl) (by kernel_rfl) (by kernel_rfl) (fun _ _ _ h => h) (Or.inl ⟨by kernel_rfl, ?yb2⟩) hS ?_; case yb2 => (rintro w' ⟨s1, s2, s3⟩; go_simp; try with_reducible rfl)
          simp only [Act.put, List.setIfInBounds_toArray, List.set_cons_zero, List.set_cons_succ]
          refine wpAnyH_take (i := 3) (v := ?vb3) rfl (by kernel_rfl) (by kernel_rfl) (by kernel_rfl) (fun _ _ _ h => h) (Or.inl ⟨by kernel_rfl, ?yb3⟩) hS ?_; case yb3 => (rintro w' ⟨s1, s2, s3⟩; go_simp; try with_reducible rfl)
          simp only [Act.put, List.setIfInBounds_toArray, List.set_cons_zero, List.set_cons_succ]
          refine wpAnyH_take (i := 4) (v := ?vb4) rfl (by kernel_rfl) (by kernel_rfl) (by kernel_rfl) (fun _ _ _ h => h) (Or.inl ⟨by kernel_rfl, ?yb4⟩) hS ?_; case yb4 => (rintro w' ⟨s1, s2, s3⟩; go_simp; try with_reducible rfl)
          simp only [Act.put, List.setIfInBounds_toArray, List.set_cons_zero, List.set_cons_succ]
          refine wpAnyH_take (i := 5) (v := ?vb5) rfl (by kernel_rfl) (by kernel_rfl) (by kernel_rfl) (fun _ _ _ h => h) (Or.inl ⟨by kernel_rfl, ?yb5⟩) hS ?_; case yb5 => (rintro w' ⟨s1, s2, s3⟩; go_simp; try with_reducible rfl)
          simp only [Act.put, List.setIfInBounds_toArray, List.set_cons_zero, List.set_cons_succ]
          refine wpAnyH_take (i := 6) (v := ?vb6) rfl (by kernel_rfl) (by kernel_rfl) (by kernel_rfl) (fun _ _ _ h => h) (Or.inl ⟨by kernel_rfl, ?yb6⟩) hS ?_; case yb6 => (rintro w' ⟨s1, s2, s3⟩; go_simp; try with_reducible rfl)
          simp only [Act.put, List.setIfInBounds_toArray, List.set_cons_zero, List.set_cons_succ]
          refine wpAnyH_take (i := 7) (v := ?vb7) rfl (by kernel_rfl) (by kernel_rfl) (by kernel_rfl) (fun _ _ _ h => h) (Or.inl ⟨by kernel_rfl, ?yb7⟩) hS ?_; case yb7 => (rintro w' ⟨s1, s2, s3⟩; go_simp; try with_reducible rfl)
          simp only [Act.put, List.setIfInBounds_toArray, List.set_cons_zero, List.set_cons_succ]
          refine wpAnyH_take (i := 8) (v := ?vb8) rfl (by kernel_rfl) (by kernel_rfl) (by kernel_rfl) (fun _ _ _ h => h) (Or.inl ⟨by kernel_rfl, ?yb8⟩) hS ?_; case yb8 => (rintro w' ⟨s1, s2, s3⟩; go_simp; try with_reducible rfl)
          simp only [Act.put, List.setIfInBounds_toArray, List.set_cons_zero, List.set_cons_succ]
          refine wpAnyH_take (i := 9) (v := ?vb9) rfl (by kernel_rfl) (by kernel_rfl) (by kernel_rfl) (fun _ _ _ h => h) (Or.inl ⟨by kernel_rfl, ?yb9⟩) hS ?_; case yb9 => (rintro w' ⟨s1, s2, s3⟩; go_simp; try with_reducible rfl)
          simp only [Act.put, List.setIfInBounds_toArray, List.set_cons_zero, List.set_cons_succ]
          refine wpAnyH_take (i := 10) (v := ?vb10) rfl (by kernel_rfl) (by kernel_rfl) (by kernel_rfl) (fun _ _ _ h => h) (Or.inl ⟨by kernel_rfl, ?yb10⟩) hS ?_; case yb10 => (rintro w' ⟨s1, s2, s3⟩; go_simp; try with_reducible rfl)
          simp only [Act.put, List.setIfInBounds_toArray, List.set_cons_zero, List.set_cons_succ]
          refine wpAnyH_take (i := 11) (v := ?vb11) rfl (by kernel_rfl) (by kernel_rfl) (by kernel_rfl) (fun _ _ _ h => h) (Or.inl ⟨by kernel_rfl, ?yb11⟩) hS ?_; case yb11 => (rintro w' ⟨s1, s2, s3⟩; go_simp; try with_reducible rfl)
          simp only [Act.put, List.setIfInBounds_toArray, List.set_cons_zero, List.set_cons_succ]
          refine wpAnyH_take (i := 12) (v := ?vb12) rfl (by kernel_rfl) (by kernel_rfl) (by kernel_rfl) (fun _ _ _ h => h) (Or.inl ⟨by kernel_rfl, ?yb12⟩) hS ?_; case yb12 => (rintro w' ⟨s1, s2, s3⟩; go_simp; try with_reducible rfl)
          simp only [Act.put, List.setIfInBounds_toArray, List.set_cons_zero, List.set_cons_succ]
          refine wpAnyH_take (i := 13) (v := ?vb13) rfl (by kernel_rfl) (by kernel_rfl) (by kernel_rfl) (fun _ _ _ h => h) (Or.inl ⟨by kernel_rfl, ?yb13⟩) hS ?_; case yb13 => (rintro w' ⟨s1, s2, s3⟩; go_simp; try with_reducible rfl)
          simp only [Act.put, List.setIfInBounds_toArray, List.set_cons_zero, List.set_cons_succ]
          refine wpAnyH_take (i := 14) (v := ?vb14) rfl (by kernel_rfl) (by kernel_rfl) (by kernel_rfl) (fun _ _ _ h => h) (Or.inl ⟨by kernel_rfl, ?yb14⟩) hS ?_; case yb14 => (rintro w' ⟨s1, s2, s3⟩; go_simp; try with_reducible rfl)
          simp only [Act.put, List.setIfInBounds_toArray, List.set_cons_zero, List.set_cons_succ]
          refine wpAnyH_take (i := 15) (v := ?vb15) rfl (by kernel_rfl) (by kernel_rfl) (by kernel_rfl) (fun _ _ _ h => h) (Or.inl ⟨by kernel_rfl, ?yb15⟩) hS ?_; case yb15 => (rintro w' ⟨s1, s2, s3⟩; go_simp; try with_reducible rfl)
          simp only [Act.put, List.setIfInBounds_toArray, List.set_cons_zero, List.set_cons_succ]
          refine wpAnyH_take (i := 17) (v := ?vb17) rfl (by kernel_rfl) (by kernel_rfl) (by kernel_rfl) (fun _ _ _ h => h) (Or.inl ⟨by kernel_rfl, ?yb17⟩) hS ?_; case yb17 => (rintro w' ⟨s1, s2, s3⟩; go_simp; try with_reducible rfl)
          simp only [Act.put, List.setIfInBounds_toArray, List.set_cons_zero, List.set_cons_succ]
          refine wpAnyH_ready (rs := [16]) (by kernel_rfl) (by simp) ?_
          refine AllReadyH.cons rfl (fun K hK => ?_) AllReadyH.nil
          go_simp
          refine HSE.out.mono ?_
          rintro e w4 ⟨rfl, L3, hL3a, hm4, ht4⟩
          have hbb : Below w.heap.size w3.drew w4 := ht4.to_below HD3.out.size HM3a.out.from_
          have HM3 := Lib.hid hm4
          have HI3 := Lib.hid (Items.apart (w := w3.drew) (HI3a.out.below ⟨rfl, rfl, rfl, Nat.le_refl _, fun _ _ => rfl⟩) HM3a.out.lies.drew ht4)
          have HB3 := Lib.hid (HD4.out.trans hbb)
          have hS4 := (HCX.out _ HB3.out).2
          clear hm4 ht4 hbb
          go_wp2_with fail
          refine hK.out _ _ hS4 (fun _ => ?_)
          clear hK K
          try simp only [Act.put, List.setIfInBounds_toArray, List.set_cons_zero, List.set_cons_succ]
          refine wpAnyH_take (i := 18) (v := ?vb18) rfl (by kernel_rfl) (by kernel_rfl) (by kernel_rfl) (fun _ _ _ h => h) (Or.inl ⟨by kernel_rfl, ?yb18⟩) hS4 ?_; case yb18 => (rintro w' ⟨s1, s2, s3⟩; go_simp; try with_reducible rfl)
          simp only [Act.put, List.setIfInBounds_toArray, List.set_cons_zero, List.set_cons_succ]
          refine wpAnyH_take (i := 19) (v := ?vb19) rfl (by kernel_rfl) (by kernel_rfl) (by kernel_rfl) (fun _ _ _ h => h) (Or.inl ⟨by kernel_rfl, ?yb19⟩) hS4 ?_; case yb19 => (rintro w' ⟨s1, s2, s3⟩; go_simp; try with_reducible rfl)
          simp only [Act.put, List.setIfInBounds_toArray, List.set_cons_zero, List.set_cons_succ]
          refine wpAnyH_take (i := 20) (v := ?vb20) rfl (by kernel_rfl) (by kernel_rfl) (by kernel_rfl) (fun _ _ _ h => h) (Or.inl ⟨by kernel_rfl, ?yb20⟩) hS4 ?_; case yb20 => (rintro w' ⟨s1, s2, s3⟩; go_simp; try with_reducible rfl)
          simp only [Act.put, List.setIfInBounds_toArray, List.set_cons_zero, List.set_cons_succ]
          refine wpAnyH_take (i := 21) (v := ?vb21) rfl (by kernel_rfl) (by kernel_rfl) (by kernel_rfl) (fun _ _ _ h => h) (Or.inl ⟨by kernel_rfl, ?yb21⟩) hS4 ?_; case yb21 => (rintro w' ⟨s1, s2, s3⟩; go_simp; try with_reducible rfl)
          simp only [Act.put, List.setIfInBounds_toArray, List.set_cons_zero, List.set_cons_succ]
          refine wpAnyH_take (i := 22) (v := ?vb22) rfl (by kernel_rfl) (by kernel_rfl) (by kernel_rfl) (fun _ _ _ h => h) (Or.inl ⟨by kernel_rfl, ?yb22⟩) hS4 ?_; case yb22 => (rintro w' ⟨s1, s2, s3⟩; go_simp; try with_reducible rfl)
          simp only [Act.put, List.setIfInBounds_toArray, List.set_cons_zero, List.set_cons_succ]
          refine wpAnyH_take (i := 23) (v := ?vb23) rfl (by kernel_rfl) (by kernel_rfl) (by kernel_rfl) (fun _ _ _ h => h) (Or.inl ⟨by kernel_rfl, ?yb23⟩) hS4 ?_; case yb23 => (rintro w' ⟨s1, s2, s3⟩; go_simp; try with_reducible rfl)
          simp only [Act.put, List.setIfInBounds_toArray, List.set_cons_zero, List.set_cons_succ]
          refine wpAnyH_take (i := 24) (v := ?vb24) rfl (by kernel_rfl) (by kernel_rfl) (by kernel_rfl) (fun _ _ _ h => h) (Or.inl ⟨by kernel_rfl, ?yb24⟩) hS4 ?_; case yb24 => (rintro w' ⟨s1, s2, s3⟩; go_simp; try with_reducible rfl)
          simp only [Act.put, List.setIfInBounds_toArray, List.set_cons_zero, List.set_cons_succ]
          refine wpAnyH_take (i := 25) (v := ?vb25) rfl (by kernel_rfl) (by kernel_rfl) (by kernel_rfl) (fun _ _ _ h => h) (Or.inl ⟨by kernel_rfl, ?yb25⟩) hS4 ?_; case yb25 => (rintro w' ⟨s1, s2, s3⟩; go_simp; try with_reducible rfl)
          simp only [Act.put, List.setIfInBounds_toArray, List.set_cons_zero, List.set_cons_succ]
          refine wpAnyH_take (i := 26) (v := ?vb26) rfl (by kernel_rfl) (by kernel_rfl) (by kernel_rfl) (fun _ _ _ h => h) (Or.inl ⟨by kernel_rfl, ?yb26⟩) hS4 ?_; case yb26 => (rintro w' ⟨s1, s2, s3⟩; go_simp; try with_reducible rfl)
          simp only [Act.put, List.setIfInBounds_toArray, List.set_cons_zero, List.set_cons_succ]
          refine wpAnyH_take (i := 27) (v := ?vb27) rfl (by kernel_rfl) (by kernel_rfl) (by kernel_rfl) (fun _ _ _ h => h) (Or.inl ⟨by kernel_rfl, ?yb27⟩) hS4 ?_; case yb27 => (rintro w' ⟨s1, s2, s3⟩; go_simp; try with_reducible rfl)
          simp only [Act.put, List.setIfInBounds_toArray, List.set_cons_zero, List.set_cons_succ]
          refine wpAnyH_take (i := 28) (v := ?vb28) rfl (by kernel_rfl) (by kernel_rfl) (by kernel_rfl) (fun _ _ _ h => h) (Or.inl ⟨by kernel_rfl, ?yb28⟩) hS4 ?_; case yb28 => (rintro w' ⟨s1, s2, s3⟩; go_simp; try with_reducible rfl)
          simp only [Act.put, List.setIfInBounds_toArray, List.set_cons_zero, List.set_cons_succ]
          refine wpAnyH_take (i := 29) (v := ?vb29) rfl (by kernel_rfl) (by kernel_rfl) (by kernel_rfl) (fun _ _ _ h => h) (Or.inl ⟨by kernel_rfl, ?yb29⟩) hS4 ?_; case yb29 => (rintro w' ⟨s1, s2, s3⟩; go_simp; try with_reducible rfl)
          simp only [Act.put, List.setIfInBounds_toArray, List.set_cons_zero, List.set_cons_succ]
          refine wpAnyH_take (i := 30) (v := ?vb30) rfl (by kernel_rfl) (by kernel_rfl) (by kernel_rfl) (fun _ _ _ h => h) (Or.inl ⟨by kernel_rfl, ?yb30⟩) hS4 ?_; case yb30 => (rintro w' ⟨s1, s2, s3⟩; go_simp; try with_reducible rfl)
          simp only [Act.put, List.setIfInBounds_toArray, List.set_cons_zero, List.set_cons_succ]
          refine wpAnyH_take (i := 31) (v := ?vb31) rfl (by kernel_rfl) (by kernel_rfl) (by kernel_rfl) (fun _ _ _ h => h) (Or.inl ⟨by kernel_rfl, ?yb31⟩) hS4 ?_; case yb31 => (rintro w' ⟨s1, s2, s3⟩; go_simp; try with_reducible rfl)
          simp only [Act.put, List.setIfInBounds_toArray, List.set_cons_zero, List.set_cons_succ]
          refine wpAnyH_take (i := 32) (v := ?vb32) rfl (by kernel_rfl) (by kernel_rfl) (by kernel_rfl) (fun _ _ _ h => h) (Or.inl ⟨by kernel_rfl, ?yb32⟩) hS4 ?_; case yb32 => (rintro w' ⟨s1, s2, s3⟩; go_simp; try with_reducible rfl)
          simp only [Act.put, List.setIfInBounds_toArray, List.set_cons_zero, List.set_cons_succ]
          refine wpAnyH_take (i := 33) (v := ?vb33) rfl (by kernel_rfl) (by kernel_rfl) (by kernel_rfl) (fun _ _ _ h => h) (Or.inl ⟨by kernel_rfl, ?yb33⟩) hS4 ?_; case yb33 => (rintro w' ⟨s1, s2, s3⟩; go_simp; try with_reducible rfl)
          simp only [Act.put, List.setIfInBounds_toArray, List.set_cons_zero, List.set_cons_succ]
          refine wpAnyH_take (i := 34) (v := ?vb34) rfl (by kernel_rfl) (by kernel_rfl) (by kernel_rfl) (fun _ _ _ h => h) (Or.inl ⟨by kernel_rfl, ?yb34⟩) hS4 ?_; case yb34 => (rintro w' ⟨s1, s2, s3⟩; go_simp; try with_reducible rfl)
          simp only [Act.put, List.setIfInBounds_toArray, List.set_cons_zero, List.set_cons_succ]
          refine wpAnyH_take (i := 35) (v := ?vb35) rfl (by kernel_rfl) (by kernel_rfl) (by kernel_rfl) (fun _ _ _ h => h) (Or.inl ⟨by kernel_rfl, ?yb35⟩) hS4 ?_; case yb35 => (rintro w' ⟨s1, s2, s3⟩; go_simp; try with_reducible rfl)
          simp only [Act.put, List.setIfInBounds_toArray, List.set_cons_zero, List.set_cons_succ]
          refine wpAnyH_ready (rs := [36]) (by kernel_rfl) (by simp) ?_
          refine AllReadyH.cons rfl (fun K hK => ?_) AllReadyH.nil
          go_simp
          refine (setNil _ _ _ _).mono ?_
          rintro e w5 ⟨rfl, rfl⟩
          go_wp2_with fail
          refine hK.out _ _ hS4 (fun _ => ?_)
          clear hK K
          try simp only [Act.put, List.setIfInBounds_toArray, List.set_cons_zero, List.set_cons_succ]
          refine wpAnyH_take (i := 37) (v := ?vb37) rfl (by kernel_rfl) (by kernel_rfl) (by kernel_rfl) (fun _ _ _ h => h) (Or.inl ⟨by kernel_rfl, ?yb37⟩) hS4 ?_; case yb37 => (rintro w' ⟨s1, s2, s3⟩; go_simp; try with_reducible rfl)
          try simp only [Act.put, List.setIfInBounds_toArray, List.set_cons_zero, List.set_cons_succ]
          refine wpAnyH_done (by kernel_rfl) ?_ _
          have hL3 := hL3a.trans hLb
          have HST := Lib.hid (And.intro HM3.out (And.intro HI3.out HB3.out))
          have HA1 := Lib.hid (asks_any (q := some ⟨w2.heap.size, 0, none⟩) (Or.inr ⟨L3, by rw [hL3], HM3.out.lies⟩) HI3.out x (by omega) hx0.1)
          have HA2 := Lib.hid (fun W' => asks_any (w := W') (q := none) (ao := none) (m := 0) (cap := 0) (b0 := 0) (Or.inl ⟨rfl, rfl, rfl⟩) (World.ownsRow_nil ..) x (by omega) hx0.1)
          unfold actV at HA1 HA2
          obtain ⟨c0, c1, c2, c3⟩ := HCX.out _ HB3.out
          go_wp2_with fail
          refine HA1.out.mono ?_
          rintro e w5 ⟨rfl, hb5⟩
          have HB5 := Lib.hid (Below.next HB3.out hb5)
          have HM5 := Lib.hid (HM3.out.below hb5)
          have HI5 := Lib.hid (HI3.out.below hb5)
          obtain ⟨e0, e1, e2, e3⟩ := HCX.out _ HB5.out
          clear hb5 c0 c1 c2 c3
          go_wp2_with fail
          refine (HA2.out _).mono ?_
          rintro e w6 ⟨rfl, hb6⟩
          have HB6 := Lib.hid (Below.next HB5.out hb6)
          have HM6 := Lib.hid (HM5.out.below hb6)
          have HI6 := Lib.hid (HI5.out.below hb6)
          have HLEN := Lib.hid (len_any HM6.out.lies)
          rw [hL3] at HLEN
          clear hb6 e0 e1 e2 e3
          go_wp2_with fail
          refine HLEN.out.mono ?_
          rintro e w7 ⟨rfl, rfl⟩
          go_wp2_with fail
          refine (lenNil _).mono ?_
          rintro e w8 ⟨rfl, rfl⟩
          go_wp2_with fail
          go_roundw
          case rel => exact ⟨k + 1, L3, by omega, by go_num, hL3, Lib.hid (by rw [HSS.out, HRR.out]; exact HM6.out), Lib.hid (by rw [HRR.out]; exact HI6.out), HB6⟩
          case measure => simp [intOf]; omega
        · have ho2 : ¬ (x.op : Int) = 0 := by omega
          have HSS : Hid (mkS hx (l.take (k + 1)) = mkS hx (l.take k)) := Lib.hid (by rw [HTS.out]; unfold stepS; rw [if_neg ho])
          have HRR : Hid (mkR hx (l.take (k + 1)) = mkR hx (l.take k)) := Lib.hid (by rw [HTR.out]; unfold stepR; rw [if_neg ho])
          have HM3 := HM
          have HI3 := HI
          have HB3 := HB
          obtain ⟨L3, hLe⟩ : ∃ L3, L3 = L := ⟨_, rfl⟩
          subst hLe
          have hL3 := hLb
          clear c0' c1' c2' c3' HTS HTR hxk hrl hrl2 ho
          have HST := Lib.hid (And.intro HM3.out (And.intro HI3.out HB3.out))
          have HA1 := Lib.hid (asks_any (q := some ⟨w2.heap.size, 0, none⟩) (Or.inr ⟨L3, by rw [hL3], HM3.out.lies⟩) HI3.out x (by omega) hx0.1)
          have HA2 := Lib.hid (fun W' => asks_any (w := W') (q := none) (ao := none) (m := 0) (cap := 0) (b0 := 0) (Or.inl ⟨rfl, rfl, rfl⟩) (World.ownsRow_nil ..) x (by omega) hx0.1)
          unfold actV at HA1 HA2
          obtain ⟨c0, c1, c2, c3⟩ := HCX.out _ HB3.out
          clear c0x
          go_wp2_with fail
          refine HA1.out.mono ?_
          rintro e w5 ⟨rfl, hb5⟩
          have HB5 := Lib.hid (Below.next HB3.out hb5)
          have HM5 := Lib.hid (HM3.out.below hb5)
          have HI5 := Lib.hid (HI3.out.below hb5)
          obtain ⟨e0, e1, e2, e3⟩ := HCX.out _ HB5.out
          clear hb5 c0 c1 c2 c3
          go_wp2_with fail
          refine (HA2.out _).mono ?_
          rintro e w6 ⟨rfl, hb6⟩
          have HB6 := Lib.hid (Below.next HB5.out hb6)
          have HM6 := Lib.hid (HM5.out.below hb6)
          have HI6 := Lib.hid (HI5.out.below hb6)
          have HLEN := Lib.hid (len_any HM6.out.lies)
          rw [hL3] at HLEN
          clear hb6 e0 e1 e2 e3
          go_wp2_with fail
          refine HLEN.out.mono ?_
          rintro e w7 ⟨rfl, rfl⟩
          go_wp2_with fail
          refine (lenNil _).mono ?_
          rintro e w8 ⟨rfl, rfl⟩
          go_wp2_with fail
          go_roundw
          case rel => exact ⟨k + 1, L3, by omega, by go_num, hL3, Lib.hid (by rw [HSS.out, HRR.out]; exact HM6.out), Lib.hid (by rw [HRR.out]; exact HI6.out), HB6⟩
          case measure => simp [intOf]; omega
      · obtain rfl : k = n := by omega
        have e1 : l.take k = l := List.take_of_length_le (by rw [HL.out]; exact Nat.le_refl _)
        rw [e1] at HM HI ⊢
        have HW1 := Lib.hid (whole_any (w := wr) (q := some ⟨w2.heap.size, 0, none⟩) (Or.inr ⟨L, by rw [hLb], HM.out.lies⟩) HI.out)
        have HW2 := Lib.hid (fun W' => whole_any (w := W') (q := none) (ao := none) (m := 0) (cap := 0) (b0 := 0) (Or.inl ⟨rfl, rfl, rfl⟩) (World.ownsRow_nil ..))
        go_wp2_with fail
        refine HW1.out.mono ?_
        rintro e w5 ⟨rfl, hb5⟩
        have HB5 := Lib.hid (Below.next HB.out hb5)
        clear hb5
        go_wp2_with fail
        refine (HW2.out _).mono ?_
        rintro e w6 ⟨rfl, hb6⟩
        have HB6 := Lib.hid (Below.next HB5.out hb6)
        clear hb6
        go_wp2_with fail
        refine (HAW.out _).mono ?_
        rintro e w7 ⟨rfl, hb7⟩
        have HB7 := Lib.hid (Below.next HB6.out hb7)
        clear hb7
        go_wp2_with fail
        go_ret
        exact ⟨rfl, HB7.out⟩



end Go.Proofs.Ytghfgffgcknbmaa.Sk

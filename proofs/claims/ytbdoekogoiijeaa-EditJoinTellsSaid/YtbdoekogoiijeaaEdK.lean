/- The walk of edit.going. -/
import Derived.Test.YtbdoekogoiijeaaEdJ
namespace Go.Proofs.Ytbdoekogoiijeaa
open Go.RowKit Sk Go.Maps
set_option linter.unusedVariables false
set_option maxRecDepth 20000

def Ed.goTo (es : List Edt) (j : Nat) : List Nat := (List.range j).flatMap (fun i => (es.getD i edd).drop.filter (fun n => !Ed.came (es.take i) n))
theorem Ed.goTo_succ (es : List Edt) (j : Nat) : Ed.goTo es (j + 1) = Ed.goTo es j ++ (es.getD j edd).drop.filter (fun n => !Ed.came (es.take j) n) := by
  unfold Ed.goTo
  rw [List.range_succ, List.flatMap_append, List.flatMap_singleton]
theorem filter_snocU (l : List Nat) (f : Nat → Bool) (q : Nat) (h : q < l.length) : (l.take (q + 1)).filter (fun n => !f n) = (l.take q).filter (fun n => !f n) ++ if f (l.getD q 0) = true then [] else [l.getD q 0] := by
  rw [take_snocU l q h, List.filter_append]
  generalize l.getD q 0 = t
  by_cases e : f t = true
  · rw [if_pos e, List.filter_cons_of_neg (by simp [e])]; rfl
  · rw [if_neg e, List.filter_cons_of_pos (by simpa using e)]; rfl

set_option maxHeartbeats 8000000 in
theorem going_any (ao : Option Addr) (an ac : Nat) (es : List Edt) (w : World) (hS : SeesEd w (.slice ao an ac) es) (hC : Ed.Calm es) :
    Calls Try.prog 48 #[.slice ao an ac] w (fun e w' => ∃ v, e = .returned v ∧ OwnsN w' w.heap.size v (Ed.going es) ∧ Below w.heap.size w w') := by
  obtain ⟨hal, ba, oa, hac⟩ := hS.get
  obtain ⟨hc1, hc2⟩ := hC
  obtain ⟨i0, hi, hz0, hz1, hz2⟩ := info_parts info_un
  have hmm := @run_makeMap Try.prog
  have HAC := Lib.hid hac; have HAL := Lib.hid hal; have HC2 := Lib.hid hc2
  have hal2 : an ≤ 100000 := by omega
  have HM0 := Lib.hid (USet.made w)
  have HB0 : Hid (Below w.heap.size w (w.alloc (.map #[] 0))) := Lib.hid ((Below.refl _ _).alloc (Nat.le_refl _) _)
  have hlt0 : w.heap.size < (w.alloc (.map #[] 0)).heap.size := by simp
  clear hac hal hc1 hc2 hS
  go_enter Try.func48, Try.ntmps48
  go_wp2_with fail
  generalize w.alloc (.map #[] 0) = W at *
  go_loopw [3, 18] (fun u i wr => ∃ k m : Nat, k ≤ an ∧ i = .int .i64 k ∧ m ≤ 100000 * k ∧ OwnsN wr (w.heap.size + 1) u (Ed.goTo es k) ∧ (Ed.goTo es k).length ≤ 100000 * k ∧ USet wr w.heap.size m (Ed.came (es.take k)) ∧ Below w.heap.size w wr) (fun _ i _ => an - (intOf i).toNat)
  case atStart => exact ⟨0, 0, Nat.zero_le _, rfl, by simp, OwnsN.nil _ _, by simp [Ed.goTo], HM0.out, HB0.out⟩
  case round =>
    obtain ⟨k, m, hk, rfl, hm, hown, hol, hmap, hbel⟩ := hrel
    have hsz := hbel.size
    have HBW := Lib.hid hbel
    by_cases hlt : k < an
    · obtain ⟨rfl, hbl, hob⟩ := HAC.out k hlt
      have hkl : k < es.length := by rw [HAL.out]; exact hlt
      obtain ⟨xo, xn, xc, yo, yn, yc, c0, c1, c2, c3, c4, hA, hD⟩ := hob
      have c0 := (hbel.cell (p := ⟨ba, oa + k * 5, none⟩) hbl).trans c0
      have c1 := (hbel.cell (p := ⟨ba, oa + k * 5 + 1, none⟩) hbl).trans c1
      have c2 := (hbel.cell (p := ⟨ba, oa + k * 5 + 2, none⟩) hbl).trans c2
      have c3 := (hbel.cell (p := ⟨ba, oa + k * 5 + 3, none⟩) hbl).trans c3
      have c4 := (hbel.cell (p := ⟨ba, oa + k * 5 + 4, none⟩) hbl).trans c4
      have hbr : ba < wr.heap.size := by omega
      obtain ⟨hx1, hx2, hx3, hx4⟩ := HC2.out _ (ed_mem hkl)
      have HTK : Hid (es.take (k + 1) = es.take k ++ [es.getD k edd]) := Lib.hid (take_snocE es k hkl)
      have HGO : Hid (Ed.goTo es (k + 1) = Ed.goTo es k ++ (es.getD k edd).drop.filter (fun n => !Ed.came (es.take k) n)) := Lib.hid (Ed.goTo_succ es k)
      clear hkl
      generalize es.getD k edd = x at *
      obtain ⟨hdl, bd, od, hdc⟩ := hD.get
      obtain ⟨hal3, bb, ob, hbc⟩ := hA.get
      have HDC := Lib.hid hdc; have HDL := Lib.hid hdl; have HBC := Lib.hid hbc; have HBL := Lib.hid hal3
      have hyn : yn ≤ 100000 := by omega
      have hxn : xn ≤ 100000 := by omega
      have HX3 := Lib.hid hx3.2.1
      have HX1 := Lib.hid hx3.1
      have hmlt := hmap.lt
      have HMP : Hid (∀ o, USet (wr.alloc o) w.heap.size m (Ed.came (es.take k))) := Lib.hid (fun o => hmap.below ((Below.refl _ _).alloc (Nat.le_refl _) _))
      have HNB : Hid (∀ o, Below w.heap.size w (wr.alloc o)) := Lib.hid (fun o => Below.next_alloc hbel _)
      have HNO : Hid (∀ o, OwnsN (wr.alloc o) (w.heap.size + 1) u3 (Ed.goTo es k)) := Lib.hid (fun o => hown.below ((Below.refl _ _).alloc (Nat.le_refl _) _))
      have HEX : Hid (Ex (wr.alloc (.cells #[.slice xo xn xc, .slice yo yn yc, .int .u64 (x.log : Nat), .int .u64 (x.seq : Nat), .int .u64 (x.next : Nat)] 30)) wr.heap.size (.slice xo xn xc) (.slice yo yn yc) x.log x.seq x.next) := Lib.hid (heap_alloc_new _ _)
      generalize hCJ : Ed.goTo es k = CJ at *
      generalize hCF : Ed.came (es.take k) = CF at *
      have HCF := Lib.hid hCF
      clear hCJ hCF hdc hdl hbc hal3 hA hx1 hx2 hx3 hx4 hmap hbel hD hown
      have hoN : w.heap.size < wr.heap.size := hmlt
      obtain ⟨BX, hBX⟩ : ∃ BX, BX = wr.heap.size := ⟨_, rfl⟩
      rw [← hBX] at HEX hoN
      go_wp2_with fail
      rw [← hBX]
      have HBX := Lib.hid hBX
      clear hBX
      go_loopw [3, 25] (fun u i w2 => ∃ q : Nat, q ≤ yn ∧ i = .int .i64 q ∧ OwnsN w2 (w.heap.size + 1) u (CJ ++ (x.drop.take q).filter (fun n => !CF n)) ∧ (CJ ++ (x.drop.take q).filter (fun n => !CF n)).length ≤ 100000 * k + q ∧ USet w2 w.heap.size m CF ∧ Below w.heap.size w w2 ∧ Ex w2 BX (.slice xo xn xc) (.slice yo yn yc) x.log x.seq x.next) (fun _ i _ => yn - (intOf i).toNat)
      case atStart => exact ⟨0, Nat.zero_le _, rfl, by simpa using HNO.out _, by simpa using hol, HMP.out _, HNB.out _, HEX.out⟩
      case round =>
        obtain ⟨q, hq, rfl, hown, hol, hmap, hbel, hex⟩ := hrel
        have hsz := hbel.size
        by_cases hqt : q < yn
        · obtain ⟨rfl, hbl2, d0⟩ := HDC.out q hqt
          have d0 := (hbel.cell (p := ⟨bd, od + q, none⟩) hbl2).trans d0
          have hbd : bd < wr.heap.size := by omega
          have hql : q < x.drop.length := by rw [HDL.out]; exact hqt
          have hn := HX3.out _ (u_mem hql)
          have HTQ : Hid ((x.drop.take (q + 1)).filter (fun n => !CF n) = (x.drop.take q).filter (fun n => !CF n) ++ if CF (x.drop.getD q 0) = true then [] else [x.drop.getD q 0]) := Lib.hid (filter_snocU x.drop CF q hql)
          clear hql
          generalize x.drop.getD q 0 = n at *
          generalize hF : (x.drop.take q).filter (fun n => !CF n) = FQ at *
          clear hF
          have hlk := hmap.look n hn
          have HM1 : Hid (∀ o, USet (wr.alloc o) w.heap.size m CF) := Lib.hid (fun o => hmap.below ((Below.refl _ _).alloc (Nat.le_refl _) _))
          have HO2 : Hid (∀ o, OwnsN (wr.alloc o) (w.heap.size + 1) u3 (CJ ++ FQ)) := Lib.hid (fun o => hown.below ((Below.refl _ _).alloc (Nat.le_refl _) _))
          have HB2 : Hid (∀ o, Below w.heap.size w (wr.alloc o)) := Lib.hid (fun o => Below.next_alloc hbel _)
          have HE2 : Hid (∀ o, Ex (wr.alloc o) BX (.slice xo xn xc) (.slice (some ⟨bd, od, none⟩) yn yc) x.log x.seq x.next) := Lib.hid (fun o => kept_block hex ((Below.refl _ _).alloc (Nat.le_refl _) _))
          have HLEN := Lib.hid hol
          have HZ1 : Hid (CJ ++ (FQ ++ [n]) = (CJ ++ FQ) ++ [n]) := Lib.hid (by rw [List.append_assoc])
          obtain ⟨ZZ, hZZ⟩ : ∃ z, z = CJ ++ FQ := ⟨_, rfl⟩
          rw [← hZZ] at HO2 HLEN HZ1
          have HZZ := Lib.hid hZZ
          rw [← hZZ] at hown
          clear hZZ
          obtain ⟨wo, wc, rfl⟩ := hown.slice
          clear hown hmap hbel hol hex
          cases hcf : CF n with
          | true =>
            rw [hcf] at hlk
            rw [if_pos hcf, List.append_nil] at HTQ
            clear hcf
            go_wp2_with fail
            go_roundw
            case rel => exact ⟨q + 1, by omega, by go_num, by rw [HTQ.out, ← HZZ.out]; exact HO2.out _, by rw [HTQ.out, ← HZZ.out]; have := HLEN.out; omega, HM1.out _, HB2.out _, HE2.out _⟩
            case measure => simp [intOf]; omega
          | false =>
            rw [hcf] at hlk
            rw [if_neg (by rw [hcf]; simp)] at HTQ
            clear hcf
            have HO3 : Hid (∀ o o', OwnsN ((wr.alloc o).alloc o') (w.heap.size + 1) (.slice wo ZZ.length wc) ZZ) := Lib.hid (fun o o' => (HO2.out o).below ((Below.refl _ _).alloc (Nat.le_refl _) _))
            have hraw : ∀ o, (wr.alloc o).ownsRow (w.heap.size + 1) 28 1 (.slice wo ZZ.length wc) ZZ.length (ZZ.map (fun n => Value.int .u64 (n : Nat))) := fun o => HO2.out o
            have hlen := HLEN.out
            go_wp2_with (at_builtin; go_must (refine wpList_append_own _ rfl _ _ 27 rfl (w.heap.size + 1) 28 i0 _ 1 8 Try.underlying27 hi hz0 hz1 hz2 rfl (by decide) _ _ _ rfl ((hraw _).alloc _) ⟨wr.heap.size + 1, 0, none⟩ 1 1 [.int .u64 (n : Nat)] rfl rfl (World.news_of_block (cs := #[_]) (fr := (0, 0)) (heap_alloc2_new wr _ _)) ?c2 ?c3 ?c4 ?c5 ?_))
            case c2 => rfl
            case c3 => unfold maxLen; omega
            case c4 => omega
            case c5 => first | omega | (simp; omega)
            intro v3 w3 hown3 hg3 _
            have R1 : Hid (OwnsN w3 (w.heap.size + 1) v3 (ZZ ++ [n])) := Lib.hid (OwnsN.snoc hown3)
            have R2 : Hid (USet w3 w.heap.size m CF) := Lib.hid (((HM1.out _).below ((Below.refl _ _).alloc (Nat.le_refl _) _)).grown hg3 (fun e => by have := ((hraw (.cells #[] 101)).lt _ e.symm).1; omega))
            have R3 : Hid (Below w.heap.size w w3) := Lib.hid ((Below.next_alloc (HB2.out _) _).grown hg3 (by simp; omega) (fun z hz => Nat.le_trans (Nat.le_succ _) ((hraw (.cells #[] 101)).lt z hz).1))
            have R4 : Hid (Ex w3 BX (.slice xo xn xc) (.slice (some ⟨bd, od, none⟩) yn yc) x.log x.seq x.next) := Lib.hid (by
              have h4 : Ex ((wr.alloc (.cells #[] 101)).alloc (.cells #[.int .u64 (n : Nat)] 28)) BX (.slice xo xn xc) (.slice (some ⟨bd, od, none⟩) yn yc) x.log x.seq x.next := kept_block (HE2.out _) ((Below.refl _ _).alloc (Nat.le_refl _) _)
              refine (hg3.block BX (Sk.heap_lt h4) (fun e => ?_)).trans h4
              obtain ⟨cur, hcur⟩ := Sk.ownsRow_obj ((hraw (.cells #[] 101)).alloc _) e.symm
              exact Sk.obj_cells_ne h4 hcur (by decide) rfl)
            clear hown3 hg3 hraw hlk
            go_wp2_with fail
            go_roundw
            case rel => exact ⟨q + 1, by omega, by go_num, by rw [HTQ.out, HZ1.out]; exact R1.out, by rw [HTQ.out, HZ1.out, List.length_append]; have := HLEN.out; simp only [List.length_singleton]; omega, R2.out, R3.out, R4.out⟩
            case measure => simp [intOf]; omega
        · obtain rfl : q = yn := by omega
          have HZ : Hid ((x.drop.take q).filter (fun n => !CF n) = x.drop.filter (fun n => !CF n)) := Lib.hid (by rw [List.take_of_length_le (by rw [HDL.out]; exact Nat.le_refl _)])
          rw [HZ.out, ← HGO.out] at hown hol
          obtain ⟨uo, uc, rfl⟩ := hown.slice
          have R1 := Lib.hid hown; have R4 := Lib.hid hol
          have R2 : Hid (USet wr w.heap.size m (fun y => CF y && !decide (y ∈ x.drop.take 0))) := Lib.hid (hmap.congr (fun y => by simp) (Nat.le_refl _))
          have R3 := Lib.hid hbel; have R5 := Lib.hid hex
          obtain ⟨d0, d1, d2, d3, d4, df, dlt⟩ := hex.of
          clear hown hmap hbel hol hex HZ
          generalize hGQ : Ed.goTo es (k + 1) = GO at *
          have HGQ := Lib.hid hGQ
          clear hGQ
          go_wp2_with fail
          go_loopw [45] (fun i w2 => ∃ q2 : Nat, q2 ≤ q ∧ i = .int .i64 q2 ∧ OwnsN w2 (w.heap.size + 1) (.slice uo GO.length uc) GO ∧ USet w2 w.heap.size m (fun y => CF y && !decide (y ∈ x.drop.take q2)) ∧ Below w.heap.size w w2 ∧ Ex w2 BX (.slice xo xn xc) (.slice yo q yc) x.log x.seq x.next) (fun i _ => q - (intOf i).toNat)
          case atStart => exact ⟨0, Nat.zero_le _, rfl, R1.out, R2.out, R3.out, R5.out⟩
          case round =>
            obtain ⟨q2, hq2, rfl, hown, hmap, hbel, hex⟩ := hrel
            have hsz := hbel.size
            clear d0 d1 d2 d3 d4 df dlt
            by_cases hqt2 : q2 < q
            · obtain ⟨rfl, hbl2, d0⟩ := HDC.out q2 hqt2
              have d0 := (hbel.cell (p := ⟨bd, od + q2, none⟩) hbl2).trans d0
              have hbd : bd < wr.heap.size := by omega
              have hql : q2 < x.drop.length := by rw [HDL.out]; exact hqt2
              have hn := HX3.out _ (u_mem hql)
              have HTJ : Hid (x.drop.take (q2 + 1) = x.drop.take q2 ++ [x.drop.getD q2 0]) := Lib.hid (take_snocU x.drop q2 hql)
              clear hql
              generalize x.drop.getD q2 0 = n at *
              obtain ⟨D, hmo, hat⟩ := hmap
              have HAT := Lib.hid hat; have HOW := Lib.hid hmo
              have HK := Lib.hid (key_u64 n hn)
              have S1 := Lib.hid hown; have S3 := Lib.hid hbel; have S5 := Lib.hid hex
              clear hat hmo hown hbel hex
              go_wp2_with (at_delete; go_must (refine wpList_delete_own _ rfl _ _ 98 28 rfl 101 lawU Try.underlying98 unitElem w.heap.size m D rfl HOW.out _ _ rfl HK.out ?_))
              intro w3 hown3 ht3
              have hg3 := ht3.grown
              have T2 : Hid (USet w3 w.heap.size m (fun y => CF y && !decide (y ∈ x.drop.take (q2 + 1)))) := Lib.hid ((USet.del hown3 HAT.out).congr (fun y => by
                rw [HTJ.out]
                by_cases e : y = n
                · simp [e]
                · simp [e]) (Nat.le_refl _))
              have T1 : Hid (OwnsN w3 (w.heap.size + 1) (.slice uo GO.length uc) GO) := Lib.hid (Sk.ownsRow_frame S1.out (fun kk hk => hg3.block kk (Sk.ownsRow_lt S1.out hk) (fun e => by have := (World.ownsRow.lt S1.out kk hk).1; cases e; omega)))
              have T3 : Hid (Below w.heap.size w w3) := Lib.hid (S3.out.grown hg3 hsz (fun z hz => by cases hz; exact Nat.le_refl _))
              have T5 : Hid (Ex w3 BX (.slice xo xn xc) (.slice (some ⟨bd, od, none⟩) q yc) x.log x.seq x.next) := Lib.hid ((hg3.block BX (Sk.heap_lt S5.out) (fun e => by cases e; omega)).trans S5.out)
              clear hown3 ht3 hg3
              go_wp2_with fail
              go_roundw
              case rel => exact ⟨q2 + 1, by omega, by go_num, T1.out, T2.out, T3.out, T5.out⟩
              case measure => simp [intOf]; omega
            · obtain rfl : q2 = q := by omega
              have S2 : Hid (USet wr w.heap.size m (fun y => (CF y && !decide (y ∈ x.drop)) || decide (y ∈ (x.add.take 0).map Ed.tbNum))) := Lib.hid (hmap.congr (fun y => by rw [List.take_of_length_le (by rw [HDL.out]; exact Nat.le_refl _)]; simp) (Nat.le_refl _))
              have S1 := Lib.hid hown; have S3 := Lib.hid hbel; have S5 := Lib.hid hex
              obtain ⟨d0, d1, d2, d3, d4, df, dlt⟩ := hex.of
              clear hown hmap hbel hex R1 R2 R3 R5
              go_wp2_with fail
              go_loopw [55] (fun i w2 => ∃ q3 m3 : Nat, q3 ≤ xn ∧ i = .int .i64 q3 ∧ m3 ≤ m + q3 ∧ OwnsN w2 (w.heap.size + 1) (.slice uo GO.length uc) GO ∧ USet w2 w.heap.size m3 (fun y => (CF y && !decide (y ∈ x.drop)) || decide (y ∈ (x.add.take q3).map Ed.tbNum)) ∧ Below w.heap.size w w2) (fun i _ => xn - (intOf i).toNat)
              case atStart => exact ⟨0, m, Nat.zero_le _, rfl, by omega, S1.out, S2.out, S3.out⟩
              case round =>
                obtain ⟨q3, m3, hq3, rfl, hm3, hown, hmap, hbel⟩ := hrel
                have hsz := hbel.size
                clear d0 d1 d2 d3 d4 df dlt
                by_cases hqt3 : q3 < xn
                · obtain ⟨rfl, hbl2, hob⟩ := HBC.out q3 hqt3
                  obtain ⟨e0, e1, e2, e3, e4, e5, e6, e7⟩ := hob.below hbel hbl2
                  have hbd : bb < wr.heap.size := by omega
                  have hql : q3 < x.add.length := by rw [HBL.out]; exact hqt3
                  have hn := (HX1.out _ (Ed.getD_mem hql)).1
                  have HTJ : Hid (x.add.take (q3 + 1) = x.add.take q3 ++ [x.add.getD q3 tbd]) := Lib.hid (take_snocT x.add q3 hql)
                  clear hql hob
                  generalize x.add.getD q3 tbd = t at *
                  obtain ⟨D, hmo, hat⟩ := hmap
                  have HAT := Lib.hid hat
                  have HOW : Hid (∀ o, (wr.alloc o).ownsMap Try.prog 28 unitElem w.heap.size m3 D) := Lib.hid (fun o => hmo.alloc o)
                  have HK := Lib.hid (key_u64 t.n hn)
                  have hml : m3 < maxLen := by unfold maxLen; omega
                  have U1 : Hid (∀ o, OwnsN (wr.alloc o) (w.heap.size + 1) (.slice uo GO.length uc) GO) := Lib.hid (fun o => hown.below ((Below.refl _ _).alloc (Nat.le_refl _) _))
                  have U3 : Hid (∀ o, Below w.heap.size w (wr.alloc o)) := Lib.hid (fun o => Below.next_alloc hbel _)
                  clear hat hmo hown hbel
                  go_wp2_with (at_mapUpdate; go_must (refine wpList_mapUpdate_own _ rfl _ _ _ 98 rfl 28 101 lawU Try.underlying98 unitElem w.heap.size m3 D rfl (HOW.out _) hml _ _ _ rfl rfl HK.out (.agg []) [] unitElem_mk ?_))
                  intro w3 hown3 hg3
                  have T2 : Hid (USet w3 w.heap.size (m3 + 1) (fun y => (CF y && !decide (y ∈ x.drop)) || decide (y ∈ (x.add.take (q3 + 1)).map Ed.tbNum))) := Lib.hid ((USet.put hown3 (HOW.out (.cells #[] 0)).isMap hn HAT.out).congr (fun y => by
                    rw [HTJ.out, List.map_append]
                    by_cases e : y = t.n
                    · simp [e, Ed.tbNum]
                    · simp [e, Ed.tbNum]) (Nat.le_refl _))
                  have T1 : Hid (OwnsN w3 (w.heap.size + 1) (.slice uo GO.length uc) GO) := Lib.hid (Sk.ownsRow_frame (U1.out _) (fun kk hk => hg3.block kk (Sk.ownsRow_lt (U1.out _) hk) (fun e => by have := (World.ownsRow.lt (U1.out (.cells #[] 0)) kk hk).1; cases e; omega)))
                  have T3 : Hid (Below w.heap.size w w3) := Lib.hid ((U3.out _).grown hg3 (by simp; omega) (fun z hz => by cases hz; exact Nat.le_refl _))
                  clear hown3 hg3
                  go_wp2_with fail
                  go_roundw
                  case rel => exact ⟨q3 + 1, m3 + 1, by omega, by go_num, by omega, T1.out, T2.out, T3.out⟩
                  case measure => simp [intOf]; omega
                · obtain rfl : q3 = xn := by omega
                  have T2 : Hid (USet wr w.heap.size m3 (Ed.came (es.take (k + 1)))) := Lib.hid (hmap.congr (fun y => by
                    rw [HTK.out, Ed.came_snoc, HCF.out, List.take_of_length_le (by rw [HBL.out]; exact Nat.le_refl _)]) (Nat.le_refl _))
                  have T1 := Lib.hid hown; have T3 := Lib.hid hbel
                  clear hown hmap hbel
                  go_wp2_with fail
                  go_roundw
                  case rel => exact ⟨k + 1, m3, by omega, by go_num, by omega, by rw [HGQ.out]; exact T1.out, by rw [HGQ.out]; have := R4.out; omega, T2.out, T3.out⟩
                  case measure => simp [intOf]; omega
    · obtain rfl : k = an := by omega
      have HZ : Hid (Ed.goTo es k = Ed.going es) := Lib.hid (by unfold Ed.goTo Ed.going; rw [HAL.out])
      have HFI : Hid (OwnsN wr w.heap.size u3 (Ed.going es)) := Lib.hid (by rw [← HZ.out]; exact hown.mono (Nat.le_succ _))
      clear hown hmap hbel hol
      go_wp2_with fail
      go_ret
      exact ⟨_, rfl, HFI.out, HBW.out⟩

end Go.Proofs.Ytbdoekogoiijeaa

/- The walk of BlockBack, where the key is cut. -/
import Derived.Test.YtjpmcphfiiiecaaBlockBack
namespace Go.Proofs.Ytjpmcphfiiiecaa.Bo
open Go Go.RowKit
set_option linter.unusedVariables false

set_option maxHeartbeats 8000000 in
set_option maxRecDepth 100000 in
theorem back_long (a : Option Addr) (n c : Nat) (l : List Ac) (S0 : ByteArray) (w : World) (h : SeesA w (.slice a n c) l) (hg : greatA l = false) (hs : (2000 : Int) < S0.size) :
    Calls Try.prog 6 #[.slice a n c, .string S0] w (Gives (.bool true) w) := by
  obtain ⟨K, hK⟩ : ∃ K : ByteArray, K = S0.extract 0 2000 := ⟨_, rfl⟩
  have hcut0 : S0.extract 0 2000 = K := hK.symm
  have hle : (2000 : Int) ≤ S0.size := by omega
  clear hK
  obtain ⟨i0, hi, hz0, hz1, hz2⟩ := info_parts info_ent
  have hn := few_of hg h.len
  have HGR := Lib.hid (great_any a n c l w h)
  have HH := Lib.hid h
  have HL := Lib.hid h.len
  clear h
  rw [hg] at HGR
  clear hg
  go_enter Try.func6, Try.ntmps6
  go_wp2_with fail
  refine HGR.out.mono ?_
  rintro e w1 ⟨rfl, hb1⟩
  have HNB := Lib.hid (new_built w1)
  have HB0 : Hid (Below w.heap.size w (w1.alloc (.cells #[.slice none 0 0, .slice none 0 0, .int .i64 0, .string ⟨#[]⟩] 25))) := Lib.hid (hb1.alloc hb1.size _)
  have HW1 := Lib.hid hb1.size
  clear hb1 HGR
  go_wp2_with fail
  go_loopw [6, 7] (fun u i wr => ∃ (k : Nat) (es : List En) (va : Option Addr) (vc : Nat), k ≤ n ∧ i = .int .i64 k ∧ u = .slice va es.length vc ∧ es.length ≤ k ∧ Hid (goodb st0 es = true ∧ OwnsN wr w1.heap.size (.slice va es.length vc) es ∧ ∃ L, L.b = w1.heap.size ∧ Built wr w1.heap.size L (run st0 es) ∧ Below w.heap.size w wr)) (fun _ i _ => n - (intOf i).toNat)
  case atStart => exact ⟨0, [], none, 0, Nat.zero_le _, rfl, rfl, Nat.le_refl _, Lib.hid ⟨rfl, OwnsN.nil _ _, _, rfl, HNB.out, HB0.out⟩⟩
  case round =>
    obtain ⟨k, es, va, vc, hk, rfl, rfl, hel, HI⟩ := hrel
    obtain ⟨hgood, hown, L, hLb, hbt, hbel⟩ := HI.out
    have hnn : (run st0 es).n = es.length := by rw [run_n]; show 0 + _ = _; omega
    have HSO := Lib.hid (sound_run _ _ sound0 hgood)
    have HNN := Lib.hid hnn
    have HGOOD := Lib.hid hgood; have HOWN := Lib.hid hown; have HBT := Lib.hid hbt; have HBEL := Lib.hid hbel
    clear HI hgood hown hbt hbel hnn HNB HB0
    by_cases hlt : k < n
    · obtain ⟨x, hx⟩ : ∃ x, l[k]? = some x := ⟨_, List.getElem?_eq_getElem (by rw [HL.out]; exact hlt)⟩
      obtain ⟨b, off, rfl, hb, ⟨hd, hzk, hzv⟩, k0, k1, k2⟩ := HH.out.get hx
      have hkn : (k : Int) < n := by omega
      have HK1 := Lib.hid k1; have HK2 := Lib.hid k2; have HBL := Lib.hid hb
      obtain ⟨d, ⟨key, val⟩⟩ := x
      dsimp only at *
      have c1 : wr.cell? ⟨b, off + k * 3 + 1, none⟩ = some (.string key) := (HBEL.out.cell (p := ⟨b, _, none⟩) HBL.out).trans HK1.out
      have c2 : wr.cell? ⟨b, off + k * 3 + 2, none⟩ = some (.string val) := (HBEL.out.cell (p := ⟨b, _, none⟩) HBL.out).trans HK2.out
      have HADD := Lib.hid (add_any HBT.out.drew HSO.out (by rw [HNN.out]; omega) key val)
      rw [hLb] at HADD
      have HSTEP := Lib.hid (show run st0 (es ++ [⟨key, val⟩]) = step (run st0 es) ⟨key, val⟩ from run_snoc _ _ _)
      have HGS := Lib.hid (good_snoc es st0 ⟨key, val⟩)
      have HAF : Hid (∀ e, e = err (run st0 es) ⟨key, val⟩ → (e = 0 → after (run st0 es) ⟨key, val⟩ = run st0 (es ++ [⟨key, val⟩])) ∧ (e ≠ 0 → after (run st0 es) ⟨key, val⟩ = run st0 es)) := Lib.hid (fun e he => by
        subst he
        constructor
        · intro h0; unfold after; rw [if_pos h0, HSTEP.out]
        · intro h0; unfold after; rw [if_neg h0])
      obtain ⟨E, hE⟩ : ∃ E, E = err (run st0 es) ⟨key, val⟩ := ⟨_, rfl⟩
      rw [← hE] at HADD HGS
      have HEE := Lib.hid hE
      clear hE k0 k1 k2 hx hd hb
      by_cases hE0 : E = 0
      · subst hE0
        have HA := Lib.hid ((HAF.out 0 HEE.out).1 rfl)
        rw [HA.out] at HADD
        go_wp2_with fail
        go_cut [42] from 30 to 42 (fun u wr => u = .bool true ∧ Hid (OwnsN wr w1.heap.size (.slice va es.length vc) es ∧ ∃ L, L.b = w1.heap.size ∧ Built wr w1.heap.size L (run st0 (es ++ [⟨key, val⟩])) ∧ Below w.heap.size w wr))
        case first =>
          go_region_law (go_simp; go_at_call 11; refine HADD.out.mono ?_; rintro e w4 ⟨rfl, hg4⟩)
          all_goals
            go_wp2_with fail
            go_meet
            case rel =>
              refine ⟨rfl, Lib.hid ?_⟩
              have hB4 := HBEL.out.drew.trans ((GoesB.to_below HBT.out.drew hg4).mono HW1.out)
              obtain ⟨L4, hL4, hb4, ht4, -⟩ := hg4
              refine ⟨?_, L4, hL4.trans hLb, hb4, hB4⟩
              exact ownsN_turned (show OwnsN wr.drew _ _ _ from ownsRow_frame HOWN.out (fun _ _ => rfl)) HBT.out.drew ht4
        case rest =>
          obtain ⟨rfl, HC⟩ := hcut
          obtain ⟨hown, L4, hL4, hb4, hbel4⟩ := HC.out
          have HB4 := Lib.hid hb4; have HBEL4 := Lib.hid hbel4
          have hraw : wc.ownsRow w1.heap.size 51 2 (.slice va es.length vc) es.length (es.flatMap cellsN) := hown
          have d1 : ∀ o, (wc.alloc o).cell? ⟨b, off + k * 3 + 1, none⟩ = some (.string key) := fun o => ((HBEL4.out.alloc HBEL4.out.size o).cell (p := ⟨b, _, none⟩) HBL.out).trans HK1.out
          have d2 : ∀ o, (wc.alloc o).cell? ⟨b, off + k * 3 + 2, none⟩ = some (.string val) := fun o => ((HBEL4.out.alloc HBEL4.out.size o).cell (p := ⟨b, _, none⟩) HBL.out).trans HK2.out
          have d3 : wc.cell? ⟨b, off + k * 3 + 1, none⟩ = some (.string key) := (HBEL4.out.cell (p := ⟨b, _, none⟩) HBL.out).trans HK1.out
          have d4 : wc.cell? ⟨b, off + k * 3 + 2, none⟩ = some (.string val) := (HBEL4.out.cell (p := ⟨b, _, none⟩) HBL.out).trans HK2.out
          have hbw : w1.heap.size ≤ wc.heap.size := by
            have h1 := HB4.out.low
            have h2 := heap_lt HB4.out.box
            omega
          have hel2 : es.length ≤ 120 := by omega
          clear hown hb4 hbel4 HC c1 c2 HADD
          go_wp2_with fail
          go_region_law (first
            | (refine step_append_lies _ (by rfl) _ _ _ (by rfl) w1.heap.size 51 i0 _ 2 32 Try.underlying39 hi hz0 hz1 hz2 (by rfl) (by omega) (.slice va es.length vc) _ _ (by rfl) ((hraw.alloc _).drew)
                ⟨wc.heap.size, 0, none⟩ 1 1 [.string key, .string val] (by rfl) (by rfl) (World.news_of_block (cs := #[.string key, .string val]) (t := 51) (fr := (0, 0)) (heap_alloc_new wc _)) (by intro u hu; simp at hu; rcases hu with hu | hu <;> subst hu <;> rfl)
                (by omega) (by unfold maxLen; omega) (by omega) (by simp; omega) (wc.heap.size + 1) (by simp) ?_; intro gg cap w7 hown7 hg7 hat7 hlt7))
          all_goals
            have HB7 := Lib.hid (built_grown ((hraw.alloc _).drew) ((HB4.out.below ((Below.refl _ wc).alloc (Nat.le_refl _) _)).drew) hg7)
            have HW7 : Hid (Below w.heap.size w w7) := Lib.hid (((HBEL4.out.alloc HBEL4.out.size _).drew).grown hg7 (by have := HBEL4.out.size; simp; omega) (fun q hq => Nat.le_trans HW1.out (hraw.lt q hq).1))
            have HO7 : Hid (OwnsN w7 w1.heap.size (.slice (some ⟨gg, 0, none⟩) (es.length + 1) cap) (es ++ [⟨key, val⟩])) := Lib.hid (OwnsN.snoc hown7)
            clear hown7 hg7 hat7 hlt7 hraw d1 d2 d3 d4
            go_wp2_with fail
            go_roundw
            case rel => exact ⟨k + 1, es ++ [⟨key, val⟩], _, _, by omega, by go_num, by rw [List.length_append]; rfl, by rw [List.length_append]; show es.length + 1 ≤ _; omega, Lib.hid ⟨by rw [HGS.out, HGOOD.out]; rfl, by rw [List.length_append]; exact HO7.out, L4, hL4, HB7.out, HW7.out⟩⟩
            case measure => simp [intOf]; omega
      · have hne : ((E : Nat) : Int) ≠ 0 := by omega
        have hne2 : (((E : Nat) : Int) == 0) = false := by simp; omega
        have HA := Lib.hid ((HAF.out E HEE.out).2 hE0)
        rw [HA.out] at HADD
        go_wp2_with fail
        go_region_law (go_simp; go_at_call 11; refine HADD.out.mono ?_; rintro e w4 ⟨rfl, hg4⟩)
        all_goals
          have HB4 := Lib.hid (HBEL.out.drew.trans ((GoesB.to_below HBT.out.drew hg4).mono HW1.out))
          obtain ⟨L4, hL4, hb4, ht4, -⟩ := hg4
          have HO4 := Lib.hid (ownsN_turned (show OwnsN wr.drew _ _ _ from ownsRow_frame HOWN.out (fun _ _ => rfl)) HBT.out.drew ht4)
          have HBT4 := Lib.hid hb4
          clear hb4 ht4 hE0 c1 c2
          go_wp2_with fail
          go_roundw
          case rel => exact ⟨k + 1, es, va, vc, by omega, by go_num, rfl, by omega, Lib.hid ⟨HGOOD.out, HO4.out, L4, hL4.trans hLb, HBT4.out, HB4.out⟩⟩
          case measure => simp [intOf]; omega
    · obtain rfl : k = n := by omega
      have hel2 : es.length ≤ 120 := by omega
      have hf1 : (run st0 es).rows.length ≤ 300000 := by have := HSO.out.rows; rw [HNN.out] at this; omega
      have hf2 : (run st0 es).foot.length ≤ 300000 := by rw [HSO.out.foot, HNN.out]; omega
      have hfl : (fin (run st0 es)).length ≤ 600004 := by rw [fin_length]; omega
      have HSZ := Lib.hid (size_any HBT.out (by omega) (by omega))
      rw [hLb] at HSZ
      obtain ⟨T, hT⟩ : ∃ T : ByteArray, T = ⟨(fin (run st0 es)).toArray⟩ := ⟨_, rfl⟩
      have HTZ : Hid (T.size = (fin (run st0 es)).length) := Lib.hid (by rw [hT, size_mk])
      have HTO : Hid (opn T.data.toList = some es) := Lib.hid (by
        rw [hT]
        show opn (bytes es) = some es
        exact opn_bytes es HGOOD.out (by omega))
      have hfi : ∀ {w' : World} {L' : BL}, Built w' w1.heap.size L' (run st0 es) → L'.b = w1.heap.size → Calls Try.prog 12 #[.pointer (some ⟨w1.heap.size, 0, none⟩)] w' fun e w2 => e = .returned (.string T) ∧ GoesB w1.heap.size L' w' st0 w2 := fun hb hl => by
        have := finish_any hb (by omega) (by omega) (by rw [HNN.out]; omega)
        rw [hl, ← hT] at this
        exact this
      have HFI := @hfi
      clear hT
      have hTs : T.size ≤ 600004 := by rw [HTZ.out]; exact hfl
      have HOPN := Lib.hid (fun W => open_any T W (by omega))
      rw [HTO.out] at HOPN
      go_wp2_with fail
      refine HSZ.out.mono ?_
      rintro e w2 ⟨rfl, hb2⟩
      have HBT2 := Lib.hid (HBT.out.below hb2)
      have HBE2 := Lib.hid (HBEL.out.trans (hb2.mono HBEL.out.size))
      have HOW2 := Lib.hid (HOWN.out.below hb2)
      clear hb2 HSZ HBT HBEL HOWN
      have HF2 := Lib.hid (hfi HBT2.out hLb)
      clear HFI hfi
      go_wp2_with fail
      refine HF2.out.mono ?_
      rintro e w3 ⟨rfl, hg3⟩
      have HBE3 := Lib.hid (HBE2.out.trans ((GoesB.to_below HBT2.out hg3).mono HW1.out))
      obtain ⟨L3, -, -, ht3, -⟩ := hg3
      have HOW3 := Lib.hid (ownsN_turned HOW2.out HBT2.out ht3)
      clear ht3 HF2 HBT2 HBE2 HOW2
      go_wp2_with fail
      refine (HOPN.out _).mono ?_
      rintro e w4 ⟨hb4, p, v, rs, rfl, hblk, hrs, -⟩
      have HBE4 := Lib.hid (HBE3.out.trans (hb4.mono HBE3.out.size))
      have HOW4 := Lib.hid (HOW3.out.below hb4)
      have HRS := Lib.hid hrs
      have HVS : Hid (∀ x ∈ rs, x.2.val.size ≤ 1000000000) := Lib.hid (fun x hx => by
        have h1 : x.2 ∈ es := by rw [← hrs]; exact List.mem_map_of_mem (f := Prod.snd) hx
        have := (good_sizes es st0 HGOOD.out x.2 h1).2
        omega)
      have HRL : Hid (rs.length ≤ 1000000) := Lib.hid (by
        have : rs.length = es.length := by rw [← hrs, List.length_map]
        omega)
      have HASC : Hid (Asc es) := Lib.hid (good_asc es st0 HGOOD.out).2
      have HBK := Lib.hid hblk
      have HSM := Lib.hid (same_yes hblk HVS.out va es.length vc es HOW4.out.sees rfl hrs (by omega))
      have HSK : Hid (∀ W key, Below w4.heap.size w4 W → Calls Try.prog 16 #[.pointer (some ⟨p, 0, none⟩), .string key] W (Gives (.int .i64 (seekN es key : Int)) W)) := Lib.hid (fun W key hb => by
        have := seek_any (HBK.out.below hb) key HRL.out (by rw [HRS.out]; exact HASC.out)
        rw [HRS.out] at this
        exact this)
      have HSEEN := Lib.hid HOW4.out.sees
      have HTZ2 : Hid ((T.size : Int) = ((fin (run st0 es)).length : Int)) := Lib.hid (by rw [HTZ.out])
      clear hb4 hblk hrs HOPN HOW3 HBE3 HTO
      generalize (fin (run st0 es)).length = F at *
      have htz := HTZ2.out
      go_wp2_with fail
      refine HSM.out.mono ?_
      rintro e w5 ⟨rfl, hb5⟩
      have HB5 := Lib.hid hb5
      have HS5 := Lib.hid (HSK.out w5 K hb5)
      have hat := seekN_le es K
      obtain ⟨at', hat'⟩ : ∃ q, q = seekN es K := ⟨_, rfl⟩
      rw [← hat'] at hat HS5
      have HAT := Lib.hid hat'
      clear hb5 HSM htz hat'
      go_wp2_with fail
      refine HS5.out.mono ?_
      rintro e w6 ⟨rfl, hb6⟩
      have HB6 := Lib.hid (HB5.out.trans (hb6.mono HB5.out.size))
      have ha0 : ¬ ((at' : Nat) : Int) < 0 := by omega
      have ha1 : ¬ ((es.length : Nat) : Int) < (at' : Int) := by omega
      have ha2 : ¬ es.length < at' := by omega
      have hd1 : decide (((at' : Nat) : Int) < 0) = false := decide_eq_false ha0
      have hd2 : decide (es.length < at') = false := decide_eq_false ha2
      clear hb6 HS5 HB5
      go_wp2_with fail
      go_loopw [13] (fun i wr => ∃ (k : Nat), k ≤ es.length ∧ i = .int .i64 k ∧ Hid (Below w4.heap.size w4 wr)) (fun i _ => es.length - (intOf i).toNat)
      case atStart => exact ⟨0, Nat.zero_le _, rfl, HB6⟩
      case round =>
        obtain ⟨q, hq, rfl, HB⟩ := hrel
        by_cases hqe : q < es.length
        · obtain ⟨x, hx⟩ : ∃ x, es[q]? = some x := ⟨_, List.getElem?_eq_getElem hqe⟩
          obtain ⟨g, rfl, hgl, g0, -⟩ := HSEEN.out q x hx
          have HG := Lib.hid hgl; have HG0 := Lib.hid g0
          have HSQ : Hid (seekN es x.key = q) := Lib.hid (seek_own HASC.out hx)
          have HLT : Hid (Op.bytesLess x.key.data.toList K.data.toList = decide (q < at')) := Lib.hid (by rw [HAT.out]; exact seek_tells HASC.out hx)
          have hqi : (q : Int) < es.length := by omega
          by_cases hq0 : q = 0
          · subst hq0
            obtain ⟨xk, xv⟩ := x
            dsimp only at *
            have HC0 : Hid (∀ W, Below w4.heap.size w4 W → W.cell? ⟨g, 0, none⟩ = some (.string xk) ∧ Below w4.heap.size w4 W) := Lib.hid (fun W hb => ⟨(hb.cell (p := ⟨g, 0, none⟩) HG.out).trans (by have := HG0.out; simpa only [Nat.zero_mul] using this), hb⟩)
            have HSK0 : Hid (∀ W, (W.cell? ⟨g, 0, none⟩ = some (.string xk) ∧ Below w4.heap.size w4 W) → Calls Try.prog 16 #[.pointer (some ⟨p, 0, none⟩), .string xk] W (Gives (.int .i64 0) W)) := Lib.hid (fun W hb => by
              have := HSK.out W xk hb.2
              rw [HSQ.out] at this
              exact this)
            have HDB : Hid (Below w4.heap.size w4 wr.drew) := Lib.hid HB.out.drew
            have hltx : Op.bytesLess xk.toList K.toList = decide (0 < at') := by rw [ByteArray.toList_eq, ByteArray.toList_eq]; exact HLT.out
            have hgw : g < wr.drew.heap.size := Nat.lt_of_lt_of_le HG.out HB.out.size
            have hqp : 0 < es.length := hqe
            clear hx g0 hgl
            by_cases hja : 0 < at'
            · rw [decide_eq_true hja] at hltx
              have hdi : decide ((0 : Int) < at') = true := decide_eq_true (by omega)
              have hji : (0 : Int) < at' := by omega
              go_wp2_with fail
              refine wp_region_held_drew (S := fun w' => w'.cell? ⟨g, 0, none⟩ = some (.string xk) ∧ Below w4.heap.size w4 w') (by kernel_rfl) (HC0.out _ HDB.out) (fun hH => ?_)
              refine wpAnyH_take (i := 0) (v := ?v0zt) rfl (by kernel_rfl) (by kernel_rfl) (by kernel_rfl) (fun _ _ _ h => h) (Or.inl ⟨by kernel_rfl, ?y0zt⟩) (by assumption) ?_; case y0zt => (intro w' hS; obtain ⟨s0, s1⟩ := hS; go_simp; try with_reducible rfl)
              simp only [Act.put, List.getElem_toArray, List.getElem_cons_zero, List.setIfInBounds_toArray, List.set_cons_zero, List.set_cons_succ]
              refine wpAnyH_take (i := 1) (v := .bool false) rfl (by kernel_rfl) (by kernel_rfl) (by kernel_rfl) (fun _ _ _ h => h) (Or.inl ⟨by kernel_rfl, ?y1zt⟩) (by assumption) ?_; case y1zt => (intro w' hS; obtain ⟨s0, s1⟩ := hS; go_simp; try with_reducible rfl)
              simp only [Act.put, List.getElem_toArray, List.getElem_cons_zero, List.getElem_cons_succ, List.setIfInBounds_toArray, List.set_cons_zero, List.set_cons_succ]
              refine wpAnyH_take (i := 2) (v := ?v2zt) rfl (by kernel_rfl) (by kernel_rfl) (by kernel_rfl) (fun _ _ _ h => h) (Or.inl ⟨by kernel_rfl, ?y2zt⟩) (by assumption) ?_; case y2zt => (intro w' hS; obtain ⟨s0, s1⟩ := hS; go_simp; try with_reducible rfl)
              simp only [Act.put, List.getElem_toArray, List.getElem_cons_zero, List.getElem_cons_succ, List.setIfInBounds_toArray, List.set_cons_zero, List.set_cons_succ]
              (refine wpAnyH_take (i := 3) (v := undef) rfl (by kernel_rfl) (by kernel_rfl) (by kernel_rfl) (fun _ _ _ h => h) (Or.inr ⟨by kernel_rfl, rfl⟩) (by assumption) ?_; simp only [Act.put, List.getElem_toArray, List.getElem_cons_zero, List.getElem_cons_succ, List.setIfInBounds_toArray, List.set_cons_zero, List.set_cons_succ])
              (refine wpAnyH_take (i := 4) (v := undef) rfl (by kernel_rfl) (by kernel_rfl) (by kernel_rfl) (fun _ _ _ h => h) (Or.inr ⟨by kernel_rfl, rfl⟩) (by assumption) ?_; simp only [Act.put, List.getElem_toArray, List.getElem_cons_zero, List.getElem_cons_succ, List.setIfInBounds_toArray, List.set_cons_zero, List.set_cons_succ])
              (refine wpAnyH_take (i := 5) (v := undef) rfl (by kernel_rfl) (by kernel_rfl) (by kernel_rfl) (fun _ _ _ h => h) (Or.inr ⟨by kernel_rfl, rfl⟩) (by assumption) ?_; simp only [Act.put, List.getElem_toArray, List.getElem_cons_zero, List.getElem_cons_succ, List.setIfInBounds_toArray, List.set_cons_zero, List.set_cons_succ])
              (refine wpAnyH_take (i := 6) (v := undef) rfl (by kernel_rfl) (by kernel_rfl) (by kernel_rfl) (fun _ _ _ h => h) (Or.inr ⟨by kernel_rfl, rfl⟩) (by assumption) ?_; simp only [Act.put, List.getElem_toArray, List.getElem_cons_zero, List.getElem_cons_succ, List.setIfInBounds_toArray, List.set_cons_zero, List.set_cons_succ])
              (refine wpAnyH_take (i := 7) (v := undef) rfl (by kernel_rfl) (by kernel_rfl) (by kernel_rfl) (fun _ _ _ h => h) (Or.inr ⟨by kernel_rfl, rfl⟩) (by assumption) ?_; simp only [Act.put, List.getElem_toArray, List.getElem_cons_zero, List.getElem_cons_succ, List.setIfInBounds_toArray, List.set_cons_zero, List.set_cons_succ])
              (refine wpAnyH_take (i := 8) (v := undef) rfl (by kernel_rfl) (by kernel_rfl) (by kernel_rfl) (fun _ _ _ h => h) (Or.inr ⟨by kernel_rfl, rfl⟩) (by assumption) ?_; simp only [Act.put, List.getElem_toArray, List.getElem_cons_zero, List.getElem_cons_succ, List.setIfInBounds_toArray, List.set_cons_zero, List.set_cons_succ])
              (refine wpAnyH_take (i := 9) (v := undef) rfl (by kernel_rfl) (by kernel_rfl) (by kernel_rfl) (fun _ _ _ h => h) (Or.inr ⟨by kernel_rfl, rfl⟩) (by assumption) ?_; simp only [Act.put, List.getElem_toArray, List.getElem_cons_zero, List.getElem_cons_succ, List.setIfInBounds_toArray, List.set_cons_zero, List.set_cons_succ])
              (refine wpAnyH_take (i := 10) (v := undef) rfl (by kernel_rfl) (by kernel_rfl) (by kernel_rfl) (fun _ _ _ h => h) (Or.inr ⟨by kernel_rfl, rfl⟩) (by assumption) ?_; simp only [Act.put, List.getElem_toArray, List.getElem_cons_zero, List.getElem_cons_succ, List.setIfInBounds_toArray, List.set_cons_zero, List.set_cons_succ])
              (refine wpAnyH_take (i := 11) (v := undef) rfl (by kernel_rfl) (by kernel_rfl) (by kernel_rfl) (fun _ _ _ h => h) (Or.inr ⟨by kernel_rfl, rfl⟩) (by assumption) ?_; simp only [Act.put, List.getElem_toArray, List.getElem_cons_zero, List.getElem_cons_succ, List.setIfInBounds_toArray, List.set_cons_zero, List.set_cons_succ])
              (refine wpAnyH_take (i := 12) (v := undef) rfl (by kernel_rfl) (by kernel_rfl) (by kernel_rfl) (fun _ _ _ h => h) (Or.inr ⟨by kernel_rfl, rfl⟩) (by assumption) ?_; simp only [Act.put, List.getElem_toArray, List.getElem_cons_zero, List.getElem_cons_succ, List.setIfInBounds_toArray, List.set_cons_zero, List.set_cons_succ])
              (refine wpAnyH_take (i := 13) (v := undef) rfl (by kernel_rfl) (by kernel_rfl) (by kernel_rfl) (fun _ _ _ h => h) (Or.inr ⟨by kernel_rfl, rfl⟩) (by assumption) ?_; simp only [Act.put, List.getElem_toArray, List.getElem_cons_zero, List.getElem_cons_succ, List.setIfInBounds_toArray, List.set_cons_zero, List.set_cons_succ])
              (refine wpAnyH_take (i := 14) (v := undef) rfl (by kernel_rfl) (by kernel_rfl) (by kernel_rfl) (fun _ _ _ h => h) (Or.inr ⟨by kernel_rfl, rfl⟩) (by assumption) ?_; simp only [Act.put, List.getElem_toArray, List.getElem_cons_zero, List.getElem_cons_succ, List.setIfInBounds_toArray, List.set_cons_zero, List.set_cons_succ])
              refine wpAnyH_take (i := 15) (v := .bool false) rfl (by kernel_rfl) (by kernel_rfl) (by kernel_rfl) (fun _ _ _ h => h) (Or.inl ⟨by kernel_rfl, ?y15zt⟩) (by assumption) ?_; case y15zt => (intro w' hS; obtain ⟨s0, s1⟩ := hS; go_simp; try with_reducible rfl)
              simp only [Act.put, List.getElem_toArray, List.getElem_cons_zero, List.getElem_cons_succ, List.setIfInBounds_toArray, List.set_cons_zero, List.set_cons_succ]
              refine wpAnyH_take (i := 16) (v := ?v16zt) rfl (by kernel_rfl) (by kernel_rfl) (by kernel_rfl) (fun _ _ _ h => h) (Or.inl ⟨by kernel_rfl, ?y16zt⟩) (by assumption) ?_; case y16zt => (intro w' hS; obtain ⟨s0, s1⟩ := hS; go_simp; try with_reducible rfl)
              simp only [Act.put, List.getElem_toArray, List.getElem_cons_zero, List.getElem_cons_succ, List.setIfInBounds_toArray, List.set_cons_zero, List.set_cons_succ]
              refine wpAnyH_take (i := 17) (v := ?v17zt) rfl (by kernel_rfl) (by kernel_rfl) (by kernel_rfl) (fun _ _ _ h => h) (Or.inl ⟨by kernel_rfl, ?y17zt⟩) (by assumption) ?_; case y17zt => (intro w' hS; obtain ⟨s0, s1⟩ := hS; go_simp; try with_reducible rfl)
              simp only [Act.put, List.getElem_toArray, List.getElem_cons_zero, List.getElem_cons_succ, List.setIfInBounds_toArray, List.set_cons_zero, List.set_cons_succ]
              refine wpAnyH_take (i := 18) (v := ?v18zt) rfl (by kernel_rfl) (by kernel_rfl) (by kernel_rfl) (fun _ _ _ h => h) (Or.inl ⟨by kernel_rfl, ?y18zt⟩) (by assumption) ?_; case y18zt => (intro w' hS; obtain ⟨s0, s1⟩ := hS; go_simp; try with_reducible rfl)
              simp only [Act.put, List.getElem_toArray, List.getElem_cons_zero, List.getElem_cons_succ, List.setIfInBounds_toArray, List.set_cons_zero, List.set_cons_succ]
              refine wpAnyH_take (i := 19) (v := ?v19zt) rfl (by kernel_rfl) (by kernel_rfl) (by kernel_rfl) (fun _ _ _ h => h) (Or.inl ⟨by kernel_rfl, ?y19zt⟩) (by assumption) ?_; case y19zt => (intro w' hS; obtain ⟨s0, s1⟩ := hS; go_simp; try with_reducible rfl)
              simp only [Act.put, List.getElem_toArray, List.getElem_cons_zero, List.getElem_cons_succ, List.setIfInBounds_toArray, List.set_cons_zero, List.set_cons_succ]
              refine wpAnyH_take (i := 20) (v := ?v20zt) rfl (by kernel_rfl) (by kernel_rfl) (by kernel_rfl) (fun _ _ _ h => h) (Or.inl ⟨by kernel_rfl, ?y20zt⟩) (by assumption) ?_; case y20zt => (intro w' hS; obtain ⟨s0, s1⟩ := hS; go_simp; try with_reducible rfl)
              simp only [Act.put, List.getElem_toArray, List.getElem_cons_zero, List.getElem_cons_succ, List.setIfInBounds_toArray, List.set_cons_zero, List.set_cons_succ]
              refine wpAnyH_take (i := 21) (v := ?v21zt) rfl (by kernel_rfl) (by kernel_rfl) (by kernel_rfl) (fun _ _ _ h => h) (Or.inl ⟨by kernel_rfl, ?y21zt⟩) (by assumption) ?_; case y21zt => (intro w' hS; obtain ⟨s0, s1⟩ := hS; go_simp; try with_reducible rfl)
              simp only [Act.put, List.getElem_toArray, List.getElem_cons_zero, List.getElem_cons_succ, List.setIfInBounds_toArray, List.set_cons_zero, List.set_cons_succ]
              refine wpAnyH_take (i := 22) (v := ?v22zt) rfl (by kernel_rfl) (by kernel_rfl) (by kernel_rfl) (fun _ _ _ h => h) (Or.inl ⟨by kernel_rfl, ?y22zt⟩) (by assumption) ?_; case y22zt => (intro w' hS; obtain ⟨s0, s1⟩ := hS; go_simp; try with_reducible rfl)
              simp only [Act.put, List.getElem_toArray, List.getElem_cons_zero, List.getElem_cons_succ, List.setIfInBounds_toArray, List.set_cons_zero, List.set_cons_succ]
              refine wpAnyH_take (i := 23) (v := .bool true) rfl (by kernel_rfl) (by kernel_rfl) (by kernel_rfl) (fun _ _ _ h => h) (Or.inl ⟨by kernel_rfl, ?y23zt⟩) (by assumption) ?_; case y23zt => (intro w' hS; obtain ⟨s0, s1⟩ := hS; go_simp; try with_reducible rfl)
              simp only [Act.put, List.getElem_toArray, List.getElem_cons_zero, List.getElem_cons_succ, List.setIfInBounds_toArray, List.set_cons_zero, List.set_cons_succ]
              refine wpAnyH_take (i := 24) (v := ?v24zt) rfl (by kernel_rfl) (by kernel_rfl) (by kernel_rfl) (fun _ _ _ h => h) (Or.inl ⟨by kernel_rfl, ?y24zt⟩) (by assumption) ?_; case y24zt => (intro w' hS; obtain ⟨s0, s1⟩ := hS; go_simp; try with_reducible rfl)
              simp only [Act.put, List.getElem_toArray, List.getElem_cons_zero, List.getElem_cons_succ, List.setIfInBounds_toArray, List.set_cons_zero, List.set_cons_succ]
              refine wpAnyH_take (i := 25) (v := ?v25zt) rfl (by kernel_rfl) (by kernel_rfl) (by kernel_rfl) (fun _ _ _ h => h) (Or.inl ⟨by kernel_rfl, ?y25zt⟩) (by assumption) ?_; case y25zt => (intro w' hS; obtain ⟨s0, s1⟩ := hS; go_simp; try with_reducible rfl)
              simp only [Act.put, List.getElem_toArray, List.getElem_cons_zero, List.getElem_cons_succ, List.setIfInBounds_toArray, List.set_cons_zero, List.set_cons_succ]
              refine wpAnyH_take (i := 26) (v := .bool true) rfl (by kernel_rfl) (by kernel_rfl) (by kernel_rfl) (fun _ _ _ h => h) (Or.inl ⟨by kernel_rfl, ?y26zt⟩) (by assumption) ?_; case y26zt => (intro w' hS; obtain ⟨s0, s1⟩ := hS; go_simp; try with_reducible rfl)
              simp only [Act.put, List.getElem_toArray, List.getElem_cons_zero, List.getElem_cons_succ, List.setIfInBounds_toArray, List.set_cons_zero, List.set_cons_succ]
              refine wpAnyH_take (i := 27) (v := .bool false) rfl (by kernel_rfl) (by kernel_rfl) (by kernel_rfl) (fun _ _ _ h => h) (Or.inl ⟨by kernel_rfl, ?y27zt⟩) (by assumption) ?_; case y27zt => (intro w' hS; obtain ⟨s0, s1⟩ := hS; go_simp; try with_reducible rfl)
              simp only [Act.put, List.getElem_toArray, List.getElem_cons_zero, List.getElem_cons_succ, List.setIfInBounds_toArray, List.set_cons_zero, List.set_cons_succ]
              refine wpAnyH_take (i := 28) (v := .bool false) rfl (by kernel_rfl) (by kernel_rfl) (by kernel_rfl) (fun _ _ _ h => h) (Or.inl ⟨by kernel_rfl, ?y28zt⟩) (by assumption) ?_; case y28zt => (intro w' hS; obtain ⟨s0, s1⟩ := hS; go_simp; try with_reducible rfl)
              simp only [Act.put, List.getElem_toArray, List.getElem_cons_zero, List.getElem_cons_succ, List.setIfInBounds_toArray, List.set_cons_zero, List.set_cons_succ]
              refine wpAnyH_take (i := 29) (v := ?v29zt) rfl (by kernel_rfl) (by kernel_rfl) (by kernel_rfl) (fun _ _ _ h => h) (Or.inl ⟨by kernel_rfl, ?y29zt⟩) (by assumption) ?_; case y29zt => (intro w' hS; obtain ⟨s0, s1⟩ := hS; go_simp; try with_reducible rfl)
              simp only [Act.put, List.getElem_toArray, List.getElem_cons_zero, List.getElem_cons_succ, List.setIfInBounds_toArray, List.set_cons_zero, List.set_cons_succ]
              refine wpAnyH_take (i := 30) (v := ?v30zt) rfl (by kernel_rfl) (by kernel_rfl) (by kernel_rfl) (fun _ _ _ h => h) (Or.inl ⟨by kernel_rfl, ?y30zt⟩) (by assumption) ?_; case y30zt => (intro w' hS; obtain ⟨s0, s1⟩ := hS; go_simp; try with_reducible rfl)
              simp only [Act.put, List.getElem_toArray, List.getElem_cons_zero, List.getElem_cons_succ, List.setIfInBounds_toArray, List.set_cons_zero, List.set_cons_succ]
              refine wpAnyH_take (i := 31) (v := ?v31zt) rfl (by kernel_rfl) (by kernel_rfl) (by kernel_rfl) (fun _ _ _ h => h) (Or.inl ⟨by kernel_rfl, ?y31zt⟩) (by assumption) ?_; case y31zt => (intro w' hS; obtain ⟨s0, s1⟩ := hS; go_simp; try with_reducible rfl)
              simp only [Act.put, List.getElem_toArray, List.getElem_cons_zero, List.getElem_cons_succ, List.setIfInBounds_toArray, List.set_cons_zero, List.set_cons_succ]
              refine wpAnyH_take (i := 32) (v := ?v32zt) rfl (by kernel_rfl) (by kernel_rfl) (by kernel_rfl) (fun _ _ _ h => h) (Or.inl ⟨by kernel_rfl, ?y32zt⟩) (by assumption) ?_; case y32zt => (intro w' hS; obtain ⟨s0, s1⟩ := hS; go_simp; try with_reducible rfl)
              simp only [Act.put, List.getElem_toArray, List.getElem_cons_zero, List.getElem_cons_succ, List.setIfInBounds_toArray, List.set_cons_zero, List.set_cons_succ]
              refine wpAnyH_take (i := 33) (v := ?v33zt) rfl (by kernel_rfl) (by kernel_rfl) (by kernel_rfl) (fun _ _ _ h => h) (Or.inl ⟨by kernel_rfl, ?y33zt⟩) (by assumption) ?_; case y33zt => (intro w' hS; obtain ⟨s0, s1⟩ := hS; go_simp; try with_reducible rfl)
              simp only [Act.put, List.getElem_toArray, List.getElem_cons_zero, List.getElem_cons_succ, List.setIfInBounds_toArray, List.set_cons_zero, List.set_cons_succ]
              refine wpAnyH_take (i := 34) (v := ?v34zt) rfl (by kernel_rfl) (by kernel_rfl) (by kernel_rfl) (fun _ _ _ h => h) (Or.inl ⟨by kernel_rfl, ?y34zt⟩) (by assumption) ?_; case y34zt => (intro w' hS; obtain ⟨s0, s1⟩ := hS; go_simp; try with_reducible rfl)
              simp only [Act.put, List.getElem_toArray, List.getElem_cons_zero, List.getElem_cons_succ, List.setIfInBounds_toArray, List.set_cons_zero, List.set_cons_succ]
              refine wpAnyH_take (i := 35) (v := ?v35zt) rfl (by kernel_rfl) (by kernel_rfl) (by kernel_rfl) (fun _ _ _ h => h) (Or.inl ⟨by kernel_rfl, ?y35zt⟩) (by assumption) ?_; case y35zt => (intro w' hS; obtain ⟨s0, s1⟩ := hS; go_simp; try with_reducible rfl)
              simp only [Act.put, List.getElem_toArray, List.getElem_cons_zero, List.getElem_cons_succ, List.setIfInBounds_toArray, List.set_cons_zero, List.set_cons_succ]
              refine wpAnyH_take (i := 37) (v := ?v37zt) rfl (by kernel_rfl) (by kernel_rfl) (by kernel_rfl) (fun _ _ _ h => h) (Or.inl ⟨by kernel_rfl, ?y37zt⟩) (by assumption) ?_; case y37zt => (intro w' hS; obtain ⟨s0, s1⟩ := hS; go_simp; try with_reducible rfl)
              simp only [Act.put, List.getElem_toArray, List.getElem_cons_zero, List.getElem_cons_succ, List.setIfInBounds_toArray, List.set_cons_zero, List.set_cons_succ]
              refine wpAnyH_ready (rs := [36]) (by kernel_rfl) (by simp) ?_
              refine AllReadyH.cons rfl (fun K hK => ?_) AllReadyH.nil
              go_simp
              refine (HSK0.out _ (by assumption)).mono ?_
              rintro e w9 ⟨rfl, hb9⟩
              refine hK.out _ _ (HC0.out _ (HDB.out.trans (hb9.mono HDB.out.size))) (fun hH9 => ?_)
              clear hK K hH
              try simp only [Act.put, List.setIfInBounds_toArray, List.set_cons_zero, List.set_cons_succ]
              refine wpAnyH_take (i := 38) (v := .bool false) rfl (by kernel_rfl) (by kernel_rfl) (by kernel_rfl) (fun _ _ _ h => h) (Or.inl ⟨by kernel_rfl, ?y38zt⟩) (by assumption) ?_; case y38zt => (intro w' hS; obtain ⟨s0, s1⟩ := hS; go_simp; try with_reducible rfl)
              simp only [Act.put, List.getElem_toArray, List.getElem_cons_zero, List.getElem_cons_succ, List.setIfInBounds_toArray, List.set_cons_zero, List.set_cons_succ]
              refine wpAnyH_take (i := 39) (v := .bool false) rfl (by kernel_rfl) (by kernel_rfl) (by kernel_rfl) (fun _ _ _ h => h) (Or.inl ⟨by kernel_rfl, ?y39zt⟩) (by assumption) ?_; case y39zt => (intro w' hS; obtain ⟨s0, s1⟩ := hS; go_simp; try with_reducible rfl)
              simp only [Act.put, List.getElem_toArray, List.getElem_cons_zero, List.getElem_cons_succ, List.setIfInBounds_toArray, List.set_cons_zero, List.set_cons_succ]
              refine wpAnyH_done (by kernel_rfl) ?_ _
              have HB9 := Lib.hid hH9.2
              clear hb9 hH9
              go_wp2_with fail
              go_roundw
              case rel => exact ⟨1, by omega, by go_num, HB9⟩
              case measure => simp [intOf]; omega
            · rw [decide_eq_false hja] at hltx
              have hdi : decide ((0 : Int) < at') = false := decide_eq_false (by omega)
              have hji : ¬ (0 : Int) < at' := by omega
              go_wp2_with fail
              refine wp_region_held_drew (S := fun w' => w'.cell? ⟨g, 0, none⟩ = some (.string xk) ∧ Below w4.heap.size w4 w') (by kernel_rfl) (HC0.out _ HDB.out) (fun hH => ?_)
              refine wpAnyH_take (i := 0) (v := ?v0zf) rfl (by kernel_rfl) (by kernel_rfl) (by kernel_rfl) (fun _ _ _ h => h) (Or.inl ⟨by kernel_rfl, ?y0zf⟩) (by assumption) ?_; case y0zf => (intro w' hS; obtain ⟨s0, s1⟩ := hS; go_simp; try with_reducible rfl)
              simp only [Act.put, List.getElem_toArray, List.getElem_cons_zero, List.setIfInBounds_toArray, List.set_cons_zero, List.set_cons_succ]
              refine wpAnyH_take (i := 1) (v := .bool false) rfl (by kernel_rfl) (by kernel_rfl) (by kernel_rfl) (fun _ _ _ h => h) (Or.inl ⟨by kernel_rfl, ?y1zf⟩) (by assumption) ?_; case y1zf => (intro w' hS; obtain ⟨s0, s1⟩ := hS; go_simp; try with_reducible rfl)
              simp only [Act.put, List.getElem_toArray, List.getElem_cons_zero, List.getElem_cons_succ, List.setIfInBounds_toArray, List.set_cons_zero, List.set_cons_succ]
              refine wpAnyH_take (i := 2) (v := ?v2zf) rfl (by kernel_rfl) (by kernel_rfl) (by kernel_rfl) (fun _ _ _ h => h) (Or.inl ⟨by kernel_rfl, ?y2zf⟩) (by assumption) ?_; case y2zf => (intro w' hS; obtain ⟨s0, s1⟩ := hS; go_simp; try with_reducible rfl)
              simp only [Act.put, List.getElem_toArray, List.getElem_cons_zero, List.getElem_cons_succ, List.setIfInBounds_toArray, List.set_cons_zero, List.set_cons_succ]
              (refine wpAnyH_take (i := 3) (v := undef) rfl (by kernel_rfl) (by kernel_rfl) (by kernel_rfl) (fun _ _ _ h => h) (Or.inr ⟨by kernel_rfl, rfl⟩) (by assumption) ?_; simp only [Act.put, List.getElem_toArray, List.getElem_cons_zero, List.getElem_cons_succ, List.setIfInBounds_toArray, List.set_cons_zero, List.set_cons_succ])
              (refine wpAnyH_take (i := 4) (v := undef) rfl (by kernel_rfl) (by kernel_rfl) (by kernel_rfl) (fun _ _ _ h => h) (Or.inr ⟨by kernel_rfl, rfl⟩) (by assumption) ?_; simp only [Act.put, List.getElem_toArray, List.getElem_cons_zero, List.getElem_cons_succ, List.setIfInBounds_toArray, List.set_cons_zero, List.set_cons_succ])
              (refine wpAnyH_take (i := 5) (v := undef) rfl (by kernel_rfl) (by kernel_rfl) (by kernel_rfl) (fun _ _ _ h => h) (Or.inr ⟨by kernel_rfl, rfl⟩) (by assumption) ?_; simp only [Act.put, List.getElem_toArray, List.getElem_cons_zero, List.getElem_cons_succ, List.setIfInBounds_toArray, List.set_cons_zero, List.set_cons_succ])
              (refine wpAnyH_take (i := 6) (v := undef) rfl (by kernel_rfl) (by kernel_rfl) (by kernel_rfl) (fun _ _ _ h => h) (Or.inr ⟨by kernel_rfl, rfl⟩) (by assumption) ?_; simp only [Act.put, List.getElem_toArray, List.getElem_cons_zero, List.getElem_cons_succ, List.setIfInBounds_toArray, List.set_cons_zero, List.set_cons_succ])
              (refine wpAnyH_take (i := 7) (v := undef) rfl (by kernel_rfl) (by kernel_rfl) (by kernel_rfl) (fun _ _ _ h => h) (Or.inr ⟨by kernel_rfl, rfl⟩) (by assumption) ?_; simp only [Act.put, List.getElem_toArray, List.getElem_cons_zero, List.getElem_cons_succ, List.setIfInBounds_toArray, List.set_cons_zero, List.set_cons_succ])
              (refine wpAnyH_take (i := 8) (v := undef) rfl (by kernel_rfl) (by kernel_rfl) (by kernel_rfl) (fun _ _ _ h => h) (Or.inr ⟨by kernel_rfl, rfl⟩) (by assumption) ?_; simp only [Act.put, List.getElem_toArray, List.getElem_cons_zero, List.getElem_cons_succ, List.setIfInBounds_toArray, List.set_cons_zero, List.set_cons_succ])
              (refine wpAnyH_take (i := 9) (v := undef) rfl (by kernel_rfl) (by kernel_rfl) (by kernel_rfl) (fun _ _ _ h => h) (Or.inr ⟨by kernel_rfl, rfl⟩) (by assumption) ?_; simp only [Act.put, List.getElem_toArray, List.getElem_cons_zero, List.getElem_cons_succ, List.setIfInBounds_toArray, List.set_cons_zero, List.set_cons_succ])
              (refine wpAnyH_take (i := 10) (v := undef) rfl (by kernel_rfl) (by kernel_rfl) (by kernel_rfl) (fun _ _ _ h => h) (Or.inr ⟨by kernel_rfl, rfl⟩) (by assumption) ?_; simp only [Act.put, List.getElem_toArray, List.getElem_cons_zero, List.getElem_cons_succ, List.setIfInBounds_toArray, List.set_cons_zero, List.set_cons_succ])
              (refine wpAnyH_take (i := 11) (v := undef) rfl (by kernel_rfl) (by kernel_rfl) (by kernel_rfl) (fun _ _ _ h => h) (Or.inr ⟨by kernel_rfl, rfl⟩) (by assumption) ?_; simp only [Act.put, List.getElem_toArray, List.getElem_cons_zero, List.getElem_cons_succ, List.setIfInBounds_toArray, List.set_cons_zero, List.set_cons_succ])
              (refine wpAnyH_take (i := 12) (v := undef) rfl (by kernel_rfl) (by kernel_rfl) (by kernel_rfl) (fun _ _ _ h => h) (Or.inr ⟨by kernel_rfl, rfl⟩) (by assumption) ?_; simp only [Act.put, List.getElem_toArray, List.getElem_cons_zero, List.getElem_cons_succ, List.setIfInBounds_toArray, List.set_cons_zero, List.set_cons_succ])
              (refine wpAnyH_take (i := 13) (v := undef) rfl (by kernel_rfl) (by kernel_rfl) (by kernel_rfl) (fun _ _ _ h => h) (Or.inr ⟨by kernel_rfl, rfl⟩) (by assumption) ?_; simp only [Act.put, List.getElem_toArray, List.getElem_cons_zero, List.getElem_cons_succ, List.setIfInBounds_toArray, List.set_cons_zero, List.set_cons_succ])
              (refine wpAnyH_take (i := 14) (v := undef) rfl (by kernel_rfl) (by kernel_rfl) (by kernel_rfl) (fun _ _ _ h => h) (Or.inr ⟨by kernel_rfl, rfl⟩) (by assumption) ?_; simp only [Act.put, List.getElem_toArray, List.getElem_cons_zero, List.getElem_cons_succ, List.setIfInBounds_toArray, List.set_cons_zero, List.set_cons_succ])
              refine wpAnyH_take (i := 15) (v := .bool false) rfl (by kernel_rfl) (by kernel_rfl) (by kernel_rfl) (fun _ _ _ h => h) (Or.inl ⟨by kernel_rfl, ?y15zf⟩) (by assumption) ?_; case y15zf => (intro w' hS; obtain ⟨s0, s1⟩ := hS; go_simp; try with_reducible rfl)
              simp only [Act.put, List.getElem_toArray, List.getElem_cons_zero, List.getElem_cons_succ, List.setIfInBounds_toArray, List.set_cons_zero, List.set_cons_succ]
              refine wpAnyH_take (i := 16) (v := ?v16zf) rfl (by kernel_rfl) (by kernel_rfl) (by kernel_rfl) (fun _ _ _ h => h) (Or.inl ⟨by kernel_rfl, ?y16zf⟩) (by assumption) ?_; case y16zf => (intro w' hS; obtain ⟨s0, s1⟩ := hS; go_simp; try with_reducible rfl)
              simp only [Act.put, List.getElem_toArray, List.getElem_cons_zero, List.getElem_cons_succ, List.setIfInBounds_toArray, List.set_cons_zero, List.set_cons_succ]
              refine wpAnyH_take (i := 17) (v := ?v17zf) rfl (by kernel_rfl) (by kernel_rfl) (by kernel_rfl) (fun _ _ _ h => h) (Or.inl ⟨by kernel_rfl, ?y17zf⟩) (by assumption) ?_; case y17zf => (intro w' hS; obtain ⟨s0, s1⟩ := hS; go_simp; try with_reducible rfl)
              simp only [Act.put, List.getElem_toArray, List.getElem_cons_zero, List.getElem_cons_succ, List.setIfInBounds_toArray, List.set_cons_zero, List.set_cons_succ]
              refine wpAnyH_take (i := 18) (v := ?v18zf) rfl (by kernel_rfl) (by kernel_rfl) (by kernel_rfl) (fun _ _ _ h => h) (Or.inl ⟨by kernel_rfl, ?y18zf⟩) (by assumption) ?_; case y18zf => (intro w' hS; obtain ⟨s0, s1⟩ := hS; go_simp; try with_reducible rfl)
              simp only [Act.put, List.getElem_toArray, List.getElem_cons_zero, List.getElem_cons_succ, List.setIfInBounds_toArray, List.set_cons_zero, List.set_cons_succ]
              refine wpAnyH_take (i := 19) (v := ?v19zf) rfl (by kernel_rfl) (by kernel_rfl) (by kernel_rfl) (fun _ _ _ h => h) (Or.inl ⟨by kernel_rfl, ?y19zf⟩) (by assumption) ?_; case y19zf => (intro w' hS; obtain ⟨s0, s1⟩ := hS; go_simp; try with_reducible rfl)
              simp only [Act.put, List.getElem_toArray, List.getElem_cons_zero, List.getElem_cons_succ, List.setIfInBounds_toArray, List.set_cons_zero, List.set_cons_succ]
              refine wpAnyH_take (i := 20) (v := ?v20zf) rfl (by kernel_rfl) (by kernel_rfl) (by kernel_rfl) (fun _ _ _ h => h) (Or.inl ⟨by kernel_rfl, ?y20zf⟩) (by assumption) ?_; case y20zf => (intro w' hS; obtain ⟨s0, s1⟩ := hS; go_simp; try with_reducible rfl)
              simp only [Act.put, List.getElem_toArray, List.getElem_cons_zero, List.getElem_cons_succ, List.setIfInBounds_toArray, List.set_cons_zero, List.set_cons_succ]
              refine wpAnyH_take (i := 21) (v := ?v21zf) rfl (by kernel_rfl) (by kernel_rfl) (by kernel_rfl) (fun _ _ _ h => h) (Or.inl ⟨by kernel_rfl, ?y21zf⟩) (by assumption) ?_; case y21zf => (intro w' hS; obtain ⟨s0, s1⟩ := hS; go_simp; try with_reducible rfl)
              simp only [Act.put, List.getElem_toArray, List.getElem_cons_zero, List.getElem_cons_succ, List.setIfInBounds_toArray, List.set_cons_zero, List.set_cons_succ]
              refine wpAnyH_take (i := 22) (v := ?v22zf) rfl (by kernel_rfl) (by kernel_rfl) (by kernel_rfl) (fun _ _ _ h => h) (Or.inl ⟨by kernel_rfl, ?y22zf⟩) (by assumption) ?_; case y22zf => (intro w' hS; obtain ⟨s0, s1⟩ := hS; go_simp; try with_reducible rfl)
              simp only [Act.put, List.getElem_toArray, List.getElem_cons_zero, List.getElem_cons_succ, List.setIfInBounds_toArray, List.set_cons_zero, List.set_cons_succ]
              refine wpAnyH_take (i := 23) (v := .bool false) rfl (by kernel_rfl) (by kernel_rfl) (by kernel_rfl) (fun _ _ _ h => h) (Or.inl ⟨by kernel_rfl, ?y23zf⟩) (by assumption) ?_; case y23zf => (intro w' hS; obtain ⟨s0, s1⟩ := hS; go_simp; try with_reducible rfl)
              simp only [Act.put, List.getElem_toArray, List.getElem_cons_zero, List.getElem_cons_succ, List.setIfInBounds_toArray, List.set_cons_zero, List.set_cons_succ]
              refine wpAnyH_take (i := 24) (v := ?v24zf) rfl (by kernel_rfl) (by kernel_rfl) (by kernel_rfl) (fun _ _ _ h => h) (Or.inl ⟨by kernel_rfl, ?y24zf⟩) (by assumption) ?_; case y24zf => (intro w' hS; obtain ⟨s0, s1⟩ := hS; go_simp; try with_reducible rfl)
              simp only [Act.put, List.getElem_toArray, List.getElem_cons_zero, List.getElem_cons_succ, List.setIfInBounds_toArray, List.set_cons_zero, List.set_cons_succ]
              refine wpAnyH_take (i := 25) (v := ?v25zf) rfl (by kernel_rfl) (by kernel_rfl) (by kernel_rfl) (fun _ _ _ h => h) (Or.inl ⟨by kernel_rfl, ?y25zf⟩) (by assumption) ?_; case y25zf => (intro w' hS; obtain ⟨s0, s1⟩ := hS; go_simp; try with_reducible rfl)
              simp only [Act.put, List.getElem_toArray, List.getElem_cons_zero, List.getElem_cons_succ, List.setIfInBounds_toArray, List.set_cons_zero, List.set_cons_succ]
              refine wpAnyH_take (i := 26) (v := .bool false) rfl (by kernel_rfl) (by kernel_rfl) (by kernel_rfl) (fun _ _ _ h => h) (Or.inl ⟨by kernel_rfl, ?y26zf⟩) (by assumption) ?_; case y26zf => (intro w' hS; obtain ⟨s0, s1⟩ := hS; go_simp; try with_reducible rfl)
              simp only [Act.put, List.getElem_toArray, List.getElem_cons_zero, List.getElem_cons_succ, List.setIfInBounds_toArray, List.set_cons_zero, List.set_cons_succ]
              refine wpAnyH_take (i := 27) (v := .bool false) rfl (by kernel_rfl) (by kernel_rfl) (by kernel_rfl) (fun _ _ _ h => h) (Or.inl ⟨by kernel_rfl, ?y27zf⟩) (by assumption) ?_; case y27zf => (intro w' hS; obtain ⟨s0, s1⟩ := hS; go_simp; try with_reducible rfl)
              simp only [Act.put, List.getElem_toArray, List.getElem_cons_zero, List.getElem_cons_succ, List.setIfInBounds_toArray, List.set_cons_zero, List.set_cons_succ]
              refine wpAnyH_take (i := 28) (v := .bool false) rfl (by kernel_rfl) (by kernel_rfl) (by kernel_rfl) (fun _ _ _ h => h) (Or.inl ⟨by kernel_rfl, ?y28zf⟩) (by assumption) ?_; case y28zf => (intro w' hS; obtain ⟨s0, s1⟩ := hS; go_simp; try with_reducible rfl)
              simp only [Act.put, List.getElem_toArray, List.getElem_cons_zero, List.getElem_cons_succ, List.setIfInBounds_toArray, List.set_cons_zero, List.set_cons_succ]
              refine wpAnyH_take (i := 29) (v := ?v29zf) rfl (by kernel_rfl) (by kernel_rfl) (by kernel_rfl) (fun _ _ _ h => h) (Or.inl ⟨by kernel_rfl, ?y29zf⟩) (by assumption) ?_; case y29zf => (intro w' hS; obtain ⟨s0, s1⟩ := hS; go_simp; try with_reducible rfl)
              simp only [Act.put, List.getElem_toArray, List.getElem_cons_zero, List.getElem_cons_succ, List.setIfInBounds_toArray, List.set_cons_zero, List.set_cons_succ]
              refine wpAnyH_take (i := 30) (v := ?v30zf) rfl (by kernel_rfl) (by kernel_rfl) (by kernel_rfl) (fun _ _ _ h => h) (Or.inl ⟨by kernel_rfl, ?y30zf⟩) (by assumption) ?_; case y30zf => (intro w' hS; obtain ⟨s0, s1⟩ := hS; go_simp; try with_reducible rfl)
              simp only [Act.put, List.getElem_toArray, List.getElem_cons_zero, List.getElem_cons_succ, List.setIfInBounds_toArray, List.set_cons_zero, List.set_cons_succ]
              refine wpAnyH_take (i := 31) (v := ?v31zf) rfl (by kernel_rfl) (by kernel_rfl) (by kernel_rfl) (fun _ _ _ h => h) (Or.inl ⟨by kernel_rfl, ?y31zf⟩) (by assumption) ?_; case y31zf => (intro w' hS; obtain ⟨s0, s1⟩ := hS; go_simp; try with_reducible rfl)
              simp only [Act.put, List.getElem_toArray, List.getElem_cons_zero, List.getElem_cons_succ, List.setIfInBounds_toArray, List.set_cons_zero, List.set_cons_succ]
              refine wpAnyH_take (i := 32) (v := ?v32zf) rfl (by kernel_rfl) (by kernel_rfl) (by kernel_rfl) (fun _ _ _ h => h) (Or.inl ⟨by kernel_rfl, ?y32zf⟩) (by assumption) ?_; case y32zf => (intro w' hS; obtain ⟨s0, s1⟩ := hS; go_simp; try with_reducible rfl)
              simp only [Act.put, List.getElem_toArray, List.getElem_cons_zero, List.getElem_cons_succ, List.setIfInBounds_toArray, List.set_cons_zero, List.set_cons_succ]
              refine wpAnyH_take (i := 33) (v := ?v33zf) rfl (by kernel_rfl) (by kernel_rfl) (by kernel_rfl) (fun _ _ _ h => h) (Or.inl ⟨by kernel_rfl, ?y33zf⟩) (by assumption) ?_; case y33zf => (intro w' hS; obtain ⟨s0, s1⟩ := hS; go_simp; try with_reducible rfl)
              simp only [Act.put, List.getElem_toArray, List.getElem_cons_zero, List.getElem_cons_succ, List.setIfInBounds_toArray, List.set_cons_zero, List.set_cons_succ]
              refine wpAnyH_take (i := 34) (v := ?v34zf) rfl (by kernel_rfl) (by kernel_rfl) (by kernel_rfl) (fun _ _ _ h => h) (Or.inl ⟨by kernel_rfl, ?y34zf⟩) (by assumption) ?_; case y34zf => (intro w' hS; obtain ⟨s0, s1⟩ := hS; go_simp; try with_reducible rfl)
              simp only [Act.put, List.getElem_toArray, List.getElem_cons_zero, List.getElem_cons_succ, List.setIfInBounds_toArray, List.set_cons_zero, List.set_cons_succ]
              refine wpAnyH_take (i := 35) (v := ?v35zf) rfl (by kernel_rfl) (by kernel_rfl) (by kernel_rfl) (fun _ _ _ h => h) (Or.inl ⟨by kernel_rfl, ?y35zf⟩) (by assumption) ?_; case y35zf => (intro w' hS; obtain ⟨s0, s1⟩ := hS; go_simp; try with_reducible rfl)
              simp only [Act.put, List.getElem_toArray, List.getElem_cons_zero, List.getElem_cons_succ, List.setIfInBounds_toArray, List.set_cons_zero, List.set_cons_succ]
              refine wpAnyH_take (i := 37) (v := ?v37zf) rfl (by kernel_rfl) (by kernel_rfl) (by kernel_rfl) (fun _ _ _ h => h) (Or.inl ⟨by kernel_rfl, ?y37zf⟩) (by assumption) ?_; case y37zf => (intro w' hS; obtain ⟨s0, s1⟩ := hS; go_simp; try with_reducible rfl)
              simp only [Act.put, List.getElem_toArray, List.getElem_cons_zero, List.getElem_cons_succ, List.setIfInBounds_toArray, List.set_cons_zero, List.set_cons_succ]
              refine wpAnyH_ready (rs := [36]) (by kernel_rfl) (by simp) ?_
              refine AllReadyH.cons rfl (fun K hK => ?_) AllReadyH.nil
              go_simp
              refine (HSK0.out _ (by assumption)).mono ?_
              rintro e w9 ⟨rfl, hb9⟩
              refine hK.out _ _ (HC0.out _ (HDB.out.trans (hb9.mono HDB.out.size))) (fun hH9 => ?_)
              clear hK K hH
              try simp only [Act.put, List.setIfInBounds_toArray, List.set_cons_zero, List.set_cons_succ]
              refine wpAnyH_take (i := 38) (v := .bool false) rfl (by kernel_rfl) (by kernel_rfl) (by kernel_rfl) (fun _ _ _ h => h) (Or.inl ⟨by kernel_rfl, ?y38zf⟩) (by assumption) ?_; case y38zf => (intro w' hS; obtain ⟨s0, s1⟩ := hS; go_simp; try with_reducible rfl)
              simp only [Act.put, List.getElem_toArray, List.getElem_cons_zero, List.getElem_cons_succ, List.setIfInBounds_toArray, List.set_cons_zero, List.set_cons_succ]
              refine wpAnyH_take (i := 39) (v := .bool false) rfl (by kernel_rfl) (by kernel_rfl) (by kernel_rfl) (fun _ _ _ h => h) (Or.inl ⟨by kernel_rfl, ?y39zf⟩) (by assumption) ?_; case y39zf => (intro w' hS; obtain ⟨s0, s1⟩ := hS; go_simp; try with_reducible rfl)
              simp only [Act.put, List.getElem_toArray, List.getElem_cons_zero, List.getElem_cons_succ, List.setIfInBounds_toArray, List.set_cons_zero, List.set_cons_succ]
              refine wpAnyH_done (by kernel_rfl) ?_ _
              have HB9 := Lib.hid hH9.2
              clear hb9 hH9
              go_wp2_with fail
              go_roundw
              case rel => exact ⟨1, by omega, by go_num, HB9⟩
              case measure => simp [intOf]; omega
          · obtain ⟨j, rfl⟩ : ∃ j, q = j + 1 := ⟨q - 1, by omega⟩
            obtain ⟨y, hy⟩ : ∃ y, es[j]? = some y := ⟨_, List.getElem?_eq_getElem (by omega)⟩
            obtain ⟨g', eg, -, y0, -⟩ := HSEEN.out j y hy
            simp only [Option.some.injEq, Addr.mk.injEq, and_true] at eg
            subst eg
            have hlt1 : Op.bytesLess y.key.toList x.key.toList = true := by
              rw [ByteArray.toList_eq, ByteArray.toList_eq]
              obtain ⟨h1, rfl⟩ := List.getElem?_eq_some_iff.1 hy
              obtain ⟨h2, rfl⟩ := List.getElem?_eq_some_iff.1 hx
              exact List.pairwise_iff_getElem.1 HASC.out j (j + 1) h1 h2 (by omega)
            have HY0 := Lib.hid y0
            obtain ⟨xk, xv⟩ := x
            obtain ⟨yk, yv⟩ := y
            dsimp only at *
            have HC : ∀ W, Below w4.heap.size w4 W → RG w4 g j xk yk W := fun W hb => RG.of HG.out HG0.out HY0.out hb
            have HSK2 : Hid (∀ W, RG w4 g j xk yk W → Calls Try.prog 16 #[.pointer (some ⟨p, 0, none⟩), .string xk] W (Gives (.int .i64 ((j : Int) + 1)) W)) := Lib.hid (fun W hb => by
              have := HSK.out W xk hb.2.2
              rw [HSQ.out] at this
              exact this)
            have hR0 := HC wr.drew HB.out.drew
            have HR0 := Lib.hid hR0
            have HCC := Lib.hid HC
            have hw1 : IntKind.i64.wrap (j : Int) = j := by rw [IntKind.wrap_i64]; omega
            have hw2 : (j : Int) + 1 - 1 = j := by omega
            have hw3 : IntKind.i64.wrap ((j : Int) + 1) = (j : Int) + 1 := by rw [IntKind.wrap_i64]; omega
            have hb1 : (0 : Int) ≤ j := by omega
            have hb2 : (j : Int) < es.length := by omega
            have hb3 : (j : Int) + 1 < es.length := by omega
            have hb4 : (0 : Int) < (j : Int) + 1 := by omega
            have hb5 : (0 : Int) ≤ (j : Int) + 1 := by omega
            have hb6 : j < es.length := by omega
            have hb7 : j + 1 < es.length := by omega
            have hgw : g < wr.drew.heap.size := Nat.lt_of_lt_of_le HG.out HB.out.size
            clear hx hy y0 g0 hgl hR0 HC hq0
            have hltx : Op.bytesLess xk.toList K.toList = decide (j + 1 < at') := by rw [ByteArray.toList_eq, ByteArray.toList_eq]; exact HLT.out
            by_cases hja : j + 1 < at'
            · rw [decide_eq_true hja] at hltx
              have hdi : decide ((j : Int) + 1 < at') = true := decide_eq_true (by omega)
              clear hja
              go_wp2_with fail
              go_region_held3 (fun w' => w'.cell? ⟨g, (j + 1) * 2, none⟩ = some (.string xk) ∧ w'.cell? ⟨g, j * 2, none⟩ = some (.string yk) ∧ Below w4.heap.size w4 w')
                (first | exact HR0.out | exact RG.call (by assumption) HG.out HG0.out HY0.out hb8)
                (first | (go_at_call 16; refine (HSK2.out _ (by assumption)).mono ?_; rintro e w8 ⟨rfl, hb8⟩))
              have hR8 : RG w4 g j xk yk w8 := by assumption
              have HB8 := Lib.hid hR8.2.2
              clear hR8 hb8
              go_wp2_with fail
              go_roundw
              case rel => exact ⟨j + 1 + 1, by omega, by go_num, HB8⟩
              case measure => simp [intOf]; omega
            · rw [decide_eq_false hja] at hltx
              have hdi : decide ((j : Int) + 1 < at') = false := decide_eq_false (by omega)
              clear hja
              go_wp2_with fail
              go_region_held3 (fun w' => w'.cell? ⟨g, (j + 1) * 2, none⟩ = some (.string xk) ∧ w'.cell? ⟨g, j * 2, none⟩ = some (.string yk) ∧ Below w4.heap.size w4 w')
                (first | exact HR0.out | exact RG.call (by assumption) HG.out HG0.out HY0.out hb8)
                (first | (go_at_call 16; refine (HSK2.out _ (by assumption)).mono ?_; rintro e w8 ⟨rfl, hb8⟩))
              have hR8 : RG w4 g j xk yk w8 := by assumption
              have HB8 := Lib.hid hR8.2.2
              clear hR8 hb8
              go_wp2_with fail
              go_roundw
              case rel => exact ⟨j + 1 + 1, by omega, by go_num, HB8⟩
              case measure => simp [intOf]; omega
        · obtain rfl : q = es.length := by omega
          have HBF : Hid (Below w.heap.size w wr) := Lib.hid (HBE4.out.trans (HB.out.mono HBE4.out.size))
          go_wp2_with fail
          refine (awake_any _).mono ?_
          rintro e w7 ⟨rfl, hb7⟩
          go_wp2_with fail
          go_ret
          exact ⟨rfl, HBF.out.trans (hb7.mono HBF.out.size)⟩

end Go.Proofs.Ytjpmcphfiiiecaa.Bo

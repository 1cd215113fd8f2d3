/- The walk of WalFull. -/
import Derived.Test.YtfeconankopjmaaGreatDoorPk34
namespace Go.Proofs.YtfeconankopjmaaGreatDoor
set_option linter.unusedVariables false
open Go.RowKit Go.Maps
open Dk (Dir Chg Disk File Str)

/-- Where the rounds stand. -/
def RoundsOn (w : World) (d k : Nat) (wr : World) : Prop := ∃ L S us hs, RLoop wr w.heap.size L d k S us hs ∧ Below w.heap.size w wr ∧ hs.length ≤ 21 * k

set_option maxHeartbeats 16000000 in
set_option maxRecDepth 100000 in
theorem full_walk (room : Int) (a : Option Addr) (n c : Nat) (l : List Rd) (seq : Nat) (ao : Option Addr) (len cap : Nat) (ops : List Bn.Ob) (w : World) (K : Knows w.heap.size w) (_ : -9223372036854775808 ≤ room ∧ room ≤ 9223372036854775807) (h : RoundsAt w a l) (hn : l.length = n) (hS : Bn.SeesO w (.slice ao len cap) ops) (hseq : seq < 18446744073709551616) :
    Calls Tryz.prog 7 #[.int .i64 room, .slice a n c, .agg #[.int .u64 (seq : Nat), .slice ao len cap]] w (Gives (.bool true) w) := by
  obtain ⟨i0, hi, hz0, hz1, hz2⟩ := info_parts info_ref
  obtain ⟨w0, hw0⟩ : ∃ w0, w0 = w.alloc (.cells #[.int .u64 (seq : Nat), .slice ao len cap] 32) := ⟨_, rfl⟩
  have hb0 : Below w.heap.size w w0 := by rw [hw0]; exact (Below.refl _ _).alloc (Nat.le_refl _) _
  have HB0 := Lib.hid hb0
  have h0 : w0.heap[w.heap.size]? = some (.cells #[.int .u64 (seq : Nat), .slice ao len cap] 32 (0, 0)) := by rw [hw0]; exact heap_alloc_new w _
  have HBX : Hid (∀ W, Below w0.heap.size w0 W → W.cell? ⟨w.heap.size, 0, none⟩ = some (.int .u64 (seq : Nat)) ∧ W.cell? ⟨w.heap.size, 1, none⟩ = some (.slice ao len cap)) := Lib.hid fun W hb => by
    have hh := (hb.block w.heap.size (heap_lt h0)).trans h0
    exact ⟨by rw [cell_of hh]; rfl, by rw [cell_of hh]; rfl⟩
  have hS0 := hS.below hb0
  have HG := Lib.hid (greatRounds_any w0 a n c l hn (h.below hb0))
  have K0 := (K.next hb0).mono hb0.size
  have HK := Lib.hid (fun W (hb : Below w0.heap.size w0 W) => K0.next hb)
  have HAW := Lib.hid (fun W (hb : Below w0.heap.size w0 W) => wawake_any W ((K0.next hb).mono hb.size))
  have HGB := Lib.hid (fun W (hb : Below w0.heap.size w0 W) => Bn.great_any seq ao len cap ops W (hS0.below hb))
  have HSO := Lib.hid hS0
  have HR := Lib.hid (h.below hb0); have HN := Lib.hid hn; have HSQ := Lib.hid hseq
  obtain ⟨hlen, _⟩ := hS.get
  have HLO := Lib.hid hlen
  obtain ⟨gb, hgb⟩ : ∃ gb, gb = Bn.greatO ops := ⟨_, rfl⟩
  rw [← hgb] at HGB
  have HGBE := Lib.hid hgb
  unfold Bn.batV at HGB
  clear K h hn hS hseq hlen hgb hb0 h0 hS0 K0
  go_enter Tryz.func7, Tryz.ntmps7
  go_wp2_with fail
  rw [← hw0]
  clear hw0
  refine HG.out.mono ?_
  rintro e w1 ⟨b, rfl, hok, hb1⟩
  have HB1 := Lib.hid hb1
  have HOK := Lib.hid hok
  clear hb1 hok HG
  cases b with
  | true =>
    go_wp2_with fail
    refine (HAW.out w1 HB1.out).mono ?_
    rintro e w2 ⟨rfl, hb2⟩
    have HB2 := Lib.hid (Below.next HB1.out hb2); clear hb2
    go_wp2_with fail
    go_ret
    exact ⟨rfl, HB0.out.trans (HB2.out.mono HB0.out.size)⟩
  | false =>
    have HSM := Lib.hid (HOK.out rfl)
    clear HOK
    have hn8 : (n : Int) ≤ 8 := by have := HSM.out.1; have := HN.out; omega
    obtain ⟨q0, q1⟩ := HBX.out _ HB1.out
    go_wp2_with fail
    refine (HGB.out w1 HB1.out).mono ?_
    rintro e w2 ⟨rfl, hb2⟩
    have HB2 := Lib.hid (Below.next HB1.out hb2); clear hb2
    cases gb with
    | true =>
      go_wp2_with fail
      refine (HAW.out w2 HB2.out).mono ?_
      rintro e w3 ⟨rfl, hb3⟩
      have HB3 := Lib.hid (Below.next HB2.out hb3); clear hb3
      go_wp2_with fail
      go_ret
      exact ⟨rfl, HB0.out.trans (HB3.out.mono HB0.out.size)⟩
    | false =>
      have HFEW : Hid (ops.length ≤ 60) := Lib.hid (Bn.greatO_no HGBE.out.symm).1
      clear HGBE HGB
      go_wp2_with fail
      refine (new_any w2 room).mono ?_
      rintro e w3 ⟨L, rfl, hh, hb3, ho⟩
      have HS0 : Hid (RoundsOn w0 L.d 0 w3) := Lib.hid ⟨L, _, [], [], RLoop.start hh (fun b hb => Nat.le_trans HB2.out.size (ho b hb)) (Below.next HB2.out hb3).size, Below.next HB2.out hb3, Nat.zero_le _⟩
      generalize L.d = d at *
      clear hh hb3 ho
      go_wp2_with fail
      go_loopw [8] (fun z wr => ∃ k : Nat, k ≤ n ∧ z = .int .i64 (k : Int) ∧ Hid (RoundsOn w0 d k wr)) (fun z _ => n - (intOf z).toNat)
      case atStart => exact ⟨0, Nat.zero_le _, rfl, HS0⟩
      case round =>
        obtain ⟨k, hk, rfl, HK0⟩ := hrel
        obtain ⟨L0, S, us, hs, R, hbw, hlen⟩ := HK0.out
        have HLEN := Lib.hid hlen
        clear hlen
        clear HK0 HS0
        by_cases hlt : k < n
        · have hlt2 : (k : Int) < n := by omega
          have hk8 : k < 8 := by omega
          obtain ⟨x, hx⟩ : ∃ x, l[k]? = some x := ⟨_, List.getElem?_eq_getElem (by have := HN.out; omega)⟩
          obtain ⟨b, off, rfl, hb, hra⟩ := HR.out k x hx
          obtain ⟨ab, cb, an, cn, vk, vs, r0, r1, r2, r3, r4, r5, hab, hat, hch, hfu⟩ := hra
          have hxok := HSM.out.2 x (List.mem_of_getElem? hx)
          have hold : Older w0 w0.heap.size vk vs x.crash := by
            have hg := hxok.2.2.1
            unfold greatC at hg
            simp only [Bool.or_eq_false_iff, decide_eq_false_iff_not] at hg
            exact hch.older (by omega) (by omega)
          have HGO := Lib.hid (R.goes hk8 (HK.out _ hbw) hxok (cb := cb) (cn := cn) (hab.below hbw) (hat.below hbw) hfu vk vs)
          have HCR := Lib.hid (fun (W : World) (L' : Lay) (S' : Disk) (N M : Nat) (hd : L'.d = d) (D : Disc W w0.heap.size L' S' N M) (hN : N ≤ 4000) (hM : M ≤ 100000000) (hb : Below w0.heap.size w0 W) => crash_disc hd D hN hM (hold.below hb))
          have HC := Lib.hid (fun (W : World) (hW : Below w0.heap.size w0 W) => And.intro ((hW.cell (p := ⟨b, off + k * 6 + 3, none⟩) hb).trans r3) (And.intro ((hW.cell (p := ⟨b, off + k * 6 + 4, none⟩) hb).trans r4) ((hW.cell (p := ⟨b, off + k * 6 + 5, none⟩) hb).trans r5)))
          have c0 := (hbw.cell (p := ⟨b, off + k * 6, none⟩) hb).trans r0
          have c1 := (hbw.cell (p := ⟨b, off + k * 6 + 1, none⟩) hb).trans r1
          have c2 := (hbw.cell (p := ⟨b, off + k * 6 + 2, none⟩) hb).trans r2
          obtain ⟨c3, c4, c5⟩ := HC.out _ hbw
          unfold roundV at HGO
          generalize x.crash.names = nms at *
          generalize x.fuse = fz at *
          obtain ⟨nb, hnb⟩ : ∃ nb, nb = x.batches.length := ⟨_, rfl⟩
          obtain ⟨nn, hnn⟩ : ∃ nn, nn = x.news.length := ⟨_, rfl⟩
          rw [← hnb] at c0 HGO
          rw [← hnn] at c1 HGO
          generalize x.crash = cr at *
          have HBW := Lib.hid hbw
          clear hx r0 r1 r2 r3 r4 r5 hab hat hch hfu hxok hold hnb hnn hbw R hb
          go_wp2_with fail
          refine HGO.out.mono ?_
          rintro e w4 ⟨v1, v2, L3, S3, ts, U, rfl, hd3, D3, hb3, hk3, hfin, hts, hU, ho1, ho2, hf1, hf2⟩
          have HB3 := Lib.hid (HBW.out.trans hb3)
          have HFIN := Lib.hid hfin
          have HTS := Lib.hid (And.intro hts hU)
          have HCR3 := Lib.hid (HCR.out w4 L3 S3 _ _ hd3 D3 (by omega) (by omega) HB3.out)
          obtain ⟨c3, c4, c5⟩ := HC.out _ HB3.out
          clear HGO HCR hb3 hk3 hfin hts hU ho1 ho2 hf1 hf2 hd3 D3 HBW
          go_wp2_with fail
          refine HCR3.out.mono ?_
          rintro e w5 ⟨rfl, L4, hd4, D4, hb4, hk4⟩
          have HB4 := Lib.hid (HB3.out.trans hb4)
          have HST := Lib.hid (start_disc hd4 D4)
          clear hd4 D4 hb4 hk4 HCR3 c0 c1 c2 c3 c4 c5
          go_wp2_with fail
          refine HST.out.mono ?_
          rintro e w6 ⟨rfl, L5, hd5, D5, hb5, hk5⟩
          have HB5 := Lib.hid (HB4.out.trans hb5)
          have HLI := Lib.hid (light_disc hd5 D5 0 (by decide))
          clear hd5 D5 hb5 hk5 HST
          go_wp2_with fail
          refine HLI.out.mono ?_
          rintro e w7 ⟨rfl, L6, hd6, D6, hb6, hk6⟩
          obtain ⟨us', hs', R6, hhs⟩ := RLoop.next (c := cr) HFIN.out hd6 D6
          have HZ : Hid (RoundsOn w0 d (k + 1) w7) := Lib.hid ⟨L6, _, us', hs', R6, HB5.out.trans hb6, by
            have h1 := HLEN.out
            have h2 := HTS.out.1
            have h3 := HTS.out.2
            rcases hhs with e | ⟨b, e1, e2⟩
            · rw [e, List.length_append]; omega
            · rw [e2, List.length_append, List.length_append]; simp only [List.length_cons, List.length_nil]; omega⟩
          clear hd6 D6 hb6 hk6 HLI HFIN hhs R6
          go_wp2_with fail
          go_roundw
          case rel => exact ⟨k + 1, by omega, by go_num, HZ⟩
          case measure => simp [intOf]; omega
        · have hlt2 : ¬ (k : Int) < n := by omega
          have hk8 : k ≤ 8 := by omega
          have HBW := Lib.hid hbw
          have HBG := Lib.hid (R.begins hk8 (HK.out _ hbw))
          clear R hbw
          go_wp2_with fail
          refine HBG.out.mono ?_
          rintro e w4 ⟨g, L1, S1, N, rfl, hd1, D1, hb1, hk1, hl1, hm1, hN1, hf1⟩
          have HB4 := Lib.hid (HBW.out.trans hb1)
          have HTW := Lib.hid (twin_calm hd1 D1 (by decide) (by decide) hm1.calm)
          have HX1 := Lib.hid (And.intro hd1 (And.intro D1 (And.intro hl1 (And.intro hm1 (And.intro hN1 hf1)))))
          clear hd1 D1 hb1 hk1 hl1 hm1 hN1 hf1 HBG HBW
          go_wp2_with fail
          refine HTW.out.mono ?_
          rintro e w5 ⟨X, xa, hx, rfl, hX, hap, hb5⟩
          have HB5 := Lib.hid (HB4.out.trans (hb5.mono HX1.out.2.1.lo))
          have D5 := HX1.out.2.1.below hb5
          have HMI := Lib.hid HX1.out.2.2.2.1
          have HRP := Lib.hid (all_replay HX1.out.1 D5 (by decide) (by decide) HMI.out.calm HMI.out.on (Nat.le_trans HMI.out.most.1 (by decide)) (HK.out _ HB5.out) HMI.out.held)
          have HX5 := Lib.hid (And.intro D5 (And.intro (HX1.out.2.2.1.below hb5) (And.intro hX (And.intro hap hx))))
          have HOW : Hid (∀ b, Own L1 b → b < w5.heap.size) := Lib.hid fun b hb => D5.holds.own_lt hb
          have hHL : hs.length ≤ 168 := by have := HLEN.out; omega
          clear D5 hX hap hx hb5 HTW
          go_wp2_with fail
          refine HRP.out.mono ?_
          rintro e w6 ⟨v6, rfl, hown6, hb6⟩
          obtain ⟨a6, c6, rfl⟩ := hown6.slice
          have HB6 := Lib.hid (HB5.out.trans (hb6.mono HX5.out.1.lo))
          have HAD := Lib.hid (adds HX1.out.1 (HX5.out.1.below hb6) (by decide) (by decide) (HX5.out.2.1.below hb6) HX1.out.2.2.2.2.1 (HK.out _ HB6.out) HMI.out HX1.out.2.2.2.2.2 seq ao len cap ops (HSO.out.below HB6.out) HSQ.out)
          unfold Bn.batV at HAD
          have HX6 := Lib.hid (And.intro hown6 (And.intro (HX5.out.2.2.1.below hb6) HX5.out.2.2.2))
          obtain ⟨hl, hhl⟩ : ∃ hl, hl = hs.length := ⟨_, rfl⟩
          rw [← hhl] at HX6 hHL ⊢
          have HHL := Lib.hid hhl
          have hl168 : (hl : Int) ≤ 168 := by omega
          obtain ⟨q0, q1⟩ := HBX.out _ HB6.out
          clear hown6 hb6 HX5 HRP hhl hHL
          go_wp2_with fail
          refine HAD.out.mono ?_
          rintro e w7 ⟨E, L7, S7, rfl, hd7, D7, hb7, hk7, hc7, hon7, hcase⟩
          have HB7 := Lib.hid (HB6.out.trans hb7)
          have hhav7 := ownsB_kept HX6.out.1 hk7 HOW.out
          have hX7 := beside_kept HX6.out.2.1 HX6.out.2.2.1 hk7
          obtain ⟨q0, q1⟩ := HBX.out _ HB7.out
          have HX7 := Lib.hid (And.intro hd7 (And.intro D7 (And.intro hhav7 (And.intro hX7 HX6.out.2.2.2))))
          have HLL : Hid ((us ++ [(N, S.next)]).length ≤ 400) := Lib.hid (Nat.le_trans HMI.out.most.1 (by decide))
          rcases hcase with ⟨rfl, hT⟩ | ⟨hE, rfl, hw7, hT⟩
          · obtain ⟨T, hTT⟩ : ∃ T, T = hs ++ [(seq, ops)] := ⟨_, rfl⟩
            rw [← hTT] at hT
            have HTT := Lib.hid hTT
            have HTL : Hid (T.length = hl + 1) := by rw [hTT, List.length_append]; have := HHL.out; exact Lib.hid (by simp; omega)
            have HTF : Hid (∀ x ∈ T, x.2.length ≤ 1000000) := Lib.hid fun x hx => by
              rw [← hT] at hx
              have := Wl.holds_few hx
              omega
            have HRP7 := Lib.hid (all_replay hd7 D7 (by decide) (by decide) hc7 hon7 HLL.out (HK.out _ HB7.out) hT)
            have hlo7 := D7.lo
            clear hd7 D7 hb7 hk7 hc7 hon7 hT hhav7 hX7 HAD HX6 hTT q0 q1
            go_wp2_with fail
            refine HRP7.out.mono ?_
            rintro e w8 ⟨v8, rfl, hown8, hb8⟩
            obtain ⟨a8, c8, rfl⟩ := hown8.slice
            rw [HTL.out] at hown8 ⊢
            have HB8 := Lib.hid (HB7.out.trans (hb8.mono hlo7))
            have hdr : Below w8.heap.size w8 w8.drew := (Below.refl _ _).drew
            have HGV := Lib.hid (givenB_any w8.drew a6 hl c6 hs HHL.out.symm (by omega) (((HX7.out.2.2.1.below hb8).seesB).below hdr))
            have HGI := Lib.hid (fun W => Bn.given_any seq ao len cap W)
            have HGS := Lib.hid hown8.seesB
            have HS8 := Lib.hid (HBX.out _ HB8.out.drew)
            obtain ⟨q0, q1⟩ := HBX.out _ HB8.out
            have hcel : ∀ u ∈ ([.int .u64 (seq : Nat), .slice ao len cap] : List Value), u.oneCell' = true := by intro u hu; simp at hu; rcases hu with hu | hu <;> subst hu <;> rfl
            clear hown8 hb8 hdr HRP7
            go_wp2_with fail
            go_region_held3 (fun w' => w'.cell? ⟨w.heap.size, 0, none⟩ = some (.int .u64 (seq : Nat)) ∧ w'.cell? ⟨w.heap.size, 1, none⟩ = some (.slice ao len cap))
              (first | exact hZ | exact hSS | exact hSA | exact hSG | exact hSg | exact HS8.out | go_keep)
              (first
                | (go_at_call 30; refine HGV.out.mono ?_; rintro e wg ⟨vg, pg, rfl, hrg, hrawg, hbg⟩; rw [← HHL.out] at hrg; obtain ⟨ag, cg, rfl⟩ := row_shape hrg
                   have bg := Below.next (Below.refl w8.heap.size w8).drew hbg
                   have hSg := HBX.out _ (HB8.out.trans (bg.mono HB8.out.size)))
                | (go_at_call 35; refine (HGI.out _).mono ?_; rintro e wG ⟨rfl, hbG⟩
                   have bG := Below.next bg hbG
                   have hSG := HBX.out _ (HB8.out.trans (bG.mono HB8.out.size)))
                | (refine step_append_lies _ (by rfl) _ _ 49 (by rfl) w8.drew.heap.size 82 i0 _ 2 32 Tryz.underlying49 hi hz0 hz1 hz2 rfl (by decide) _ _ _ (by rfl) ((ownsRow_below hrg hbG).alloc _) ⟨wG.heap.size, 0, none⟩ 1 1 [_, _] (by rfl) (by rfl) (World.news_of_block (cs := #[_, _]) (fr := (0, 0)) (heap_alloc_new wG _)) hcel
                    (by decide) (by unfold maxLen; omega) (by omega) (by simp; have := bG.size; omega) (wG.heap.size + 1) (by simp) ?_
                   intro gA cA wA hownA hgA hatA hltA
                   have bA : Below w8.heap.size w8 wA := (bG.alloc bG.size _).grown hgA (by simp; have := bG.size; omega) (fun q hq => (hrg.lt q hq).1)
                   have hSA := HBX.out _ (HB8.out.trans (bA.mono HB8.out.size))
                   have hsA := (pushed_given hrg hrawg hbg hbG hownA hgA HTT.out HTL.out (HSO.out.below (HB8.out.trans (bA.mono HB8.out.size)))).1)
                | (go_at_call 22; refine (sameB_any wA a8 (some ⟨gA, 0, none⟩) (hl + 1) c8 cA T HTL.out (by omega) (HGS.out.below bA) hsA HTF.out).mono ?_; rintro e wS ⟨rfl, hbS⟩
                   have bS := Below.next bA hbS
                   have hSS := HBX.out _ (HB8.out.trans (bS.mono HB8.out.size)))
                | (go_at_call 17; refine (HAW.out _ (HB8.out.trans (bS.mono HB8.out.size))).mono ?_; rintro e wZ ⟨rfl, hbZ⟩
                   have bZ := Below.next bS hbZ
                   have hZ := HBX.out _ (HB8.out.trans (bZ.mono HB8.out.size))))
            have HZ := Lib.hid (HB8.out.trans (bZ.mono HB8.out.size))
            clear bZ bS bA bG bg
            go_wp2_with fail
            go_ret
            exact ⟨rfl, HB0.out.trans (HZ.out.mono HB0.out.size)⟩
          · have HRP7 := Lib.hid (all_replay hd7 D7 (by decide) (by decide) hc7 hon7 HLL.out (HK.out _ HB7.out) hT)
            have hE0 : ¬ E = 0 := hE
            have hlo7 := D7.lo
            have HTF : Hid (∀ x ∈ hs, x.2.length ≤ 1000000) := Lib.hid fun x hx => by
              rw [← hT] at hx
              have := Wl.holds_few hx
              omega
            have HCH := Lib.hid hw7
            clear hd7 D7 hb7 hk7 hc7 hon7 hT hhav7 hX7 HAD HX6 hE hw7 q0 q1
            go_wp2_with fail
            refine HRP7.out.mono ?_
            rintro e w8 ⟨v8, rfl, hown8, hb8⟩
            obtain ⟨a8, c8, rfl⟩ := hown8.slice
            rw [← HHL.out] at hown8 ⊢
            have HB8 := Lib.hid (HB7.out.trans (hb8.mono hlo7))
            have HSM8 := Lib.hid (same_disc HX7.out.1 HX7.out.2.2.2.2 (HX7.out.2.1.below hb8) (by decide) (by decide) (HX7.out.2.2.2.1.1.below hb8))
            have HHV := Lib.hid ((HX7.out.2.2.1.below hb8).seesB)
            have HGS := Lib.hid hown8.seesB
            clear hown8 hb8 HRP7
            go_wp2_with fail
            refine HSM8.out.mono ?_
            rintro e w9 ⟨rfl, hb9⟩
            have HB9 := Lib.hid (Below.next HB8.out hb9)
            have HHV9 := Lib.hid (HHV.out.below hb9)
            have HGS9 := Lib.hid (HGS.out.below hb9)
            obtain ⟨q0, q1⟩ := HBX.out _ HB9.out
            clear hb9 HHV HGS HSM8
            by_cases hE6 : E = 6
            · subst hE6
              have HGV := Lib.hid (givenB_any w9 a6 hl c6 hs HHL.out.symm (by omega) HHV9.out)
              go_wp2_with fail
              refine HGV.out.mono ?_
              rintro e wg ⟨vg, pg, rfl, hrg, hrawg, hbg⟩
              obtain ⟨ag, cg, rfl⟩ := row_shape hrg
              have hsg := (hrawg.below hbg).sees hrg
              rw [← HHL.out]
              have HSB := Lib.hid (sameB_any wg a8 ag hl c8 cg hs HHL.out.symm (by omega) (HGS9.out.below hbg) hsg HTF.out)
              have HBG := Lib.hid (Below.next HB9.out hbg)
              clear hrg hrawg hsg hbg HGV
              go_wp2_with fail
              refine HSB.out.mono ?_
              rintro e ws ⟨rfl, hbs⟩
              have HBS := Lib.hid (Below.next HBG.out hbs)
              clear hbs HSB HBG
              go_wp2_with fail
              refine (HAW.out _ HBS.out).mono ?_
              rintro e wz ⟨rfl, hbz⟩
              have HZ := Lib.hid (Below.next HBS.out hbz)
              clear hbz HBS
              go_wp2_with fail
              go_ret
              exact ⟨rfl, HB0.out.trans (HZ.out.mono HB0.out.size)⟩
            · have hEc : E = ((Bn.Bt.chk seq ops : Nat) : Int) := HCH.out.resolve_left hE6
              have HCK := Lib.hid (Bn.check_any seq ao len cap ops w9 (HSO.out.below HB9.out) HSQ.out)
              unfold Bn.batV at HCK
              rw [← hEc] at HCK
              clear hEc HCH
              go_wp2_with fail
              refine HCK.out.mono ?_
              rintro e wc ⟨rfl, hbc⟩
              have HBC := Lib.hid (Below.next HB9.out hbc)
              have HHVC := Lib.hid (HHV9.out.below hbc)
              have HGSC := Lib.hid (HGS9.out.below hbc)
              clear hbc HCK q0 q1
              have HGV := Lib.hid (givenB_any wc a6 hl c6 hs HHL.out.symm (by omega) HHVC.out)
              go_wp2_with fail
              refine HGV.out.mono ?_
              rintro e wg ⟨vg, pg, rfl, hrg, hrawg, hbg⟩
              obtain ⟨ag, cg, rfl⟩ := row_shape hrg
              have hsg := (hrawg.below hbg).sees hrg
              rw [← HHL.out]
              have HSB := Lib.hid (sameB_any wg a8 ag hl c8 cg hs HHL.out.symm (by omega) (HGSC.out.below hbg) hsg HTF.out)
              have HBG := Lib.hid (Below.next HBC.out hbg)
              clear hrg hrawg hsg hbg HGV
              go_wp2_with fail
              refine HSB.out.mono ?_
              rintro e ws ⟨rfl, hbs⟩
              have HBS := Lib.hid (Below.next HBG.out hbs)
              clear hbs HSB HBG
              go_wp2_with fail
              refine (HAW.out _ HBS.out).mono ?_
              rintro e wz ⟨rfl, hbz⟩
              have HZ := Lib.hid (Below.next HBS.out hbz)
              clear hbz HBS
              go_wp2_with fail
              go_ret
              exact ⟨rfl, HB0.out.trans (HZ.out.mono HB0.out.size)⟩

end Go.Proofs.YtfeconankopjmaaGreatDoor

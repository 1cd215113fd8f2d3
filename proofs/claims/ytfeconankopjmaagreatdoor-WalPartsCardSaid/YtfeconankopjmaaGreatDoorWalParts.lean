/- The walk of WalParts. -/
import Derived.Test.YtfeconankopjmaaGreatDoorPk34
namespace Go.Proofs.YtfeconankopjmaaGreatDoor
set_option linter.unusedVariables false
open Go.RowKit Go.Maps
open Dk (Dir Chg Disk File Str)

/-- Where the rounds stand. -/
def RoundsOn (w : World) (d k : Nat) (wr : World) : Prop := ∃ L S us hs, RLoop wr w.heap.size L d k S us hs ∧ Below w.heap.size w wr ∧ hs.length ≤ 21 * k

set_option maxHeartbeats 16000000 in
set_option maxRecDepth 100000 in
theorem parts_walk (room : Int) (a : Option Addr) (n c : Nat) (l : List Rd) (fr : Int) (w : World) (K : Knows w.heap.size w) (_ : -9223372036854775808 ≤ room ∧ room ≤ 9223372036854775807) (h : RoundsAt w a l) (hn : l.length = n) (hfr : 0 ≤ fr ∧ fr ≤ 18446744073709551615) :
    Calls Tryz.prog 6 #[.int .i64 room, .slice a n c, .int .u64 fr] w (Gives (.bool true) w) := by
  obtain ⟨F, rfl⟩ := Int.eq_ofNat_of_zero_le hfr.1
  obtain ⟨i0, hi, hz0, hz1, hz2⟩ := info_parts info_ref
  have HG := Lib.hid (greatRounds_any w a n c l hn h)
  have HK := Lib.hid (fun W (hb : Below w.heap.size w W) => K.next hb)
  have HAW := Lib.hid (fun W (hb : Below w.heap.size w W) => wawake_any W ((K.next hb).mono hb.size))
  have HR := Lib.hid h; have HN := Lib.hid hn
  clear K h hn hfr
  go_enter Tryz.func6, Tryz.ntmps6
  go_wp2_with fail
  refine HG.out.mono ?_
  rintro e w1 ⟨b, rfl, hok, hb1⟩
  have HB1 := Lib.hid hb1
  have HOK := Lib.hid hok
  clear hb1 hok HG
  cases b with
  | true =>
    go_wp2_with fail
    refine (HAW.out w1 HB1.out).mono ?_
    rintro e w2 ⟨rfl, hb2⟩
    have HB2 := Lib.hid (Below.next HB1.out hb2); clear hb2
    go_wp2_with fail
    go_ret
    exact ⟨rfl, HB2.out⟩
  | false =>
    have HSM := Lib.hid (HOK.out rfl)
    clear HOK
    have hn8 : (n : Int) ≤ 8 := by have := HSM.out.1; have := HN.out; omega
    go_wp2_with fail
    refine (new_any w1 room).mono ?_
    rintro e w3 ⟨L, rfl, hh, hb3, ho⟩
    have HS0 : Hid (RoundsOn w L.d 0 w3) := Lib.hid ⟨L, _, [], [], RLoop.start hh (fun b hb => Nat.le_trans HB1.out.size (ho b hb)) (Below.next HB1.out hb3).size, Below.next HB1.out hb3, Nat.zero_le _⟩
    generalize L.d = d at *
    clear hh hb3 ho
    go_wp2_with fail
    go_loopw [8] (fun z wr => ∃ k : Nat, k ≤ n ∧ z = .int .i64 (k : Int) ∧ Hid (RoundsOn w d k wr)) (fun z _ => n - (intOf z).toNat)
    case atStart => exact ⟨0, Nat.zero_le _, rfl, HS0⟩
    case round =>
      obtain ⟨k, hk, rfl, HK0⟩ := hrel
      obtain ⟨L0, S, us, hs, R, hbw, hlen⟩ := HK0.out
      have HLEN := Lib.hid hlen
      clear hlen
      clear HK0 HS0
      by_cases hlt : k < n
      · have hlt2 : (k : Int) < n := by omega
        have hk8 : k < 8 := by omega
        obtain ⟨x, hx⟩ : ∃ x, l[k]? = some x := ⟨_, List.getElem?_eq_getElem (by have := HN.out; omega)⟩
        obtain ⟨b, off, rfl, hb, hra⟩ := HR.out k x hx
        obtain ⟨ab, cb, an, cn, vk, vs, r0, r1, r2, r3, r4, r5, hab, hat, hch, hfu⟩ := hra
        have hxok := HSM.out.2 x (List.mem_of_getElem? hx)
        have hold : Older w w.heap.size vk vs x.crash := by
          have hg := hxok.2.2.1
          unfold greatC at hg
          simp only [Bool.or_eq_false_iff, decide_eq_false_iff_not] at hg
          exact hch.older (by omega) (by omega)
        have HGO := Lib.hid (R.goes hk8 (HK.out _ hbw) hxok (cb := cb) (cn := cn) (hab.below hbw) (hat.below hbw) hfu vk vs)
        have HCR := Lib.hid (fun (W : World) (L' : Lay) (S' : Disk) (N M : Nat) (hd : L'.d = d) (D : Disc W w.heap.size L' S' N M) (hN : N ≤ 4000) (hM : M ≤ 100000000) (hb : Below w.heap.size w W) => crash_disc hd D hN hM (hold.below hb))
        have HC := Lib.hid (fun (W : World) (hW : Below w.heap.size w W) => And.intro ((hW.cell (p := ⟨b, off + k * 6 + 3, none⟩) hb).trans r3) (And.intro ((hW.cell (p := ⟨b, off + k * 6 + 4, none⟩) hb).trans r4) ((hW.cell (p := ⟨b, off + k * 6 + 5, none⟩) hb).trans r5)))
        have c0 := (hbw.cell (p := ⟨b, off + k * 6, none⟩) hb).trans r0
        have c1 := (hbw.cell (p := ⟨b, off + k * 6 + 1, none⟩) hb).trans r1
        have c2 := (hbw.cell (p := ⟨b, off + k * 6 + 2, none⟩) hb).trans r2
        obtain ⟨c3, c4, c5⟩ := HC.out _ hbw
        unfold roundV at HGO
        generalize x.crash.names = nms at *
        generalize x.fuse = fz at *
        obtain ⟨nb, hnb⟩ : ∃ nb, nb = x.batches.length := ⟨_, rfl⟩
        obtain ⟨nn, hnn⟩ : ∃ nn, nn = x.news.length := ⟨_, rfl⟩
        rw [← hnb] at c0 HGO
        rw [← hnn] at c1 HGO
        generalize x.crash = cr at *
        have HBW := Lib.hid hbw
        clear hx r0 r1 r2 r3 r4 r5 hab hat hch hfu hxok hold hnb hnn hbw R hb
        go_wp2_with fail
        refine HGO.out.mono ?_
        rintro e w4 ⟨v1, v2, L3, S3, ts, U, rfl, hd3, D3, hb3, hk3, hfin, hts, hU, ho1, ho2, hf1, hf2⟩
        have HB3 := Lib.hid (HBW.out.trans hb3)
        have HFIN := Lib.hid hfin
        have HTS := Lib.hid (And.intro hts hU)
        have HCR3 := Lib.hid (HCR.out w4 L3 S3 _ _ hd3 D3 (by omega) (by omega) HB3.out)
        obtain ⟨c3, c4, c5⟩ := HC.out _ HB3.out
        clear HGO HCR hb3 hk3 hfin hts hU ho1 ho2 hf1 hf2 hd3 D3 HBW
        go_wp2_with fail
        refine HCR3.out.mono ?_
        rintro e w5 ⟨rfl, L4, hd4, D4, hb4, hk4⟩
        have HB4 := Lib.hid (HB3.out.trans hb4)
        have HST := Lib.hid (start_disc hd4 D4)
        clear hd4 D4 hb4 hk4 HCR3 c0 c1 c2 c3 c4 c5
        go_wp2_with fail
        refine HST.out.mono ?_
        rintro e w6 ⟨rfl, L5, hd5, D5, hb5, hk5⟩
        have HB5 := Lib.hid (HB4.out.trans hb5)
        have HLI := Lib.hid (light_disc hd5 D5 0 (by decide))
        clear hd5 D5 hb5 hk5 HST
        go_wp2_with fail
        refine HLI.out.mono ?_
        rintro e w7 ⟨rfl, L6, hd6, D6, hb6, hk6⟩
        obtain ⟨us', hs', R6, hhs⟩ := RLoop.next (c := cr) HFIN.out hd6 D6
        have HZ : Hid (RoundsOn w d (k + 1) w7) := Lib.hid ⟨L6, _, us', hs', R6, HB5.out.trans hb6, by
          have h1 := HLEN.out
          have h2 := HTS.out.1
          have h3 := HTS.out.2
          rcases hhs with e | ⟨b, e1, e2⟩
          · rw [e, List.length_append]; omega
          · rw [e2, List.length_append, List.length_append]; simp only [List.length_cons, List.length_nil]; omega⟩
        clear hd6 D6 hb6 hk6 HLI HFIN hhs R6
        go_wp2_with fail
        go_roundw
        case rel => exact ⟨k + 1, by omega, by go_num, HZ⟩
        case measure => simp [intOf]; omega
      · have hlt2 : ¬ (k : Int) < n := by omega
        have hk8 : k ≤ 8 := by omega
        have HBW := Lib.hid hbw
        have HRL := Lib.hid R
        have HTW := Lib.hid (twin_calm R.hd R.disc (by omega) (by omega) R.calm)
        have HUL : Hid (us.length ≤ 400) := Lib.hid (by have := R.most.1; omega)
        clear R hbw
        go_wp2_with fail
        refine HTW.out.mono ?_
        rintro e w4 ⟨X, xa, hx, rfl, hX, hap, hb4⟩
        have HB4 := Lib.hid (Below.next HBW.out hb4)
        have HX4 := Lib.hid (And.intro hX (And.intro hap hx))
        have hlo := HRL.out.disc.lo
        have D4 := HRL.out.disc.below hb4
        have HRP := Lib.hid (all_replay HRL.out.hd D4 (by omega) (by omega) HRL.out.calm HRL.out.on HUL.out (HK.out _ HB4.out) HRL.out.held)
        have HD4 := Lib.hid D4
        have hhl168 : hs.length ≤ 168 := by have := HLEN.out; omega
        have HOW : Hid (∀ b, Own L0 b → b < w4.heap.size) := Lib.hid fun b hb => D4.holds.own_lt hb
        clear hX hap hx hb4 HTW D4
        go_wp2_with fail
        have hf : (F : Int) % 12 = ((F % 12 : Nat) : Int) := by omega
        rw [hf]
        generalize F % 12 = f at *
        clear hf
        refine HRP.out.mono ?_
        rintro e w5 ⟨v5, rfl, hown5, hb5⟩
        obtain ⟨a5, c5, rfl⟩ := hown5.slice
        have HB5 := Lib.hid (HB4.out.trans (hb5.mono HD4.out.lo))
        obtain ⟨pre, hpre⟩ := Wl.holds_filter S.file f us HRL.out.calm.rise
        rw [HRL.out.held] at hpre
        have HRP2 := Lib.hid (calm_replay HRL.out.hd (HD4.out.below hb5) (by omega) (by omega) HRL.out.calm HRL.out.on HUL.out (HK.out _ HB5.out) f)
        obtain ⟨ps, hps⟩ : ∃ ps, ps = Wl.holds S.file (us.filter fun p => decide (f ≤ p.1)) := ⟨_, rfl⟩
        rw [← hps] at HRP2 hpre
        have HPS := Lib.hid hps
        obtain ⟨gl, hgl⟩ : ∃ gl, gl = hs.length := ⟨_, rfl⟩
        rw [← hgl] at hown5 hhl168 ⊢
        have HGL := Lib.hid hgl
        have HX5 := Lib.hid (And.intro hown5 (And.intro (HX4.out.1.below hb5) HX4.out.2))
        have HD5 := Lib.hid (HD4.out.below hb5)
        clear hown5 hb5 hps hgl HRP
        go_wp2_with fail
        refine HRP2.out.mono ?_
        rintro e w6 ⟨v6, rfl, hown6, hb6⟩
        obtain ⟨a6, c6, rfl⟩ := hown6.slice
        have HB6 := Lib.hid (HB5.out.trans (hb6.mono HD5.out.lo))
        obtain ⟨pl, hpl⟩ : ∃ pl, pl = ps.length := ⟨_, rfl⟩
        rw [← hpl] at hown6 ⊢
        have HPL := Lib.hid hpl
        obtain ⟨q, hq⟩ : ∃ q, q = pre.length := ⟨_, rfl⟩
        have hqp : gl = q + pl := by rw [HGL.out, hpre, List.length_append, ← hq, ← hpl]
        have hdr : hs.drop q = ps := by rw [hpre, hq, List.drop_left]
        have HDR := Lib.hid (And.intro hdr hqp)
        have hple : (pl : Int) ≤ gl := by omega
        have HX6 := Lib.hid (And.intro (HX5.out.1.below hb6) (And.intro hown6 (And.intro (HX5.out.2.1.below hb6) HX5.out.2.2)))
        have HD6 := Lib.hid (HD5.out.below hb6)
        have HPF : Hid (∀ x ∈ ps, x.2.length ≤ 1000000) := Lib.hid fun x hx => by
          rw [HPS.out] at hx
          have := Wl.holds_few hx
          omega
        have hcp : gl ≤ c5 := by
          obtain ⟨qs, hr, _⟩ := HX6.out.1
          rw [← HGL.out] at hr
          exact row_cap hr
        obtain ⟨a7, hsl, hs7⟩ := slice_back HX6.out.1.seesB HGL.out.symm hcp q (by omega)
        rw [show ((q : Nat) : Int) = (gl : Int) - (pl : Int) by omega, show gl - q = pl by omega] at hsl
        rw [hdr] at hs7
        generalize c5 - q = c7 at *
        have HS7 := Lib.hid hs7
        have HOW5 : Hid (∀ b, Own L0 b → b < w5.heap.size) := Lib.hid fun b hb => HD5.out.holds.own_lt hb
        have hpl168 : (pl : Int) ≤ 168 := by omega
        clear hown6 hb6 hpl hq hqp hdr hpre HRP2 hs7 hcp HOW
        have HGV := Lib.hid (givenB_any w6 a7 pl c7 ps HPL.out.symm (by omega) HS7.out)
        go_wp2_with fail
        refine HGV.out.mono ?_
        rintro e wg ⟨vg, pg, rfl, hrg, hrawg, hbg⟩
        obtain ⟨ag, cg, rfl⟩ := row_shape hrg
        have hsg := (hrawg.below hbg).sees hrg
        rw [← HPL.out]
        have HSB := Lib.hid (sameB_any wg a6 ag pl c6 cg ps HPL.out.symm (by omega) (HX6.out.2.1.seesB.below hbg) hsg HPF.out)
        have HX7 := Lib.hid (And.intro (HX6.out.2.1.below hbg) (And.intro (HX6.out.2.2.1.below hbg) HX6.out.2.2.2))
        have HD7 := Lib.hid (HD6.out.below hbg)
        have HB7 := Lib.hid (Below.next HB6.out hbg)
        clear hrg hrawg hsg hbg HGV hsl HS7 HX6 HX5 HX4 HD6 HD5
        go_wp2_with fail
        refine HSB.out.mono ?_
        rintro e w8 ⟨rfl, hb8⟩
        have HX8 := Lib.hid (And.intro (HX7.out.1.below hb8) (And.intro (HX7.out.2.1.below hb8) HX7.out.2.2))
        have HD8 := Lib.hid (HD7.out.below hb8)
        have HB8 := Lib.hid (Below.next HB7.out hb8)
        have HSM8 := Lib.hid (same_disc HRL.out.hd HX8.out.2.2.2 HD8.out (by omega) (by omega) HX8.out.2.1)
        clear hb8 HSB HX7 HD7
        go_wp2_with fail
        refine HSM8.out.mono ?_
        rintro e w9 ⟨rfl, hb9⟩
        have HX9 := Lib.hid (HX8.out.1.below hb9)
        have HB9 := Lib.hid (Below.next HB8.out hb9)
        have HRT := Lib.hid (retires HRL.out.hd (HD8.out.below hb9) (by omega) (by omega) (HK.out _ HB9.out) HRL.out.calm HRL.out.on HRL.out.lit HUL.out f)
        have HQ := Lib.hid (HRL.out.calm.kept_few f)
        have HQL : Hid ((us.filter fun p => decide (f ≤ p.1)).length ≤ 400) := Lib.hid (Nat.le_trans (List.length_filter_le ..) HUL.out)
        have HQF : Hid (∀ p ∈ us.filter fun p => decide (f ≤ p.1), f ≤ p.1) := Lib.hid fun p hp => by simpa using (List.mem_filter.1 hp).2
        generalize (us.filter fun p => decide (f ≤ p.1)) = vs at *
        clear hb9 HSM8 HX8 HD8
        go_wp2_with fail
        refine HRT.out.mono ?_
        rintro e w10 ⟨L10, T, rfl, hd10, D10, hb10, hk10, hrest⟩
        have HX10 := Lib.hid (ownsB_kept HX9.out hk10 HOW5.out)
        have HB10 := Lib.hid (HB9.out.trans hb10)
        have HRE := Lib.hid (And.intro hd10 (And.intro D10 hrest))
        have HRP3 := Lib.hid (rest_replay hd10 D10 (by omega) (by omega) (HK.out _ HB10.out) hrest HQ.out.1 HQ.out.2 HQL.out)
        rw [← HPS.out] at HRP3
        clear hd10 D10 hb10 hk10 hrest HRT HX9 HB9 HOW5
        go_wp2_with fail
        refine HRP3.out.mono ?_
        rintro e w11 ⟨v11, rfl, hown11, hb11⟩
        obtain ⟨a11, c11, rfl⟩ := hown11.slice
        rw [← HPL.out] at hown11 ⊢
        have HX11 := Lib.hid (And.intro (HX10.out.below hb11).seesB hown11.seesB)
        have HB11 := Lib.hid (HB10.out.trans (hb11.mono HRE.out.2.1.lo))
        have HLG := Lib.hid (rest_logs HRE.out.1 (HRE.out.2.1.below hb11) (by omega) (by omega) (HK.out _ HB11.out) HRE.out.2.2 HQ.out.1 HQ.out.2 HQL.out)
        clear hown11 hb11 HRP3 HX10 HRE
        go_wp2_with fail
        refine HLG.out.mono ?_
        rintro e w12 ⟨v12, rfl, hrow12, hb12⟩
        have HX12 := Lib.hid (And.intro (HX11.out.1.below hb12) (HX11.out.2.below hb12))
        have HB12 := Lib.hid (Below.next HB11.out hb12)
        clear hb12 HX11 HLG
        obtain ⟨nl, hnl⟩ : ∃ nl, nl = (vs.map (·.1)).length := ⟨_, rfl⟩
        rw [← hnl] at hrow12
        obtain ⟨a12, c12, rfl⟩ := row_shape hrow12
        cases vs with
        | nil =>
          obtain rfl : nl = 0 := hnl
          clear hrow12
          have HGV2 := Lib.hid (givenB_any w12 a6 pl c6 ps HPL.out.symm (by omega) HX12.out.1)
          go_wp2_with fail
          refine HGV2.out.mono ?_
          rintro e wg ⟨vg, pg, rfl, hrg, hrawg, hbg⟩
          obtain ⟨ag, cg, rfl⟩ := row_shape hrg
          have hsg := (hrawg.below hbg).sees hrg
          rw [← HPL.out]
          have HSB2 := Lib.hid (sameB_any wg a11 ag pl c11 cg ps HPL.out.symm (by omega) (HX12.out.2.below hbg) hsg HPF.out)
          have HBG := Lib.hid hbg
          clear hrg hrawg hsg hbg HGV2
          go_wp2_with fail
          refine HSB2.out.mono ?_
          rintro e ws ⟨rfl, hbs⟩
          have HBS := Lib.hid (Below.next HBG.out hbs)
          clear hbs HSB2 HBG
          go_wp2_with fail
          refine (HAW.out _ (HB12.out.trans (HBS.out.mono HB12.out.size))).mono ?_
          rintro e wz ⟨rfl, hbz⟩
          have HZ := Lib.hid (HB12.out.trans ((Below.next HBS.out hbz).mono HB12.out.size))
          clear hbz HBS
          go_wp2_with fail
          go_ret
          exact ⟨rfl, HZ.out⟩
        | cons p vs =>
          have hx0 : (numCells ((p :: vs).map (·.1)))[0]? = some (.int .u64 (p.1 : Nat)) := rfl
          have hnl1 : 1 ≤ nl := by rw [hnl]; simp
          obtain ⟨g0, rfl, c0⟩ := row_at hrow12 hx0 (by omega)
          have hpf : (f : Int) ≤ (p.1 : Nat) := by have := HQF.out p (List.mem_cons_self ..); omega
          have hn400 : (nl : Int) ≤ 400 := by rw [hnl, List.length_map]; have := HQL.out; omega
          have HC0 := Lib.hid (fun W (hb : Below w12.heap.size w12 W) => (hb.cell (p := ⟨g0, 0, none⟩) (World.block_lt_of_cell? _ _ c0)).trans c0)
          clear hrow12 hx0 hnl c0
          generalize p.1 = p0 at *
          have HGV2 := Lib.hid (givenB_any w12 a6 pl c6 ps HPL.out.symm (by omega) HX12.out.1)
          go_wp2_with fail
          refine HGV2.out.mono ?_
          rintro e wg ⟨vg, pg, rfl, hrg, hrawg, hbg⟩
          obtain ⟨ag, cg, rfl⟩ := row_shape hrg
          have hsg := (hrawg.below hbg).sees hrg
          rw [← HPL.out]
          have HSB2 := Lib.hid (sameB_any wg a11 ag pl c11 cg ps HPL.out.symm (by omega) (HX12.out.2.below hbg) hsg HPF.out)
          have HBG := Lib.hid hbg
          clear hrg hrawg hsg hbg HGV2
          go_wp2_with fail
          refine HSB2.out.mono ?_
          rintro e ws ⟨rfl, hbs⟩
          have HBS := Lib.hid (Below.next HBG.out hbs)
          clear hbs HSB2 HBG
          have c0 := HC0.out _ HBS.out
          go_wp2_with fail
          refine (HAW.out _ (HB12.out.trans (HBS.out.mono HB12.out.size))).mono ?_
          rintro e wz ⟨rfl, hbz⟩
          have HZ := Lib.hid (HB12.out.trans ((Below.next HBS.out hbz).mono HB12.out.size))
          clear hbz HBS
          go_wp2_with fail
          go_ret
          exact ⟨rfl, HZ.out⟩

end Go.Proofs.YtfeconankopjmaaGreatDoor

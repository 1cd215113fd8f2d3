/- The walk of WalLasts. -/
import Derived.Test.YtfeconankopjmaaGreatDoorPk34
namespace Go.Proofs.YtfeconankopjmaaGreatDoor
set_option linter.unusedVariables false
open Go.RowKit Go.Maps
open Dk (Dir Chg Disk File Str)

/-- Where WalLasts stands ahead of a round. -/
def LastsAt (w : World) (d k : Nat) (wr : World) (v : Value) (hs : List Wl.Bat) : Prop :=
  ∃ L S us, RLoop wr w.heap.size L d k S us hs ∧ Below w.heap.size w wr ∧ OwnsA w.heap.size w.heap.size wr v hs ∧ Off L v ∧ hs.length ≤ 21 * k

set_option maxHeartbeats 16000000 in
set_option maxRecDepth 100000 in
theorem lasts_walk (room : Int) (a : Option Addr) (n c : Nat) (l : List Rd) (w : World) (K : Knows w.heap.size w) (_ : -9223372036854775808 ≤ room ∧ room ≤ 9223372036854775807) (h : RoundsAt w a l) (hn : l.length = n) :
    Calls Tryz.prog 5 #[.int .i64 room, .slice a n c] w (Gives (.bool true) w) := by
  obtain ⟨i0, hi, hz0, hz1, hz2⟩ := info_parts info_bat
  have HG := Lib.hid (greatRounds_any w a n c l hn h)
  have HK := Lib.hid (fun W (hb : Below w.heap.size w W) => K.next hb)
  have HAW := Lib.hid (fun W (hb : Below w.heap.size w W) => wawake_any W (fun V hV => (K.next hb) V (hV.mono hb.size)))
  have HR := Lib.hid h; have HN := Lib.hid hn
  clear K h hn
  go_enter Tryz.func5, Tryz.ntmps5
  go_wp2_with fail
  refine HG.out.mono ?_
  rintro e w1 ⟨b, rfl, hok, hb1⟩
  have HB1 := Lib.hid hb1
  have HOK := Lib.hid hok
  clear hb1 hok HG
  cases b with
  | true =>
    go_wp2_with fail
    refine (HAW.out w1 HB1.out).mono ?_
    rintro e w2 ⟨rfl, hb2⟩
    have HB2 := Lib.hid (Below.next HB1.out hb2); clear hb2
    go_wp2_with fail
    go_ret
    exact ⟨rfl, HB2.out⟩
  | false =>
    have HSM := Lib.hid (HOK.out rfl)
    clear HOK
    have hn8 : (n : Int) ≤ 8 := by have := HSM.out.1; have := HN.out; omega
    go_wp2_with fail
    refine (new_any w1 room).mono ?_
    rintro e w2 ⟨L, rfl, hh, hb2, ho⟩
    have HS0 : Hid (LastsAt w L.d 0 w2 (.slice none 0 0) []) := Lib.hid ⟨L, _, [], RLoop.start hh (fun b hb => Nat.le_trans HB1.out.size (ho b hb)) (Below.next HB1.out hb2).size, Below.next HB1.out hb2, OwnsA.nil _ _ _, off_nil _, Nat.zero_le _⟩
    generalize L.d = d at *
    clear hh hb2 ho
    go_wp2_with fail
    go_loopw [6, 7] (fun v z wr => ∃ k : Nat, k ≤ n ∧ z = .int .i64 (k : Int) ∧ Hid (∃ hs, LastsAt w d k wr v hs)) (fun _ z _ => n - (intOf z).toNat)
    case atStart => exact ⟨0, Nat.zero_le _, rfl, Lib.hid ⟨[], HS0.out⟩⟩
    case round =>
      obtain ⟨k, hk, rfl, HK0⟩ := hrel
      obtain ⟨hs, L0, S, us, R, hbw, hrow, hoff, hlen⟩ := HK0.out
      clear HK0 HS0
      by_cases hlt : k < n
      · have hlt2 : (k : Int) < n := by omega
        have hk8 : k < 8 := by omega
        obtain ⟨x, hx⟩ : ∃ x, l[k]? = some x := ⟨_, List.getElem?_eq_getElem (by have := HN.out; omega)⟩
        obtain ⟨b, off, rfl, hb, hra⟩ := HR.out k x hx
        obtain ⟨ab, cb, an, cn, vk, vs, r0, r1, r2, r3, r4, r5, hab, hat, hch, hfu⟩ := hra
        have hxok := HSM.out.2 x (List.mem_of_getElem? hx)
        have hold : Older w w.heap.size vk vs x.crash := by
          have hg := hxok.2.2.1
          unfold greatC at hg
          simp only [Bool.or_eq_false_iff, decide_eq_false_iff_not] at hg
          exact hch.older (by omega) (by omega)
        have HGO := Lib.hid (R.goes hk8 (HK.out _ hbw) hxok (cb := cb) (cn := cn) (hab.below hbw) (hat.below hbw) hfu vk vs)
        have HCR := Lib.hid (fun (W : World) (L' : Lay) (S' : Disk) (N M : Nat) (hd : L'.d = d) (D : Disc W w.heap.size L' S' N M) (hN : N ≤ 4000) (hM : M ≤ 100000000) (hb : Below w.heap.size w W) => crash_disc hd D hN hM (hold.below hb))
        have HC := Lib.hid (fun (W : World) (hW : Below w.heap.size w W) => And.intro ((hW.cell (p := ⟨b, off + k * 6 + 3, none⟩) hb).trans r3) (And.intro ((hW.cell (p := ⟨b, off + k * 6 + 4, none⟩) hb).trans r4) ((hW.cell (p := ⟨b, off + k * 6 + 5, none⟩) hb).trans r5)))
        have c0 := (hbw.cell (p := ⟨b, off + k * 6, none⟩) hb).trans r0
        have c1 := (hbw.cell (p := ⟨b, off + k * 6 + 1, none⟩) hb).trans r1
        have c2 := (hbw.cell (p := ⟨b, off + k * 6 + 2, none⟩) hb).trans r2
        obtain ⟨c3, c4, c5⟩ := HC.out _ hbw
        unfold roundV at HGO
        generalize x.crash.names = nms at *
        generalize x.fuse = fz at *
        obtain ⟨nb, hnb⟩ : ∃ nb, nb = x.batches.length := ⟨_, rfl⟩
        obtain ⟨nn, hnn⟩ : ∃ nn, nn = x.news.length := ⟨_, rfl⟩
        rw [← hnb] at c0 HGO
        rw [← hnn] at c1 HGO
        generalize x.crash = cr at *
        obtain ⟨av, cv, rfl⟩ := hrow.slice
        obtain ⟨hl, hhl⟩ : ∃ hl, hl = hs.length := ⟨_, rfl⟩
        rw [← hhl] at hrow hoff ⊢
        have HHL := Lib.hid hhl
        have HROW := Lib.hid (And.intro hrow hoff)
        have HBW := Lib.hid hbw
        have HLEN := Lib.hid hlen
        have hl168 : (hl : Int) ≤ 168 := by omega
        clear hx r0 r1 r2 r3 r4 r5 hab hat hch hfu hxok hold hnb hnn hhl hrow hoff hbw hlen R hb
        go_wp2_with fail
        refine HGO.out.mono ?_
        rintro e w3 ⟨v1, v2, L3, S3, ts, U, rfl, hd3, D3, hb3, hk3, hfin, hts, hU, ho1, ho2, hf1, hf2⟩
        obtain ⟨b1, d1, rfl⟩ := ho1.slice
        obtain ⟨b2, d2, rfl⟩ := ho2.slice
        have HAP : Hid (Apart (.slice av hl cv) (.slice b2 U.length d2)) := Lib.hid (apart_lo HROW.out.1 (Nat.le_refl _) ho2)
        have hrow3 := HROW.out.1.kept hk3 hb3 HROW.out.2
        have HB3 := Lib.hid (HBW.out.trans hb3)
        have HFIN := Lib.hid hfin
        have HCR3 := Lib.hid (HCR.out w3 L3 S3 _ _ hd3 D3 (by omega) (by omega) HB3.out)
        obtain ⟨c3, c4, c5⟩ := HC.out _ HB3.out
        have HX3 := Lib.hid (And.intro hrow3.1 (And.intro hrow3.2 (And.intro ho1 (And.intro hf1 (And.intro ho2 hf2)))))
        obtain ⟨tl, htl⟩ : ∃ tl, tl = ts.length := ⟨_, rfl⟩
        obtain ⟨ul, hul⟩ : ∃ ul, ul = U.length := ⟨_, rfl⟩
        rw [← htl] at HX3 ⊢
        rw [← hul] at HX3 HAP ⊢
        have HTL := Lib.hid (And.intro htl hul)
        have htl20 : (tl : Int) ≤ 20 := by omega
        have hul1 : (ul : Int) ≤ 1 := by omega
        clear HGO HCR hrow3 hb3 hk3 hfin hts hU ho1 ho2 hf1 hf2 htl hul hd3 D3 HROW HBW
        go_wp2_with fail
        refine HCR3.out.mono ?_
        rintro e w4 ⟨rfl, L4, hd4, D4, hb4, hk4⟩
        have HX4 := Lib.hid (And.intro (HX3.out.1.kept hk4 hb4 HX3.out.2.1) (And.intro (HX3.out.2.2.1.kept hk4 hb4 HX3.out.2.2.2.1) (HX3.out.2.2.2.2.1.kept hk4 hb4 HX3.out.2.2.2.2.2)))
        have HB4 := Lib.hid (HB3.out.trans hb4)
        have HST := Lib.hid (start_disc hd4 D4)
        clear hd4 D4 hb4 hk4 HCR3 HX3 c0 c1 c2 c3 c4 c5
        go_wp2_with fail
        refine HST.out.mono ?_
        rintro e w5 ⟨rfl, L5, hd5, D5, hb5, hk5⟩
        have HX5 := Lib.hid (And.intro (HX4.out.1.1.kept hk5 hb5 HX4.out.1.2) (And.intro (HX4.out.2.1.1.kept hk5 hb5 HX4.out.2.1.2) (HX4.out.2.2.1.kept hk5 hb5 HX4.out.2.2.2)))
        have HB5 := Lib.hid (HB4.out.trans hb5)
        have HLI := Lib.hid (light_disc hd5 D5 0 (by decide))
        clear hd5 D5 hb5 hk5 HST HX4
        go_wp2_with fail
        refine HLI.out.mono ?_
        rintro e w6 ⟨rfl, L6, hd6, D6, hb6, hk6⟩
        have HX6 := Lib.hid (And.intro (HX5.out.1.1.kept hk6 hb6 HX5.out.1.2) (And.intro (HX5.out.2.1.1.kept hk6 hb6 HX5.out.2.1.2) (HX5.out.2.2.1.kept hk6 hb6 HX5.out.2.2.2)))
        have HB6 := Lib.hid (HB5.out.trans hb6)
        obtain ⟨us', hs', R6, hhs⟩ := RLoop.next (c := cr) HFIN.out hd6 D6
        have HHS := Lib.hid hhs
        have HFEW : Hid (∀ x ∈ hs', x.2.length ≤ 1000000) := Lib.hid fun x hx => by
          rw [← R6.held] at hx
          have := Wl.holds_few hx
          omega
        have HR6 := Lib.hid R6
        generalize Wl.back S3 cr = Sb at *
        obtain ⟨⟨ps, hr6, ha6⟩, hoff6⟩ := HX6.out.1
        obtain ⟨⟨qs, hq6, hqa6⟩, hqoff6⟩ := HX6.out.2.1
        have hq6' := hq6
        rw [← HTL.out.1] at hq6'
        have hr6' := hr6
        rw [← HHL.out] at hr6'
        have HROW6 := Lib.hid (And.intro hr6 (And.intro ha6 (And.intro hoff6 (And.intro hqa6 HX6.out.2.2))))
        have hone := hqa6.one
        have hbase6 := R6.disc.lo
        clear hd6 D6 hb6 hk6 HLI HX5 HX6 HFIN hhs R6 hr6 ha6 hoff6 hq6 hqa6 hqoff6
        go_wp2_with (at_builtin; go_must (refine wpList_append_rowat rfl _ _ 36 rfl w.heap.size _ 32 i0 _ 2 32 Tryz.underlying36 hi hz0 hz1 hz2 rfl (by decide) _ _ _ rfl hr6' _ _ _ rfl hq6' hone ?c3 ?c4 hbase6 ?_))
        case c3 => unfold maxLen; omega
        case c4 => omega
        intro v7 w7 hown7 hg7 hv7
        rw [HHL.out, HTL.out.1] at hown7
        obtain ⟨j1, j2, j3, j4, j5⟩ := row_joined HR6.out HROW6.out.1 HROW6.out.2.1 HROW6.out.2.2.1 HROW6.out.2.2.2.1 hown7 hg7 hv7
        have hu7 := row_aside HROW6.out.2.2.2.2.1 hg7 j4 HAP.out
        have hap7 := HAP.out.grown HROW6.out.2.2.2.2.1 hv7
        obtain ⟨a7, e7, rfl⟩ := j1.slice
        have HROW7 := Lib.hid (And.intro j1 (And.intro j2 (And.intro hu7 (And.intro hap7 j5))))
        have HB7 := Lib.hid (HB6.out.trans j4)
        have HR7 := Lib.hid j3
        have HRP := Lib.hid (j3.replay (by omega) (HK.out _ HB7.out))
        have hjl : (hs ++ ts).length = hl + tl := by rw [List.length_append, ← HHL.out, ← HTL.out.1]
        rw [hjl] at HROW7 ⊢
        have HJL := Lib.hid hjl
        clear j1 j2 j3 j4 j5 hu7 hap7 hown7 hg7 hv7 hq6' hr6' hone hbase6 hjl HROW6 HR6 HAP
        go_wp2_with fail
        refine HRP.out.mono ?_
        rintro e w8 ⟨vgot, rfl, hgot, hb8⟩
        obtain ⟨a8, e8, rfl⟩ := hgot.slice
        obtain ⟨gl, hgl⟩ : ∃ gl, gl = hs'.length := ⟨_, rfl⟩
        rw [← hgl] at hgot ⊢
        have HGL := Lib.hid hgl
        have HB8 := Lib.hid (HB7.out.trans (hb8.mono HR7.out.disc.lo))
        have HR8 := Lib.hid (HR7.out.below hb8)
        have hsz7 := HR7.out.disc.lo
        have HROW8 := Lib.hid (And.intro (HROW7.out.1.below hb8 hsz7) (And.intro HROW7.out.2.1 (And.intro (HROW7.out.2.2.1.below hb8 hsz7) (And.intro HROW7.out.2.2.2.1 HROW7.out.2.2.2.2))))
        have HGOT := Lib.hid hgot
        have hgl3 : (gl : Int) ≤ (hl : Int) + (tl : Int) + (ul : Int) := by
          have h1 := HJL.out
          have h2 := HTL.out.2
          rcases HHS.out with e | ⟨b, e1, e2⟩
          · rw [e] at hgl; omega
          · rw [e2, List.length_append] at hgl; rw [e1] at h2; simp only [List.length_cons, List.length_nil] at hgl h2; omega
        have HLE : Hid (hs'.length ≤ 21 * (k + 1)) := Lib.hid (by have := HLEN.out; have := HHL.out; omega)
        have HHS2 : Hid (((gl : Int) = ((hl + tl : Nat) : Int) + (ul : Int) → hs' = (hs ++ ts) ++ U) ∧ (¬ (gl : Int) = ((hl + tl : Nat) : Int) + (ul : Int) → hs' = hs ++ ts)) := Lib.hid (by
          have h1 := HJL.out
          have h2 := HTL.out.2
          rcases HHS.out with e | ⟨b, e1, e2⟩
          · refine ⟨fun h => ?_, fun _ => e⟩
            rw [e] at hgl
            have : U = [] := List.eq_nil_of_length_eq_zero (by omega)
            rw [this, List.append_nil, e]
          · refine ⟨fun _ => by rw [e1, e2], fun h => ?_⟩
            exfalso
            rw [e2, List.length_append] at hgl
            rw [e1] at h2
            simp only [List.length_cons, List.length_nil] at hgl h2
            omega)
        obtain ⟨jl, hjl⟩ : ∃ jl, jl = hl + tl := ⟨_, rfl⟩
        rw [← hjl] at HHS2 HROW8 HJL ⊢
        have hjl2 : (jl : Int) = (hl : Int) + (tl : Int) := by omega
        have hjl190 : (jl : Int) ≤ 188 := by omega
        have hgl190 : (gl : Int) ≤ 189 := by omega
        clear hgot hb8 hgl HHS hjl hjl2 hgl3 HRP HROW7 HB7 HB6 HB5 HB4 HB3 HR7
        by_cases heq : (gl : Int) = (jl : Int) + (ul : Int)
        · have HEQ := Lib.hid (HHS2.out.1 heq)
          obtain ⟨⟨ps2, hr8, ha8⟩, hoff8⟩ := And.intro HROW8.out.1 HROW8.out.2.1
          obtain ⟨qs2, hq8, hqa8⟩ := HROW8.out.2.2.1
          have hr8' := hr8
          rw [HJL.out] at hr8'
          have hq8' := hq8
          rw [← HTL.out.2] at hq8'
          have HRAW8 := Lib.hid (And.intro hr8 (And.intro ha8 (And.intro hoff8 hqa8)))
          have hone := hqa8.one
          have hbase8 := HR8.out.disc.lo
          clear hr8 ha8 hoff8 hq8 hqa8
          go_wp2_with (at_builtin; go_must (refine wpList_append_rowat rfl _ _ 36 rfl w.heap.size _ 32 i0 _ 2 32 Tryz.underlying36 hi hz0 hz1 hz2 rfl (by decide) _ _ _ rfl hr8' _ _ _ rfl hq8' hone ?c3 ?c4 hbase8 ?_))
          case c3 => unfold maxLen; omega
          case c4 => omega
          intro v9 w9 hown9 hg9 hv9
          rw [← HJL.out, HTL.out.2] at hown9
          obtain ⟨j1, j2, j3, j4, j5⟩ := row_joined HR8.out HRAW8.out.1 HRAW8.out.2.1 HRAW8.out.2.2.1 HRAW8.out.2.2.2 hown9 hg9 hv9
          rw [← HEQ.out] at j1
          have hgot9 := ownsB_aside HGOT.out hsz7 HRAW8.out.1 hg9 HROW8.out.2.2.2.2
          obtain ⟨a9, e9, rfl⟩ := j1.slice
          rw [← HGL.out] at j1 j2 ⊢
          have HGOT9 := Lib.hid hgot9
          have HROW9 := Lib.hid (And.intro j1 j2)
          have HR9 := Lib.hid j3
          have HB9 := Lib.hid (HB8.out.trans j4)
          clear j1 j2 j3 j4 j5 hown9 hg9 hv9 hq8' hr8' hone hbase8 hgot9 HROW8 HRAW8 HR8 HB8 heq hsz7
          have hsees := HROW9.out.1.sees HR9.out.disc.lo
          have HGV := Lib.hid (givenB_any w9 _ gl e9 hs' HGL.out.symm (by omega) hsees)
          have hsg0 := HGOT9.out.seesB
          have HGS := Lib.hid hsg0
          clear hsees hsg0
          go_wp2_with fail
          refine HGV.out.mono ?_
          rintro e wg ⟨vg, pg, rfl, hrg, hrawg, hbg⟩
          obtain ⟨ag, cg, rfl⟩ := row_shape hrg
          have hsg := (hrawg.below hbg).sees hrg
          rw [← HGL.out]
          have HSB := Lib.hid (sameB_any wg _ _ gl e8 cg hs' HGL.out.symm (by omega) (HGS.out.below hbg) hsg HFEW.out)
          have HBG := Lib.hid hbg
          clear hrg hrawg hsg hbg HGV
          go_wp2_with fail
          refine HSB.out.mono ?_
          rintro e wz ⟨rfl, hbz⟩
          have hb2 := Below.next HBG.out hbz
          have HZ : Hid (LastsAt w d (k + 1) wz _ hs') := Lib.hid ⟨L6, _, us', HR9.out.below hb2, HB9.out.trans (hb2.mono HR9.out.disc.lo), HROW9.out.1.below hb2 HR9.out.disc.lo, HROW9.out.2, HLE.out⟩
          clear hb2 hbz
          go_wp2_with fail
          go_roundw
          case rel => exact ⟨k + 1, by omega, by go_num, Lib.hid ⟨hs', HZ.out⟩⟩
          case measure => simp [intOf]; omega
        · have HEQ := Lib.hid (HHS2.out.2 heq)
          have hjg : jl = gl := by have := HJL.out; have := HGL.out; rw [HEQ.out] at this; omega
          subst hjg
          have HROW9 : Hid (OwnsA w.heap.size w.heap.size w8 (.slice a7 jl e7) hs' ∧ Off L6 (.slice a7 jl e7)) := Lib.hid (by rw [HEQ.out]; exact ⟨HROW8.out.1, HROW8.out.2.1⟩)
          have HGOT9 := HGOT
          have HR9 := HR8
          have HB9 := HB8
          clear HROW8 HR8 HB8 hsz7
          go_wp2_with fail
          have hsees := HROW9.out.1.sees HR9.out.disc.lo
          have HGV := Lib.hid (givenB_any w8 _ jl e7 hs' HGL.out.symm (by omega) hsees)
          have hsg0 := HGOT9.out.seesB
          have HGS := Lib.hid hsg0
          clear hsees hsg0
          go_wp2_with fail
          refine HGV.out.mono ?_
          rintro e wg ⟨vg, pg, rfl, hrg, hrawg, hbg⟩
          obtain ⟨ag, cg, rfl⟩ := row_shape hrg
          have hsg := (hrawg.below hbg).sees hrg
          rw [← HGL.out]
          have HSB := Lib.hid (sameB_any wg _ _ jl e8 cg hs' HGL.out.symm (by omega) (HGS.out.below hbg) hsg HFEW.out)
          have HBG := Lib.hid hbg
          clear hrg hrawg hsg hbg HGV
          go_wp2_with fail
          refine HSB.out.mono ?_
          rintro e wz ⟨rfl, hbz⟩
          have hb2 := Below.next HBG.out hbz
          have HZ : Hid (LastsAt w d (k + 1) wz _ hs') := Lib.hid ⟨L6, _, us', HR9.out.below hb2, HB9.out.trans (hb2.mono HR9.out.disc.lo), HROW9.out.1.below hb2 HR9.out.disc.lo, HROW9.out.2, HLE.out⟩
          clear hb2 hbz
          go_wp2_with fail
          go_roundw
          case rel => exact ⟨k + 1, by omega, by go_num, Lib.hid ⟨hs', HZ.out⟩⟩
          case measure => simp [intOf]; omega
      · have hlt2 : ¬ (k : Int) < n := by omega
        have HBW := Lib.hid hbw
        clear R hbw hrow hoff hlen
        go_wp2_with fail
        refine (HAW.out _ HBW.out).mono ?_
        rintro e w2 ⟨rfl, hb2⟩
        have HB2 := Lib.hid (Below.next HBW.out hb2); clear hb2
        go_wp2_with fail
        go_ret
        exact ⟨rfl, HB2.out⟩

end Go.Proofs.YtfeconankopjmaaGreatDoor

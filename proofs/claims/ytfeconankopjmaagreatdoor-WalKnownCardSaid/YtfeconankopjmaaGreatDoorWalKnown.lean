/- The walk of WalKnown. -/
import Derived.Test.YtfeconankopjmaaGreatDoorPk30
import Derived.Test.YtfeconankopjmaaGreatDoorPk21
import Derived.Test.YtfeconankopjmaaGreatDoorPk14
namespace Go.Proofs.YtfeconankopjmaaGreatDoor
set_option linter.unusedVariables false
open Go.RowKit Go.Maps
open Dk (Dir Chg Disk File Str)

theorem Knows.mono {b B : Nat} {w : World} (h : Knows b w) (hb : b ≤ B) : Knows B w := fun W hW => h W (hW.mono hb)
theorem sees_none (w : World) : Bn.SeesO w (.slice none 0 0) [] := Or.inl ⟨rfl, none, 0, rfl⟩
set_option maxHeartbeats 16000000 in
set_option maxRecDepth 100000 in
theorem known_walk (w : World) (K : Knows w.heap.size w) : Calls Tryz.prog 3 #[] w (Gives (.bool true) w) := by
  have HK := Lib.hid (fun W (hb : Below w.heap.size w W) => K.next hb)
  have HAW := Lib.hid (fun W (hb : Below w.heap.size w W) => wawake_any W ((K.next hb).mono hb.size))
  have HU4 : Hid (Rise (Wl.nums Wl.k4.now) ∧ (Wl.nums Wl.k4.now).length ≤ 400) := Lib.hid (by rw [Wl.q2]; exact ⟨⟨by decide, trivial⟩, by decide⟩)
  have HU6 : Hid (Rise (Wl.nums Wl.k6.now) ∧ (Wl.nums Wl.k6.now).length ≤ 400) := Lib.hid (by rw [Wl.q9]; exact ⟨trivial, by decide⟩)
  clear K
  go_enter Tryz.func3, Tryz.ntmps3
  go_wp2_with fail
  refine (new_any _ _).mono ?_
  rintro e w0 ⟨L0, rfl, hh, hb, ho⟩
  have D0 : Hid (Disc w0 w.heap.size L0 Wl.s0 0 0) := Lib.hid ⟨hh, Dk.good_fresh 1048576, ho, hb.size⟩
  have B0 := Lib.hid hb
  obtain ⟨d, hd⟩ : ∃ d, d = L0.d := ⟨_, rfl⟩
  rw [← hd]
  have HD0 : Hid (L0.d = d) := hd.symm
  clear hh hb ho hd
  have hc := begin_disc D0.out (by decide) (by decide) 3 (by decide) (HK.out _ B0.out)
  rw [HD0.out] at hc
  have HC := Lib.hid hc; clear hc
  go_wp2_with fail
  refine HC.out.mono ?_
  rintro e w1 ⟨p, L1, rfl, hld, hD, hB, hlv, ⟨_, g, rfl, hl⟩ | ⟨h, _⟩⟩
  case inr => exact absurd Wl.r0 h
  rw [show errV (Wl.beg Wl.s0 3).1 = _ from congrArg errV Wl.r0]
  unfold errV
  have Vg1 : Hid (Live w1 L1 g d 3) := Lib.hid hl
  clear hl
  have D1 : Hid (Disc w1 w.heap.size L1 Wl.s1 2 0) := Lib.hid hD
  have HD1 : Hid (L1.d = d) := Lib.hid hld
  have B1 : Hid (Below w.heap.size w w1) := Lib.hid (B0.out.trans hB)
  clear hld hD hB hlv HC
  clear D0 HD0 B0
  go_wp2_with fail
  refine (small_any 1 _).mono ?_
  rintro e w2 ⟨a2, rfl, hS, hb⟩
  have HS2 := Lib.hid hS
  have D2 := Lib.hid (D1.out.below hb)
  have HD2 := HD1
  have B2 := Lib.hid (Below.next B1.out hb)
  have Vg2 := Lib.hid (Vg1.out.below hb)
  clear D1 HD1 B1 Vg1
  clear hb hS
  have hv := Vg2.out
  rw [← HD2.out] at hv
  have hc := add_disc D2.out (by decide) (by decide) hv (by decide) (HK.out _ B2.out) 1 a2 1 1 [Wl.opA] HS2.out (by decide)
  have HC := Lib.hid hc; clear hc
  clear hv
  go_wp2_with fail
  refine HC.out.mono ?_
  rintro e w3 ⟨rfl, L3, hld, hD, hB, hlv⟩
  rw [show errV (Wl.add Wl.s1 3 (1, [Wl.opA])).1 = _ from congrArg errV Wl.r1]
  unfold errV
  have hld := hld.trans HD2.out
  have D3 : Hid (Disc w3 w.heap.size L3 Wl.s2 4 14000) := Lib.hid hD
  have HD3 : Hid (L3.d = d) := Lib.hid hld
  have B3 : Hid (Below w.heap.size w w3) := Lib.hid (B2.out.trans hB)
  have Vg3 := Lib.hid (hlv.live Vg2.out)
  clear hld hD hB hlv HC
  clear D2 HD2 B2 Vg2
  have hc := begin_disc D3.out (by decide) (by decide) 3 (by decide) (HK.out _ B3.out)
  rw [HD3.out] at hc
  have HC := Lib.hid hc; clear hc
  go_wp2_with fail
  refine HC.out.mono ?_
  rintro e w4 ⟨p, L4, rfl, hld, hD, hB, hlv, ⟨h, _⟩ | ⟨_, rfl⟩⟩
  case inl => rw [Wl.q0] at h; exact absurd h (by decide)
  rw [show errV (Wl.beg Wl.s2 3).1 = _ from congrArg errV Wl.q0]
  unfold errV
  have D4 : Hid (Disc w4 w.heap.size L4 Wl.k3 6 14000) := Lib.hid hD
  have HD4 : Hid (L4.d = d) := Lib.hid hld
  have B4 : Hid (Below w.heap.size w w4) := Lib.hid (B3.out.trans hB)
  have Vg4 := Lib.hid (hlv.live Vg3.out)
  clear hld hD hB hlv HC
  clear D3 HD3 B3 Vg3
  have hc := begin_disc D4.out (by decide) (by decide) 5 (by decide) (HK.out _ B4.out)
  rw [HD4.out] at hc
  have HC := Lib.hid hc; clear hc
  go_wp2_with fail
  refine HC.out.mono ?_
  rintro e w5 ⟨p, L5, rfl, hld, hD, hB, hlv, ⟨_, g5, rfl, hl⟩ | ⟨h, _⟩⟩
  case inr => exact absurd Wl.q1 h
  rw [show errV (Wl.beg Wl.k3 5).1 = _ from congrArg errV Wl.q1]
  unfold errV
  have Vg55 : Hid (Live w5 L5 g5 d 5) := Lib.hid hl
  clear hl
  have D5 : Hid (Disc w5 w.heap.size L5 Wl.k4 8 14000) := Lib.hid hD
  have HD5 : Hid (L5.d = d) := Lib.hid hld
  have B5 : Hid (Below w.heap.size w w5) := Lib.hid (B4.out.trans hB)
  have Vg5 := Lib.hid (hlv.live Vg4.out)
  clear hld hD hB hlv HC
  clear D4 HD4 B4 Vg4
  have hc := logs_any w5 D5.out.holds D5.out.good (by decide) (by decide) (HK.out _ B5.out) D5.out.lo HU4.out.1 HU4.out.2
  rw [HD5.out, Wl.q2] at hc
  have HC := Lib.hid hc; clear hc
  go_wp2_with fail
  refine HC.out.mono ?_
  rintro e w6 ⟨v, rfl, hrow, hb⟩
  obtain ⟨an, cn, rfl⟩ := row_shape hrow
  have NRn6 := Lib.hid (ownsRow_mono hrow D5.out.lo)
  have D6 := Lib.hid (D5.out.below hb)
  have HD6 := HD5
  have B6 := Lib.hid (Below.next B5.out hb)
  have Vg6 := Lib.hid (Vg5.out.below hb)
  have Vg56 := Lib.hid (Vg55.out.below hb)
  clear D5 HD5 B5 Vg5 Vg55
  clear hb hrow HC
  have hc := replay_any w6 D6.out.holds D6.out.good (by decide) (by decide) (HK.out _ B6.out) D6.out.lo HU4.out.1 HU4.out.2 0 Wl.q3
  rw [HD6.out, Wl.q4] at hc
  have HC := Lib.hid hc; clear hc
  go_wp2_with fail
  refine HC.out.mono ?_
  rintro e w7 ⟨v, rfl, hob, hb⟩
  obtain ⟨am, cm, rfl⟩ := hob.slice
  have OBm7 := Lib.hid (hob.mono D6.out.lo)
  have D7 := Lib.hid (D6.out.below hb)
  have HD7 := HD6
  have B7 := Lib.hid (Below.next B6.out hb)
  have Vg7 := Lib.hid (Vg6.out.below hb)
  have Vg57 := Lib.hid (Vg56.out.below hb)
  have NRn7 := Lib.hid (ownsRow_below NRn6.out hb)
  clear D6 HD6 B6 Vg6 Vg56 NRn6
  clear hb hob HC
  have hc := replay_any w7 D7.out.holds D7.out.good (by decide) (by decide) (HK.out _ B7.out) D7.out.lo HU4.out.1 HU4.out.2 4 Wl.q3
  rw [HD7.out, Wl.q5] at hc
  have HC := Lib.hid hc; clear hc
  go_wp2_with fail
  refine HC.out.mono ?_
  rintro e w8 ⟨v, rfl, hob, hb⟩
  obtain ⟨ao, co, rfl⟩ := hob.slice
  have OBo8 := Lib.hid (hob.mono D7.out.lo)
  have D8 := Lib.hid (D7.out.below hb)
  have HD8 := HD7
  have B8 := Lib.hid (Below.next B7.out hb)
  have Vg8 := Lib.hid (Vg7.out.below hb)
  have Vg58 := Lib.hid (Vg57.out.below hb)
  have NRn8 := Lib.hid (ownsRow_below NRn7.out hb)
  have OBm8 := Lib.hid (OwnsB.below OBm7.out hb)
  clear D7 HD7 B7 Vg7 Vg57 NRn7 OBm7
  clear hb hob HC
  have hc := add_bad w8 g d 3 Vg8.out.at' 2 none 0 0 [] (sees_none _) (by decide) (by decide)
  have HC := Lib.hid hc; clear hc
  go_wp2_with fail
  refine HC.out.mono ?_
  rintro e w9 ⟨rfl, hb⟩
  rw [show errV ((Bn.Bt.chk 2 ([] : List Bn.Ob) : Nat) : Int) = .int .i64 1 by kernel_rfl]
  have D9 := Lib.hid (D8.out.below hb)
  have HD9 := HD8
  have B9 := Lib.hid (Below.next B8.out hb)
  have Vg9 := Lib.hid (Vg8.out.below hb)
  have Vg59 := Lib.hid (Vg58.out.below hb)
  have NRn9 := Lib.hid (ownsRow_below NRn8.out hb)
  have OBm9 := Lib.hid (OwnsB.below OBm8.out hb)
  have OBo9 := Lib.hid (OwnsB.below OBo8.out hb)
  clear D8 HD8 B8 Vg8 Vg58 NRn8 OBm8 OBo8
  clear hb HC
  obtain ⟨gn, hgn, n1⟩ := row_at NRn9.out (k := 1) (v := .int .u64 5) rfl (by decide)
  obtain rfl := hgn
  go_wp2_with fail
  refine (small_any 1 _).mono ?_
  rintro e w10 ⟨a10, rfl, hS, hb⟩
  have HS10 := Lib.hid hS
  have D10 := Lib.hid (D9.out.below hb)
  have HD10 := HD9
  have B10 := Lib.hid (Below.next B9.out hb)
  have Vg10 := Lib.hid (Vg9.out.below hb)
  have Vg510 := Lib.hid (Vg59.out.below hb)
  have NRn10 := Lib.hid (ownsRow_below NRn9.out hb)
  have OBm10 := Lib.hid (OwnsB.below OBm9.out hb)
  have OBo10 := Lib.hid (OwnsB.below OBo9.out hb)
  clear D9 HD9 B9 Vg9 Vg59 NRn9 OBm9 OBo9
  clear hb hS
  have hc := add_nil w10 1 a10 1 1
  have HC := Lib.hid hc; clear hc
  go_wp2_with fail
  refine HC.out.mono ?_
  rintro e w11 ⟨rfl, hb⟩
  have D11 := Lib.hid (D10.out.below hb)
  have HD11 := HD10
  have B11 := Lib.hid (Below.next B10.out hb)
  have Vg11 := Lib.hid (Vg10.out.below hb)
  have Vg511 := Lib.hid (Vg510.out.below hb)
  clear D10 HD10 B10 Vg10 Vg510
  clear hb HC
  go_wp2_with fail
  refine (N_nil w11).mono ?_
  rintro e wz ⟨rfl, hw⟩
  subst wz
  go_wp2_with fail
  have hc := retire_disc D11.out (by decide) (by decide) (HK.out _ B11.out) HU4.out.1 HU4.out.2 5 Wl.q3
  rw [HD11.out] at hc
  have HC := Lib.hid hc; clear hc
  go_wp2_with fail
  refine HC.out.mono ?_
  rintro e w12 ⟨rfl, L12, hld, hD, hB, hlv⟩
  rw [show errV (Wl.retire Wl.k4 5).1 = _ from congrArg errV Wl.q8]
  unfold errV
  have hld := hld.trans HD11.out
  have D12 : Hid (Disc w12 w.heap.size L12 Wl.k6 408 14000) := Lib.hid hD
  have HD12 : Hid (L12.d = d) := Lib.hid hld
  have B12 : Hid (Below w.heap.size w w12) := Lib.hid (B11.out.trans hB)
  clear hld hD hB hlv HC
  clear D11 HD11 B11
  have hc := logs_any w12 D12.out.holds D12.out.good (by decide) (by decide) (HK.out _ B12.out) D12.out.lo HU6.out.1 HU6.out.2
  rw [HD12.out, Wl.q9] at hc
  have HC := Lib.hid hc; clear hc
  go_wp2_with fail
  refine HC.out.mono ?_
  rintro e w13 ⟨v, rfl, hrow, hb⟩
  obtain ⟨ar, cr, rfl⟩ := row_shape hrow
  have NRr13 := Lib.hid (ownsRow_mono hrow D12.out.lo)
  have D13 := Lib.hid (D12.out.below hb)
  have HD13 := HD12
  have B13 := Lib.hid (Below.next B12.out hb)
  clear D12 HD12 B12
  clear hb hrow HC
  have hc := replay_no w13 0
  have HC := Lib.hid hc; clear hc
  go_wp2_with fail
  refine HC.out.mono ?_
  rintro e w14 ⟨rfl, hw⟩
  have hb : Below w13.heap.size w13 w14 := by rw [hw]; exact Below.refl _ _
  clear hw
  have D14 := Lib.hid (D13.out.below hb)
  have HD14 := HD13
  have B14 := Lib.hid (Below.next B13.out hb)
  have NRr14 := Lib.hid (ownsRow_below NRr13.out hb)
  clear D13 HD13 B13 NRr13
  clear hb HC
  have hc := begin_no w14 1 (by decide) (HK.out _ B14.out)
  have HC := Lib.hid hc; clear hc
  go_wp2_with fail
  refine HC.out.mono ?_
  rintro e w15 ⟨rfl, hb⟩
  have D15 := Lib.hid (D14.out.below hb)
  have HD15 := HD14
  have B15 := Lib.hid (Below.next B14.out hb)
  have NRr15 := Lib.hid (ownsRow_below NRr14.out hb)
  clear D14 HD14 B14 NRr14
  clear hb HC
  go_wp2_with fail
  have HK2 := Lib.hid (fun W (hb : Below w15.heap.size w15 W) => (HK.out _ (Below.next B15.out hb)).mono B15.out.size)
  have HBX := B15
  have HNR := NRr15
  clear D15 HD15
  refine (new_any _ _).mono ?_
  rintro e w16 ⟨L16, rfl, hh, hb, ho⟩
  have D16 : Hid (Disc w16 w15.heap.size L16 Wl.t0 0 0) := Lib.hid ⟨hh, Dk.good_fresh 31, ho, hb.size⟩
  have B16 := Lib.hid hb
  obtain ⟨d2, hd⟩ : ∃ d2, d2 = L16.d := ⟨_, rfl⟩
  rw [← hd]
  have HD16 : Hid (L16.d = d2) := hd.symm
  clear hh hb ho hd
  have hc := begin_disc D16.out (by decide) (by decide) 1099511627776 (by decide) (HK2.out _ B16.out)
  rw [HD16.out] at hc
  have HC := Lib.hid hc; clear hc
  go_wp2_with fail
  refine HC.out.mono ?_
  rintro e w17 ⟨p, L17, rfl, hld, hD, hB, hlv, ⟨_, h, rfl, hl⟩ | ⟨h, _⟩⟩
  case inr => exact absurd Wl.p0 h
  rw [show errV (Wl.beg Wl.t0 1099511627776).1 = _ from congrArg errV Wl.p0]
  unfold errV
  have Vh17 : Hid (Live w17 L17 h d2 1099511627776) := Lib.hid hl
  clear hl
  have D17 : Hid (Disc w17 w15.heap.size L17 Wl.t1 2 0) := Lib.hid hD
  have HD17 : Hid (L17.d = d2) := Lib.hid hld
  have B17 : Hid (Below w15.heap.size w15 w17) := Lib.hid (B16.out.trans hB)
  clear hld hD hB hlv HC
  clear D16 HD16 B16
  have HY := Lib.hid (Below.next HBX.out B17.out)
  have HNX := Lib.hid (ownsRow_below HNR.out B17.out)
  obtain ⟨gr, hgr, n0⟩ := row_at HNX.out (k := 0) (v := .int .u64 5) rfl (by decide)
  obtain rfl := hgr
  go_wp2_with fail
  refine (retire_no w17 1).mono ?_
  rintro e wz ⟨rfl, hw⟩
  subst wz
  go_wp2_with fail
  refine (logs_no w17).mono ?_
  rintro e w18 ⟨rfl, hb⟩
  have D18 := Lib.hid (D17.out.below hb)
  have HD18 := HD17
  have B18 := Lib.hid (Below.next B17.out hb)
  have Vh18 := Lib.hid (Vh17.out.below hb)
  clear D17 HD17 B17 Vh17
  clear hb
  go_wp2_with fail
  obtain ⟨w19, hal⟩ : ∃ W, W = w18.alloc (.cells #[.string ⟨#[97]⟩, .string ⟨#[]⟩, .bool false] 42) := ⟨_, rfl⟩
  have hb : Below w18.heap.size w18 w19 := by rw [hal]; exact (Below.refl _ _).alloc (Nat.le_refl _) _
  have HSE := Lib.hid (show Bn.SeesO w19 (.slice (some ⟨w18.heap.size, 0, none⟩) 1 1) [Wl.opE] from by rw [hal]; exact seesO_one (t := 42) (heap_alloc_new _ _))
  rw [← hal]
  have D19 := Lib.hid (D18.out.below hb)
  have HD19 := HD18
  have B19 := Lib.hid (Below.next B18.out hb)
  have Vh19 := Lib.hid (Vh18.out.below hb)
  clear D18 HD18 B18 Vh18
  clear hb hal
  have hv := Vh19.out
  rw [← HD19.out] at hv
  have hc := add_disc D19.out (by decide) (by decide) hv (by decide) (HK2.out _ B19.out) 1 (some ⟨w18.heap.size, 0, none⟩) 1 1 [Wl.opE] HSE.out (by decide)
  have HC := Lib.hid hc; clear hc hv
  refine HC.out.mono ?_
  rintro e w20 ⟨rfl, L20, hld, hD, hB, hlv⟩
  rw [show errV (Wl.add Wl.t1 1099511627776 (1, [Wl.opE])).1 = _ from congrArg errV Wl.p1]
  unfold errV
  have hld := hld.trans HD19.out
  have D20 : Hid (Disc w20 w15.heap.size L20 Wl.t2 4 14000) := Lib.hid hD
  have HD20 : Hid (L20.d = d2) := Lib.hid hld
  have B20 : Hid (Below w15.heap.size w15 w20) := Lib.hid (B19.out.trans hB)
  have Vh20 := Lib.hid (hlv.live Vh19.out)
  clear hld hD hB hlv HC
  clear D19 HD19 B19 Vh19
  have hc := used_any w20 D20.out.holds
  rw [HD20.out, Wl.p2] at hc
  have HC := Lib.hid hc; clear hc
  go_wp2_with fail
  refine HC.out.mono ?_
  rintro e wz ⟨rfl, hw⟩
  subst wz
  clear HC
  go_wp2_with fail
  refine (HAW.out _ (Below.next HBX.out B20.out)).mono ?_
  rintro e w21 ⟨rfl, hb⟩
  have HZ := Lib.hid (Below.next (Below.next HBX.out B20.out) hb)
  clear hb
  go_wp2_with fail
  go_ret
  exact ⟨rfl, HZ.out⟩

end Go.Proofs.YtfeconankopjmaaGreatDoor

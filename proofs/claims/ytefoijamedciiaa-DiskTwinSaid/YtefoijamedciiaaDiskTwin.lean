/- The walk of DiskTwin. -/
import Derived.Test.YtefoijamedciiaaDkGreat
import Derived.Test.YtefoijamedciiaaDkTwo
namespace Go.Proofs.Ytefoijamedciiaa
open Go.RowKit Go.Maps
open Dk (Dir Chg Disk File Str)

set_option maxHeartbeats 8000000 in
set_option maxRecDepth 100000 in
theorem twins_great (room : Int) (a1 : Option Addr) (n1 c1 : Nat) (l : List Act) (a2 : Option Addr) (n2 c2 : Nat) (m : List Act) (w : World)
    (h1 : ActsRaw w (.slice a1 n1 c1) l) (h2 : ActsRaw w (.slice a2 n2 c2) m) (hg : greatL l = true ∨ greatL m = true) :
    Calls Try.prog 5 #[.int .i64 room, .slice a1 n1 c1, .slice a2 n2 c2] w (Gives (.bool true) w) := by
  have HA := Lib.hid awake_any
  have HL := Lib.hid (great_any _ _ l h1)
  have HM : Hid (∀ w', Below w.heap.size w w' → Calls Try.prog 6 #[.slice a2 n2 c2] w' (Gives (.bool (greatL m)) w')) := Lib.hid fun w' hb => great_any w' _ m (h2.below hb)
  clear h1 h2
  obtain ⟨g1, hg1⟩ : ∃ g, g = greatL l := ⟨_, rfl⟩
  obtain ⟨g2, hg2⟩ : ∃ g, g = greatL m := ⟨_, rfl⟩
  rw [← hg1] at HL hg
  rw [← hg2] at HM hg
  clear hg1 hg2
  cases g1 with
  | true =>
    clear hg
    go_enter Try.func5, Try.ntmps5
    go_wp2_with fail
    refine HL.out.mono ?_
    rintro e w1 ⟨rfl, hb1⟩
    have B1 := Lib.hid hb1; clear hb1
    go_wp2_with fail
    refine (HA.out w1).mono ?_
    rintro e w5 ⟨rfl, hb5⟩
    have B5 := Lib.hid (Below.next B1.out hb5); clear hb5
    go_wp2_with fail
    go_ret
    exact ⟨rfl, B5.out⟩
  | false =>
    obtain rfl : g2 = true := by rcases hg with h | h
                                 · cases h
                                 · exact h
    clear hg
    go_enter Try.func5, Try.ntmps5
    go_wp2_with fail
    refine HL.out.mono ?_
    rintro e w1 ⟨rfl, hb1⟩
    have B1 := Lib.hid hb1; clear hb1
    go_wp2_with fail
    refine (HM.out w1 B1.out).mono ?_
    rintro e w2 ⟨rfl, hb2⟩
    have B2 := Lib.hid (Below.next B1.out hb2); clear hb2
    go_wp2_with fail
    refine (HA.out w2).mono ?_
    rintro e w5 ⟨rfl, hb5⟩
    have B5 := Lib.hid (Below.next B2.out hb5); clear hb5
    go_wp2_with fail
    go_ret
    exact ⟨rfl, B5.out⟩

set_option maxHeartbeats 8000000 in
set_option maxRecDepth 100000 in
theorem twins_small (room : Int) (a1 : Option Addr) (n1 c1 : Nat) (l : List Act) (a2 : Option Addr) (n2 c2 : Nat) (m : List Act) (w : World)
    (h1 : ActsRaw w (.slice a1 n1 c1) l) (h2 : ActsRaw w (.slice a2 n2 c2) m) (hg1 : greatL l = false) (hg2 : greatL m = false) :
    Calls Try.prog 5 #[.int .i64 room, .slice a1 n1 c1, .slice a2 n2 c2] w (Gives (.bool true) w) := by
  have HA := Lib.hid awake_any
  obtain ⟨ll1, lb1, ls1⟩ := small_of hg1
  obtain ⟨ll2, lb2, ls2⟩ := small_of hg2
  have HL := Lib.hid (great_any _ _ l h1)
  have HM : Hid (∀ w', Below w.heap.size w w' → Calls Try.prog 6 #[.slice a2 n2 c2] w' (Gives (.bool (greatL m)) w')) := Lib.hid fun w' hb => great_any w' _ m (h2.below hb)
  have A1 : Hid (∀ w', Below w.heap.size w w' → ActsAt w' w.heap.size (.slice a1 n1 c1) l) := Lib.hid fun w' hb => (h1.acts ls1).below hb
  have A2 : Hid (∀ w', Below w.heap.size w w' → ActsAt w' w.heap.size (.slice a2 n2 c2) m) := Lib.hid fun w' hb => (h2.acts ls2).below hb
  have NL : Hid (∀ x ∈ l, x.n ≤ 9223372036854775807) := Lib.hid fun x hx => by
    obtain ⟨i, hi, e⟩ := List.getElem_of_mem hx
    rcases h1 with ⟨h0, _⟩ | ⟨b, off, cap, _, _, hc⟩
    · subst h0; cases hx
    · exact (hc i x (by rw [List.getElem?_eq_getElem hi, e])).1.1
  rw [hg1] at HL
  rw [hg2] at HM
  have LL := Lib.hid (And.intro ll1 (And.intro lb1 (And.intro ll2 lb2)))
  have hm0 : (m.length : Int) ≤ 120 := by omega
  clear h1 h2 ll1 lb1 ls1 ll2 lb2 ls2 hg1 hg2
  go_enter Try.func5, Try.ntmps5
  go_wp2_with fail
  refine HL.out.mono ?_
  rintro e w1 ⟨rfl, hb1⟩
  have B1 := Lib.hid hb1; clear hb1
  go_wp2_with fail
  refine (HM.out w1 B1.out).mono ?_
  rintro e w2 ⟨rfl, hb2⟩
  have B2 := Lib.hid (Below.next B1.out hb2); clear hb2
  clear HL HM B1
  go_wp2_with fail
  refine (new_any w2 room).mono ?_
  rintro e w3 ⟨L0, rfl, hh, hb3, ho⟩
  have D0 : Hid (Disc w3 w.heap.size L0 (Dk.fresh room) 0 0) := Lib.hid ⟨hh, Dk.good_fresh room, fun b hb => Nat.le_trans B2.out.size (ho b hb), Nat.le_trans B2.out.size hb3.size⟩
  have B3 := Lib.hid (Below.next B2.out hb3)
  obtain ⟨d, hd⟩ : ∃ d, d = L0.d := ⟨_, rfl⟩
  rw [← hd]
  have HD0 : Hid (L0.d = d) := hd.symm
  have hpl := plays_any D0.out _ l (A1.out w3 B3.out) (by have := LL.out.1; omega) (by have := LL.out.2.1; omega)
  rw [HD0.out] at hpl
  have HPL := Lib.hid hpl
  clear hh hb3 ho hd B2 hpl
  go_wp2_with fail
  refine HPL.out.mono ?_
  rintro e w4 ⟨u0, L1, rfl, hld, hD, hB, _, _, _, _⟩
  have HD1 : Hid (L1.d = d) := Lib.hid hld
  obtain ⟨T, hT⟩ : ∃ T, T = played (Dk.fresh room) l := ⟨_, rfl⟩
  have OT : Hid (Dk.Sole T ∧ Dk.Made T) := by rw [hT]; exact Lib.hid (kin_played l (Dk.good_fresh room) (Dk.sole_fresh room) (Dk.made_fresh room) NL.out)
  rw [← hT] at hD
  have D1 : Hid (Disc w4 w.heap.size L1 T 120 20000) := Lib.hid (hD.mono (by have := LL.out.1; omega) (by have := LL.out.2.1; omega))
  have B4 : Hid (Below w.heap.size w w4) := Lib.hid (B3.out.trans hB)
  have htw := twin_of D1.out (by decide) (by decide) OT.out.1 OT.out.2
  rw [HD1.out] at htw
  have HTW := Lib.hid htw
  clear hld hT hD hB HPL D0 HD0 B3 htw
  go_wp2_with fail
  refine HTW.out.mono ?_
  rintro e w5 ⟨Lt, rfl, hDt, hb5⟩
  have DT := Lib.hid hDt
  have D2 := Lib.hid (D1.out.below hb5)
  have B5 := Lib.hid (Below.next B4.out hb5)
  have N4 : Hid (w.heap.size ≤ w4.heap.size) := Lib.hid B4.out.size
  have N5 : Hid (w4.heap.size ≤ w5.heap.size ∧ ∀ b, Own L1 b → b < w4.heap.size) := Lib.hid ⟨hb5.size, fun b hb => D1.out.holds.own_lt hb⟩
  obtain ⟨t, ht⟩ : ∃ t, t = Lt.d := ⟨_, rfl⟩
  rw [← ht]
  have HT1 : Hid (Lt.d = t) := ht.symm
  have htw := twin_of D2.out (by decide) (by decide) OT.out.1 OT.out.2
  rw [HD1.out] at htw
  have HTW2 := Lib.hid htw
  clear hDt hb5 ht htw HTW D1 B4
  go_wp2_with fail
  refine HTW2.out.mono ?_
  rintro e w6 ⟨Lu, rfl, hDu, hb6⟩
  have DU := Lib.hid hDu
  have D3 := Lib.hid (D2.out.below hb6)
  have DT2 := Lib.hid (DT.out.below hb6)
  have B6 := Lib.hid (Below.next B5.out hb6)
  have N6 : Hid (w5.heap.size ≤ w6.heap.size ∧ ∀ b, Own Lt b → b < w5.heap.size) := Lib.hid ⟨hb6.size, fun b hb => DT.out.holds.own_lt hb⟩
  obtain ⟨u, hu⟩ : ∃ u, u = Lu.d := ⟨_, rfl⟩
  rw [← hu]
  have HU1 : Hid (Lu.d = u) := hu.symm
  have hsm := same_any w6 D3.out.holds DT2.out.holds (fits_of D3.out.good (by decide) (by decide))
  rw [HD1.out, HT1.out] at hsm
  have HSM := Lib.hid hsm
  clear hDu hb6 hu hsm HTW2 D2 DT B5
  go_wp2_with fail
  refine HSM.out.mono ?_
  rintro e w7 ⟨rfl, hb7⟩
  have D4 := Lib.hid (D3.out.below hb7)
  have DT3 := Lib.hid (DT2.out.below hb7)
  have DU2 := Lib.hid (DU.out.below hb7)
  have B7 := Lib.hid (Below.next B6.out hb7)
  have N7 : Hid (w6.heap.size ≤ w7.heap.size) := Lib.hid hb7.size
  have hsm := same_any w7 DT3.out.holds DU2.out.holds (fits_of D4.out.good (by decide) (by decide))
  rw [HT1.out, HU1.out] at hsm
  have HSM2 := Lib.hid hsm
  clear hb7 hsm HSM D3 DT2 DU B6
  go_wp2_with fail
  refine HSM2.out.mono ?_
  rintro e w8 ⟨rfl, hb8⟩
  have D5 := Lib.hid (D4.out.below hb8)
  have DT4 := Lib.hid (DT3.out.below hb8)
  have DU3 := Lib.hid (DU2.out.below hb8)
  have B8 := Lib.hid (Below.next B7.out hb8)
  have N8 : Hid (w7.heap.size ≤ w8.heap.size) := Lib.hid hb8.size
  have hpl := plays_any DT4.out _ m ((A2.out w8 B8.out).mono N4.out) (by have := LL.out.2.2.1; omega) (by have := LL.out.2.2.2; omega)
  rw [HT1.out] at hpl
  have HPL := Lib.hid hpl
  clear hb8 hpl HSM2 D4 DT3 DU2 B7
  go_wp2_with fail
  refine HPL.out.mono ?_
  rintro e w9 ⟨ua, Lt2, rfl, hld, hD, hB, hrow, htu, hown, hvo⟩
  have DT5 := Lib.hid hD
  have HT2 : Hid (Lt2.d = t) := Lib.hid hld
  have D6 : Hid (Disc w9 w.heap.size L1 T 120 20000) := Lib.hid (D5.out.apart htu fun b hb ho => by have := N5.out.2 b hb; have := DT4.out.own b ho; omega)
  have DU4 := Lib.hid (DU3.out.apart htu fun b hb ho => by have := N6.out.2 b ho; have := DU3.out.own b hb; omega)
  have B9 : Hid (Below w.heap.size w w9) := Lib.hid (B8.out.trans (hB.mono N4.out))
  have OW : Hid (∀ b, Own Lt2 b → w4.heap.size ≤ b) := Lib.hid fun b hb => DT5.out.own b hb
  have NA : Hid (w4.heap.size ≤ w8.heap.size) := Lib.hid (by have := N5.out.1; have := N6.out.1; have := N7.out; have := N8.out; omega)
  have RA := Lib.hid hrow
  obtain ⟨xa, ca, rfl⟩ := row_shape hrow
  have hsm := same_any w9 D6.out.holds DU4.out.holds (fits_of D6.out.good (by decide) (by decide))
  rw [HD1.out, HU1.out] at hsm
  have HSM := Lib.hid hsm
  clear hld hD hB hrow htu hown hvo hsm HPL D5 DT4 DU3 B8
  go_wp2_with fail
  refine HSM.out.mono ?_
  rintro e w10 ⟨rfl, hb10⟩
  have D7 := Lib.hid (D6.out.below hb10)
  have DT6 := Lib.hid (DT5.out.below hb10)
  have RA2 : Hid (w10.ownsRow w8.heap.size 35 1 (.slice xa m.length ca) m.length ((codes T m).map (.int .i64))) := Lib.hid (ownsRow_frame RA.out fun b hb => hb10.block b (ownsRow_lt RA.out hb))
  have B10 := Lib.hid (Below.next B9.out hb10)
  have hpl := plays_any D7.out _ m (A2.out w10 B10.out) (by have := LL.out.2.2.1; omega) (by have := LL.out.2.2.2; omega)
  rw [HD1.out] at hpl
  have HPL := Lib.hid hpl
  clear hb10 hpl HSM D6 DT5 DU4 B9 RA
  go_wp2_with fail
  refine HPL.out.mono ?_
  rintro e w11 ⟨ub, L2, rfl, hld, hD, hB, hrow, htu, hown, hvo⟩
  have D8 := Lib.hid hD
  have HD2 : Hid (L2.d = d) := Lib.hid hld
  have DT7 := Lib.hid (DT6.out.apart htu fun b hb ho => by have := N5.out.2 b ho; have := OW.out b hb; omega)
  have RA3 : Hid (w11.ownsRow w8.heap.size 35 1 (.slice xa m.length ca) m.length ((codes T m).map (.int .i64))) := Lib.hid (ownsRow_frame RA2.out fun b hb => htu.block b (ownsRow_lt RA2.out hb) fun ho => by have := (World.ownsRow.lt RA2.out b hb).1; have := N5.out.2 b ho; have := NA.out; omega)
  have B11 : Hid (Below w.heap.size w w11) := Lib.hid (B10.out.trans hB)
  have RB := Lib.hid hrow
  obtain ⟨xb, cb, rfl⟩ := row_shape hrow
  have CL : Hid ((codes T m).length = m.length) := Lib.hid (codes_length T m)
  clear hld hD hB hrow htu hown hvo HPL D7 DT6 B10 RA2 A1 A2 N4 N5 N6 N7 N8 NA OW
  obtain ⟨n, hn⟩ : ∃ n, n = m.length := ⟨_, rfl⟩
  have HN := Lib.hid hn
  rw [← hn] at RA3 RB CL hm0 ⊢
  clear hn
  go_wp2_with fail
  go_loopw [12] (fun z wr => ∃ k : Nat, k ≤ n ∧ z = .int .i64 (k : Int) ∧ Hid (Below w11.heap.size w11 wr)) (fun z _ => n - (intOf z).toNat)
  case atStart => exact ⟨0, by omega, rfl, Lib.hid (Below.refl _ _)⟩
  case round =>
    obtain ⟨k, hk, rfl, HK⟩ := hrel
    by_cases hlt : k < n
    · have hlt2 : (k : Int) < n := by omega
      obtain ⟨cd, hcd⟩ : ∃ cd, (codes T m)[k]? = some cd := ⟨_, List.getElem?_eq_getElem (by have := CL.out; omega)⟩
      have hcm : ((codes T m).map (Value.int .i64))[k]? = some (.int .i64 cd) := by rw [List.getElem?_map, hcd]; rfl
      obtain ⟨ga, rfl, ea⟩ := row_at (ownsRow_frame RA3.out fun b hb => HK.out.block b (ownsRow_lt RA3.out hb)) hcm hlt
      obtain ⟨gb, rfl, eb⟩ := row_at (ownsRow_frame RB.out fun b hb => HK.out.block b (ownsRow_lt RB.out hb)) hcm hlt
      clear hcd hcm
      go_wp2_with fail
      go_quiet (fail)
      go_wp2_with fail
      go_roundw
      case rel => exact ⟨k + 1, by omega, by go_num, Lib.hid ((still_drewN _ _).under HK.out)⟩
      case measure => simp [intOf]; omega
    · obtain rfl : k = n := by omega
      clear hlt
      have hsm := same_any wr (D8.out.below HK.out).holds (DT7.out.below HK.out).holds (fits_of D8.out.good (by have := LL.out.2.2.1; omega) (by have := LL.out.2.2.2; omega))
      rw [HD2.out, HT2.out] at hsm
      have HSM := Lib.hid hsm
      clear hsm
      go_wp2_with fail
      refine HSM.out.mono ?_
      rintro e w12 ⟨rfl, hb12⟩
      have B12 := Lib.hid (Below.next (Below.next B11.out HK.out) hb12); clear hb12
      go_wp2_with fail
      refine (HA.out w12).mono ?_
      rintro e w13 ⟨rfl, hb13⟩
      have B13 := Lib.hid (Below.next B12.out hb13); clear hb13
      go_wp2_with fail
      go_ret
      exact ⟨rfl, B13.out⟩

theorem twins_walk (room : Int) (a1 : Option Addr) (n1 c1 : Nat) (l : List Act) (a2 : Option Addr) (n2 c2 : Nat) (m : List Act) (w : World) (_ : -9223372036854775808 ≤ room ∧ room ≤ 9223372036854775807)
    (h1 : ActsRaw w (.slice a1 n1 c1) l) (h2 : ActsRaw w (.slice a2 n2 c2) m) :
    Calls Try.prog 5 #[.int .i64 room, .slice a1 n1 c1, .slice a2 n2 c2] w (Gives (.bool true) w) := by
  cases e1 : greatL l with
  | true => exact twins_great room a1 n1 c1 l a2 n2 c2 m w h1 h2 (Or.inl e1)
  | false => cases e2 : greatL m with
    | true => exact twins_great room a1 n1 c1 l a2 n2 c2 m w h1 h2 (Or.inr e2)
    | false => exact twins_small room a1 n1 c1 l a2 n2 c2 m w h1 h2 e1 e2

end Go.Proofs.Ytefoijamedciiaa

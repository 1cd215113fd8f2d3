/- The walk of DiskKnown. -/
import Derived.Test.YtefoijamedciiaaGreatDoorDkList
import Derived.Test.YtefoijamedciiaaGreatDoorDkRm
import Derived.Test.YtefoijamedciiaaGreatDoorNnLaid
import Derived.Test.YtefoijamedciiaaGreatDoorDkP
import Derived.Test.YtefoijamedciiaaGreatDoorDkF
namespace Go.Proofs.YtefoijamedciiaaGreatDoor
open Go.RowKit Go.Maps
open Dk (Dir Chg Disk File Str)

def dk0 : Disk := Dk.fresh 10
def dk1 : Disk := (dk0.create [97]).2
def dk2 : Disk := (dk1.create [97]).2
def dk3 : Disk := (dk2.append [97] [49, 50, 51, 52, 53]).2
def dk4 : Disk := (dk3.append [98] [49]).2
def dk5 : Disk := (dk4.sync [97]).2
def dk6 : Disk := dk5.dirSync.2
def dk7 : Disk := dk6.light 2
def dk8 : Disk := (dk7.create [98]).2
def dk9 : Disk := (dk8.sync [98]).2
def dk10 : Disk := (dk9.create [99]).2
def dk11 : Disk := dk10.crash ⟨0, [], []⟩
def dk12 : Disk := dk11.start
theorem dkr0 : errV (dk1.create [97]).1 = .int .i64 5 := by kernel_rfl
theorem dkr1 : errV (dk3.append [98] [49]).1 = .int .i64 4 := by kernel_rfl
theorem dkr2 : errV (dk7.create [98]).1 = .int .i64 0 := by kernel_rfl
theorem dkr3 : (dk8.fuse : Int) = 1 := by kernel_rfl
theorem dkr4 : errV (dk8.sync [98]).1 = .int .i64 7 := by kernel_rfl
theorem dkr5 : errV (dk9.create [99]).1 = .int .i64 7 := by kernel_rfl
theorem dkr6 : errV (dk12.create [65]).1 = .int .i64 1 := by kernel_rfl
theorem dkr7 : (dk12.create [65]).2 = dk12 := by kernel_rfl
theorem dkr8 : errV (dk12.create []).1 = .int .i64 1 := by kernel_rfl
theorem dkr9 : (dk12.create []).2 = dk12 := by kernel_rfl
theorem dkr10 : errV (dk12.create [97, 98, 99, 100, 101, 102, 103, 104, 105, 106, 107, 108, 109, 110, 111, 112, 113, 114, 115, 116, 117, 118, 119, 120, 121]).1 = .int .i64 1 := by kernel_rfl
theorem dkr11 : (dk12.create [97, 98, 99, 100, 101, 102, 103, 104, 105, 106, 107, 108, 109, 110, 111, 112, 113, 114, 115, 116, 117, 118, 119, 120, 121]).2 = dk12 := by kernel_rfl
theorem dkr12 : errV (dk12.rename [97] [66]).1 = .int .i64 1 := by kernel_rfl
theorem dkr13 : (dk12.rename [97] [66]).2 = dk12 := by kernel_rfl
theorem dkr14 : dk12.now = [([97], 0)] := by kernel_rfl
theorem dkr15 : (Dk.fresh (-1)).room = 0 := by kernel_rfl
theorem dkr16 : (Dk.fresh 1048577).room = 1048576 := by kernel_rfl
theorem dkr17 : numV (Nn.num [108, 111, 103] [108, 111, 103, 46, 48, 48, 48, 48, 48, 48, 48, 55]) = .tuple #[.int .u64 7, .bool true] := by kernel_rfl
theorem dkr18 : numV (Nn.num [108, 111, 103] [108, 111, 103, 46, 55]) = .tuple #[.int .u64 0, .bool false] := by kernel_rfl
theorem dkr19 : numV (Nn.num [108, 111, 103] [108, 111, 103, 46, 48, 48, 48, 48, 48, 48, 48, 48, 55]) = .tuple #[.int .u64 0, .bool false] := by kernel_rfl
theorem dkr20 : (Nn.name [108, 111, 103] 7) = [108, 111, 103, 46, 48, 48, 48, 48, 48, 48, 48, 55] := by kernel_rfl
theorem dkr21 : (Nn.name [108, 111, 103] 123456789) = [108, 111, 103, 46, 49, 50, 51, 52, 53, 54, 55, 56, 57] := by kernel_rfl

theorem no_choices0 {w : World} {L : Lay} : Choices w L (.slice none 0 0) (.slice none 0 0) ⟨0, [], []⟩ :=
  ⟨Or.inl ⟨rfl, none, 0, rfl⟩, Or.inl ⟨rfl, none, 0, rfl⟩, fun h => absurd rfl h, fun h => absurd rfl h, fun h => absurd rfl h, fun h => absurd rfl h, by simp, by simp, fun q hq => by simp at hq⟩

set_option maxHeartbeats 8000000 in
set_option maxRecDepth 100000 in
theorem known_walk (w : World) (h : Numbers w) : Calls Tryz.prog 3 #[] w (Gives (.bool true) w) := by
  obtain ⟨htab, ⟨e0, v0, j0⟩, e1, v1, j1⟩ := h
  have b0 : (0 : Nat) < w.heap.size := World.block_lt_of_cell? _ _ v0
  have b1 : (1 : Nat) < w.heap.size := World.block_lt_of_cell? _ _ v1
  have HNum := Lib.hid (fun (wd s : ByteArray) (hw : wd.size ≤ 1000) (hs : s.size ≤ 1000) W (hb : Below w.heap.size w W) => number_any wd s W hw hs (fun W2 h2 => htab W2 (Below.next hb h2)) e0 e1 ((hb.cell (p := ⟨0, 0, none⟩) b0).trans v0) ((hb.cell (p := ⟨1, 0, none⟩) b1).trans v1) j0 j1)
  have HNam := Lib.hid (fun (wd : ByteArray) (n : Nat) (hw : wd.size ≤ 1000) (hn : n < 18446744073709551616) W (hb : Below w.heap.size w W) => name_any wd n W hw hn (htab W hb))
  have HA := Lib.hid awake_any
  clear htab v0 v1 j0 j1 b0 b1
  go_enter Tryz.func3, Tryz.ntmps3
  go_wp2_with fail
  refine (new_any _ _).mono ?_
  rintro e w0 ⟨L0, rfl, hh, hb, ho⟩
  have D0 : Hid (Disc w0 w.heap.size L0 dk0 0 0) := Lib.hid ⟨hh, Dk.good_fresh 10, ho, hb.size⟩
  have B0 := Lib.hid hb
  obtain ⟨d, hd⟩ : ∃ d, d = L0.d := ⟨_, rfl⟩
  rw [← hd]
  have HD0 : Hid (L0.d = d) := hd.symm
  clear hh hb ho hd
  have hc := create_any _ D0.out.holds (fits_of D0.out.good (by decide) (by decide)) ⟨#[97]⟩ (by decide)
  rw [HD0.out] at hc
  have HC := Lib.hid hc; clear hc
  go_wp2_with fail
  refine HC.out.mono ?_
  rintro e w1 ⟨rfl, hg⟩
  obtain ⟨L1, hld, hD, hB⟩ := D0.out.goes hg (n' := 1) (m' := 0) (D0.out.good.create [97])
  unfold errV
  have D1 : Hid (Disc w1 w.heap.size L1 dk1 1 0) := Lib.hid hD
  have HD1 : Hid (L1.d = d) := Lib.hid (hld.trans HD0.out)
  have B1 : Hid (Below w.heap.size w w1) := Lib.hid (B0.out.trans hB)
  clear hg hld hD hB HC D0 HD0 B0
  have hc := create_any _ D1.out.holds (fits_of D1.out.good (by decide) (by decide)) ⟨#[97]⟩ (by decide)
  rw [HD1.out] at hc
  have HC := Lib.hid hc; clear hc
  go_wp2_with fail
  refine HC.out.mono ?_
  rintro e w2 ⟨rfl, hg⟩
  obtain ⟨L2, hld, hD, hB⟩ := D1.out.goes hg (n' := 2) (m' := 0) (D1.out.good.create [97])
  rw [show (Ending.returned (errV _)) = _ from congrArg Ending.returned dkr0]
  have D2 : Hid (Disc w2 w.heap.size L2 dk2 2 0) := Lib.hid hD
  have HD2 : Hid (L2.d = d) := Lib.hid (hld.trans HD1.out)
  have B2 : Hid (Below w.heap.size w w2) := Lib.hid (B1.out.trans hB)
  clear hg hld hD hB HC D1 HD1 B1
  have hc := append_any _ D2.out.holds (fits_of D2.out.good (by decide) (by decide)) ⟨#[97]⟩ ⟨#[49, 50, 51, 52, 53]⟩ (by decide) (by decide)
  rw [HD2.out] at hc
  have HC := Lib.hid hc; clear hc
  go_wp2_with fail
  refine HC.out.mono ?_
  rintro e w3 ⟨rfl, hg⟩
  obtain ⟨L3, hld, hD, hB⟩ := D2.out.goes hg (n' := 3) (m' := 5) (D2.out.good.append [97] [49, 50, 51, 52, 53])
  unfold errV
  have D3 : Hid (Disc w3 w.heap.size L3 dk3 3 5) := Lib.hid hD
  have HD3 : Hid (L3.d = d) := Lib.hid (hld.trans HD2.out)
  have B3 : Hid (Below w.heap.size w w3) := Lib.hid (B2.out.trans hB)
  clear hg hld hD hB HC D2 HD2 B2
  have hc := append_any _ D3.out.holds (fits_of D3.out.good (by decide) (by decide)) ⟨#[98]⟩ ⟨#[49]⟩ (by decide) (by decide)
  rw [HD3.out] at hc
  have HC := Lib.hid hc; clear hc
  go_wp2_with fail
  refine HC.out.mono ?_
  rintro e w4 ⟨rfl, hg⟩
  obtain ⟨L4, hld, hD, hB⟩ := D3.out.goes hg (n' := 4) (m' := 6) (D3.out.good.append [98] [49])
  rw [show (Ending.returned (errV _)) = _ from congrArg Ending.returned dkr1]
  have D4 : Hid (Disc w4 w.heap.size L4 dk4 4 6) := Lib.hid hD
  have HD4 : Hid (L4.d = d) := Lib.hid (hld.trans HD3.out)
  have B4 : Hid (Below w.heap.size w w4) := Lib.hid (B3.out.trans hB)
  clear hg hld hD hB HC D3 HD3 B3
  have hc := sync_any _ D4.out.holds (fits_of D4.out.good (by decide) (by decide)) ⟨#[97]⟩ (by decide)
  rw [HD4.out] at hc
  have HC := Lib.hid hc; clear hc
  go_wp2_with fail
  refine HC.out.mono ?_
  rintro e w5 ⟨rfl, hg⟩
  obtain ⟨L5, hld, hD, hB⟩ := D4.out.goes hg (n' := 5) (m' := 6) (D4.out.good.sync [97])
  unfold errV
  have D5 : Hid (Disc w5 w.heap.size L5 dk5 5 6) := Lib.hid hD
  have HD5 : Hid (L5.d = d) := Lib.hid (hld.trans HD4.out)
  have B5 : Hid (Below w.heap.size w w5) := Lib.hid (B4.out.trans hB)
  clear hg hld hD hB HC D4 HD4 B4
  have hc := dirSync_any _ D5.out.holds (fits_of D5.out.good (by decide) (by decide)) D5.out.good.cans (sizes_of D5.out.good)
  rw [HD5.out] at hc
  have HC := Lib.hid hc; clear hc
  go_wp2_with fail
  refine HC.out.mono ?_
  rintro e w6 ⟨rfl, hg⟩
  obtain ⟨L6, hld, hD, hB⟩ := D5.out.goes hg (n' := 6) (m' := 6) (D5.out.good.dirSync)
  unfold errV
  have D6 : Hid (Disc w6 w.heap.size L6 dk6 6 6) := Lib.hid hD
  have HD6 : Hid (L6.d = d) := Lib.hid (hld.trans HD5.out)
  have B6 : Hid (Below w.heap.size w w6) := Lib.hid (B5.out.trans hB)
  clear hg hld hD hB HC D5 HD5 B5
  have hc := fuse_any _ D6.out.holds 2
  rw [HD6.out] at hc
  have HC := Lib.hid hc; clear hc
  go_wp2_with fail
  refine HC.out.mono ?_
  rintro e w7 ⟨rfl, hg⟩
  obtain ⟨L7, hld, hD, hB⟩ := D6.out.goes hg (n' := 6) (m' := 6) (D6.out.good.light 2 (by decide))
  have D7 : Hid (Disc w7 w.heap.size L7 dk7 6 6) := Lib.hid hD
  have HD7 : Hid (L7.d = d) := Lib.hid (hld.trans HD6.out)
  have B7 : Hid (Below w.heap.size w w7) := Lib.hid (B6.out.trans hB)
  clear hg hld hD hB HC D6 HD6 B6
  have hc := create_any _ D7.out.holds (fits_of D7.out.good (by decide) (by decide)) ⟨#[98]⟩ (by decide)
  rw [HD7.out] at hc
  have HC := Lib.hid hc; clear hc
  go_wp2_with fail
  refine HC.out.mono ?_
  rintro e w8 ⟨rfl, hg⟩
  obtain ⟨L8, hld, hD, hB⟩ := D7.out.goes hg (n' := 7) (m' := 6) (D7.out.good.create [98])
  rw [show (Ending.returned (errV _)) = _ from congrArg Ending.returned dkr2]
  have D8 : Hid (Disc w8 w.heap.size L8 dk8 7 6) := Lib.hid hD
  have HD8 : Hid (L8.d = d) := Lib.hid (hld.trans HD7.out)
  have B8 : Hid (Below w.heap.size w w8) := Lib.hid (B7.out.trans hB)
  clear hg hld hD hB HC D7 HD7 B7
  have hc := fused_any _ D8.out.holds
  rw [HD8.out, dkr3] at hc
  have HC := Lib.hid hc; clear hc
  go_wp2_with fail
  refine HC.out.mono ?_
  rintro e wz ⟨rfl, rfl⟩
  clear HC
  have hc := sync_any _ D8.out.holds (fits_of D8.out.good (by decide) (by decide)) ⟨#[98]⟩ (by decide)
  rw [HD8.out] at hc
  have HC := Lib.hid hc; clear hc
  go_wp2_with fail
  refine HC.out.mono ?_
  rintro e w9 ⟨rfl, hg⟩
  obtain ⟨L9, hld, hD, hB⟩ := D8.out.goes hg (n' := 8) (m' := 6) (D8.out.good.sync [98])
  rw [show (Ending.returned (errV _)) = _ from congrArg Ending.returned dkr4]
  have D9 : Hid (Disc w9 w.heap.size L9 dk9 8 6) := Lib.hid hD
  have HD9 : Hid (L9.d = d) := Lib.hid (hld.trans HD8.out)
  have B9 : Hid (Below w.heap.size w w9) := Lib.hid (B8.out.trans hB)
  clear hg hld hD hB HC D8 HD8 B8
  have hc := create_any _ D9.out.holds (fits_of D9.out.good (by decide) (by decide)) ⟨#[99]⟩ (by decide)
  rw [HD9.out] at hc
  have HC := Lib.hid hc; clear hc
  go_wp2_with fail
  refine HC.out.mono ?_
  rintro e w10 ⟨rfl, hg⟩
  obtain ⟨L10, hld, hD, hB⟩ := D9.out.goes hg (n' := 9) (m' := 6) (D9.out.good.create [99])
  rw [show (Ending.returned (errV _)) = _ from congrArg Ending.returned dkr5]
  have D10 : Hid (Disc w10 w.heap.size L10 dk10 9 6) := Lib.hid hD
  have HD10 : Hid (L10.d = d) := Lib.hid (hld.trans HD9.out)
  have B10 : Hid (Below w.heap.size w w10) := Lib.hid (B9.out.trans hB)
  clear hg hld hD hB HC D9 HD9 B9
  have hc := crash_any _ D10.out.holds (fits_of D10.out.good (by decide) (by decide)) D10.out.good.cans (sizes_of D10.out.good) (.slice none 0 0) (.slice none 0 0) ⟨0, [], []⟩ no_choices0 (crash_fits D10.out.good (by decide) (by decide) 0).1 (crash_fits D10.out.good (by decide) (by decide) 0).2
  rw [HD10.out] at hc
  have HC := Lib.hid hc; clear hc
  go_wp2_with fail
  refine HC.out.mono ?_
  rintro e w11 ⟨rfl, hg⟩
  obtain ⟨L11, hld, hD, hB⟩ := D10.out.goes hg (n' := 10) (m' := 6) (D10.out.good.crash _)
  have D11 : Hid (Disc w11 w.heap.size L11 dk11 10 6) := Lib.hid hD
  have HD11 : Hid (L11.d = d) := Lib.hid (hld.trans HD10.out)
  have B11 : Hid (Below w.heap.size w w11) := Lib.hid (B10.out.trans hB)
  clear hg hld hD hB HC D10 HD10 B10
  have hc := start_any _ D11.out.holds
  rw [HD11.out] at hc
  have HC := Lib.hid hc; clear hc
  go_wp2_with fail
  refine HC.out.mono ?_
  rintro e w12 ⟨rfl, hg⟩
  obtain ⟨L12, hld, hD, hB⟩ := D11.out.goes hg (n' := 10) (m' := 6) (D11.out.good.start)
  have D12 : Hid (Disc w12 w.heap.size L12 dk12 10 6) := Lib.hid hD
  have HD12 : Hid (L12.d = d) := Lib.hid (hld.trans HD11.out)
  have B12 : Hid (Below w.heap.size w w12) := Lib.hid (B11.out.trans hB)
  clear hg hld hD hB HC D11 HD11 B11
  have hli := list_any w12 D12.out.holds (fits_of D12.out.good (by decide) (by decide)) (by rw [dkr14]; intro p hp; simp at hp; subst hp; decide)
  rw [HD12.out, dkr14] at hli
  have HLI := Lib.hid hli; clear hli
  go_wp2_with fail
  refine HLI.out.mono ?_
  rintro e y0 ⟨v, rfl, hrow, hb⟩
  obtain ⟨na, nc, rfl⟩ := row_shape hrow
  have E0 := Lib.hid (D12.out.below hb)
  have C0 := Lib.hid (Below.next B12.out hb)
  have ROW := Lib.hid hrow
  clear hrow hb HLI D12 B12
  have hc := HNum.out ⟨#[108, 111, 103]⟩ ⟨#[108, 111, 103, 46, 48, 48, 48, 48, 48, 48, 48, 55]⟩ (by decide) (by decide) y0 C0.out
  rw [dkr17] at hc
  have HC := Lib.hid hc; clear hc
  go_wp2_with fail
  refine HC.out.mono ?_
  rintro e y1 ⟨rfl, hb1⟩
  have E1 := Lib.hid (E0.out.below hb1)
  have C1 := Lib.hid (Below.next C0.out hb1)
  have ROW1 := Lib.hid (ownsRow_frame ROW.out fun b hb => hb1.block b (ownsRow_lt ROW.out hb))
  clear hb1 HC E0 C0 ROW
  have hc := HNum.out ⟨#[108, 111, 103]⟩ ⟨#[108, 111, 103, 46, 55]⟩ (by decide) (by decide) y1 C1.out
  rw [dkr18] at hc
  have HC := Lib.hid hc; clear hc
  go_wp2_with fail
  refine HC.out.mono ?_
  rintro e y2 ⟨rfl, hb2⟩
  have E2 := Lib.hid (E1.out.below hb2)
  have C2 := Lib.hid (Below.next C1.out hb2)
  have ROW2 := Lib.hid (ownsRow_frame ROW1.out fun b hb => hb2.block b (ownsRow_lt ROW1.out hb))
  clear hb2 HC E1 C1 ROW1
  have hc := HNum.out ⟨#[108, 111, 103]⟩ ⟨#[108, 111, 103, 46, 48, 48, 48, 48, 48, 48, 48, 48, 55]⟩ (by decide) (by decide) y2 C2.out
  rw [dkr19] at hc
  have HC := Lib.hid hc; clear hc
  go_wp2_with fail
  refine HC.out.mono ?_
  rintro e y3 ⟨rfl, hb3⟩
  have E3 := Lib.hid (E2.out.below hb3)
  have C3 := Lib.hid (Below.next C2.out hb3)
  have ROW3 := Lib.hid (ownsRow_frame ROW2.out fun b hb => hb3.block b (ownsRow_lt ROW2.out hb))
  clear hb3 HC E2 C2 ROW2
  have RD := row_at ROW3.out (k := 0) (v := .string ⟨#[97]⟩) rfl (by decide)
  obtain ⟨g, hgx, e0⟩ := RD
  subst hgx
  go_wp2_with fail
  clear ROW3 e0
  refine (new_any _ _).mono ?_
  rintro e y4 ⟨M, rfl, hh, hb, ho⟩
  have E4 := Lib.hid (E3.out.below hb)
  have C4 := Lib.hid (Below.next C3.out hb)
  have hc := room_any _ hh
  obtain ⟨pm, hpm⟩ : ∃ pm, pm = M.d := ⟨_, rfl⟩
  rw [← hpm, dkr15] at hc
  rw [← hpm]
  have HC := Lib.hid hc
  clear hc hpm hh hb ho E3 C3 M
  go_wp2_with fail
  refine HC.out.mono ?_
  rintro e yz ⟨rfl, rfl⟩
  clear HC
  go_wp2_with fail
  refine (new_any _ _).mono ?_
  rintro e y5 ⟨M, rfl, hh, hb, ho⟩
  have E5 := Lib.hid (E4.out.below hb)
  have C5 := Lib.hid (Below.next C4.out hb)
  have hc := room_any _ hh
  obtain ⟨pm, hpm⟩ : ∃ pm, pm = M.d := ⟨_, rfl⟩
  rw [← hpm, dkr16] at hc
  rw [← hpm]
  have HC := Lib.hid hc
  clear hc hpm hh hb ho E4 C4 M
  go_wp2_with fail
  refine HC.out.mono ?_
  rintro e yz ⟨rfl, rfl⟩
  clear HC
  go_wp2_with fail
  have hc := create_any _ E5.out.holds (fits_of E5.out.good (by decide) (by decide)) ⟨#[65]⟩ (by decide)
  rw [HD12.out] at hc
  have HC := Lib.hid hc; clear hc
  refine HC.out.mono ?_
  rintro e y6 ⟨rfl, hg⟩
  rw [show (Ending.returned (errV _)) = _ from congrArg Ending.returned dkr6]
  replace hg := (show (dk12.create [65]).2 = dk12 from dkr7) ▸ hg
  obtain ⟨N0, hld, hD, hB⟩ := E5.out.goes hg E5.out.good
  have E6 := Lib.hid hD
  have HE0 : Hid (N0.d = d) := Lib.hid (hld.trans HD12.out)
  have C6 := Lib.hid (C5.out.trans hB)
  clear hg hld hD hB HC HD12 E5 C5
  have hc := create_any _ E6.out.holds (fits_of E6.out.good (by decide) (by decide)) ⟨#[]⟩ (by decide)
  rw [HE0.out] at hc
  have HC := Lib.hid hc; clear hc
  go_wp2_with fail
  refine HC.out.mono ?_
  rintro e y7 ⟨rfl, hg⟩
  rw [show (Ending.returned (errV _)) = _ from congrArg Ending.returned dkr8]
  replace hg := (show (dk12.create []).2 = dk12 from dkr9) ▸ hg
  obtain ⟨N1, hld, hD, hB⟩ := E6.out.goes hg E6.out.good
  have E7 := Lib.hid hD
  have HE1 : Hid (N1.d = d) := Lib.hid (hld.trans HE0.out)
  have C7 := Lib.hid (C6.out.trans hB)
  clear hg hld hD hB HC HE0 E6 C6
  have hc := create_any _ E7.out.holds (fits_of E7.out.good (by decide) (by decide)) ⟨#[97, 98, 99, 100, 101, 102, 103, 104, 105, 106, 107, 108, 109, 110, 111, 112, 113, 114, 115, 116, 117, 118, 119, 120, 121]⟩ (by decide)
  rw [HE1.out] at hc
  have HC := Lib.hid hc; clear hc
  go_wp2_with fail
  refine HC.out.mono ?_
  rintro e y8 ⟨rfl, hg⟩
  rw [show (Ending.returned (errV _)) = _ from congrArg Ending.returned dkr10]
  replace hg := (show (dk12.create [97, 98, 99, 100, 101, 102, 103, 104, 105, 106, 107, 108, 109, 110, 111, 112, 113, 114, 115, 116, 117, 118, 119, 120, 121]).2 = dk12 from dkr11) ▸ hg
  obtain ⟨N2, hld, hD, hB⟩ := E7.out.goes hg E7.out.good
  have E8 := Lib.hid hD
  have HE2 : Hid (N2.d = d) := Lib.hid (hld.trans HE1.out)
  have C8 := Lib.hid (C7.out.trans hB)
  clear hg hld hD hB HC HE1 E7 C7
  have hc := rename_any _ E8.out.holds (fits_of E8.out.good (by decide) (by decide)) (fun p hp => (E8.out.good.nowNames p hp).1) ⟨#[97]⟩ ⟨#[66]⟩ (by decide) (by decide)
  rw [HE2.out] at hc
  have HC := Lib.hid hc; clear hc
  go_wp2_with fail
  refine HC.out.mono ?_
  rintro e y9 ⟨rfl, hg⟩
  rw [show (Ending.returned (errV _)) = _ from congrArg Ending.returned dkr12]
  replace hg := (show (dk12.rename [97] [66]).2 = dk12 from dkr13) ▸ hg
  obtain ⟨N3, hld, hD, hB⟩ := E8.out.goes hg E8.out.good
  have E9 := Lib.hid hD
  have HE3 : Hid (N3.d = d) := Lib.hid (hld.trans HE2.out)
  have C9 := Lib.hid (C8.out.trans hB)
  clear hg hld hD hB HC HE2 E8 C8
  go_wp2_with fail
  have hc := HNam.out ⟨#[108, 111, 103]⟩ 7 (by decide) (by decide) _ C9.out
  rw [show (Nn.name _ _) = _ from dkr20] at hc
  have HC := Lib.hid hc; clear hc
  refine HC.out.mono ?_
  rintro e y10 ⟨rfl, hb⟩
  have C10 := Lib.hid (Below.next C9.out hb)
  clear hb HC C9
  go_wp2_with fail
  have hc := HNam.out ⟨#[108, 111, 103]⟩ 123456789 (by decide) (by decide) _ C10.out
  rw [show (Nn.name _ _) = _ from dkr21] at hc
  have HC := Lib.hid hc; clear hc
  refine HC.out.mono ?_
  rintro e y11 ⟨rfl, hb⟩
  have C11 := Lib.hid (Below.next C10.out hb)
  clear hb HC C10
  go_wp2_with fail
  refine (HA.out _).mono ?_
  rintro e y12 ⟨rfl, hb⟩
  have C12 := Lib.hid (Below.next C11.out hb)
  clear hb
  go_wp2_with fail
  go_ret
  exact ⟨rfl, C12.out⟩

end Go.Proofs.YtefoijamedciiaaGreatDoor

/- The walk of law 11's awake. -/
import Derived.Test.YtjpmcphfiiiecaaBoJ
import Derived.BigQuiet
namespace Go.Proofs.Ytjpmcphfiiiecaa.Bo
open Go Go.RowKit
set_option linter.unusedVariables false

def e1 : En := ⟨⟨#[97, 98]⟩, ⟨#[49]⟩⟩
def e2 : En := ⟨⟨#[97, 99]⟩, ⟨#[]⟩⟩
def smallB : ByteArray := ⟨#[0, 2, 97, 98, 1, 49, 1, 1, 99, 0, 0, 0, 0, 0, 0, 0, 0, 2]⟩
theorem err1 : err st0 e1 = 0 := by decide
theorem err2 : err (step st0 e1) e2 = 0 := by decide
theorem fin2 : fin (step (step st0 e1) e2) = smallB.data.toList := by decide
theorem good2 : goodb st0 [e1, e2] = true := by decide
theorem bytes2 : bytes [e1, e2] = smallB.data.toList := fin2
theorem open2 : opn smallB.data.toList = some [e1, e2] := by rw [← bytes2]; exact opn_bytes _ good2 (by decide)
theorem seek2a : seekN [e1, e2] ⟨#[97, 98]⟩ = 0 := by decide
theorem seek2b : seekN [e1, e2] ⟨#[97, 98, 99]⟩ = 1 := by decide
theorem seek2c : seekN [e1, e2] ⟨#[98]⟩ = 2 := by decide

set_option maxHeartbeats 4000000 in
set_option maxRecDepth 100000 in
theorem awake_any (w : World) : Calls Try.prog 17 #[] w (Gives (.bool true) w) := by
  have HNB := Lib.hid (new_built w)
  go_enter Try.func17, Try.ntmps17
  go_wp2_with fail
  have HA := Lib.hid (add_any HNB.out sound0 (by decide) ⟨#[97, 98]⟩ ⟨#[49]⟩)
  rw [show (⟨⟨#[97, 98]⟩, ⟨#[49]⟩⟩ : En) = e1 from rfl, err1, show after st0 e1 = step st0 e1 by unfold after; rw [if_pos err1]] at HA
  refine HA.out.mono ?_
  rintro e w1 ⟨rfl, hg1⟩
  have HB1 := Lib.hid (((Below.refl w.heap.size w).alloc (Nat.le_refl _) _).trans (GoesB.to_below HNB.out hg1))
  obtain ⟨L1, hL1, hb1, -, -⟩ := hg1
  have HA2 := Lib.hid (add_any hb1 (sound0.step err1) (by decide) ⟨#[97, 99]⟩ ⟨#[]⟩)
  rw [show (⟨⟨#[97, 99]⟩, ⟨#[]⟩⟩ : En) = e2 from rfl, err2, show after (step st0 e1) e2 = step (step st0 e1) e2 by unfold after; rw [if_pos err2], hL1] at HA2
  have HBT := Lib.hid hb1
  clear hb1 HA
  go_wp2_with fail
  refine HA2.out.mono ?_
  rintro e w2 ⟨rfl, hg2⟩
  have HB2 := Lib.hid (HB1.out.trans (GoesB.to_below HBT.out hg2))
  obtain ⟨L2, hL2, hb2, -, -⟩ := hg2
  rw [hL1] at hL2
  have hso := ((sound0.step err1).step err2)
  have HSZ := Lib.hid (size_any hb2 (by decide) (by decide))
  rw [fin2, hL2] at HSZ
  have HBT2 := Lib.hid hb2
  clear hb2 HA2 HB1 HBT
  go_wp2_with fail
  refine HSZ.out.mono ?_
  rintro e w3 ⟨rfl, hb3⟩
  have HBT3 := Lib.hid (HBT2.out.below hb3)
  have HB3 := Lib.hid (HB2.out.trans (hb3.mono HB2.out.size))
  have HFI := Lib.hid (finish_any HBT3.out (by decide) (by decide) (by decide))
  rw [fin2, hL2] at HFI
  clear hb3 HBT2 HB2 HSZ
  go_wp2_with fail
  refine HFI.out.mono ?_
  rintro e w4 ⟨rfl, hg4⟩
  have HB4 := Lib.hid (HB3.out.trans (GoesB.to_below HBT3.out hg4))
  obtain ⟨L4, hL4, hb4, -, -⟩ := hg4
  rw [hL2] at hL4
  have HBT4 := Lib.hid hb4
  clear hb4 HBT3 HB3 HFI
  have HOP := Lib.hid (open_any smallB w4 (by decide))
  rw [open2] at HOP
  rw [show (⟨smallB.data.toList.toArray⟩ : ByteArray) = smallB from rfl]
  go_wp2_with fail
  refine HOP.out.mono ?_
  rintro e w5 ⟨hb5, p, v, rs, rfl, hblk, hrs, hp⟩
  have HB5 := Lib.hid (HB4.out.trans (hb5.mono HB4.out.size))
  have HBT5 := Lib.hid (HBT4.out.below hb5)
  have HBK := Lib.hid hblk
  have HAT := Lib.hid (at_any hblk 1 (fun x hx => by
    have := List.mem_map_of_mem (f := Prod.snd) hx
    rw [hrs] at this
    rcases List.mem_cons.1 this with h | h
    · rw [h]; decide
    · rw [List.mem_singleton.1 h]; decide))
  rw [hrs] at HAT
  have HRS := Lib.hid hrs
  have HLN : Hid (rs.length = 2) := Lib.hid (by rw [← List.length_map (f := Prod.snd), hrs]; rfl)
  have hsn : smallB = ⟨#[0, 2, 97, 98, 1, 49, 1, 1, 99, 0, 0, 0, 0, 0, 0, 0, 0, 2]⟩ := rfl
  rw [hsn]
  clear hb5 hblk hrs hp HOP HBT4 HB4
  go_wp2_with fail
  refine HAT.out.mono ?_
  rintro e w6 ⟨rfl, hb6⟩
  rw [show atV [e1, e2] 1 = .tuple #[.string ⟨#[97, 99]⟩, .string ⟨#[]⟩, .bool true] from rfl]
  have HB6 := Lib.hid (HB5.out.trans (hb6.mono HB5.out.size))
  have HBT6 := Lib.hid (HBT5.out.below hb6)
  have HBK6 := Lib.hid (HBK.out.below hb6)
  clear hb6 HAT HB5 HBT5 HBK
  have HCN := Lib.hid (count_any HBT6.out)
  rw [hL4] at HCN
  go_wp2_with fail
  refine HCN.out.mono ?_
  rintro e w7 ⟨rfl, rfl⟩
  rw [show ((st0.n : Nat) : Int) = 0 from rfl]
  have HLEN := Lib.hid (len_any HBK6.out)
  rw [HLN.out] at HLEN
  have hasc : Asc (rs.map Prod.snd) := by rw [HRS.out]; exact (good_asc _ _ good2).2
  have HSK := Lib.hid (fun W (hb : Below w7.heap.size w7 W) key => seek_any (HBK6.out.below hb) key (by rw [HLN.out]; decide) hasc)
  rw [HRS.out] at HSK
  clear hasc HCN
  go_wp2_with fail
  refine HLEN.out.mono ?_
  rintro e w8 ⟨rfl, rfl⟩
  have HS1 := Lib.hid (HSK.out w7 (Below.refl _ _) ⟨#[97, 98]⟩)
  rw [seek2a] at HS1
  go_wp2_with fail
  refine HS1.out.mono ?_
  rintro e w8 ⟨rfl, hb8⟩
  have HB8 := Lib.hid hb8
  have HS2 := Lib.hid (HSK.out w8 hb8 ⟨#[97, 98, 99]⟩)
  rw [seek2b] at HS2
  clear hb8 HS1
  go_wp2_with fail
  refine HS2.out.mono ?_
  rintro e w9 ⟨rfl, hb9⟩
  have HB9 := Lib.hid (Below.next HB8.out hb9)
  have HS3 := Lib.hid (HSK.out w9 HB9.out ⟨#[98]⟩)
  rw [seek2c] at HS3
  clear hb9 HS2
  go_wp2_with fail
  refine HS3.out.mono ?_
  rintro e w10 ⟨rfl, hb10⟩
  have HB10 := Lib.hid (Below.next HB9.out hb10)
  clear hb10 HS3
  go_wp2_with fail
  go_ret
  exact ⟨rfl, HB6.out.trans (HB10.out.mono HB6.out.size)⟩
end Go.Proofs.Ytjpmcphfiiiecaa.Bo

/- The walk of CellSums. -/
import Derived.Test.YtclgjphegaoohaaDoorCellF
import Derived.Test.YtclgjphegaoohaaDoorCellR
namespace Go.Proofs.YtclgjphegaoohaaDoor
open Go.RowKit

set_option maxHeartbeats 1000000 in
theorem sums_walk (ao : Option Addr) (len cap : Nat) (ss : List ByteArray) (w : World) (hT : Tab w) (hV : SeesS w (.slice ao len cap) ss) (hl : ss.length = len) (hz : ∀ s ∈ ss, s.size ≤ 9223372036854775807) :
    Calls Tryd.prog 4 #[.slice ao len cap] w (Gives (.bool true) w) := by
  have HA := Lib.hid (awake_any w hT)
  by_cases h30 : 30 < len
  · clear hV hl hz hT
    go_enter Tryd.func4, Tryd.ntmps4
    go_wp2_with fail
    refine HA.out.mono ?_
    rintro e w1 ⟨rfl, hb⟩
    go_wp2_with fail
    go_ret
    exact ⟨rfl, hb⟩
  · obtain ⟨_, b, off, hcell⟩ := hV.get
    have HV := Lib.hid hV; clear hV
    have HC := Lib.hid hcell; clear hcell
    have HZ := Lib.hid hz; clear hz
    have HT := Lib.hid hT; clear hT
    have HLEN := Lib.hid hl; clear hl
    go_enter Tryd.func4, Tryd.ntmps4
    go_wp2_with fail
    go_loop [3, 4] (fun t i => ∃ (k : Nat) (S : ByteArray), k ≤ len ∧ i = .int .i64 k ∧ t = .string S ∧ S.size ≤ 6000 ∧ Hid (S.data.toList = catl (ss.take k))) (fun _ i => len - (intOf i).toNat)
    case atStart => exact ⟨0, ⟨#[]⟩, Nat.zero_le _, rfl, rfl, by decide, rfl⟩
    case round =>
      obtain ⟨k, S, hk, rfl, rfl, hS, HS⟩ := hrel
      by_cases hlt : k < len
      · obtain ⟨ha, hb, hc⟩ := HC.out k hlt
        subst ha
        have HN : Hid ((S ++ ss.getD k ByteArray.empty : ByteArray).data.toList = catl (ss.take (k + 1))) := by
          have hk' : k < ss.length := by have := HLEN.out; omega
          rw [catl_snoc ss k hk', ByteArray.data_append, Array.toList_append, HS.out]; exact Lib.hid rfl
        generalize ss.getD k ByteArray.empty = s at *
        by_cases h1 : 3000 < s.size
        · go_wp2_with fail
          refine HA.out.mono ?_
          rintro e w1 ⟨rfl, hb1⟩
          go_wp2_with fail
          go_ret
          exact ⟨rfl, hb1⟩
        · by_cases h2 : 3000 < S.size
          · go_wp2_with fail
            refine HA.out.mono ?_
            rintro e w1 ⟨rfl, hb1⟩
            go_wp2_with fail
            go_ret
            exact ⟨rfl, hb1⟩
          · have hadd : ¬ 9223372036854775807 < S.size + s.size := by omega
            go_wp2_with fail
            go_round
            case rel => exact ⟨k + 1, _, by omega, by go_num, rfl, by rw [ByteArray.size_append]; omega, HN⟩
            case measure => simp [intOf]; omega
      · have HE : Hid (S.data.toList = catl ss) := by
          have e := HS.out
          rw [List.take_of_length_le (by have := HLEN.out; omega)] at e
          exact Lib.hid e
        by_cases h2 : 3000 < S.size
        · go_wp2_with fail
          refine HA.out.mono ?_
          rintro e w1 ⟨rfl, hb1⟩
          go_wp2_with fail
          go_ret
          exact ⟨rfl, hb1⟩
        · go_wp2_with fail
          refine (crc_any _ _ _ ss _ HV.out HT.out HZ.out (by omega)).mono ?_
          rintro e w1 ⟨rfl, rfl⟩
          have hq := Cr.crc_lt (catl ss)
          obtain ⟨Q, hQ⟩ : ∃ Q, Q = Cr.crc (catl ss) := ⟨_, rfl⟩
          rw [← hQ]
          have HQ : Hid (Cr.crc S.data.toList = Q) := by rw [HE.out, hQ]; exact Lib.hid rfl
          clear hQ hq
          go_wp2_with fail
          refine (refCrc_any S _ (by omega)).mono ?_
          rintro e w1 ⟨rfl, rfl⟩
          rw [HQ.out]
          go_wp2_with fail
          refine HA.out.mono ?_
          rintro e w1 ⟨rfl, hb1⟩
          go_wp2_with fail
          go_ret
          exact ⟨rfl, hb1⟩

end Go.Proofs.YtclgjphegaoohaaDoor

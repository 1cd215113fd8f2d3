/- The walk of FrameWrites. -/
import Derived.Test.YtalmkgjinabceaaDoorFrE
import Derived.Test.YtalmkgjinabceaaDoorFrR
namespace Go.Proofs.YtalmkgjinabceaaDoor
open Go.RowKit

theorem wrV_shape (ss : List ByteArray) : ∃ (S : ByteArray) (n : Int), wrV ss = .tuple #[.string S, .int .i64 n] := by
  unfold wrV
  split
  · exact ⟨_, 0, rfl⟩
  · exact ⟨_, 3, rfl⟩

set_option maxRecDepth 100000 in
set_option maxHeartbeats 4000000 in
theorem writes_walk (a0 : Option Addr) (n0 c0 : Nat) (l0 : List ByteArray) (w : World) (hT : Tab w) (hV0 : SeesS w (.slice a0 n0 c0) l0) (hn0 : l0.length = n0) (hz0 : ∀ s ∈ l0, s.size ≤ 9223372036854775807) :
    Calls Tryd.prog 5 #[.slice a0 n0 c0] w (Gives (.bool true) w) := by
  have HT := Lib.hid hT; have HS0 := Lib.hid hV0; have HN0 := Lib.hid hn0; have HZ0 := Lib.hid hz0
  clear hT hV0 hn0 hz0
  obtain ⟨S, n, hWV⟩ := wrV_shape l0
  have HWV := Lib.hid hWV; clear hWV
  go_enter Tryd.func5, Tryd.ntmps5
  go_wp2_with fail
  refine (great_any _ _ _ l0 _ HS0.out HZ0.out).mono ?_
  rintro e w' ⟨g, rfl, rfl, hg⟩
  cases g with
  | true =>
    go_wp2_with fail
    refine (awake_any _ HT.out).mono ?_
    rintro e w1 ⟨rfl, hb1⟩
    have HB1 := Lib.hid hb1; clear hb1
    go_wp2_with fail
    go_ret
    exact ⟨rfl, HB1.out⟩
  | false =>
    have HG0 := Lib.hid (hg rfl); clear hg
    have HLN : Hid (n0 ≤ 1000000) := Lib.hid (by have := HN0.out; have := HG0.out.1; omega)
    go_wp2_with fail
    refine (write_any a0 n0 c0 l0 w HS0.out HT.out HZ0.out HLN.out).mono ?_
    rintro e w1 ⟨rfl, hb1⟩
    rw [HWV.out]
    have HB1 := Lib.hid hb1; clear hb1
    go_wp2_with fail
    refine (refWrite_any a0 n0 c0 l0 w1 (HS0.out.below HB1.out) HZ0.out HLN.out).mono ?_
    rintro e w2 ⟨rfl, hb2⟩
    rw [HWV.out]
    have HB2 := Lib.hid (Below.next HB1.out hb2); clear hb2 HB1
    go_wp2_with fail
    refine (awake_any _ (HT.out.below HB2.out)).mono ?_
    rintro e w3 ⟨rfl, hb3⟩
    have HB3 := Lib.hid (Below.next HB2.out hb3); clear hb3 HB2
    go_wp2_with fail
    go_ret
    exact ⟨rfl, HB3.out⟩

end Go.Proofs.YtalmkgjinabceaaDoor

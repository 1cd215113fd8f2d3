/- MemAny: small puts and texts, or not. -/
import Derived.Test.YthopadoabdiooaaMemAny
namespace Go.Proofs.Ythopadoabdiooaa.Mm
open Go Go.RowKit Go.Proofs.Ythopadoabdiooaa.Sk Go.Proofs.Ythopadoabdiooaa.Sm
set_option linter.unusedVariables false
set_option linter.unusedSimpArgs false
set_option maxHeartbeats 4000000 in
set_option maxRecDepth 100000 in
theorem any_great {ao : Option Addr} {n cap : Nat} {l : List Pu} (K F T : ByteArray) (q : Nat) (hi : Int) (w : World) (h : SeesQ w (.slice ao n cap) l) (hl : ¬ (SmallQ l ∧ K.size ≤ 20000 ∧ F.size ≤ 20000 ∧ T.size ≤ 20000)) :
    Calls Try.prog 6 #[.slice ao n cap, .string K, .string F, .string T, .int .u64 (q : Int), .int .i64 hi] w fun e w' => e = .returned (.bool true) ∧ Below w.heap.size w w' := by
  have HG := Lib.hid (great_any w h)
  have HAW := Lib.hid awake_any
  have HL := Lib.hid hl
  clear h hl
  go_enter Try.func6, Try.ntmps6
  go_wp2_with fail
  refine HG.out.mono ?_
  rintro e w1 ⟨gb, rfl, hb1, hgr⟩
  have B1 := Lib.hid hb1
  have HGR := Lib.hid hgr
  clear hb1 hgr
  cases gb with
  | true =>
    go_wp2_with fail
    refine (HAW.out _).mono ?_
    rintro e w2 ⟨rfl, hb2⟩
    have B2 := Lib.hid (Below.next B1.out hb2)
    clear hb2
    go_wp2_with fail
    go_ret
    exact ⟨rfl, B2.out⟩
  | false =>
    have key : 20000 < (K.size : Int) ∨ (K.size : Int) ≤ 20000 ∧ 20000 < (F.size : Int) ∨ (K.size : Int) ≤ 20000 ∧ (F.size : Int) ≤ 20000 ∧ 20000 < (T.size : Int) := by
      have h1 := HL.out
      have h2 := HGR.out rfl
      by_cases hk : K.size ≤ 20000
      · by_cases hf : F.size ≤ 20000
        · by_cases ht : T.size ≤ 20000
          · exact absurd ⟨h2, hk, hf, ht⟩ h1
          · omega
        · omega
      · omega
    rcases key with hk | ⟨hk, hf⟩ | ⟨hk, hf, ht⟩
    all_goals
      go_wp2_with fail
      refine (HAW.out _).mono ?_
      rintro e w2 ⟨rfl, hb2⟩
      have B2 := Lib.hid (Below.next B1.out hb2)
      clear hb2
      go_wp2_with fail
      go_ret
      exact ⟨rfl, B2.out⟩
theorem any_walk (ao : Option Addr) (n cap : Nat) (l : List Pu) (K F T : ByteArray) (q hi : Int) (w : World) (h : SeesQ w (.slice ao n cap) l) (_ : K.size ≤ 9223372036854775807) (_ : F.size ≤ 9223372036854775807) (_ : T.size ≤ 9223372036854775807) (hq : 0 ≤ q ∧ q ≤ 18446744073709551615) (_ : -9223372036854775808 ≤ hi ∧ hi ≤ 9223372036854775807) :
    Calls Try.prog 6 #[.slice ao n cap, .string K, .string F, .string T, .int .u64 q, .int .i64 hi] w fun e w' => e = .returned (.bool true) ∧ Below w.heap.size w w' := by
  obtain ⟨q, rfl⟩ := Int.eq_ofNat_of_zero_le hq.1
  by_cases hs : SmallQ l ∧ K.size ≤ 20000 ∧ F.size ≤ 20000 ∧ T.size ≤ 20000
  · exact any_small K F T q hi w h hs.1 hs.2.1 hs.2.2.1 hs.2.2.2 (by omega)
  · exact any_great K F T q hi w h hs
end Go.Proofs.Ythopadoabdiooaa.Mm

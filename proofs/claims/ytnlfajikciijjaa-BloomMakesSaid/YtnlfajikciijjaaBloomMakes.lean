/- The walk of BloomMakes. -/
import Derived.Test.YtnlfajikciijjaaBlT
namespace Go.Proofs.Ytnlfajikciijjaa
open Go.RowKit

set_option maxHeartbeats 2000000 in
theorem makes_walk (a0 : Option Addr) (len0 cap0 : Nat) (l0 : List ByteArray) (W : World) (s0 : SeesS W (.slice a0 len0 cap0) l0) (e0 : l0.length = len0) (b0 : ∀ s ∈ l0, s.size ≤ 9223372036854775807) :
    Calls Try.prog 4 #[.slice a0 len0 cap0] W (Gives (.bool true) W) := by
  have HV := Lib.hid s0; clear s0
  have HE := Lib.hid e0; clear e0
  have HZ := Lib.hid b0; clear b0
  go_enter Try.func4, Try.ntmps4
  go_wp2_with fail
  refine (great_any a0 len0 cap0 l0 _ HV.out HZ.out).mono ?_
  rintro e w' ⟨g, rfl, rfl, hg⟩
  have HG := Lib.hid hg; clear hg
  cases g with
  | true =>
    go_wp2_with fail
    refine (awake_any _).mono ?_
    rintro e w1 ⟨rfl, hb⟩
    go_wp2_with fail
    go_ret
    exact ⟨rfl, hb⟩
  | false =>
    have hlen : len0 ≤ 200 := by have := (HG.out rfl).1; have := HE.out; omega
    have HMK := Lib.hid (fun W' (hb : Below W.heap.size W W') => make_any a0 len0 cap0 l0 W' (HV.out.below hb) HZ.out (by omega))
    have HRM := Lib.hid (fun W' (hb : Below W.heap.size W W') => refMake_any a0 len0 cap0 l0 W' (HV.out.below hb) HZ.out (by omega))
    generalize (⟨(Bl.mk (kl l0)).toArray⟩ : ByteArray) = F at *
    obtain ⟨hl, b, off, hc⟩ := HV.out.get
    have HC := Lib.hid hc; clear hc hl
    go_wp2_with fail
    go_loopw [3] (fun i wr => ∃ k q : Nat, k ≤ len0 ∧ i = .int .i64 k ∧ wr = W.drewN q) (fun i _ => len0 - (intOf i).toNat)
    case atStart => exact ⟨0, 0, Nat.zero_le _, rfl, rfl⟩
    case round =>
      obtain ⟨k, q, hk, rfl, rfl⟩ := hrel
      by_cases hlt : k < len0
      · obtain ⟨ha, hb, hc⟩ := HC.out k hlt
        have hk' : k < l0.length := by rw [HE.out]; exact hlt
        have HS : Hid ((l0.getD k ByteArray.empty).size ≤ 9223372036854775807) := Lib.hid (HZ.out _ (by rw [getD_at hk']; exact List.getElem_mem hk'))
        subst ha
        clear hk'
        generalize l0.getD k ByteArray.empty = s at *
        have HA := Lib.hid (fun W' => hash_any s W' HS.out)
        have HB := Lib.hid (fun W' => refHash_any s W' HS.out)
        generalize Bl.hash s.data.toList = h at *
        go_wp2_with fail
        go_quiet (first | (go_at_call 9; refine (HA.out _).mono ?_; rintro e wz ⟨rfl, rfl⟩; exact ⟨rfl, _, rfl⟩) | (go_at_call 14; refine (HB.out _).mono ?_; rintro e wz ⟨rfl, rfl⟩; exact ⟨rfl, _, rfl⟩))
        go_wp2_with fail
        go_roundw
        case rel => exact ⟨k + 1, _, by omega, by go_num, rfl⟩
        case measure => simp [intOf]; omega
      · have HQ := Lib.hid (below_drewN (Below.refl W.heap.size W) q)
        go_wp2_with fail
        refine (HMK.out _ HQ.out).mono ?_
        rintro e w1 ⟨rfl, hb1⟩
        have HB1 := Lib.hid (HQ.out.trans hb1); clear hb1
        go_wp2_with fail
        refine (HRM.out _ HB1.out).mono ?_
        rintro e w2 ⟨rfl, hb2⟩
        have HB2 := Lib.hid (Below.next HB1.out hb2); clear hb2
        go_wp2_with fail
        refine (awake_any _).mono ?_
        rintro e w3 ⟨rfl, hb3⟩
        go_wp2_with fail
        go_ret
        exact ⟨rfl, Below.next HB2.out hb3⟩

end Go.Proofs.Ytnlfajikciijjaa

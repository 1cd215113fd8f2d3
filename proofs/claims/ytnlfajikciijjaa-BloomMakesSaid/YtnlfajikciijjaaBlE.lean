/- Walks of layer 10's statements' own helpers: awake, Great. -/
import Derived.Test.YtnlfajikciijjaaBlD
namespace Go.Proofs.Ytnlfajikciijjaa
open Go.RowKit

theorem hash_a : ((Bl.hash (⟨#[97]⟩ : ByteArray).data.toList : Nat) : Int) = 12638187200555641996 := by kernel_rfl
theorem kl_ab : kl [⟨#[97]⟩, ⟨#[98]⟩] = [[97], [98]] := by kernel_rfl
theorem may_zero : Bl.may (⟨#[0, 0, 0, 0, 0, 0, 0, 0]⟩ : ByteArray).data.toList (⟨#[97]⟩ : ByteArray).data.toList = false := by kernel_rfl
theorem may_full : Bl.may (⟨#[255]⟩ : ByteArray).data.toList (⟨#[97]⟩ : ByteArray).data.toList = true := by kernel_rfl

set_option maxHeartbeats 2000000 in
theorem awake_any (w : World) : Calls Try.prog 12 #[] w (Gives (.bool true) w) := by
  obtain ⟨F, HF, hfa, hfb, hsz⟩ : ∃ F : ByteArray, Hid (F = ⟨(Bl.mk (kl [⟨#[97]⟩, ⟨#[98]⟩])).toArray⟩) ∧ Hid (Bl.may F.data.toList (⟨#[97]⟩ : ByteArray).data.toList = true) ∧ Hid (Bl.may F.data.toList (⟨#[98]⟩ : ByteArray).data.toList = true) ∧ F.size = 8 := by
    refine ⟨_, Lib.hid rfl, Lib.hid ?_, Lib.hid ?_, ?_⟩
    · rw [kl_ab]; exact Bl.may_mk (by simp)
    · rw [kl_ab]; exact Bl.may_mk (by simp)
    · show (Bl.mk _).toArray.size = 8
      rw [List.size_toArray, Bl.mk_length, kl_length]; rfl
  go_enter Try.func12, Try.ntmps12
  go_wp2_with fail
  refine (make_any _ 2 2 [⟨#[97]⟩, ⟨#[98]⟩] _ (sees_two w _ _ _ 2) (fun s hs => ?_) (by omega)).mono ?_
  · simp at hs; rcases hs with rfl | rfl <;> decide
  rintro e w1 ⟨rfl, hb1⟩
  rw [← HF.out]
  go_wp2_with fail
  refine (hash_any _ _ (by decide)).mono ?_
  rintro e w2 ⟨rfl, rfl⟩
  rw [hash_a]
  have HB1 := Lib.hid hb1; clear hb1
  go_wp2_with fail
  refine (may_any F ⟨#[97]⟩ _ (by omega) (by decide)).mono ?_
  rintro e w2 ⟨rfl, hb2⟩
  rw [hfa.out]
  have HB2 := Lib.hid hb2; clear hb2
  go_wp2_with fail
  refine (may_any F ⟨#[98]⟩ _ (by omega) (by decide)).mono ?_
  rintro e w3 ⟨rfl, hb3⟩
  rw [hfb.out]
  have HB3 := Lib.hid hb3; clear hb3
  go_wp2_with fail
  refine (may_any ⟨#[0, 0, 0, 0, 0, 0, 0, 0]⟩ ⟨#[97]⟩ _ (by decide) (by decide)).mono ?_
  rintro e w4 ⟨rfl, hb4⟩
  rw [may_zero]
  have HB4 := Lib.hid hb4; clear hb4
  go_wp2_with fail
  refine (may_any ⟨#[255]⟩ ⟨#[97]⟩ _ (by decide) (by decide)).mono ?_
  rintro e w5 ⟨rfl, hb5⟩
  rw [may_full]
  go_wp2_with fail
  go_ret
  exact ⟨rfl, Below.next (Below.next (Below.next (Below.next (Below.next ((Below.refl _ _).alloc (Nat.le_refl _) _) HB1.out) HB2.out) HB3.out) HB4.out) hb5⟩

/-- How many bytes texts have. -/
def totS (ss : List ByteArray) : Nat := (ss.map ByteArray.size).sum
theorem totS_snoc {ss : List ByteArray} {k : Nat} (h : k < ss.length) : totS (ss.take (k + 1)) = totS (ss.take k) + (ss.getD k ByteArray.empty).size := by
  rw [List.take_succ_eq_append_getElem h, getD_at h]; unfold totS; simp only [List.map_append, List.map_cons, List.map_nil, List.sum_append, List.sum_cons, List.sum_nil, Nat.add_zero]

/-- Is it said that keys are more than statements go through, or are they few? -/
def Grt (ss : List ByteArray) (w : World) (e : Ending) (w' : World) : Prop := ∃ g, e = .returned (.bool g) ∧ w = w' ∧ (g = false → ss.length ≤ 200 ∧ totS ss ≤ 8000)

set_option maxHeartbeats 1000000 in
theorem great_any (ao : Option Addr) (len cap : Nat) (ss : List ByteArray) (w : World) (hV : SeesS w (.slice ao len cap) ss) (hz : ∀ s ∈ ss, s.size ≤ 9223372036854775807) :
    Calls Try.prog 13 #[.slice ao len cap] w (Grt ss w) := by
  obtain ⟨hlen, b, off, hcell⟩ := hV.get
  clear hV
  by_cases h60 : 200 < len
  · have h60' : (200 : Int) < len := by omega
    clear hcell h60
    go_enter Try.func13, Try.ntmps13
    go_wp2_with fail
    go_ret
    exact ⟨_, rfl, rfl, fun h => by cases h⟩
  · have hl : len ≤ 200 := by omega
    have hl' : (len : Int) ≤ 200 := by omega
    clear h60
    have HL := Lib.hid hl; clear hl
    have HC := Lib.hid hcell; clear hcell
    have HZ := Lib.hid hz; clear hz
    have HLEN := Lib.hid hlen; clear hlen
    go_enter Try.func13, Try.ntmps13
    go_wp2_with fail
    go_loop [3, 4] (fun n i => ∃ k q : Nat, k ≤ len ∧ i = .int .i64 k ∧ n = .int .i64 q ∧ (q : Int) ≤ 8000 * (k : Int) ∧ Hid (q = totS (ss.take k))) (fun _ i => len - (intOf i).toNat)
    case atStart => exact ⟨0, 0, Nat.zero_le _, rfl, rfl, by omega, rfl⟩
    case round =>
      obtain ⟨k, q, hk, rfl, rfl, hq, HQ⟩ := hrel
      by_cases hlt : k < len
      · obtain ⟨ha, hb, hc⟩ := HC.out k hlt
        have hk' : k < ss.length := by have := HLEN.out; omega
        have hsz : (ss.getD k ByteArray.empty).size ≤ 9223372036854775807 := by
          rw [getD_at hk']; exact HZ.out _ (List.getElem_mem hk')
        have HU : Hid (totS (ss.take (k + 1)) = q + (ss.getD k ByteArray.empty).size) := by rw [totS_snoc hk', HQ.out]; exact Lib.hid rfl
        subst ha
        clear hk'
        generalize ss.getD k ByteArray.empty = s at *
        by_cases hlong : (8000 : Int) < (s.size : Int)
        · go_wp2_with fail
          go_ret
          exact ⟨_, rfl, rfl, fun h => by cases h⟩
        · have hsm : (s.size : Int) ≤ 8000 := by omega
          clear hlong hsz
          go_wp2_with fail
          go_round
          case rel => exact ⟨k + 1, q + s.size, by omega, by go_num, by go_num, by omega, HU.symm⟩
          case measure => simp [intOf]; omega
      · obtain rfl : len = k := by omega
        have HE : Hid (q = totS ss) := by
          have := HQ.out
          rw [List.take_of_length_le (by have := HLEN.out; omega)] at this
          exact this
        go_wp2_with fail
        go_ret
        refine ⟨_, rfl, rfl, fun h => ⟨by have := HL.out; have := HLEN.out; omega, ?_⟩⟩
        rw [← HE.out]
        simp at h
        omega

end Go.Proofs.Ytnlfajikciijjaa

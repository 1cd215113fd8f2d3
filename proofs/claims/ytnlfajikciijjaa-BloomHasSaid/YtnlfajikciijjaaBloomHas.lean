/- The walk of BloomHas. -/
import Derived.Test.YtnlfajikciijjaaBlF
import Derived.Deep.QuietTactic
namespace Go.Proofs.Ytnlfajikciijjaa
open Go.RowKit

theorem mem_kl {ss : List ByteArray} {s : ByteArray} (h : s ∈ ss) : s.data.toList ∈ kl ss := List.mem_map.2 ⟨s, h, rfl⟩

set_option maxHeartbeats 2000000 in
theorem has_walk (a0 : Option Addr) (len0 cap0 : Nat) (l0 : List ByteArray) (W : World) (s0 : SeesS W (.slice a0 len0 cap0) l0) (e0 : l0.length = len0) (b0 : ∀ s ∈ l0, s.size ≤ 9223372036854775807) :
    Calls Try.prog 6 #[.slice a0 len0 cap0] W (Gives (.bool true) W) := by
  have HV := Lib.hid s0; clear s0
  have HE := Lib.hid e0; clear e0
  have HZ := Lib.hid b0; clear b0
  go_enter Try.func6, Try.ntmps6
  go_wp2_with fail
  refine (great_any a0 len0 cap0 l0 _ HV.out HZ.out).mono ?_
  rintro e w' ⟨g, rfl, rfl, hg⟩
  have HG := Lib.hid hg; clear hg
  cases g with
  | true =>
    go_wp2_with fail
    refine (awake_any _).mono ?_
    rintro e w1 ⟨rfl, hb⟩
    go_wp2_with fail
    go_ret
    exact ⟨rfl, hb⟩
  | false =>
    have hlen : len0 ≤ 200 := by have := (HG.out rfl).1; have := HE.out; omega
    obtain ⟨F, HF⟩ : ∃ F : ByteArray, Hid (F = ⟨(Bl.mk (kl l0)).toArray⟩) := ⟨_, Lib.hid rfl⟩
    have HFL : Hid (F.data.toList = Bl.mk (kl l0)) := Lib.hid (by rw [HF.out])
    have hfs : F.size = Bl.size len0 := by
      rw [← list_size, HFL.out, Bl.mk_length, kl_length, HE.out]
    have hs1 := Bl.size_lt len0
    rw [← hfs] at hs1
    have HFS := Lib.hid hfs; clear hfs
    obtain ⟨hs1, hs2⟩ := hs1
    obtain ⟨n, hn⟩ : ∃ n, n = F.size := ⟨_, rfl⟩
    have hF : F.size ≤ 1000000 := by omega
    have i1 : (64 : Int) ≤ 8 * (F.size : Int) := by omega
    have i2 : 10 * (len0 : Int) ≤ 8 * (F.size : Int) := by omega
    have i3 : 8 * (F.size : Int) < max 64 (10 * (len0 : Int)) + 8 := by omega
    have HO : Hid (Bl.cnt F.data.toList (8 * F.size) ≤ 6 * len0) := Lib.hid (by
      rw [HFL.out]; have := Bl.cnt_mk (kl l0) (8 * F.size); rw [kl_length, HE.out] at this; exact this)
    have HM : Hid (∀ s ∈ l0, Bl.may F.data.toList s.data.toList = true) := Lib.hid (fun s hs => by rw [HFL.out]; exact Bl.may_mk (mem_kl hs))
    clear hs1 hs2 hn
    obtain ⟨hl, b, off, hc⟩ := HV.out.get
    have HC := Lib.hid hc; clear hc hl
    go_wp2_with fail
    refine (make_any a0 len0 cap0 l0 _ HV.out HZ.out (by omega)).mono ?_
    rintro e w1 ⟨rfl, hb1⟩
    rw [← HF.out]
    have HB1 := Lib.hid hb1; clear hb1
    go_wp2_with fail
    go_loopw [4] (fun i wr => ∃ k : Nat, k ≤ len0 ∧ i = .int .i64 k ∧ Below W.heap.size W wr) (fun i _ => len0 - (intOf i).toNat)
    case atStart => exact ⟨0, Nat.zero_le _, rfl, HB1.out⟩
    case round =>
      obtain ⟨k, hk, rfl, hbel⟩ := hrel
      by_cases hlt : k < len0
      · obtain ⟨ha, hb, hc⟩ := HC.out k hlt
        have hk' : k < l0.length := by rw [HE.out]; exact hlt
        have hmem : l0.getD k ByteArray.empty ∈ l0 := by rw [getD_at hk']; exact List.getElem_mem hk'
        have HS : Hid ((l0.getD k ByteArray.empty).size ≤ 9223372036854775807) := Lib.hid (HZ.out _ hmem)
        have HMS := Lib.hid (HM.out _ hmem)
        have hcw := (hbel.cell (p := ⟨b, off + k, none⟩) hb).trans hc
        subst ha
        have HBEL := Lib.hid hbel
        clear hbel hc hk' hmem
        generalize l0.getD k ByteArray.empty = s at *
        go_wp2_with fail
        refine (may_any F s _ (by omega) HS.out).mono ?_
        rintro e w2 ⟨rfl, hb2⟩
        rw [HMS.out]
        have HB2 := Lib.hid (Below.next HBEL.out hb2); clear hb2
        go_wp2_with fail
        go_roundw
        case rel => exact ⟨k + 1, by omega, by go_num, HB2.out⟩
        case measure => simp [intOf]; omega
      · have HBEL := Lib.hid hbel; clear hbel
        obtain ⟨q, hq, HQ⟩ : ∃ q : Nat, q ≤ 6 * len0 ∧ Hid (Bl.cnt F.data.toList (8 * F.size) = q) := ⟨_, HO.out, Lib.hid rfl⟩
        have hq2 : (q : Int) ≤ 6 * (len0 : Int) := by omega
        go_wp2_with fail
        refine (ones_any F _ (by omega)).mono ?_
        rintro e w2 ⟨rfl, rfl⟩
        rw [HQ.out]
        go_wp2_with fail
        refine (awake_any _).mono ?_
        rintro e w3 ⟨rfl, hb3⟩
        go_wp2_with fail
        go_ret
        exact ⟨rfl, Below.next HBEL.out hb3⟩

end Go.Proofs.Ytnlfajikciijjaa

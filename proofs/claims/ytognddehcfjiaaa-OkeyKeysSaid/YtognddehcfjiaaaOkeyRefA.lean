/- Walks of the document's own answers for layer 2: One, Key. -/
import Derived.Test.YtognddehcfjiaaaOkeyRangeA
namespace Go.Proofs.Ytognddehcfjiaaa
open Go.RowKit
set_option linter.unusedVariables false

theorem extract_one (x : ByteArray) (k : Nat) (h : k < x.size) : (x.extract k (k + 1)).data.toList = [x[k]] := by
  rw [Lib.extract_data, drop_cons x k h, show k + 1 - k = 1 by omega]
  rfl
theorem app_data (A B : ByteArray) : (A ++ B).data.toList = A.data.toList ++ B.data.toList := by rw [ByteArray.data_append, Array.toList_append]

set_option maxHeartbeats 1000000 in
theorem refOne_num (s : ByteArray) (n : Nat) (w : World) (hn : n < 18446744073709551616) :
    Calls Try.prog 29 #[partV false s n] w (Gives (.string ⟨(1 :: Nm.row n).toArray⟩) w) := by
  have HN := Lib.hid hn; clear hn
  have hr := (Nm.row_length n).2
  have hadd : ¬ 9223372036854775807 < 1 + (Nm.row n).length := by omega
  unfold partV
  go_enter Try.func29, Try.ntmps29
  go_wp2_with fail
  refine (refRow_any _ _ (by omega) (by have := HN.out; omega)).mono ?_
  rintro e w1 ⟨rfl, hb1⟩
  rw [Int.toNat_natCast]
  go_wp2_with fail
  go_ret
  refine ⟨?_, ((Below.refl _ _).alloc (Nat.le_refl _) _).trans (hb1.mono (by simp))⟩
  exact congrArg (fun z => Ending.returned (Value.string z)) (mk_cons _ _ _ rfl)

set_option maxHeartbeats 2000000 in
theorem refOne_text (x : ByteArray) (n : Nat) (w : World) (hx : x.size ≤ 1000000000) :
    Calls Try.prog 29 #[partV true x n] w (Gives (.string ⟨(2 :: (esc x.data.toList ++ [0, 1])).toArray⟩) w) := by
  unfold partV
  have HB : Hid (∀ o, Below w.heap.size w (w.alloc o)) := fun o => (Below.refl _ _).alloc (Nat.le_refl _) _
  have HE : Hid (∀ S : ByteArray, S.data.toList = 2 :: (esc x.data.toList ++ [0, 1]) → (⟨(2 :: (esc x.data.toList ++ [0, 1])).toArray⟩ : ByteArray) = S) := fun S h => by rw [← h]
  generalize hR : (⟨(2 :: (esc x.data.toList ++ [0, 1])).toArray⟩ : ByteArray) = R at *
  clear hR
  go_enter Try.func29, Try.ntmps29
  go_wp2_with fail
  go_loop [3, 4] (fun s i => ∃ (k : Nat) (S : ByteArray), k ≤ x.size ∧ i = .int .i64 k ∧ s = .string S ∧ S.data.toList = 2 :: esc (x.data.toList.take k)) (fun _ i => x.size - (intOf i).toNat)
  case atStart => exact ⟨0, _, Nat.zero_le _, rfl, rfl, rfl⟩
  case round =>
    obtain ⟨k, S, hk, rfl, rfl, hS⟩ := hrel
    have hSs : S.size ≤ 2000000001 := by
      have h1 := esc_length (x.data.toList.take k)
      have h2 : (x.data.toList.take k).length ≤ k := List.length_take_le ..
      have h3 := congrArg List.length hS
      rw [length_list, List.length_cons] at h3
      omega
    have HS := Lib.hid hS; clear hS
    by_cases hlt : k < x.size
    · have hi := index_byte x k hlt
      have HO := Lib.hid (extract_one x k hlt)
      have HSN := Lib.hid (esc_snoc x k hlt)
      have hsz : (x.extract k (k + 1)).size = 1 := by rw [ByteArray.size_extract]; omega
      have hkk : (k : Int) ≤ (k : Int) + 1 := by omega
      have hk1 : (k : Int) + 1 ≤ x.size := by omega
      have hen : ((k : Int) + 1).toNat = k + 1 := by omega
      generalize hB : x[k]'hlt = B at *
      clear hB
      obtain ⟨c, hc⟩ : ∃ c : Int, c = B.toNat := ⟨_, rfl⟩
      rw [← hc] at hi
      have HC := Lib.hid hc; clear hc
      have hadd : ¬ 9223372036854775807 < S.size + (x.extract k (k + 1)).size := by omega
      have hadd2 : ¬ 9223372036854775807 < (S ++ x.extract k (k + 1)).size + 1 := by rw [ByteArray.size_append]; omega
      by_cases hz : c = 0
      · have HB0 : Hid (B = 0) := byte_eq 0 HC.out (by rw [hz]; rfl)
        subst hz
        go_wp2_with fail
        go_round
        case rel => exact ⟨k + 1, _, by omega, by go_num, rfl, by rw [app_data, app_data, HS.out, HO.out, HSN.out, HB0.out]; simp [esc1]⟩
        case measure => simp [intOf]; omega
      · have HB0 : Hid (B ≠ 0) := byte_ne 0 HC.out hz
        go_wp2_with fail
        go_round
        case rel => exact ⟨k + 1, _, by omega, by go_num, rfl, by rw [app_data, HS.out, HO.out, HSN.out]; simp [esc1, HB0.out]⟩
        case measure => simp [intOf]; omega
    · have hadd : ¬ 9223372036854775807 < S.size + 2 := by omega
      go_wp2_with fail
      go_ret
      refine ⟨congrArg (fun z => Ending.returned (Value.string z)) (HE.out _ ?_).symm, HB.out _⟩
      rw [app_data, HS.out, List.take_of_length_le (by rw [length_list]; omega)]
      rfl

theorem refOne_any (p : Pt) (w : World) (hn : p.n < 18446744073709551616) (hx : p.s.size ≤ 1000000000) :
    Calls Try.prog 29 #[partV p.t p.s p.n] w (Gives (.string ⟨(ptl p).toArray⟩) w) := by
  obtain ⟨t, s, n⟩ := p
  cases t with
  | true => rw [ptl_text]; exact refOne_text s n w hx
  | false => rw [ptl_num]; exact refOne_num s n w hn

set_option maxHeartbeats 1000000 in
theorem refKey_any (ao : Option Addr) (len cap : Nat) (ps : List Pt) (w : World) (hV : SeesP w (.slice ao len cap) ps) (hn : ∀ i, (ps.getD i pd).n < 18446744073709551616) (hl : len ≤ 1000000) (hz : sizl ps ≤ 1000000000) :
    Calls Try.prog 17 #[.slice ao len cap] w (Gives (.string ⟨(keyl ps).toArray⟩) w) := by
  obtain ⟨hlen, b, off, hcell⟩ := hV.get
  have HC := Lib.hid hcell; have HN := Lib.hid hn; have HLEN := Lib.hid hlen; have HZ := Lib.hid hz; clear hcell hn hlen hV hz
  have HL := Lib.hid hl
  go_enter Try.func17, Try.ntmps17
  go_wp2_with fail
  go_loopw [3, 4] (fun u i wr => ∃ (k : Nat) (S : ByteArray), k ≤ len ∧ i = .int .i64 k ∧ u = .string S ∧ S = ⟨(keyl (ps.take k)).toArray⟩ ∧ Below w.heap.size w wr) (fun _ i _ => len - (intOf i).toNat)
  case atStart => exact ⟨0, _, Nat.zero_le _, rfl, rfl, by simp [keyl], Below.refl _ _⟩
  case round =>
    obtain ⟨k, S, hk, rfl, rfl, hS, hbel⟩ := hrel
    have hSs : S.size ≤ 3000000000 := by
      have h1 := keyl_length (ps.take k)
      have h2 : (ps.take k).length ≤ k := List.length_take_le ..
      have h3 := HL.out
      have h4 := sizl_take ps k
      have h5 := HZ.out
      rw [hS]
      show (keyl (ps.take k)).length ≤ _
      omega
    have HS := Lib.hid hS; have HB := Lib.hid hbel; clear hS hbel
    by_cases hlt : k < len
    · obtain ⟨rfl, hbl, hcl⟩ := HC.out k hlt
      obtain ⟨c0, c1, c2⟩ := hcl.below HB.out hbl
      have hk' : k < ps.length := by rw [HLEN.out]; exact hlt
      have HV : Hid (keyl (ps.take (k + 1)) = keyl (ps.take k) ++ ptl (ps.getD k pd)) := keyl_snoc ps k hk'
      have hxs : (ps.getD k pd).s.size ≤ 1000000000 := by
        have h4 := sizl_snoc ps k hk'
        have h5 := sizl_take ps (k + 1)
        have h6 := HZ.out
        omega
      have HX : Hid ((ps.getD k pd).n < 18446744073709551616) := HN.out k
      clear hcl hk'
      generalize ps.getD k pd = x at *
      have hr := ptl_length x
      have HXS := Lib.hid hxs; clear hxs
      have HO := Lib.hid (fun W => refOne_any x W HX.out HXS.out)
      have hadd : ¬ 9223372036854775807 < S.size + (ptl x).length := by have := HXS.out; omega
      go_wp2_with fail
      refine (HO.out _).mono ?_
      rintro e w1 ⟨rfl, hb1⟩
      go_wp2_with fail
      go_roundw
      case rel => exact ⟨k + 1, _, by omega, by go_num, rfl, by rw [HV.out, HS.out]; exact mk_app _ _, Below.next HB.out hb1⟩
      case measure => simp [intOf]; omega
    · go_wp2_with fail
      go_ret
      have : ps.take k = ps := List.take_of_length_le (by rw [HLEN.out]; omega)
      rw [HS.out, this]
      exact ⟨rfl, HB.out⟩

end Go.Proofs.Ytognddehcfjiaaa

/- The walk of disk.isName. -/
import Derived.Test.YtefoijamedciiaaDkA
namespace Go.Proofs.Ytefoijamedciiaa
open Go.RowKit Go.Maps
open Dk (Dir Chg Disk File Str)

theorem okByte_int (b : UInt8) : Dk.okByte b = (((decide ((97 : Int) ≤ b.toNat) && decide ((b.toNat : Int) ≤ 122)) || (decide ((48 : Int) ≤ b.toNat) && decide ((b.toNat : Int) ≤ 57))) || decide ((b.toNat : Int) = 46) || decide ((b.toNat : Int) = 45)) := by
  have h1 : (97 ≤ b) ↔ (97 : Int) ≤ b.toNat := by rw [UInt8.le_iff_toNat_le]; exact Int.ofNat_le.symm
  have h2 : (b ≤ 122) ↔ (b.toNat : Int) ≤ 122 := by rw [UInt8.le_iff_toNat_le]; exact Int.ofNat_le.symm
  have h3 : (48 ≤ b) ↔ (48 : Int) ≤ b.toNat := by rw [UInt8.le_iff_toNat_le]; exact Int.ofNat_le.symm
  have h4 : (b ≤ 57) ↔ (b.toNat : Int) ≤ 57 := by rw [UInt8.le_iff_toNat_le]; exact Int.ofNat_le.symm
  have h5 : (b = 46) ↔ (b.toNat : Int) = 46 := by rw [← UInt8.toNat_inj]; exact (Int.ofNat_inj (m := b.toNat) (n := 46)).symm
  have h6 : (b = 45) ↔ (b.toNat : Int) = 45 := by rw [← UInt8.toNat_inj]; exact (Int.ofNat_inj (m := b.toNat) (n := 45)).symm
  unfold Dk.okByte
  rw [Bool.eq_iff_iff]
  simp [h1, h2, h3, h4, h5, h6]

theorem isName_iff (s : ByteArray) (h0 : s.size ≠ 0) (h1 : s.size ≤ 24) : Dk.isName s.data.toList = s.data.toList.all Dk.okByte := by
  unfold Dk.isName
  have e1 : s.data.toList ≠ [] := fun e => h0 (by rw [Lib.size_eq, e]; rfl)
  have e2 : s.data.toList.length ≤ 24 := by rw [← Lib.size_eq]; exact h1
  rw [decide_eq_true e1, decide_eq_true e2, Bool.true_and, Bool.true_and]
theorem all_false (s : ByteArray) (k : Nat) (h : k < s.size) (hb : Dk.okByte (s[k]'h) = false) : s.data.toList.all Dk.okByte = false := by
  rw [← Bool.not_eq_true, List.all_eq_true]
  intro ha
  have hm : (s[k]'h) ∈ s.data.toList := by
    have e : (s[k]'h) = s.data.toList[k]'(by simpa using h) := by simp; rfl
    rw [e]
    exact List.getElem_mem _
  rw [ha _ hm] at hb
  cases hb

set_option maxHeartbeats 2000000 in
set_option maxRecDepth 100000 in
theorem isName_any (s : ByteArray) (w : World) (hs : s.size ≤ 4611686018427387904) : Calls Try.prog 43 #[.string s] w fun e w' => e = .returned (.bool (Dk.isName s.data.toList)) ∧ w' = w := by
  by_cases h0 : s.size = 0
  · obtain rfl := empty_of_size h0
    go_enter Try.func43, Try.ntmps43
    go_wp2_with fail
    go_ret
    exact ⟨rfl, rfl⟩
  · obtain ⟨hne, hne2⟩ := notEmpty h0
    by_cases h1 : s.size ≤ 24
    · have HI := Lib.hid (isName_iff s h0 h1)
      have h1i : (s.size : Int) ≤ 24 := by omega
      have H0 := Lib.hid h0; clear h0
      clear hs h1
      go_enter Try.func43, Try.ntmps43
      go_wp2_with fail
      go_loopw [14] (fun z wr => ∃ k : Nat, k ≤ s.size ∧ z = .int .i64 (k : Int) ∧ Hid ((s.data.toList.take k).all Dk.okByte = true) ∧ wr = w) (fun z _ => s.size - (intOf z).toNat)
      case atStart => exact ⟨0, by omega, rfl, Lib.hid rfl, rfl⟩
      case round =>
        obtain ⟨k, hk, rfl, HK, rfl⟩ := hrel
        by_cases hlt : k < s.size
        · have hlt2 : (k : Int) < s.size := by omega
          have hix := index_byte s k hlt wr
          obtain ⟨c, hc⟩ : ∃ c : Int, c = ((s[k]'hlt).toNat : Int) := ⟨_, rfl⟩
          have HB := Lib.hid (okByte_int (s[k]'hlt))
          rw [← hc] at hix
          have HC := Lib.hid hc; clear hc
          rw [← HC.out] at HB
          have HT := Lib.hid (take_snoc s k hlt)
          go_wp2_with fail
          all_goals rename_i hz hy hx
          all_goals try simp at hx
          all_goals try simp at hy
          all_goals try simp at hz
          all_goals first
            | (go_ret
               refine ⟨?_, rfl⟩
               have hb : Dk.okByte (s[k]'hlt) = false := by rw [HB.out]; simp; omega
               rw [HI.out, all_false s k hlt hb]
               rfl)
            | (have hb : Dk.okByte (s[k]'hlt) = true := by rw [HB.out]; simp; omega
               go_roundw
               case rel => exact ⟨k + 1, by omega, by go_num, Lib.hid (by rw [HT.out, List.all_append, HK.out, List.all_cons, List.all_nil, hb]; rfl), trivial⟩
               case measure => simp [intOf]; omega)
        · have hk2 : (k : Int) = s.size := by omega
          have HE : Hid (s.data.toList.all Dk.okByte = true) := by
            have := HK.out
            rw [List.take_of_length_le (by rw [← Lib.size_eq]; omega)] at this
            exact Lib.hid this
          obtain rfl : k = s.size := by omega
          clear hk2 hlt
          go_wp2_with fail
          go_ret
          exact ⟨by rw [HI.out, HE.out]; rfl, rfl⟩
    · have HI : Hid (Dk.isName s.data.toList = false) := by
        unfold Dk.isName
        have e2 : ¬ s.data.toList.length ≤ 24 := by rw [← Lib.size_eq]; exact h1
        rw [decide_eq_false e2, Bool.and_false, Bool.false_and]
        exact Lib.hid rfl
      have h1i : (24 : Int) < s.size := by omega
      rw [HI.out]
      clear hs h1 h0
      go_enter Try.func43, Try.ntmps43
      go_wp2_with fail
      go_ret
      exact ⟨rfl, rfl⟩

end Go.Proofs.Ytefoijamedciiaa

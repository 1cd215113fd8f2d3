/- Walks of cell.sumOn, Crc: the sum of texts is the plain one. Condition: the table of half bytes lies in memory. -/
import Derived.Test.YtalmkgjinabceaaDoorBase
import Derived.Test.YtalmkgjinabceaaDoorCellMath
namespace Go.Proofs.YtalmkgjinabceaaDoor
open Go.RowKit

theorem and15 (q : Nat) (h : q < 4294967296) : bits .and .u32 (q : Int) 15 = ((q % 16 : Nat) : Int) := by
  have := u32_and_nat q 15 h (by omega)
  rw [show (15 : Nat) = 2 ^ 4 - 1 by decide, Nat.and_two_pow_sub_one_eq_mod] at this
  exact this

/-- The table of half bytes lies in memory. -/
def Tab (w : World) : Prop := ∀ i, i < 16 → w.cell? ⟨0, i, none⟩ = some (.int .u32 (Cr.tab.getD i 0))

/-- Four bits go out: what the walk meets there. -/
theorem Tab.half {w : World} (hT : Tab w) (q : Nat) (hq : q < 4294967296) : ∃ i t q' : Nat, bits .and .u32 (q : Int) 15 = (i : Int) ∧ i < 16 ∧ w.cell? ⟨0, i, none⟩ = some (.int .u32 (t : Int)) ∧ bits .xor .u32 ((q : Int) / 16) (t : Int) = (q' : Int) ∧ q' < 4294967296 ∧ q' = Cr.steps 4 q := by
  have h16 : q % 16 < 16 := Nat.mod_lt _ (by omega)
  have ht := Cr.tab_lt (q % 16) h16
  refine ⟨q % 16, Cr.tab.getD (q % 16) 0, Cr.steps 4 q, and15 q hq, h16, hT _ h16, ?_, Cr.steps_lt 4 hq, rfl⟩
  rw [← Cr.nibble q]
  exact u32_xor_nat (q / 16) _ (by omega) ht

set_option maxHeartbeats 400000 in
theorem sumOn_any (r : Nat) (s : ByteArray) (w : World) (hT : Tab w) (hr : r < 4294967296) (hs : s.size ≤ 9223372036854775807) :
    Calls Tryd.prog 33 #[.int .u32 r, .string s] w fun e w' => e = .returned (.int .u32 (Cr.st r s.data.toList)) ∧ w = w' := by
  have HT := Lib.hid hT; clear hT
  have HR := Lib.hid hr; clear hr
  go_enter Tryd.func33, Tryd.ntmps33
  go_wp2
  go_loop [0, 8] (fun n i => ∃ k q : Nat, k ≤ s.size ∧ i = .int .i64 k ∧ q < 4294967296 ∧ n = .int .u32 q ∧ Hid (q = Cr.st r (s.data.toList.take k))) (fun _ i => s.size - (intOf i).toNat)
  case atStart => exact ⟨0, r, Nat.zero_le _, rfl, HR.out, rfl, rfl⟩
  case round =>
    obtain ⟨k, q, hk, rfl, hq, rfl, HQ⟩ := hrel
    by_cases hlt : k < s.size
    · obtain ⟨B, hB⟩ : ∃ B : Nat, B = s[k].toNat := ⟨_, rfl⟩
      have hx := index_byte s k hlt
      rw [← hB] at hx
      have HU : Hid (Cr.st r (s.data.toList.take (k + 1)) = Cr.upd (Cr.st r (s.data.toList.take k)) B) := by rw [take_snoc s k hlt, Cr.st_snoc, hB]; exact Lib.hid rfl
      have HB : Hid (B < 256) := by rw [hB]; exact s[k].toNat_lt
      clear hB
      obtain ⟨q1, h1⟩ : ∃ q1, q1 = q ^^^ B := ⟨_, rfl⟩
      have e1 : bits .xor .u32 (q : Int) ((B : Int) % 4294967296) = (q1 : Int) := by
        rw [h1, Int.emod_eq_of_lt (by omega) (by have := HB.out; omega)]; exact u32_xor_nat _ _ hq (by have := HB.out; omega)
      have hq1 : q1 < 4294967296 := by rw [h1]; exact Cr.xor_lt hq (by have := HB.out; omega)
      obtain ⟨i1, t1, q2, a1, b1, c1, d1, hq2, h2⟩ := HT.out.half q1 hq1
      obtain ⟨i2, t2, q3, a2, b2, c2, d2, hq3, h3⟩ := HT.out.half q2 hq2
      have HF : Hid (q3 = Cr.st r (s.data.toList.take (k + 1))) := by
        rw [HU.out, ← HQ.out, Cr.upd, h3, h2, h1, ← Cr.steps_add]; exact Lib.hid rfl
      clear h1 h2 h3
      go_wp2
      go_round
      case rel => exact ⟨k + 1, q3, by omega, by go_num, hq3, rfl, HF⟩
      case measure => simp [intOf]; omega
    · have HE : Hid (q = Cr.st r s.data.toList) := by
        have := HQ.out
        rw [List.take_of_length_le (by rw [Cr.size_list]; omega)] at this
        exact this
      go_wp2
      go_ret
      rw [HE.out]
      exact ⟨rfl, rfl⟩

end Go.Proofs.YtalmkgjinabceaaDoor

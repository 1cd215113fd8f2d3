/- The walk of the laws' Turned. -/
import Derived.Test.YtalmkgjinabceaaDoorCellE
import Derived.Test.YtalmkgjinabceaaDoorRow
namespace Go.Proofs.YtalmkgjinabceaaDoor
open Go.RowKit

theorem turn_over (l : List UInt8) (k m j : Nat) (h : l.length ≤ k + j) : ∀ n, Cr.turn l k m (j + n) = Cr.turn l k m j
  | 0 => rfl
  | n + 1 => by
    rw [← Nat.add_assoc, Cr.turn, turn_over l k m j h n]
    exact List.set_eq_of_length_le (by rw [Cr.turn_length]; omega)
theorem turn_next (l : List UInt8) (k m j : Nat) (hj : k + j < (Cr.turn l k m j).length) : Cr.turn l k m (j + 1) = (Cr.turn l k m j).set (k + j) ((Cr.turn l k m j)[k + j] ^^^ UInt8.ofNat (m / 256 ^ j)) := by
  rw [Cr.turn, List.getD_eq_getElem?_getD, List.getElem?_eq_getElem hj]; rfl
theorem xor_byte (x : UInt8) (q : Nat) : bits .xor .u8 (x.toNat : Int) ((q % 256 : Nat) : Int) = ((x ^^^ UInt8.ofNat q).toNat : Int) := by
  rw [u8_xor_nat _ _ x.toNat_lt (Nat.mod_lt _ (by omega)), UInt8.toNat_xor, Cr.toNat_ofNat]

set_option maxHeartbeats 2000000 in
theorem turned_any (s : ByteArray) (k : Nat) (m : Nat) (w : World) (hs : s.size ≤ 1000000) (hk : k ≤ 1000000) (hm : m < 4294967296) :
    Calls Tryd.prog 17 #[.string s, .int .i64 k, .int .u32 m] w (Gives (.string ⟨(Cr.turn s.data.toList k m 4).toArray⟩) w) := by
  have hcv := run_bytes_of_string (P := Tryd.prog) w 9 30 5 s Tryd.underlying9 Tryd.underlying30 Tryd.underlying5
  have hrow := Lib.hid (row_new w.drew s (grownCap w s.size 0 5) 5)
  have HB := Lib.hid (((Below.refl w.heap.size w).drew).alloc (Nat.le_refl _) (.cells (bytesRow s (grownCap w s.size 0 5)) 5 ((bytesRow s (grownCap w s.size 0 5)).size, (bytesRow s (grownCap w s.size 0 5)).size + 1)))
  generalize (w.drew.alloc (.cells (bytesRow s (grownCap w s.size 0 5)) 5 ((bytesRow s (grownCap w s.size 0 5)).size, (bytesRow s (grownCap w s.size 0 5)).size + 1))) = w1 at *
  generalize grownCap w s.size 0 5 = c at *
  have hl : s.data.toList.length = s.size := Cr.size_list s
  obtain ⟨L, hL⟩ : ∃ L, L = s.data.toList := ⟨_, rfl⟩
  rw [← hL] at hrow hl ⊢
  have HLEN := Lib.hid hl
  clear hL hl
  go_enter Tryd.func17, Tryd.ntmps17
  go_wp2_with fail
  go_loopw [8] (fun i wr => ∃ j : Int, 0 ≤ j ∧ j ≤ 4 ∧ i = .int .i64 j ∧ Hid (Row wr w.heap.size (Cr.turn L k m j.toNat)) ∧ Hid (Below w.heap.size w wr)) (fun i _ => (4 - intOf i).toNat)
  case atStart => exact ⟨0, by omega, by omega, rfl, hrow, HB⟩
  case round =>
    obtain ⟨j, hj0, hj4, rfl, HR, HBR⟩ := hrel
    by_cases hlt : j < 4
    · by_cases hin : (k : Int) + j < (s.size : Int)
      · rcases (show j = 0 ∨ j = 1 ∨ j = 2 ∨ j = 3 by omega) with rfl | rfl | rfl | rfl
        · have hi2 : k < (Cr.turn L k m 0).length := by rw [Cr.turn_length]; have := HLEN.out; omega
          obtain ⟨c0, c1⟩ : wr.cell? ⟨w.heap.size, k, none⟩ = some (.int .u8 ((Cr.turn L k m 0)[k].toNat : Int)) ∧ wr.frozen? ⟨w.heap.size, k, none⟩ = false := HR.out (k) hi2
          have HN : Hid (Cr.turn L k m 1 = (Cr.turn L k m 0).set (k) ((Cr.turn L k m 0)[k] ^^^ UInt8.ofNat (m / 256 ^ 0))) := Lib.hid (turn_next L k m 0 hi2)
          have HX := xor_byte ((Cr.turn L k m 0)[k]) (m / 256 ^ 0)
          rw [show ((m / 256 ^ 0 % 256 : Nat) : Int) = (m : Int) % 256 by omega] at HX
          obtain ⟨b, hb⟩ : ∃ b, b = (Cr.turn L k m 0)[k] ^^^ UInt8.ofNat (m / 256 ^ 0) := ⟨_, rfl⟩
          rw [← hb] at HX HN
          clear hb
          obtain ⟨x, hx⟩ : ∃ x : Int, x = ((Cr.turn L k m 0)[k].toNat : Int) := ⟨_, rfl⟩
          rw [← hx] at c0 HX
          clear hx
          have hkk : k < s.size := by omega
          clear hin
          go_wp2_with fail
          go_roundw
          case rel => exact ⟨1, by omega, by omega, rfl, by show Hid (Row _ _ (Cr.turn L k m 1)); rw [HN.out]; exact Lib.hid (HR.out.set (k) b), Lib.hid (HBR.out.setCell (p := ⟨w.heap.size, k, none⟩) (Nat.le_refl _) _)⟩
          case measure => decide
        · have hi2 : k + 1 < (Cr.turn L k m 1).length := by rw [Cr.turn_length]; have := HLEN.out; omega
          obtain ⟨c0, c1⟩ : wr.cell? ⟨w.heap.size, k + 1, none⟩ = some (.int .u8 ((Cr.turn L k m 1)[k + 1].toNat : Int)) ∧ wr.frozen? ⟨w.heap.size, k + 1, none⟩ = false := HR.out (k + 1) hi2
          have HN : Hid (Cr.turn L k m 2 = (Cr.turn L k m 1).set (k + 1) ((Cr.turn L k m 1)[k + 1] ^^^ UInt8.ofNat (m / 256 ^ 1))) := Lib.hid (turn_next L k m 1 hi2)
          have HX := xor_byte ((Cr.turn L k m 1)[k + 1]) (m / 256 ^ 1)
          rw [show ((m / 256 ^ 1 % 256 : Nat) : Int) = (m : Int) / 256 % 256 by omega] at HX
          obtain ⟨b, hb⟩ : ∃ b, b = (Cr.turn L k m 1)[k + 1] ^^^ UInt8.ofNat (m / 256 ^ 1) := ⟨_, rfl⟩
          rw [← hb] at HX HN
          clear hb
          obtain ⟨x, hx⟩ : ∃ x : Int, x = ((Cr.turn L k m 1)[k + 1].toNat : Int) := ⟨_, rfl⟩
          rw [← hx] at c0 HX
          clear hx
          have hkk : k + 1 < s.size := by omega
          clear hin
          go_wp2_with fail
          go_roundw
          case rel => exact ⟨2, by omega, by omega, rfl, by show Hid (Row _ _ (Cr.turn L k m 2)); rw [HN.out]; exact Lib.hid (HR.out.set (k + 1) b), Lib.hid (HBR.out.setCell (p := ⟨w.heap.size, k + 1, none⟩) (Nat.le_refl _) _)⟩
          case measure => decide
        · have hi2 : k + 2 < (Cr.turn L k m 2).length := by rw [Cr.turn_length]; have := HLEN.out; omega
          obtain ⟨c0, c1⟩ : wr.cell? ⟨w.heap.size, k + 2, none⟩ = some (.int .u8 ((Cr.turn L k m 2)[k + 2].toNat : Int)) ∧ wr.frozen? ⟨w.heap.size, k + 2, none⟩ = false := HR.out (k + 2) hi2
          have HN : Hid (Cr.turn L k m 3 = (Cr.turn L k m 2).set (k + 2) ((Cr.turn L k m 2)[k + 2] ^^^ UInt8.ofNat (m / 256 ^ 2))) := Lib.hid (turn_next L k m 2 hi2)
          have HX := xor_byte ((Cr.turn L k m 2)[k + 2]) (m / 256 ^ 2)
          rw [show ((m / 256 ^ 2 % 256 : Nat) : Int) = (m : Int) / 65536 % 256 by omega] at HX
          obtain ⟨b, hb⟩ : ∃ b, b = (Cr.turn L k m 2)[k + 2] ^^^ UInt8.ofNat (m / 256 ^ 2) := ⟨_, rfl⟩
          rw [← hb] at HX HN
          clear hb
          obtain ⟨x, hx⟩ : ∃ x : Int, x = ((Cr.turn L k m 2)[k + 2].toNat : Int) := ⟨_, rfl⟩
          rw [← hx] at c0 HX
          clear hx
          have hkk : k + 2 < s.size := by omega
          clear hin
          go_wp2_with fail
          go_roundw
          case rel => exact ⟨3, by omega, by omega, rfl, by show Hid (Row _ _ (Cr.turn L k m 3)); rw [HN.out]; exact Lib.hid (HR.out.set (k + 2) b), Lib.hid (HBR.out.setCell (p := ⟨w.heap.size, k + 2, none⟩) (Nat.le_refl _) _)⟩
          case measure => decide
        · have hi2 : k + 3 < (Cr.turn L k m 3).length := by rw [Cr.turn_length]; have := HLEN.out; omega
          obtain ⟨c0, c1⟩ : wr.cell? ⟨w.heap.size, k + 3, none⟩ = some (.int .u8 ((Cr.turn L k m 3)[k + 3].toNat : Int)) ∧ wr.frozen? ⟨w.heap.size, k + 3, none⟩ = false := HR.out (k + 3) hi2
          have HN : Hid (Cr.turn L k m 4 = (Cr.turn L k m 3).set (k + 3) ((Cr.turn L k m 3)[k + 3] ^^^ UInt8.ofNat (m / 256 ^ 3))) := Lib.hid (turn_next L k m 3 hi2)
          have HX := xor_byte ((Cr.turn L k m 3)[k + 3]) (m / 256 ^ 3)
          rw [show ((m / 256 ^ 3 % 256 : Nat) : Int) = (m : Int) / 16777216 by omega] at HX
          obtain ⟨b, hb⟩ : ∃ b, b = (Cr.turn L k m 3)[k + 3] ^^^ UInt8.ofNat (m / 256 ^ 3) := ⟨_, rfl⟩
          rw [← hb] at HX HN
          clear hb
          obtain ⟨x, hx⟩ : ∃ x : Int, x = ((Cr.turn L k m 3)[k + 3].toNat : Int) := ⟨_, rfl⟩
          rw [← hx] at c0 HX
          clear hx
          have hkk : k + 3 < s.size := by omega
          clear hin
          go_wp2_with fail
          go_roundw
          case rel => exact ⟨4, by omega, by omega, rfl, by show Hid (Row _ _ (Cr.turn L k m 4)); rw [HN.out]; exact Lib.hid (HR.out.set (k + 3) b), Lib.hid (HBR.out.setCell (p := ⟨w.heap.size, k + 3, none⟩) (Nat.le_refl _) _)⟩
          case measure => decide
      · have HT : Hid (Cr.turn L k m 4 = Cr.turn L k m j.toNat) := by
          have := turn_over L k m j.toNat (by have := HLEN.out; omega) (4 - j.toNat)
          rw [show j.toNat + (4 - j.toNat) = 4 by omega] at this
          exact Lib.hid this
        have ht := HR.out.text c
        rw [Cr.turn_length, HLEN.out, ← HT.out] at ht
        go_wp2_with fail
        go_ret
        exact ⟨rfl, HBR.out⟩
    · obtain rfl : j = 4 := by omega
      have ht := HR.out.text c
      rw [Cr.turn_length, HLEN.out] at ht
      go_wp2_with fail
      go_ret
      exact ⟨rfl, HBR.out⟩

end Go.Proofs.YtalmkgjinabceaaDoor

/- The walk of the document's own Make. -/
import Derived.Test.YtalmkgjinabceaaDoorCellR
import Derived.Test.YtalmkgjinabceaaDoorCellD
namespace Go.Proofs.YtalmkgjinabceaaDoor
open Go.RowKit

set_option maxHeartbeats 400000 in
theorem refMake_no (f l : Bool) (n : Int) (d : ByteArray) (w : World) (hs : d.size ≤ 9223372036854775807) (hm : Cr.may ⟨f, l, n, d⟩ = false) :
    Calls Tryd.prog 25 #[.agg #[.bool f, .bool l, .int .i64 n, .string d]] w (Gives (.tuple #[.string ⟨#[]⟩, .int .i64 1]) w) := by
  have HM := Lib.hid hm; clear hm
  go_enter Tryd.func25, Tryd.ntmps25
  go_wp2_with fail
  refine (refMay_any ⟨f, l, n, d⟩ _ hs).mono ?_
  rintro e w1 ⟨rfl, hb⟩
  rw [HM.out]
  have HB := Lib.hid hb; clear hb
  go_wp2_with fail
  go_ret2
  exact ⟨rfl, Below.next ((Below.refl _ _).alloc (Nat.le_refl _) _) HB.out⟩

/-- The text of four bytes that were laid just now. -/
theorem four_text (w : World) (a b c e : Int) (ha : 0 ≤ a ∧ a < 256) (hb : 0 ≤ b ∧ b < 256) (hc : 0 ≤ c ∧ c < 256) (he : 0 ≤ e ∧ e < 256) :
    (convert 30 9 (.slice (some ⟨w.heap.size, 0, none⟩) 4 4)).run Tryd.prog (w.alloc (.cells #[.int .u8 a, .int .u8 b, .int .u8 c, .int .u8 e] 5)) =
      .ok (.string ⟨#[UInt8.ofNat a.toNat, UInt8.ofNat b.toNat, UInt8.ofNat c.toNat, UInt8.ofNat e.toNat]⟩) (w.alloc (.cells #[.int .u8 a, .int .u8 b, .int .u8 c, .int .u8 e] 5)) := by
  have hx : ∀ x : Int, 0 ≤ x ∧ x < 256 → ((UInt8.ofNat x.toNat).toNat : Int) = x := fun x hx => by rw [Cr.toNat_ofNat]; omega
  have h4 : (w.alloc (.cells #[.int .u8 a, .int .u8 b, .int .u8 c, .int .u8 e] 5)).heap[w.heap.size]? = some (.cells (Lib.byteCells [UInt8.ofNat a.toNat, UInt8.ofNat b.toNat, UInt8.ofNat c.toNat, UInt8.ofNat e.toNat]).toArray 5 (0, 0)) := by
    rw [heap_alloc_new]
    simp only [Lib.byteCells, List.map_cons, List.map_nil, hx a ha, hx b hb, hx c hc, hx e he]
  exact row_text h4 4 (Nat.le_refl _) 4

theorem x3 {n : Int} (h0 : 0 ≤ n) (h1 : n ≤ 65535) : UInt8.ofNat (n % 256).toNat = UInt8.ofNat n.toNat := UInt8.toNat_inj.1 (by rw [Cr.toNat_ofNat, Cr.toNat_ofNat]; omega)
theorem x4 {n : Int} (h0 : 0 ≤ n) (h1 : n ≤ 65535) : UInt8.ofNat (n / 256).toNat = UInt8.ofNat (n.toNat / 256) := UInt8.toNat_inj.1 (by rw [Cr.toNat_ofNat, Cr.toNat_ofNat]; omega)
/-- A cell's first four bytes. -/
def top4 (c : Cr.Cl) : List UInt8 := [UInt8.ofNat (Cr.mark c), UInt8.ofNat c.data.size, UInt8.ofNat c.num.toNat, UInt8.ofNat (c.num.toNat / 256)]
theorem top4_is (f l : Bool) {n : Int} {d : ByteArray} (h0 : 0 ≤ n) (h1 : n ≤ 65535) (b : UInt8) (hb : b = UInt8.ofNat (Cr.mark ⟨f, l, n, d⟩)) :
    (⟨#[b, UInt8.ofNat d.size, UInt8.ofNat (n % 256).toNat, UInt8.ofNat (n / 256).toNat]⟩ ++ d : ByteArray).data.toList = top4 ⟨f, l, n, d⟩ ++ (d.data.toList ++ List.replicate 0 0) := by
  rw [ByteArray.data_append, Array.toList_append, x3 h0 h1, x4 h0 h1, hb, List.replicate_zero, List.append_nil]
  rfl
theorem le4_is (S : Nat) (hS : S < 4294967296) : [UInt8.ofNat ((S : Int) % 256).toNat, UInt8.ofNat ((S : Int) / 256 % 256).toNat, UInt8.ofNat ((S : Int) / 65536 % 256).toNat, UInt8.ofNat ((S : Int) / 16777216).toNat] = Cr.le4 S := by
  unfold Cr.le4
  have e1 : UInt8.ofNat ((S : Int) % 256).toNat = UInt8.ofNat S := UInt8.toNat_inj.1 (by rw [Cr.toNat_ofNat, Cr.toNat_ofNat]; omega)
  have e2 : UInt8.ofNat ((S : Int) / 256 % 256).toNat = UInt8.ofNat (S / 256) := UInt8.toNat_inj.1 (by rw [Cr.toNat_ofNat, Cr.toNat_ofNat]; omega)
  have e3 : UInt8.ofNat ((S : Int) / 65536 % 256).toNat = UInt8.ofNat (S / 65536) := UInt8.toNat_inj.1 (by rw [Cr.toNat_ofNat, Cr.toNat_ofNat]; omega)
  have e4 : UInt8.ofNat ((S : Int) / 16777216).toNat = UInt8.ofNat (S / 16777216) := UInt8.toNat_inj.1 (by rw [Cr.toNat_ofNat, Cr.toNat_ofNat]; omega)
  rw [e1, e2, e3, e4]
theorem le4_is' (S : Nat) (hS : S < 4294967296) : (⟨#[UInt8.ofNat ((S : Int) % 256).toNat, UInt8.ofNat ((S : Int) / 256 % 256).toNat, UInt8.ofNat ((S : Int) / 65536 % 256).toNat, UInt8.ofNat ((S : Int) / 16777216).toNat]⟩ : ByteArray) = ⟨(Cr.le4 S).toArray⟩ := by
  rw [← le4_is S hS]

set_option maxHeartbeats 1000000 in
theorem refMake_00 (n : Int) (d : ByteArray) (w : World) (hm : Cr.may ⟨false, false, n, d⟩ = true) :
    Calls Tryd.prog 25 #[.agg #[.bool false, .bool false, .int .i64 n, .string d]] w (Gives (.tuple #[.string ⟨(Cr.mk ⟨false, false, n, d⟩).toArray⟩, .int .i64 0]) w) := by
  have hs : d.size ≤ 24 := Cr.may_size hm
  obtain ⟨n0, n1⟩ := Cr.may_num hm
  dsimp only at n0 n1
  have HM := Lib.hid hm; clear hm
  go_enter Tryd.func25, Tryd.ntmps25
  go_wp2_with fail
  refine (refMay_any ⟨false, false, n, d⟩ _ (by show d.size ≤ _; omega)).mono ?_
  rintro e w1 ⟨rfl, hb⟩
  rw [HM.out]
  obtain ⟨hc, hf⟩ := bcell hb
  have hz : w.heap.size < w1.heap.size := by have := hb.size; simp at this; omega
  have HB := Lib.hid hb; clear hb
  have t := four_text w1 64 d.size (n % 256) (n / 256) (by omega) (by omega) (by omega) (by omega)
  have hadd : ¬ 9223372036854775807 < 4 + d.size := by omega
  go_wp2_with fail
  have hW : Below w.heap.size w (w1.alloc (.cells #[.int .u8 64, .int .u8 d.size, .int .u8 (n % 256), .int .u8 (n / 256)] 5)) := Below.next_alloc (Below.next ((Below.refl w.heap.size w).alloc (Nat.le_refl _) _) HB.out) _
  have HB1 := Lib.hid hW
  have HH : Hid (Cr.head ⟨false, false, n, d⟩ = top4 ⟨false, false, n, d⟩ ++ (d.data.toList ++ List.replicate (24 - d.size) 0)) := rfl
  have H0 : Hid ((⟨#[64, UInt8.ofNat d.size, UInt8.ofNat (n % 256).toNat, UInt8.ofNat (n / 256).toNat]⟩ ++ d : ByteArray).data.toList = top4 ⟨false, false, n, d⟩ ++ (d.data.toList ++ List.replicate 0 0)) := Lib.hid (top4_is false false n0 n1 64 rfl)
  have HMK : Hid (Cr.mk ⟨false, false, n, d⟩ = Cr.head ⟨false, false, n, d⟩ ++ Cr.le4 (Cr.crc (Cr.head ⟨false, false, n, d⟩))) := rfl
  have H4 : Hid ((⟨#[64, UInt8.ofNat d.size, UInt8.ofNat (n % 256).toNat, UInt8.ofNat (n / 256).toNat]⟩ ++ d : ByteArray).size = 4 + d.size) := Lib.hid (ByteArray.size_append)
  clear t hc hf hz hW hadd
  generalize Cr.mk ⟨false, false, n, d⟩ = MK at *
  generalize Cr.head ⟨false, false, n, d⟩ = HD at *
  generalize top4 ⟨false, false, n, d⟩ = T4 at *
  generalize w1.alloc (.cells #[.int .u8 64, .int .u8 d.size, .int .u8 (n % 256), .int .u8 (n / 256)] 5) = w2 at *
  go_loop [5] (fun u => ∃ (k : Nat) (t : ByteArray), 4 + d.size + k ≤ 28 ∧ u = .string t ∧ t.size ≤ 4 + d.size + k ∧ 4 + d.size + k ≤ t.size ∧ Hid (t.data.toList = T4 ++ (d.data.toList ++ List.replicate k 0))) (fun u => 28 - (match u with | .string S => S.size | _ => 0))
  case atStart => exact ⟨0, _, by omega, rfl, by rw [H4.out]; omega, by rw [H4.out]; omega, H0⟩
  case round =>
    obtain ⟨k, t, hk, rfl, hs1, hs2, HT⟩ := hrel
    clear H4 H0
    by_cases hlt : t.size < 28
    · have HNX : Hid ((t ++ ⟨#[0]⟩ : ByteArray).data.toList = T4 ++ (d.data.toList ++ List.replicate (k + 1) 0)) := by
        rw [ByteArray.data_append, Array.toList_append, HT.out, List.append_assoc, List.append_assoc, List.replicate_succ']; exact Lib.hid rfl
      have hadd : ¬ 9223372036854775807 < t.size + 1 := by omega
      go_wp2_with fail
      go_round
      case rel => exact ⟨k + 1, _, by omega, rfl, by rw [ByteArray.size_append]; show t.size + 1 ≤ _; omega, by rw [ByteArray.size_append]; show _ ≤ t.size + 1; omega, HNX⟩
      case measure => simp only [ByteArray.size_append]; show 28 - (t.size + 1) < 28 - t.size; omega
    · obtain rfl : k = 24 - d.size := by omega
      have HTH : Hid (t.data.toList = HD) := by rw [HT.out, HH.out]; exact Lib.hid rfl
      clear HT HH
      have hs3 : t.size ≤ 28 := by omega
      clear hs1 hs2 hk
      go_wp2_with fail
      refine (refCrc_any t _ (by omega)).mono ?_
      rintro e w3 ⟨rfl, rfl⟩
      obtain ⟨S, hS⟩ : ∃ S, S = Cr.crc t.data.toList := ⟨_, rfl⟩
      rw [← hS]
      have hS2 : S < 4294967296 := by rw [hS]; exact Cr.crc_lt _
      have HS := Lib.hid hS; clear hS
      have t4 := four_text w2 ((S : Int) % 256) ((S : Int) / 256 % 256) ((S : Int) / 65536 % 256) ((S : Int) / 16777216) (by omega) (by omega) (by omega) (by omega)
      rw [le4_is' S hS2] at t4
      have hadd : ¬ 9223372036854775807 < t.size + 4 := by omega
      obtain ⟨E4, hE4⟩ : ∃ E4 : ByteArray, E4 = ⟨(Cr.le4 S).toArray⟩ := ⟨_, rfl⟩
      rw [← hE4] at t4
      have hsz : E4.size = 4 := by rw [hE4]; rfl
      have hadd2 : ¬ 9223372036854775807 < t.size + E4.size := by omega
      have HE : Hid ((t ++ E4 : ByteArray) = ⟨MK.toArray⟩) := by
        apply ByteArray.ext; apply Array.toList_inj.1
        rw [ByteArray.data_append, Array.toList_append, hE4, HTH.out, HMK.out, HS.out, HTH.out]
      clear hE4 hsz
      go_wp2_with fail
      go_ret2
      rw [HE.out]
      exact ⟨rfl, Below.next_alloc HB1.out _⟩

set_option maxHeartbeats 1000000 in
theorem refMake_01 (n : Int) (d : ByteArray) (w : World) (hm : Cr.may ⟨false, true, n, d⟩ = true) :
    Calls Tryd.prog 25 #[.agg #[.bool false, .bool true, .int .i64 n, .string d]] w (Gives (.tuple #[.string ⟨(Cr.mk ⟨false, true, n, d⟩).toArray⟩, .int .i64 0]) w) := by
  have hs : d.size ≤ 24 := Cr.may_size hm
  obtain ⟨n0, n1⟩ := Cr.may_num hm
  dsimp only at n0 n1
  have HM := Lib.hid hm; clear hm
  go_enter Tryd.func25, Tryd.ntmps25
  go_wp2_with fail
  refine (refMay_any ⟨false, true, n, d⟩ _ (by show d.size ≤ _; omega)).mono ?_
  rintro e w1 ⟨rfl, hb⟩
  rw [HM.out]
  obtain ⟨hc, hf⟩ := bcell hb
  have hz : w.heap.size < w1.heap.size := by have := hb.size; simp at this; omega
  have HB := Lib.hid hb; clear hb
  have t := four_text w1 66 d.size (n % 256) (n / 256) (by omega) (by omega) (by omega) (by omega)
  have hadd : ¬ 9223372036854775807 < 4 + d.size := by omega
  go_wp2_with fail
  have hW : Below w.heap.size w (w1.alloc (.cells #[.int .u8 66, .int .u8 d.size, .int .u8 (n % 256), .int .u8 (n / 256)] 5)) := Below.next_alloc (Below.next ((Below.refl w.heap.size w).alloc (Nat.le_refl _) _) HB.out) _
  have HB1 := Lib.hid hW
  have HH : Hid (Cr.head ⟨false, true, n, d⟩ = top4 ⟨false, true, n, d⟩ ++ (d.data.toList ++ List.replicate (24 - d.size) 0)) := rfl
  have H0 : Hid ((⟨#[66, UInt8.ofNat d.size, UInt8.ofNat (n % 256).toNat, UInt8.ofNat (n / 256).toNat]⟩ ++ d : ByteArray).data.toList = top4 ⟨false, true, n, d⟩ ++ (d.data.toList ++ List.replicate 0 0)) := Lib.hid (top4_is false true n0 n1 66 rfl)
  have HMK : Hid (Cr.mk ⟨false, true, n, d⟩ = Cr.head ⟨false, true, n, d⟩ ++ Cr.le4 (Cr.crc (Cr.head ⟨false, true, n, d⟩))) := rfl
  have H4 : Hid ((⟨#[66, UInt8.ofNat d.size, UInt8.ofNat (n % 256).toNat, UInt8.ofNat (n / 256).toNat]⟩ ++ d : ByteArray).size = 4 + d.size) := Lib.hid (ByteArray.size_append)
  clear t hc hf hz hW hadd
  generalize Cr.mk ⟨false, true, n, d⟩ = MK at *
  generalize Cr.head ⟨false, true, n, d⟩ = HD at *
  generalize top4 ⟨false, true, n, d⟩ = T4 at *
  generalize w1.alloc (.cells #[.int .u8 66, .int .u8 d.size, .int .u8 (n % 256), .int .u8 (n / 256)] 5) = w2 at *
  go_loop [5] (fun u => ∃ (k : Nat) (t : ByteArray), 4 + d.size + k ≤ 28 ∧ u = .string t ∧ t.size ≤ 4 + d.size + k ∧ 4 + d.size + k ≤ t.size ∧ Hid (t.data.toList = T4 ++ (d.data.toList ++ List.replicate k 0))) (fun u => 28 - (match u with | .string S => S.size | _ => 0))
  case atStart => exact ⟨0, _, by omega, rfl, by rw [H4.out]; omega, by rw [H4.out]; omega, H0⟩
  case round =>
    obtain ⟨k, t, hk, rfl, hs1, hs2, HT⟩ := hrel
    clear H4 H0
    by_cases hlt : t.size < 28
    · have HNX : Hid ((t ++ ⟨#[0]⟩ : ByteArray).data.toList = T4 ++ (d.data.toList ++ List.replicate (k + 1) 0)) := by
        rw [ByteArray.data_append, Array.toList_append, HT.out, List.append_assoc, List.append_assoc, List.replicate_succ']; exact Lib.hid rfl
      have hadd : ¬ 9223372036854775807 < t.size + 1 := by omega
      go_wp2_with fail
      go_round
      case rel => exact ⟨k + 1, _, by omega, rfl, by rw [ByteArray.size_append]; show t.size + 1 ≤ _; omega, by rw [ByteArray.size_append]; show _ ≤ t.size + 1; omega, HNX⟩
      case measure => simp only [ByteArray.size_append]; show 28 - (t.size + 1) < 28 - t.size; omega
    · obtain rfl : k = 24 - d.size := by omega
      have HTH : Hid (t.data.toList = HD) := by rw [HT.out, HH.out]; exact Lib.hid rfl
      clear HT HH
      have hs3 : t.size ≤ 28 := by omega
      clear hs1 hs2 hk
      go_wp2_with fail
      refine (refCrc_any t _ (by omega)).mono ?_
      rintro e w3 ⟨rfl, rfl⟩
      obtain ⟨S, hS⟩ : ∃ S, S = Cr.crc t.data.toList := ⟨_, rfl⟩
      rw [← hS]
      have hS2 : S < 4294967296 := by rw [hS]; exact Cr.crc_lt _
      have HS := Lib.hid hS; clear hS
      have t4 := four_text w2 ((S : Int) % 256) ((S : Int) / 256 % 256) ((S : Int) / 65536 % 256) ((S : Int) / 16777216) (by omega) (by omega) (by omega) (by omega)
      rw [le4_is' S hS2] at t4
      have hadd : ¬ 9223372036854775807 < t.size + 4 := by omega
      obtain ⟨E4, hE4⟩ : ∃ E4 : ByteArray, E4 = ⟨(Cr.le4 S).toArray⟩ := ⟨_, rfl⟩
      rw [← hE4] at t4
      have hsz : E4.size = 4 := by rw [hE4]; rfl
      have hadd2 : ¬ 9223372036854775807 < t.size + E4.size := by omega
      have HE : Hid ((t ++ E4 : ByteArray) = ⟨MK.toArray⟩) := by
        apply ByteArray.ext; apply Array.toList_inj.1
        rw [ByteArray.data_append, Array.toList_append, hE4, HTH.out, HMK.out, HS.out, HTH.out]
      clear hE4 hsz
      go_wp2_with fail
      go_ret2
      rw [HE.out]
      exact ⟨rfl, Below.next_alloc HB1.out _⟩

set_option maxHeartbeats 1000000 in
theorem refMake_10 (n : Int) (d : ByteArray) (w : World) (hm : Cr.may ⟨true, false, n, d⟩ = true) :
    Calls Tryd.prog 25 #[.agg #[.bool true, .bool false, .int .i64 n, .string d]] w (Gives (.tuple #[.string ⟨(Cr.mk ⟨true, false, n, d⟩).toArray⟩, .int .i64 0]) w) := by
  have hs : d.size ≤ 24 := Cr.may_size hm
  obtain ⟨n0, n1⟩ := Cr.may_num hm
  dsimp only at n0 n1
  have HM := Lib.hid hm; clear hm
  go_enter Tryd.func25, Tryd.ntmps25
  go_wp2_with fail
  refine (refMay_any ⟨true, false, n, d⟩ _ (by show d.size ≤ _; omega)).mono ?_
  rintro e w1 ⟨rfl, hb⟩
  rw [HM.out]
  obtain ⟨hc, hf⟩ := bcell hb
  have hz : w.heap.size < w1.heap.size := by have := hb.size; simp at this; omega
  have HB := Lib.hid hb; clear hb
  have t := four_text w1 65 d.size (n % 256) (n / 256) (by omega) (by omega) (by omega) (by omega)
  have hadd : ¬ 9223372036854775807 < 4 + d.size := by omega
  go_wp2_with fail
  have hW : Below w.heap.size w (w1.alloc (.cells #[.int .u8 65, .int .u8 d.size, .int .u8 (n % 256), .int .u8 (n / 256)] 5)) := Below.next_alloc (Below.next ((Below.refl w.heap.size w).alloc (Nat.le_refl _) _) HB.out) _
  have HB1 := Lib.hid hW
  have HH : Hid (Cr.head ⟨true, false, n, d⟩ = top4 ⟨true, false, n, d⟩ ++ (d.data.toList ++ List.replicate (24 - d.size) 0)) := rfl
  have H0 : Hid ((⟨#[65, UInt8.ofNat d.size, UInt8.ofNat (n % 256).toNat, UInt8.ofNat (n / 256).toNat]⟩ ++ d : ByteArray).data.toList = top4 ⟨true, false, n, d⟩ ++ (d.data.toList ++ List.replicate 0 0)) := Lib.hid (top4_is true false n0 n1 65 rfl)
  have HMK : Hid (Cr.mk ⟨true, false, n, d⟩ = Cr.head ⟨true, false, n, d⟩ ++ Cr.le4 (Cr.crc (Cr.head ⟨true, false, n, d⟩))) := rfl
  have H4 : Hid ((⟨#[65, UInt8.ofNat d.size, UInt8.ofNat (n % 256).toNat, UInt8.ofNat (n / 256).toNat]⟩ ++ d : ByteArray).size = 4 + d.size) := Lib.hid (ByteArray.size_append)
  clear t hc hf hz hW hadd
  generalize Cr.mk ⟨true, false, n, d⟩ = MK at *
  generalize Cr.head ⟨true, false, n, d⟩ = HD at *
  generalize top4 ⟨true, false, n, d⟩ = T4 at *
  generalize w1.alloc (.cells #[.int .u8 65, .int .u8 d.size, .int .u8 (n % 256), .int .u8 (n / 256)] 5) = w2 at *
  go_loop [5] (fun u => ∃ (k : Nat) (t : ByteArray), 4 + d.size + k ≤ 28 ∧ u = .string t ∧ t.size ≤ 4 + d.size + k ∧ 4 + d.size + k ≤ t.size ∧ Hid (t.data.toList = T4 ++ (d.data.toList ++ List.replicate k 0))) (fun u => 28 - (match u with | .string S => S.size | _ => 0))
  case atStart => exact ⟨0, _, by omega, rfl, by rw [H4.out]; omega, by rw [H4.out]; omega, H0⟩
  case round =>
    obtain ⟨k, t, hk, rfl, hs1, hs2, HT⟩ := hrel
    clear H4 H0
    by_cases hlt : t.size < 28
    · have HNX : Hid ((t ++ ⟨#[0]⟩ : ByteArray).data.toList = T4 ++ (d.data.toList ++ List.replicate (k + 1) 0)) := by
        rw [ByteArray.data_append, Array.toList_append, HT.out, List.append_assoc, List.append_assoc, List.replicate_succ']; exact Lib.hid rfl
      have hadd : ¬ 9223372036854775807 < t.size + 1 := by omega
      go_wp2_with fail
      go_round
      case rel => exact ⟨k + 1, _, by omega, rfl, by rw [ByteArray.size_append]; show t.size + 1 ≤ _; omega, by rw [ByteArray.size_append]; show _ ≤ t.size + 1; omega, HNX⟩
      case measure => simp only [ByteArray.size_append]; show 28 - (t.size + 1) < 28 - t.size; omega
    · obtain rfl : k = 24 - d.size := by omega
      have HTH : Hid (t.data.toList = HD) := by rw [HT.out, HH.out]; exact Lib.hid rfl
      clear HT HH
      have hs3 : t.size ≤ 28 := by omega
      clear hs1 hs2 hk
      go_wp2_with fail
      refine (refCrc_any t _ (by omega)).mono ?_
      rintro e w3 ⟨rfl, rfl⟩
      obtain ⟨S, hS⟩ : ∃ S, S = Cr.crc t.data.toList := ⟨_, rfl⟩
      rw [← hS]
      have hS2 : S < 4294967296 := by rw [hS]; exact Cr.crc_lt _
      have HS := Lib.hid hS; clear hS
      have t4 := four_text w2 ((S : Int) % 256) ((S : Int) / 256 % 256) ((S : Int) / 65536 % 256) ((S : Int) / 16777216) (by omega) (by omega) (by omega) (by omega)
      rw [le4_is' S hS2] at t4
      have hadd : ¬ 9223372036854775807 < t.size + 4 := by omega
      obtain ⟨E4, hE4⟩ : ∃ E4 : ByteArray, E4 = ⟨(Cr.le4 S).toArray⟩ := ⟨_, rfl⟩
      rw [← hE4] at t4
      have hsz : E4.size = 4 := by rw [hE4]; rfl
      have hadd2 : ¬ 9223372036854775807 < t.size + E4.size := by omega
      have HE : Hid ((t ++ E4 : ByteArray) = ⟨MK.toArray⟩) := by
        apply ByteArray.ext; apply Array.toList_inj.1
        rw [ByteArray.data_append, Array.toList_append, hE4, HTH.out, HMK.out, HS.out, HTH.out]
      clear hE4 hsz
      go_wp2_with fail
      go_ret2
      rw [HE.out]
      exact ⟨rfl, Below.next_alloc HB1.out _⟩

set_option maxHeartbeats 1000000 in
theorem refMake_11 (n : Int) (d : ByteArray) (w : World) (hm : Cr.may ⟨true, true, n, d⟩ = true) :
    Calls Tryd.prog 25 #[.agg #[.bool true, .bool true, .int .i64 n, .string d]] w (Gives (.tuple #[.string ⟨(Cr.mk ⟨true, true, n, d⟩).toArray⟩, .int .i64 0]) w) := by
  have hs : d.size ≤ 24 := Cr.may_size hm
  obtain ⟨n0, n1⟩ := Cr.may_num hm
  dsimp only at n0 n1
  have HM := Lib.hid hm; clear hm
  go_enter Tryd.func25, Tryd.ntmps25
  go_wp2_with fail
  refine (refMay_any ⟨true, true, n, d⟩ _ (by show d.size ≤ _; omega)).mono ?_
  rintro e w1 ⟨rfl, hb⟩
  rw [HM.out]
  obtain ⟨hc, hf⟩ := bcell hb
  have hz : w.heap.size < w1.heap.size := by have := hb.size; simp at this; omega
  have HB := Lib.hid hb; clear hb
  have t := four_text w1 67 d.size (n % 256) (n / 256) (by omega) (by omega) (by omega) (by omega)
  have hadd : ¬ 9223372036854775807 < 4 + d.size := by omega
  go_wp2_with fail
  have hW : Below w.heap.size w (w1.alloc (.cells #[.int .u8 67, .int .u8 d.size, .int .u8 (n % 256), .int .u8 (n / 256)] 5)) := Below.next_alloc (Below.next ((Below.refl w.heap.size w).alloc (Nat.le_refl _) _) HB.out) _
  have HB1 := Lib.hid hW
  have HH : Hid (Cr.head ⟨true, true, n, d⟩ = top4 ⟨true, true, n, d⟩ ++ (d.data.toList ++ List.replicate (24 - d.size) 0)) := rfl
  have H0 : Hid ((⟨#[67, UInt8.ofNat d.size, UInt8.ofNat (n % 256).toNat, UInt8.ofNat (n / 256).toNat]⟩ ++ d : ByteArray).data.toList = top4 ⟨true, true, n, d⟩ ++ (d.data.toList ++ List.replicate 0 0)) := Lib.hid (top4_is true true n0 n1 67 rfl)
  have HMK : Hid (Cr.mk ⟨true, true, n, d⟩ = Cr.head ⟨true, true, n, d⟩ ++ Cr.le4 (Cr.crc (Cr.head ⟨true, true, n, d⟩))) := rfl
  have H4 : Hid ((⟨#[67, UInt8.ofNat d.size, UInt8.ofNat (n % 256).toNat, UInt8.ofNat (n / 256).toNat]⟩ ++ d : ByteArray).size = 4 + d.size) := Lib.hid (ByteArray.size_append)
  clear t hc hf hz hW hadd
  generalize Cr.mk ⟨true, true, n, d⟩ = MK at *
  generalize Cr.head ⟨true, true, n, d⟩ = HD at *
  generalize top4 ⟨true, true, n, d⟩ = T4 at *
  generalize w1.alloc (.cells #[.int .u8 67, .int .u8 d.size, .int .u8 (n % 256), .int .u8 (n / 256)] 5) = w2 at *
  go_loop [5] (fun u => ∃ (k : Nat) (t : ByteArray), 4 + d.size + k ≤ 28 ∧ u = .string t ∧ t.size ≤ 4 + d.size + k ∧ 4 + d.size + k ≤ t.size ∧ Hid (t.data.toList = T4 ++ (d.data.toList ++ List.replicate k 0))) (fun u => 28 - (match u with | .string S => S.size | _ => 0))
  case atStart => exact ⟨0, _, by omega, rfl, by rw [H4.out]; omega, by rw [H4.out]; omega, H0⟩
  case round =>
    obtain ⟨k, t, hk, rfl, hs1, hs2, HT⟩ := hrel
    clear H4 H0
    by_cases hlt : t.size < 28
    · have HNX : Hid ((t ++ ⟨#[0]⟩ : ByteArray).data.toList = T4 ++ (d.data.toList ++ List.replicate (k + 1) 0)) := by
        rw [ByteArray.data_append, Array.toList_append, HT.out, List.append_assoc, List.append_assoc, List.replicate_succ']; exact Lib.hid rfl
      have hadd : ¬ 9223372036854775807 < t.size + 1 := by omega
      go_wp2_with fail
      go_round
      case rel => exact ⟨k + 1, _, by omega, rfl, by rw [ByteArray.size_append]; show t.size + 1 ≤ _; omega, by rw [ByteArray.size_append]; show _ ≤ t.size + 1; omega, HNX⟩
      case measure => simp only [ByteArray.size_append]; show 28 - (t.size + 1) < 28 - t.size; omega
    · obtain rfl : k = 24 - d.size := by omega
      have HTH : Hid (t.data.toList = HD) := by rw [HT.out, HH.out]; exact Lib.hid rfl
      clear HT HH
      have hs3 : t.size ≤ 28 := by omega
      clear hs1 hs2 hk
      go_wp2_with fail
      refine (refCrc_any t _ (by omega)).mono ?_
      rintro e w3 ⟨rfl, rfl⟩
      obtain ⟨S, hS⟩ : ∃ S, S = Cr.crc t.data.toList := ⟨_, rfl⟩
      rw [← hS]
      have hS2 : S < 4294967296 := by rw [hS]; exact Cr.crc_lt _
      have HS := Lib.hid hS; clear hS
      have t4 := four_text w2 ((S : Int) % 256) ((S : Int) / 256 % 256) ((S : Int) / 65536 % 256) ((S : Int) / 16777216) (by omega) (by omega) (by omega) (by omega)
      rw [le4_is' S hS2] at t4
      have hadd : ¬ 9223372036854775807 < t.size + 4 := by omega
      obtain ⟨E4, hE4⟩ : ∃ E4 : ByteArray, E4 = ⟨(Cr.le4 S).toArray⟩ := ⟨_, rfl⟩
      rw [← hE4] at t4
      have hsz : E4.size = 4 := by rw [hE4]; rfl
      have hadd2 : ¬ 9223372036854775807 < t.size + E4.size := by omega
      have HE : Hid ((t ++ E4 : ByteArray) = ⟨MK.toArray⟩) := by
        apply ByteArray.ext; apply Array.toList_inj.1
        rw [ByteArray.data_append, Array.toList_append, hE4, HTH.out, HMK.out, HS.out, HTH.out]
      clear hE4 hsz
      go_wp2_with fail
      go_ret2
      rw [HE.out]
      exact ⟨rfl, Below.next_alloc HB1.out _⟩

theorem refMake_yes (f l : Bool) (n : Int) (d : ByteArray) (w : World) (hm : Cr.may ⟨f, l, n, d⟩ = true) :
    Calls Tryd.prog 25 #[.agg #[.bool f, .bool l, .int .i64 n, .string d]] w (Gives (.tuple #[.string ⟨(Cr.mk ⟨f, l, n, d⟩).toArray⟩, .int .i64 0]) w) := by
  cases f <;> cases l
  · exact refMake_00 n d w hm
  · exact refMake_01 n d w hm
  · exact refMake_10 n d w hm
  · exact refMake_11 n d w hm

end Go.Proofs.YtalmkgjinabceaaDoor

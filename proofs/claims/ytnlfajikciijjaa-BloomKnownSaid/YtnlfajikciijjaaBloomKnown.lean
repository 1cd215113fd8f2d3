/- The walk of BloomKnown. -/
import Derived.Test.YtnlfajikciijjaaBlE
import Derived.Test.YtnlfajikciijjaaOwnsT
namespace Go.Proofs.Ytnlfajikciijjaa
open Go.RowKit

theorem hash_none : ((Bl.hash (⟨#[]⟩ : ByteArray).data.toList : Nat) : Int) = 14695981039346656037 := by kernel_rfl
theorem may_none : Bl.may (⟨#[]⟩ : ByteArray).data.toList (⟨#[97]⟩ : ByteArray).data.toList = false := by kernel_rfl
theorem mk_none : (⟨(Bl.mk (kl [])).toArray⟩ : ByteArray) = ⟨#[0, 0, 0, 0, 0, 0, 0, 0]⟩ := by kernel_rfl

/-- The row of a hundred empty keys. -/
theorem hundred (w : World) :
    ∃ w', (Instr.makeSlice 22 (.int .i64 100) (.int .i64 100)).run Try.prog w = .ok (.slice (some ⟨w.heap.size, 0, none⟩) 100 100) w' ∧ w.heap.size < w'.heap.size ∧ Below w.heap.size w w' ∧ ∀ i, i < 100 → w'.cell? ⟨w.heap.size, i, none⟩ = some (.string ⟨#[]⟩) := by
  obtain ⟨i0, hi, hz0, hz1, hz2⟩ := info_parts info_string
  have h := run_make (P := Try.prog) w 22 9 i0 (.string ⟨#[]⟩) Try.underlying22 hi hz0 .i64 .i64 100 100 (by omega) (by omega) (by rw [hz2]; omega) (by omega)
  rw [hz1, Nat.mul_one] at h
  refine ⟨_, h, by simp, (Below.refl _ _).alloc (Nat.le_refl _) _, fun i hi => ?_⟩
  have hh := heap_alloc_new w (.cells (madeCells (Value.string ⟨#[]⟩).cells 100) 9)
  rw [show ((100 : Int).toNat) = 100 from rfl, cell_of hh]
  simp [madeCells, Value.cells, hi, Nat.mod_one]
theorem sees_first {w w' : World} {B : Nat} (h : ∀ i, i < 100 → w.cell? ⟨B, i, none⟩ = some (.string ⟨#[]⟩)) (hB : B < w.heap.size) (hb : Below w.heap.size w w') (n : Nat) (hn : n ≤ 100) : SeesS w' (.slice (some ⟨B, 0, none⟩) n 100) (List.replicate n ⟨#[]⟩) := by
  refine Or.inr ⟨B, 0, 100, by rw [List.length_replicate], Nat.lt_of_lt_of_le hB hb.size, fun i hi => ?_⟩
  have hi' : i < n := by simpa using hi
  rw [Nat.zero_add, hb.cell (p := ⟨B, i, none⟩) hB, h i (by omega)]
  simp [hi']
theorem size_mk (n : Nat) : (⟨(Bl.mk (kl (List.replicate n ⟨#[]⟩))).toArray⟩ : ByteArray).size = Bl.size n := by
  show (Bl.mk _).toArray.size = _
  rw [List.size_toArray, Bl.mk_length, kl_length, List.length_replicate]

set_option maxHeartbeats 2000000 in
theorem known_walk (W : World) : Calls Try.prog 3 #[] W (Gives (.bool true) W) := by
  obtain ⟨w0, hmk, hlt, hb0, hc0⟩ := hundred W
  have HB0 := Lib.hid hb0; clear hb0
  have HC := Lib.hid hc0; clear hc0
  obtain ⟨F6, HF6, hf6⟩ : ∃ F : ByteArray, Hid (F = ⟨(Bl.mk (kl (List.replicate 6 ⟨#[]⟩))).toArray⟩) ∧ F.size = 8 := ⟨_, Lib.hid rfl, by rw [size_mk]; rfl⟩
  obtain ⟨F7, HF7, hf7⟩ : ∃ F : ByteArray, Hid (F = ⟨(Bl.mk (kl (List.replicate 7 ⟨#[]⟩))).toArray⟩) ∧ F.size = 9 := ⟨_, Lib.hid rfl, by rw [size_mk]; rfl⟩
  obtain ⟨F1, HF1, hf1⟩ : ∃ F : ByteArray, Hid (F = ⟨(Bl.mk (kl (List.replicate 100 ⟨#[]⟩))).toArray⟩) ∧ F.size = 125 := ⟨_, Lib.hid rfl, by rw [size_mk]; rfl⟩
  go_enter Try.func3, Try.ntmps3
  go_wp2_with fail
  refine (hash_any _ _ (by decide)).mono ?_
  rintro e w1 ⟨rfl, rfl⟩
  rw [hash_none]
  go_wp2_with fail
  refine (make_any none 0 0 [] _ (Or.inl ⟨rfl, _, _, rfl⟩) (by simp) (by omega)).mono ?_
  rintro e w1 ⟨rfl, hb1⟩
  rw [mk_none]
  have HB1 := Lib.hid hb1; clear hb1
  go_wp2_with fail
  refine (may_any ⟨#[]⟩ ⟨#[97]⟩ _ (by decide) (by decide)).mono ?_
  rintro e w2 ⟨rfl, hb2⟩
  rw [may_none]
  have HB2 := Lib.hid (Below.next HB1.out hb2); clear hb2
  go_wp2_with fail
  refine (make_any _ 6 100 (List.replicate 6 ⟨#[]⟩) _ (sees_first HC.out hlt HB2.out 6 (by omega)) (fun s hs => by rw [(List.mem_replicate.1 hs).2]; decide) (by omega)).mono ?_
  rintro e w3 ⟨rfl, hb3⟩
  rw [← HF6.out]
  have HB3 := Lib.hid (Below.next HB2.out hb3); clear hb3
  go_wp2_with fail
  refine (make_any _ 7 100 (List.replicate 7 ⟨#[]⟩) _ (sees_first HC.out hlt HB3.out 7 (by omega)) (fun s hs => by rw [(List.mem_replicate.1 hs).2]; decide) (by omega)).mono ?_
  rintro e w4 ⟨rfl, hb4⟩
  rw [← HF7.out]
  have HB4 := Lib.hid (Below.next HB3.out hb4); clear hb4
  go_wp2_with fail
  refine (make_any _ 100 100 (List.replicate 100 ⟨#[]⟩) _ (sees_first HC.out hlt HB4.out 100 (by omega)) (fun s hs => by rw [(List.mem_replicate.1 hs).2]; decide) (by omega)).mono ?_
  rintro e w5 ⟨rfl, hb5⟩
  rw [← HF1.out]
  have HB5 := Lib.hid (Below.next HB4.out hb5); clear hb5
  go_wp2_with fail
  refine (awake_any _).mono ?_
  rintro e w6 ⟨rfl, hb6⟩
  go_wp2_with fail
  go_ret
  exact ⟨rfl, Below.next (HB0.out.trans (HB5.out.mono (Nat.le_of_lt hlt))) hb6⟩

end Go.Proofs.Ytnlfajikciijjaa

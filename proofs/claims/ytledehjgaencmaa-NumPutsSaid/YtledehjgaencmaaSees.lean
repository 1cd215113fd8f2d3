/- Slices that came in, as lists: numbers and texts. -/
import Derived.Test.YtledehjgaencmaaNumVar
import Derived.ProofKit
import Derived.OpenShut
import Derived.ShutString
import Derived.ChangeOld
import Derived.SliceStrings
namespace Go.Proofs.Ytledehjgaencmaa
open Go.ChangeShapes Go.WideShapes Go.ChangeAt Go.RowKit

theorem getD_take_map (zs : List Int) (len i : Nat) (h : i < len) (hz : len ≤ zs.length) : ((zs.take len).map Int.toNat).getD i 0 = (zs.getD i 0).toNat := by
  have h1 : i < zs.length := by omega
  simp [h, h1]
theorem getD_takeS (ss : List ByteArray) (len i : Nat) (h : i < len) : (ss.take len).getD i ByteArray.empty = ss.getD i ByteArray.empty := by
  simp [h]

/-- A slice of uint64 that came in. -/
theorem seesU_of {H : Type} {enc : TypeId × Value → H} {W : World} {a : Option Addr} {len cap : Nat} {d : DataW H} {p : List MemPlace} (h : DataW.Trod enc Try.prog W 0 (fun _ => true) true 34 (.slice a len cap) d p) :
    ∃ ns : List Nat, SeesU W (.slice a len cap) ns ∧ ns.length = len ∧ ∀ i, ns.getD i 0 < 18446744073709551616 := by
  obtain ⟨fuel, hf⟩ := h
  rcases open_ints Try.underlying34 Try.underlying23 (by kernel_rfl) hf with ⟨hcs, _⟩ | ⟨x, l, c, zs, hcs, _, hl, _, hz, _, hcell, hwz⟩
  · simp [Value.cells] at hcs
    obtain ⟨rfl, rfl, rfl⟩ := hcs
    exact ⟨[], Or.inl ⟨rfl, none, 0, rfl⟩, rfl, fun i => by simp⟩
  · simp [Value.cells] at hcs
    obtain ⟨rfl, rfl, rfl⟩ := hcs
    have hzl : zs.length = cap := by simpa using hz
    have hr : ∀ j : Nat, 0 ≤ zs[j]?.getD 0 ∧ zs[j]?.getD 0 ≤ 18446744073709551615 := range_u64 hwz
    refine ⟨(zs.take len).map Int.toNat, ?_, by simp; omega, ?_⟩
    · by_cases h0 : len = 0
      · subst h0
        exact Or.inl ⟨by simp, _, _, rfl⟩
      · obtain ⟨b, off, rfl, hc⟩ := ints_at hcell (by omega)
        have hlen : ((zs.take len).map Int.toNat).length = len := by simp; omega
        refine Or.inr ⟨b, off, cap, by rw [hlen], ?_, ?_⟩
        · have := World.block_lt_of_cell? _ _ (hc 0 (by omega))
          exact this
        · intro i hi
          rw [hlen] at hi
          rw [getD_take_map zs len i hi (by omega), hc i (by omega)]
          have := hr i
          have e : zs.getD i 0 = zs[i]?.getD 0 := rfl
          rw [e, Int.toNat_of_nonneg this.1]
    · intro i
      by_cases hi : i < len
      · rw [getD_take_map zs len i hi (by omega)]
        have := hr i
        have e : zs.getD i 0 = zs[i]?.getD 0 := rfl
        rw [e]
        omega
      · have : ((zs.take len).map Int.toNat).getD i 0 = 0 := by simp [List.getElem?_take, hi]
        rw [this]; omega

/-- A slice of strings that came in. -/
theorem seesS_of {H : Type} {enc : TypeId × Value → H} {W : World} {a : Option Addr} {len cap : Nat} {d : DataW H} {p : List MemPlace} (h : DataW.Trod enc Try.prog W 0 (fun _ => true) true 24 (.slice a len cap) d p) :
    ∃ ss : List ByteArray, SeesS W (.slice a len cap) ss ∧ ss.length = len ∧ ∀ s ∈ ss, s.size ≤ 9223372036854775807 := by
  obtain ⟨fuel, hf⟩ := h
  rcases open_strings Try.underlying24 Try.underlying9 (by kernel_rfl) hf with ⟨hcs, _⟩ | ⟨x, l, c, ss, hcs, _, hl, _, hz, _, hcell, hws⟩
  · simp [Value.cells] at hcs
    obtain ⟨rfl, rfl, rfl⟩ := hcs
    exact ⟨[], Or.inl ⟨rfl, none, 0, rfl⟩, rfl, fun s hs => by simp at hs⟩
  · simp [Value.cells] at hcs
    obtain ⟨rfl, rfl, rfl⟩ := hcs
    have hzl : ss.length = cap := by simpa using hz
    refine ⟨ss.take len, ?_, by simp; omega, fun s hs => by have := hws s (List.mem_of_mem_take hs); unfold maxLen at this; omega⟩
    by_cases h0 : len = 0
    · subst h0
      exact Or.inl ⟨by simp, _, _, rfl⟩
    · have hlen : (ss.take len).length = len := by simp; omega
      obtain ⟨b, off, spot⟩ := x
      have hspot : spot = none := by simpa [Addr.add] using World.cell?_spot (hcell 0 (by omega))
      subst hspot
      have hc : ∀ j, j < ss.length → W.cell? ⟨b, off + j, none⟩ = some (.string (ss.getD j ByteArray.empty)) := fun j hj => by rw [← Go.WideShapes.add_plain]; exact hcell j hj
      refine Or.inr ⟨b, off, cap, by rw [hlen], World.block_lt_of_cell? _ _ (hc 0 (by omega)), ?_⟩
      intro i hi
      rw [hlen] at hi
      rw [getD_takeS ss len i hi, hc i (by omega)]

end Go.Proofs.Ytledehjgaencmaa

/- Slices of texts that lie in memory; no function is named (as CellB's first part, without a table). -/
import Derived.Test.YtnlfajikciijjaaBase
import Derived.Below
namespace Go.Proofs.Ytnlfajikciijjaa
open Go.RowKit

theorem size_list (s : ByteArray) : s.data.toList.length = s.size := by rw [Array.length_toList]; rfl
theorem getD_at {ss : List ByteArray} {k : Nat} (h : k < ss.length) : ss.getD k ByteArray.empty = ss[k] := by simp [h]
/-- A slice of texts that lies in memory. -/
def SeesS (w : World) (v : Value) (ss : List ByteArray) : Prop :=
  (ss = [] ∧ ∃ a cap, v = .slice a 0 cap) ∨
  ∃ b off cap, v = .slice (some ⟨b, off, none⟩) ss.length cap ∧ b < w.heap.size ∧ ∀ i, i < ss.length → w.cell? ⟨b, off + i, none⟩ = some (.string (ss.getD i ByteArray.empty))
theorem SeesS.below {w w' : World} {v : Value} {ss : List ByteArray} (h : SeesS w v ss) (hb : Below w.heap.size w w') : SeesS w' v ss := by
  rcases h with h | ⟨b, off, cap, rfl, hlt, hc⟩
  · exact Or.inl h
  · exact Or.inr ⟨b, off, cap, rfl, Nat.lt_of_lt_of_le hlt hb.size, fun i hi => (hb.cell (p := ⟨b, off + i, none⟩) hlt).trans (hc i hi)⟩
theorem SeesS.get {w : World} {ao : Option Addr} {len cap : Nat} {ss : List ByteArray} (h : SeesS w (.slice ao len cap) ss) :
    ss.length = len ∧ ∃ b off, ∀ i, i < len → ao = some ⟨b, off, none⟩ ∧ b < w.heap.size ∧ w.cell? ⟨b, off + i, none⟩ = some (.string (ss.getD i ByteArray.empty)) := by
  rcases h with ⟨rfl, a, c, h⟩ | ⟨b, off, c, h, hb, hc⟩
  · simp only [Value.slice.injEq] at h
    obtain ⟨rfl, rfl, rfl⟩ := h
    exact ⟨rfl, 0, 0, fun i hi => by omega⟩
  · simp only [Value.slice.injEq] at h
    obtain ⟨rfl, rfl, rfl⟩ := h
    exact ⟨rfl, b, off, fun i hi => ⟨rfl, hb, hc i hi⟩⟩
theorem sees_builtS {w : World} {cs : Array Value} {t : TypeId} {ss : List ByteArray} (h : ∀ i, i < ss.length → cs[i]? = some (.string (ss.getD i ByteArray.empty))) (cap : Nat) :
    SeesS (w.alloc (.cells cs t)) (.slice (some ⟨w.heap.size, 0, none⟩) ss.length cap) ss := by
  refine Or.inr ⟨w.heap.size, 0, cap, rfl, by simp, fun i hi => ?_⟩
  rw [World.cell?_alloc_mark, Nat.zero_add]
  exact h i hi
theorem sees_one (w : World) (s : ByteArray) (t : TypeId) (cap : Nat) : SeesS (w.alloc (.cells #[.string s] t)) (.slice (some ⟨w.heap.size, 0, none⟩) 1 cap) [s] :=
  sees_builtS (ss := [s]) (fun i hi => by obtain rfl : i = 0 := by simpa using hi
                                          rfl) cap
theorem sees_two (w : World) (s u : ByteArray) (t : TypeId) (cap : Nat) : SeesS (w.alloc (.cells #[.string s, .string u] t)) (.slice (some ⟨w.heap.size, 0, none⟩) 2 cap) [s, u] :=
  sees_builtS (ss := [s, u]) (fun i hi => by
    match i, hi with
    | 0, _ => rfl
    | 1, _ => rfl) cap

end Go.Proofs.Ytnlfajikciijjaa

/- Rows of bytes that are written: their cells, one by one. -/
import Derived.Test.YtnlfajikciijjaaBytes
import Derived.RowKit3
import Derived.Laws.IdiomStrings
namespace Go.Proofs.Ytnlfajikciijjaa
open Go.RowKit

/-- In block B, from its beginning on, lie these bytes, and may be written. -/
def Row (w : World) (B : Nat) (l : List UInt8) : Prop := ∀ i (h : i < l.length), w.cell? ⟨B, i, none⟩ = some (.int .u8 (l[i].toNat : Int)) ∧ w.frozen? ⟨B, i, none⟩ = false

theorem Row.set {w : World} {B : Nat} {l : List UInt8} (h : Row w B l) (i : Nat) (b : UInt8) : Row (w.setCell ⟨B, i, none⟩ (.int .u8 (b.toNat : Int))) B (l.set i b) := by
  intro j hj
  have hj' : j < l.length := by simpa using hj
  refine ⟨?_, (World.frozen?_setCell _ _ _ _).trans (h j hj').2⟩
  by_cases e : i = j
  · subst e
    rw [World.cell?_setCell_same _ _ _ (h i hj').1]
    simp
  · rw [World.cell?_setCell_other _ _ _ _ (show (⟨B, i, none⟩ : Addr) ≠ ⟨B, j, none⟩ from fun hc => e (by injection hc)), (h j hj').1, List.getElem_set_ne e]
theorem Row.below {w w' : World} {B : Nat} {l : List UInt8} (h : Row w B l) (hB : B < w.heap.size) (hb : Below w.heap.size w w') : Row w' B l := fun i hi =>
  ⟨(hb.cell (p := ⟨B, i, none⟩) hB).trans (h i hi).1, (hb.frozen (p := ⟨B, i, none⟩) hB).trans (h i hi).2⟩
/-- What '[]byte(s)' lays. -/
theorem row_new (w : World) (s : ByteArray) (c : Nat) (t : TypeId) : Row (w.alloc (.cells (bytesRow s c) t ((bytesRow s c).size, (bytesRow s c).size + 1))) w.heap.size s.data.toList := by
  intro i hi
  have hi' : i < s.data.size := by simpa using hi
  have hh := heap_alloc_new w (.cells (bytesRow s c) t ((bytesRow s c).size, (bytesRow s c).size + 1))
  constructor
  · rw [cell_of_row _ _ _ _ _ _ hh]
    unfold bytesRow
    rw [Array.getElem?_append_left (by simpa using hi')]
    simp
    exact ⟨_, Array.getElem?_eq_getElem hi', rfl⟩
  · have hlt : i < (bytesRow s c).size := by unfold bytesRow; rw [Array.size_append, Array.size_map]; omega
    unfold World.frozen?
    rw [hh]
    simp
    omega
/-- Its text. -/
theorem Row.text {w : World} {B : Nat} {l : List UInt8} (h : Row w B l) (cap : Nat) :
    (convert 32 9 (.slice (some ⟨B, 0, none⟩) l.length cap)).run Try.prog w = .ok (.string ⟨l.toArray⟩) w :=
  run_convert_bytes_back (P := Try.prog) w 32 9 5 ⟨B, 0, none⟩ cap l Try.underlying32 Try.underlying5 Try.underlying9 (fun j hj => by
    have ea : (⟨B, 0, none⟩ : Addr).add j = ⟨B, j, none⟩ := by simp [Addr.add]; exact fun h => h.symm
    rw [ea]
    exact (h j hj).1)

end Go.Proofs.Ytnlfajikciijjaa

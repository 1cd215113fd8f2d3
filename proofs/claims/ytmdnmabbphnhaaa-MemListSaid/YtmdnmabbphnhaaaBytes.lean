/- Rows of bytes in memory, and their texts. -/
import Derived.Test.YtmdnmabbphnhaaaBase
import Derived.Lib.Strings
import Derived.Lib.BufferWrite
import Derived.Lib.UnsafeStr
import Derived.Laws.MakeOwn
namespace Go.Proofs.Ytmdnmabbphnhaaa
open Go.RowKit

theorem info_u8 : (Try.prog.info? 5).map (fun i => (i.zero, i.size, i.bytes)) = some (some (.int .u8 0), 1, 1) := by kernel_rfl
theorem byteCells_append (a b : List UInt8) : Lib.byteCells (a ++ b) = Lib.byteCells a ++ Lib.byteCells b := by simp [Lib.byteCells]
theorem byteCells_noughts (n : Nat) : Lib.byteCells (List.replicate n 0) = List.replicate n (.int .u8 0) := by simp [Lib.byteCells]
theorem set_cells (P Z : List UInt8) (x b : UInt8) (i : Nat) (h : P.length = i) (v : Value) (hv : v = .int .u8 b.toNat) : (Lib.byteCells (P ++ x :: Z)).toArray.setIfInBounds i v = (Lib.byteCells (P ++ b :: Z)).toArray := by
  subst hv
  rw [List.setIfInBounds_toArray]
  congr 1
  simp only [Lib.byteCells, List.map_append, List.map_cons]
  rw [List.set_append_right _ _ (by rw [List.length_map]; omega), List.length_map, h, Nat.sub_self, List.set_cons_zero]
theorem byte_cell (l : List UInt8) (i : Nat) (h : i < l.length) : (Lib.byteCells l).toArray[i]? = some (.int .u8 l[i].toNat) := by
  simp [Lib.byteCells, h]

/-- The text of the first bytes of a row that lies whole. -/
theorem row_text {w : World} {B : Nat} {l : List UInt8} {t : TypeId} (h : w.heap[B]? = some (.cells (Lib.byteCells l).toArray t (0, 0))) (k : Nat) (hk : k ≤ l.length) (cap : Nat) :
    (convert 82 9 (.slice (some ⟨B, 0, none⟩) k cap)).run Try.prog w = .ok (.string ⟨(l.take k).toArray⟩) w := by
  have e : (l.take k).length = k := by rw [List.length_take]; omega
  have := run_convert_bytes_back (P := Try.prog) w 82 9 5 ⟨B, 0, none⟩ cap (l.take k) Try.underlying82 Try.underlying5 Try.underlying9 (fun j hj => by
    have hj' : j < k := by omega
    have ea : (⟨B, 0, none⟩ : Addr).add j = ⟨B, j, none⟩ := by simp [Addr.add]; exact fun h => h.symm
    rw [ea, cell_of_row w B j _ _ _ h]
    simp only [Lib.byteCells, List.getElem?_toArray, List.getElem?_map, List.getElem_take]
    rw [List.getElem?_eq_getElem (by omega)]
    rfl)
  rw [e] at this
  exact this


end Go.Proofs.Ytmdnmabbphnhaaa

/- Walks of num.ReadVar. -/
import Derived.Test.YtmdnmabbphnhaaaBnNumWalkB
import Derived.Lib.IndexBytes
namespace Go.Proofs.Ytmdnmabbphnhaaa.Bn
set_option maxRecDepth 100000
open Go.RowKit

/-- What ReadVar answers of a text's bytes. -/
def rvV (l : List UInt8) : Value :=
  match Nm.rv l with
  | some (n, k) => .tuple #[.int .u64 n, .int .i64 k, .bool true]
  | none => .tuple #[.int .u64 0, .int .i64 0, .bool false]

theorem index_byte (s : ByteArray) (i : Nat) (h : i < s.size) : ∀ w : World, (Instr.index 9 (.string s) (.int .i64 i)).run Try.prog w = .ok (.int .u8 (s[i]'h).toNat) w := by
  intro w
  rw [run_index_string _ _ _ _ _ Try.underlying9]
  simp [h]

theorem extract_size (s : ByteArray) (_h : 1 ≤ s.size) : (s.extract 1 s.size).size = s.size - 1 := by simp [ByteArray.size_extract]

theorem empty_of_size {s : ByteArray} (h : s.size = 0) : s = ByteArray.empty := by
  have h2 : s.data.size = 0 := h
  cases s with
  | mk d => exact congrArg ByteArray.mk (Array.eq_empty_of_size_eq_zero h2)

theorem isEmpty_of_size {s : ByteArray} (h : 1 ≤ s.size) : s.toList.isEmpty = false := by
  rw [ByteArray.toList_eq]
  cases e : s.data.toList with
  | nil => have := length_list s; rw [e] at this; simp at this; omega
  | cons => rfl

theorem head_tail (s : ByteArray) (h : 0 < s.size) : s.data.toList = s[0] :: (s.extract 1 s.size).data.toList := by
  rw [Lib.extract_to_end]
  have := List.drop_eq_getElem_cons (l := s.data.toList) (i := 0) (by rw [length_list]; omega)
  rw [List.drop_zero] at this
  exact this

end Go.Proofs.Ytmdnmabbphnhaaa.Bn

/- Walks of num.ReadBig. -/
import Derived.Test.YtmdnmabbphnhaaaBnNumWalkA
namespace Go.Proofs.Ytmdnmabbphnhaaa.Bn
set_option maxRecDepth 100000
open Go.RowKit

theorem or_byte (A b : Nat) (h : 256 * A + b < 18446744073709551616) (hb : b < 256) :
    bits .or .u64 (IntKind.u64.wrap ((A : Int) * 256)) (IntKind.u64.wrap (b : Int)) = ((256 * A + b : Nat) : Int) := by
  have e1 : IntKind.u64.wrap ((A : Int) * 256) = ((256 * A : Nat) : Int) := by rw [IntKind.wrap_u64]; omega
  have e2 : IntKind.u64.wrap (b : Int) = (b : Int) := by rw [IntKind.wrap_u64]; omega
  rw [e1, e2, u64_or_nat _ _ (by omega) (by omega), nat_join 8 _ _ (by omega) (by omega)]

theorem take_snoc (s : ByteArray) (k : Nat) (h : k < s.size) : s.data.toList.take (k + 1) = s.data.toList.take k ++ [s[k]] := by
  rw [List.take_succ_eq_append_getElem (by simpa using h)]; rfl
theorem length_list (s : ByteArray) : s.data.toList.length = s.size := by rw [Array.length_toList]; rfl

theorem ret_int {k : IntKind} {a b : Int} (h : a = b) : Ending.returned (.int k a) = .returned (.int k b) := by rw [h]

end Go.Proofs.Ytmdnmabbphnhaaa.Bn

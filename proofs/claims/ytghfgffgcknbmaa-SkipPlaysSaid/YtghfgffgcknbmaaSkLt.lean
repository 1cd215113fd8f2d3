/- Texts compared, as walks ask it. -/
import Derived.Test.YtghfgffgcknbmaaSkI
namespace Go.Proofs.Ytghfgffgcknbmaa.Sk
open Go Go.RowKit

/-- A text is ahead of another one, as walks ask it. -/
structure Lt (a b : ByteArray) : Prop where
  lt : Op.bytesLess a.toList b.toList = true
  nlt : Op.bytesLess b.toList a.toList = false
  ne : (a.toList == b.toList) = false
  en : (b.toList == a.toList) = false
  dne : ¬ a.toList = b.toList
  den : ¬ b.toList = a.toList
theorem Lt.of {a b : ByteArray} (h : bytesBefore a.data.toList b.data.toList = true) : Lt a b := by
  have hn : a.toList ≠ b.toList := by rw [ByteArray.toList_eq, ByteArray.toList_eq]; exact lt_ne h
  refine ⟨?_, ?_, beq_false_of_ne hn, beq_false_of_ne (Ne.symm hn), hn, Ne.symm hn⟩
  · rw [less_eq, ByteArray.toList_eq, ByteArray.toList_eq]; exact h
  · rw [less_eq, ByteArray.toList_eq, ByteArray.toList_eq]; exact lt_asym h
theorem less_self (a : ByteArray) : Op.bytesLess a.toList a.toList = false := by
  rw [less_eq]; exact Bool.eq_false_iff.2 (lt_irr _)
theorem txt_of {y : It ByteArray} {K : ByteArray} (h : y.key = K.data.toList) : txt y.key = K := by rw [h]; exact txt_key K
theorem txt_data (k : Str) : (txt k).data.toList = k := rfl

end Go.Proofs.Ytghfgffgcknbmaa.Sk

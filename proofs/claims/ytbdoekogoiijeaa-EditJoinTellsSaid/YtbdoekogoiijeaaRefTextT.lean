/- Small facts on texts and slices of texts. No function is named. -/
import Derived.Test.YtbdoekogoiijeaaNumText
import Derived.Test.YtbdoekogoiijeaaNumVar
import Derived.Test.YtbdoekogoiijeaaNumVarU
import Derived.Test.YtbdoekogoiijeaaBelow
import Derived.Deep.RegionHeld3
namespace Go.Proofs.Ytbdoekogoiijeaa
open Go.RowKit
set_option linter.unusedVariables false

theorem big_cons : ∀ (w n : Nat), Nm.big n (w + 1) = UInt8.ofNat (n / 256 ^ w) :: Nm.big n w
  | 0, n => by simp [Nm.big]
  | w + 1, n => by
    rw [Nm.big, big_cons w (n / 256), Nat.div_div_eq_div_mul, ← Nat.pow_succ', List.cons_append]
    rfl

theorem mk_app (x y : List UInt8) : (⟨x.toArray⟩ : ByteArray) ++ ⟨y.toArray⟩ = ⟨(x ++ y).toArray⟩ := by
  apply ByteArray.ext
  rw [ByteArray.data_append]
  simp


theorem mk_of {l : List UInt8} {S : ByteArray} (h : l = S.data.toList) : (⟨l.toArray⟩ : ByteArray) = S := by rw [h]

theorem SeesS.get {w : World} {ao : Option Addr} {len cap : Nat} {ss : List ByteArray} (h : SeesS w (.slice ao len cap) ss) :
    ss.length = len ∧ ∃ b off, ∀ i, i < len → ao = some ⟨b, off, none⟩ ∧ b < w.heap.size ∧ w.cell? ⟨b, off + i, none⟩ = some (.string (ss.getD i ByteArray.empty)) := by
  rcases h with ⟨rfl, a, c, h⟩ | ⟨b, off, c, h, hb, hc⟩
  · simp only [Value.slice.injEq] at h
    obtain ⟨rfl, rfl, rfl⟩ := h
    exact ⟨rfl, 0, 0, fun i hi => by omega⟩
  · simp only [Value.slice.injEq] at h
    obtain ⟨rfl, rfl, rfl⟩ := h
    exact ⟨rfl, b, off, fun i hi => ⟨rfl, hb, hc i hi⟩⟩

end Go.Proofs.Ytbdoekogoiijeaa

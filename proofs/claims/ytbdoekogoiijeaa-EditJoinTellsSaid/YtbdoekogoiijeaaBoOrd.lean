/- The order of texts, byte by byte. No function is named. -/
import Derived.Test.YtbdoekogoiijeaaNumMath
import Derived.WalkKit
namespace Go.Proofs.Ytbdoekogoiijeaa.Bo
open Go

theorem bl_tri : ∀ a b : List UInt8, Op.bytesLess a b = false → Op.bytesLess b a = false → a = b
  | [], [], _, _ => rfl
  | [], _ :: _, h, _ => by simp [Op.bytesLess] at h
  | _ :: _, [], _, h => by simp [Op.bytesLess] at h
  | a :: x, b :: y, h, k => by
    simp only [Op.bytesLess, Bool.or_eq_false_iff, decide_eq_false_iff_not] at h k
    have e : a = b := by
      apply UInt8.toNat.inj
      rcases Nat.lt_trichotomy a.toNat b.toNat with h3 | h3 | h3
      · exact absurd (UInt8.lt_iff_toNat_lt.2 h3) h.1
      · exact h3
      · exact absurd (UInt8.lt_iff_toNat_lt.2 h3) k.1
    subst e
    have h2 := h.2
    have k2 := k.2
    simp only [beq_self_eq_true, Bool.true_and] at h2 k2
    rw [bl_tri x y h2 k2]
theorem bl_trans : ∀ a b c : List UInt8, Op.bytesLess a b = true → Op.bytesLess b c = true → Op.bytesLess a c = true
  | _, [], _, h, _ => by simp [Op.bytesLess] at h
  | _, _ :: _, [], _, h => by simp [Op.bytesLess] at h
  | [], _ :: _, _ :: _, _, _ => by simp [Op.bytesLess]
  | a :: x, b :: y, c :: z, h, k => by
    simp only [Op.bytesLess, Bool.or_eq_true, decide_eq_true_eq, Bool.and_eq_true, beq_iff_eq] at h k ⊢
    rcases h with h | ⟨rfl, h⟩
    · rcases k with k | ⟨rfl, k⟩
      · left
        have h1 := UInt8.lt_iff_toNat_lt.1 h
        have h2 := UInt8.lt_iff_toNat_lt.1 k
        exact UInt8.lt_iff_toNat_lt.2 (by omega)
      · exact Or.inl h
    · rcases k with k | ⟨rfl, k⟩
      · exact Or.inl k
      · exact Or.inr ⟨rfl, bl_trans x y z h k⟩
theorem bl_asymm (a b : List UInt8) (h : Op.bytesLess a b = true) : Op.bytesLess b a = false := by
  cases hk : Op.bytesLess b a with
  | false => rfl
  | true =>
    have := bl_trans a b a h hk
    rw [Nm.bytesLess_self] at this
    cases this
/-- How Go's order of two texts is told by the one of their bytes. -/
theorem bl_leq {k l : ByteArray} (h : Op.bytesLess l.data.toList k.data.toList = true) : Op.bytesLess k.toList l.toList = false ∧ (k.toList == l.toList) = false := by
  rw [ByteArray.toList_eq, ByteArray.toList_eq]
  refine ⟨bl_asymm _ _ h, ?_⟩
  rw [beq_eq_false_iff_ne]
  intro e
  rw [e, Nm.bytesLess_self] at h
  cases h
theorem bl_geq {k l : ByteArray} (h : Op.bytesLess l.data.toList k.data.toList = false) : Op.bytesLess k.toList l.toList = true ∨ (Op.bytesLess k.toList l.toList = false ∧ (k.toList == l.toList) = true) := by
  rw [ByteArray.toList_eq, ByteArray.toList_eq]
  cases hk : Op.bytesLess k.data.toList l.data.toList with
  | true => exact Or.inl rfl
  | false => exact Or.inr ⟨rfl, by rw [bl_tri _ _ hk h]; simp⟩

end Go.Proofs.Ytbdoekogoiijeaa.Bo

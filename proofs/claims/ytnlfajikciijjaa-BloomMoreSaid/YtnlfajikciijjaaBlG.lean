/- More bits, and all of them. -/
import Derived.Test.YtnlfajikciijjaaBlE
import Derived.Deep.QuietTactic
import Derived.StillTailTactics
namespace Go.Proofs.Ytnlfajikciijjaa
open Go.RowKit
namespace Bl

/-- A row with more bits of another one, so far. -/
def more (f m : List UInt8) (k : Nat) : List UInt8 := (List.range f.length).map fun i => if i < k ∧ i < m.length then f.getD i 0 ||| m.getD i 0 else f.getD i 0
/-- A row of which the first ones are all ones. -/
def ones1 (f : List UInt8) (k : Nat) : List UInt8 := (List.range f.length).map fun i => if i < k then 255 else f.getD i 0
theorem more_get {f m : List UInt8} {k i : Nat} (h : i < f.length) : (more f m k).getD i 0 = if i < k ∧ i < m.length then f.getD i 0 ||| m.getD i 0 else f.getD i 0 := by
  unfold more; rw [List.getD_eq_getElem?_getD, List.getElem?_map, List.getElem?_range h]; rfl
theorem ones1_get {f : List UInt8} {k i : Nat} (h : i < f.length) : (ones1 f k).getD i 0 = if i < k then 255 else f.getD i 0 := by
  unfold ones1; rw [List.getD_eq_getElem?_getD, List.getElem?_map, List.getElem?_range h]; rfl
theorem more_length (f m : List UInt8) (k : Nat) : (more f m k).length = f.length := by simp [more]
theorem ones1_length (f : List UInt8) (k : Nat) : (ones1 f k).length = f.length := by simp [ones1]
theorem getD_ext {a b : List UInt8} (hl : a.length = b.length) (h : ∀ i, i < a.length → a.getD i 0 = b.getD i 0) : a = b := by
  refine List.ext_getElem hl fun i h1 h2 => ?_
  have := h i h1
  rwa [List.getD_eq_getElem?_getD, List.getD_eq_getElem?_getD, List.getElem?_eq_getElem h1, List.getElem?_eq_getElem h2] at this
theorem more_zero (f m : List UInt8) : more f m 0 = f := getD_ext (more_length ..) fun i hi => by rw [more_get (by rwa [more_length] at hi), if_neg (by omega)]
theorem ones1_zero (f : List UInt8) : ones1 f 0 = f := getD_ext (ones1_length ..) fun i hi => by rw [ones1_get (by rwa [ones1_length] at hi), if_neg (by omega)]
theorem more_set {f m : List UInt8} {k : Nat} (hm : k < m.length) : (more f m k).set k (f.getD k 0 ||| m.getD k 0) = more f m (k + 1) := by
  refine getD_ext (by simp [more_length]) fun i hi => ?_
  have hi' : i < f.length := by simpa [more_length] using hi
  rw [getD_set _ _ _ _ (by rw [more_length]; exact hi'), more_get hi', more_get hi']
  by_cases h : k = i
  · subst h; rw [if_pos rfl, if_pos ⟨by omega, hm⟩]
  · rw [if_neg h]
    by_cases h2 : i < k ∧ i < m.length
    · rw [if_pos h2, if_pos ⟨by omega, h2.2⟩]
    · rw [if_neg h2, if_neg (by omega)]
theorem more_stay {f m : List UInt8} {k : Nat} (hm : ¬ k < m.length) : more f m k = more f m (k + 1) := by
  refine getD_ext (by simp [more_length]) fun i hi => ?_
  have hi' : i < f.length := by simpa [more_length] using hi
  rw [more_get hi', more_get hi']
  by_cases h2 : i < k ∧ i < m.length
  · rw [if_pos h2, if_pos ⟨by omega, h2.2⟩]
  · rw [if_neg h2, if_neg (by omega)]
theorem ones1_set {f : List UInt8} {k : Nat} : (ones1 f k).set k 255 = ones1 f (k + 1) := by
  refine getD_ext (by simp [ones1_length]) fun i hi => ?_
  have hi' : i < f.length := by simpa [ones1_length] using hi
  rw [getD_set _ _ _ _ (by rw [ones1_length]; exact hi'), ones1_get hi', ones1_get hi']
  by_cases h : k = i
  · subst h; rw [if_pos rfl, if_pos (by omega)]
  · rw [if_neg h]
    by_cases h2 : i < k
    · rw [if_pos h2, if_pos (by omega)]
    · rw [if_neg h2, if_neg (by omega)]
theorem bit_more {f m : List UInt8} {k i : Nat} (h : bit f i = true) : bit (more f m k) i = true := by
  unfold bit at h ⊢
  by_cases hi : i / 8 < f.length
  · rw [more_get hi]
    split
    · rw [UInt8.toNat_or, Nat.testBit_or, h, Bool.true_or]
    · exact h
  · have h2 : f.getD (i / 8) 0 = 0 := by rw [List.getD_eq_getElem?_getD, List.getElem?_eq_none (by omega)]; rfl
    rw [h2] at h; simp at h
theorem bit_ones {f : List UInt8} {i : Nat} (hi : i < 8 * f.length) : bit (ones1 f f.length) i = true := by
  unfold bit
  have h1 : i / 8 < f.length := by omega
  rw [ones1_get h1, if_pos h1]
  have : i % 8 < 8 := Nat.mod_lt _ (by decide)
  generalize i % 8 = j at *
  match j, this with
  | 0, _ => rfl
  | 1, _ => rfl
  | 2, _ => rfl
  | 3, _ => rfl
  | 4, _ => rfl
  | 5, _ => rfl
  | 6, _ => rfl
  | 7, _ => rfl
theorem may_more {f m key : List UInt8} (k : Nat) (h : may f key = true) : may (more f m k) key = true := by
  rw [may_iff] at h ⊢
  refine ⟨fun e => h.1 ?_, fun n hn => ?_⟩
  · have := more_length f m k; rw [e] at this; exact List.eq_nil_of_length_eq_zero this.symm
  · rw [more_length]; exact bit_more (h.2 n hn)
theorem may_ones (f key : List UInt8) : may (ones1 f f.length) key = decide (0 < f.length) := by
  by_cases h : 0 < f.length
  · rw [decide_eq_true h, may_iff]
    refine ⟨fun e => ?_, fun n _ => ?_⟩
    · have := ones1_length f f.length; rw [e] at this; simp at this; omega
    · rw [ones1_length]; exact bit_ones (pr_lt _ _ _ (by omega))
  · rw [decide_eq_false h]
    have : f = [] := List.eq_nil_of_length_eq_zero (by omega)
    subst this
    rfl
end Bl

end Go.Proofs.Ytnlfajikciijjaa

/- Walks of cell.mayBe, markOf. -/
import Derived.Test.YtalmkgjinabceaaDoorCellB
namespace Go.Proofs.YtalmkgjinabceaaDoor
open Go.RowKit

/-- A cell, as a value. -/
def clV (c : Cr.Cl) : Value := .agg #[.bool c.first, .bool c.last, .int .i64 c.num, .string c.data]

theorem toList_nil (d : ByteArray) : d.toList = [] ↔ d.size = 0 := by
  rw [ByteArray.toList_eq, ← List.length_eq_zero_iff, Cr.size_list]

section
variable {f l : Bool} {n : Int} {d : ByteArray}
theorem may_w1 (h : n < 0 ∨ 65535 < n) : false = Cr.may ⟨f, l, n, d⟩ := by
  symm; unfold Cr.may; simp only [decide_eq_false_iff_not]; intro hc; omega
theorem may_w0 (h : n < 0) : false = Cr.may ⟨f, l, n, d⟩ := may_w1 (.inl h)
theorem may_w2 (h : (!f == (n == 0)) = true) : false = Cr.may ⟨f, l, n, d⟩ := by
  symm; unfold Cr.may; simp only [decide_eq_false_iff_not]; intro hc
  have h3 := hc.2.2.1
  cases f <;> simp at h h3 <;> first | exact h3 h | exact h h3
theorem may_w3 (h : 24 < (d.size : Int)) : false = Cr.may ⟨f, l, n, d⟩ := by
  symm; unfold Cr.may; simp only [decide_eq_false_iff_not]; intro hc; have := hc.2.2.2.1; omega
theorem may_w4 (h : (d.size : Int) < 24) (h2 : (!l) = true) : false = Cr.may ⟨f, l, n, d⟩ := by
  symm; unfold Cr.may; simp only [decide_eq_false_iff_not]; intro hc
  rcases hc.2.2.2.2.1 with h3 | h3
  · rw [h3] at h2; cases h2
  · omega
theorem may_iff (h : (!f == (n == 0)) = false) : f = true ↔ n = 0 := by
  cases f <;> simp at h ⊢ <;> exact h
theorem may_w5 (h1 : 0 ≤ n ∧ n ≤ 65535) (h2 : (!f == (n == 0)) = false) (_h3 : (d.size : Int) ≤ 24) (h4 : (!l) = false) (h5 : d.toList = []) : f = Cr.may ⟨f, l, n, d⟩ := by
  have h6 := (toList_nil d).1 h5
  unfold Cr.may
  cases f
  · symm; simp only [decide_eq_false_iff_not]; intro hc; rcases hc.2.2.2.2.2 with h | h
    · exact h h6
    · cases h
  · symm; rw [decide_eq_true_eq]; exact ⟨h1.1, h1.2, may_iff h2, by show d.size ≤ 24; omega, .inl (by simpa using h4), .inr rfl⟩
theorem may_w6 (h1 : 0 ≤ n ∧ n ≤ 65535) (h2 : (!f == (n == 0)) = false) (h3 : (d.size : Int) ≤ 24) (h4 : (!l) = false) (h5 : ¬ d.toList = []) : true = Cr.may ⟨f, l, n, d⟩ := by
  symm; unfold Cr.may; simp only [decide_eq_true_eq]
  exact ⟨h1.1, h1.2, may_iff h2, by omega, .inl (by simpa using h4), .inl (fun h => h5 ((toList_nil d).2 h))⟩
theorem may_w7 (h1 : d.toList = []) (h2 : 24 ≤ (d.size : Int)) : false = true := by
  have h6 := (toList_nil d).1 h1; omega
theorem may_w8 (h1 : 0 ≤ n ∧ n ≤ 65535) (h2 : (!f == (n == 0)) = false) (h3 : (d.size : Int) ≤ 24) (h4 : 24 ≤ (d.size : Int)) : true = Cr.may ⟨f, l, n, d⟩ := by
  symm; unfold Cr.may; simp only [decide_eq_true_eq]
  exact ⟨h1.1, h1.2, may_iff h2, by omega, .inr (by omega), .inl (by omega)⟩
end

theorem ret_bool {a b : Bool} (h : a = b) : Ending.returned (.bool a) = .returned (.bool b) := by rw [h]

set_option maxHeartbeats 1000000 in
theorem mayBe_any (c : Cr.Cl) (w : World) (hs : c.data.size ≤ 9223372036854775807) :
    Calls Tryd.prog 27 #[clV c] w (Gives (.bool (Cr.may c)) w) := by
  obtain ⟨f, l, n, d⟩ := c
  have hb : Below w.heap.size w (w.alloc (.cells #[.bool f, .bool l, .int .i64 n, .string d] 48)) := (Below.refl _ _).alloc (Nat.le_refl _) _
  have HB := Lib.hid hb; clear hb
  unfold clV
  dsimp only at hs ⊢
  go_enter Tryd.func27, Tryd.ntmps27
  go_wp2_with fail
  all_goals
    go_ret
    refine ⟨ret_bool ?_, HB.out⟩
    first
    | exact may_w0 (by assumption)
    | exact may_w1 (by assumption)
    | exact may_w2 (by assumption)
    | exact may_w3 (by assumption)
    | exact may_w4 (by assumption) (by assumption)
    | exact may_w5 (by assumption) (by assumption) (by assumption) (by assumption) (by assumption)
    | exact may_w6 (by assumption) (by assumption) (by assumption) (by assumption) (by assumption)
    | exact absurd (may_w7 (d := d) (by assumption) (by assumption)) (by decide)
    | exact may_w8 (by assumption) (by assumption) (by assumption) (by assumption)

theorem mark_bits (f l : Bool) (n : Int) (d : ByteArray) : Cr.mark ⟨f, l, n, d⟩ = 64 + (if f then 1 else 0) + (if l then 2 else 0) := rfl

set_option maxHeartbeats 400000 in
theorem markOf_any (c : Cr.Cl) (w : World) :
    Calls Tryd.prog 28 #[clV c] w (Gives (.int .u8 (Cr.mark c)) w) := by
  obtain ⟨f, l, n, d⟩ := c
  have hb : ∀ f l, Below w.heap.size w (w.alloc (.cells #[.bool f, .bool l, .int .i64 n, .string d] 48)) := fun _ _ => (Below.refl _ _).alloc (Nat.le_refl _) _
  have HB := Lib.hid hb; clear hb
  unfold clV
  dsimp only
  cases f <;> cases l
  all_goals
    go_enter Tryd.func28, Tryd.ntmps28
    go_wp2_with fail
    go_ret
    exact ⟨rfl, HB.out _ _⟩

end Go.Proofs.YtalmkgjinabceaaDoor

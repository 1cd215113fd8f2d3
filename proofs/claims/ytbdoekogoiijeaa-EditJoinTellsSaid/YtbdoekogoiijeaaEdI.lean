/- Maps from numbers that are a call's own, told plainly. -/
import Derived.Test.YtbdoekogoiijeaaEdH
import Derived.Maps.OwnSet
import Derived.Maps.OwnOps
namespace Go.Proofs.Ytbdoekogoiijeaa
open Go.RowKit Sk Go.Maps
set_option linter.unusedVariables false
set_option maxRecDepth 20000

theorem lawU : Keyed Try.prog 28 := int_keyed Try.underlying28
theorem zero_int (w : World) : (zeroValue 3).run Try.prog w = .ok (.int .i64 0) w := by kernel_rfl
theorem zero_unit (w : World) : (zeroValue 101).run Try.prog w = .ok (.agg #[]) w := by kernel_rfl
theorem wf_u64 (n : Nat) (h : n < 18446744073709551616) : (Lit.int .u64 (n : Nat)).wf = true := by
  have e1 : IntKind.u64.min = 0 := by decide
  have e2 : IntKind.u64.max = 18446744073709551615 := by decide
  show (decide (IntKind.u64.min ≤ (n : Int)) && decide ((n : Int) ≤ IntKind.u64.max)) = true
  rw [e1, e2, Bool.and_eq_true, decide_eq_true_eq, decide_eq_true_eq]
  omega
theorem wf_i64 (n : Nat) (h : n < 9223372036854775808) : (Lit.int .i64 (n : Nat)).wf = true := by
  have e1 : IntKind.i64.min = -9223372036854775808 := by decide
  have e2 : IntKind.i64.max = 9223372036854775807 := by decide
  show (decide (IntKind.i64.min ≤ (n : Int)) && decide ((n : Int) ≤ IntKind.i64.max)) = true
  rw [e1, e2, Bool.and_eq_true, decide_eq_true_eq, decide_eq_true_eq]
  omega
theorem key_u64 (n : Nat) (h : n < 18446744073709551616) : keyOf Try.prog 28 (.int .u64 (n : Nat)) = some (.int .u64 (n : Nat)) := keyOf_int_mk Try.underlying28 (wf_u64 n h)
theorem lit_ne {n k : Nat} (h : n ≠ k) : Lit.int .u64 (n : Nat) ≠ Lit.int .u64 (k : Nat) := fun e => h (by injection e with _ e; omega)

/-- A map to numbers. -/
def IMap (w : World) (b m : Nat) (f : Nat → Nat) : Prop := ∃ D : DataW Unit, w.ownsMap Try.prog 28 (plainElem Try.prog 3) b m D ∧ ∀ n : Nat, n < 18446744073709551616 → D.atKey (.int .u64 (n : Nat)) (.lit (.int .i64 0)) = .lit (.int .i64 (f n : Nat))
theorem IMap.made (w : World) : IMap (w.alloc (.map #[] 0)) w.heap.size 0 (fun _ => 0) := ⟨.map [], World.ownsMap_made w _ _ _, fun n _ => rfl⟩
theorem IMap.below {w w' : World} {b m : Nat} {f : Nat → Nat} (h : IMap w b m f) (hb : Below w.heap.size w w') : IMap w' b m f := by
  obtain ⟨D, h1, h2⟩ := h
  exact ⟨D, h1.kept (row := none) ⟨hb.os, hb.tape, hb.output, hb.size, fun k hk _ => hb.block k hk⟩ (by simp), h2⟩
theorem IMap.grown {w w' : World} {b m : Nat} {f : Nat → Nat} {row : Option Nat} (h : IMap w b m f) (hg : w.grownBy w' row) (hne : some b ≠ row) : IMap w' b m f := by
  obtain ⟨D, h1, h2⟩ := h
  exact ⟨D, h1.kept hg hne, h2⟩
theorem IMap.put {w' : World} {b m n v : Nat} {f : Nat → Nat} {D : DataW Unit} (h1 : w'.ownsMap Try.prog 28 (plainElem Try.prog 3) b (m + 1) (D.put (.int .u64 (n : Nat)) (.lit (.int .i64 (v : Nat))))) (hm : IsMap D) (hn : n < 18446744073709551616)
    (h2 : ∀ n : Nat, n < 18446744073709551616 → D.atKey (.int .u64 (n : Nat)) (.lit (.int .i64 0)) = .lit (.int .i64 (f n : Nat))) : IMap w' b (m + 1) (fun x => if x = n then v else f x) := by
  refine ⟨_, h1, fun x hx => ?_⟩
  by_cases e : x = n
  · subst e
    show _ = DataW.lit (.int .i64 ((if x = x then v else f x : Nat) : Int))
    rw [if_pos rfl]
    exact atKey_put_same hm (lawU.key (key_u64 x hn)) _ _
  · show _ = DataW.lit (.int .i64 ((if x = n then v else f x : Nat) : Int))
    rw [if_neg e, atKey_put_other (lit_ne e)]
    exact h2 x hx
theorem IMap.look {w : World} {b m : Nat} {f : Nat → Nat} (h : IMap w b m f) (n : Nat) (hn : n < 18446744073709551616) : (Instr.lookup 127 (.map (some b)) (.int .u64 (n : Nat)) false).run Try.prog w = .ok (.int .i64 (f n : Nat)) w := by
  obtain ⟨D, h1, h2⟩ := h
  obtain ⟨c, hrun, hat, hw⟩ := h1.lookup_int lawU Try.underlying127 Try.underlying3 (zero_int w) (key_u64 n hn)
  rw [h2 n hn] at hat
  simp only [DataW.lit.injEq, Lit.int.injEq, true_and] at hat
  rw [hrun, hat]
theorem IMap.congr {w : World} {b m m' : Nat} {f g : Nat → Nat} (h : IMap w b m f) (e : ∀ n, f n = g n) (hm : m ≤ m') : IMap w b m' g := by
  obtain ⟨D, h1, h2⟩ := h
  exact ⟨D, h1.mono hm, fun n hn => by rw [← e n]; exact h2 n hn⟩
theorem IMap.lt {w : World} {b m : Nat} {f : Nat → Nat} (h : IMap w b m f) : b < w.heap.size := by
  obtain ⟨D, h1, h2⟩ := h
  exact h1.lt

/-- A set of numbers. -/
def USet (w : World) (b m : Nat) (f : Nat → Bool) : Prop := ∃ D : DataW Unit, w.ownsMap Try.prog 28 unitElem b m D ∧ ∀ n : Nat, n < 18446744073709551616 → has D (.int .u64 (n : Nat)) = f n
theorem USet.made (w : World) : USet (w.alloc (.map #[] 0)) w.heap.size 0 (fun _ => false) := ⟨.map [], World.ownsMap_made w _ _ _, fun n _ => rfl⟩
theorem USet.below {w w' : World} {b m : Nat} {f : Nat → Bool} (h : USet w b m f) (hb : Below w.heap.size w w') : USet w' b m f := by
  obtain ⟨D, h1, h2⟩ := h
  exact ⟨D, h1.kept (row := none) ⟨hb.os, hb.tape, hb.output, hb.size, fun k hk _ => hb.block k hk⟩ (by simp), h2⟩
theorem USet.grown {w w' : World} {b m : Nat} {f : Nat → Bool} {row : Option Nat} (h : USet w b m f) (hg : w.grownBy w' row) (hne : some b ≠ row) : USet w' b m f := by
  obtain ⟨D, h1, h2⟩ := h
  exact ⟨D, h1.kept hg hne, h2⟩
theorem USet.put {w' : World} {b m n : Nat} {f : Nat → Bool} {D : DataW Unit} (h1 : w'.ownsMap Try.prog 28 unitElem b (m + 1) (D.put (.int .u64 (n : Nat)) (.agg []))) (hm : IsMap D) (hn : n < 18446744073709551616)
    (h2 : ∀ n : Nat, n < 18446744073709551616 → has D (.int .u64 (n : Nat)) = f n) : USet w' b (m + 1) (fun x => f x || decide (x = n)) := by
  refine ⟨_, h1, fun x hx => ?_⟩
  by_cases e : x = n
  · subst e
    rw [has_put_same hm (lawU.key (key_u64 x hn))]; simp
  · rw [has_put_other (lit_ne e), h2 x hx]; simp [e]
theorem USet.del {w' : World} {b m n : Nat} {f : Nat → Bool} {D : DataW Unit} (h1 : w'.ownsMap Try.prog 28 unitElem b m (D.del (.int .u64 (n : Nat))))
    (h2 : ∀ n : Nat, n < 18446744073709551616 → has D (.int .u64 (n : Nat)) = f n) : USet w' b m (fun x => f x && !decide (x = n)) := by
  refine ⟨_, h1, fun x hx => ?_⟩
  by_cases e : x = n
  · subst e
    rw [has_del_same]; simp
  · rw [has_del_other (lit_ne e), h2 x hx]; simp [e]
theorem USet.look {w : World} {b m : Nat} {f : Nat → Bool} (h : USet w b m f) (n : Nat) (hn : n < 18446744073709551616) : (Instr.lookup 98 (.map (some b)) (.int .u64 (n : Nat)) true).run Try.prog w = .ok (.tuple #[.agg #[], .bool (f n)]) w := by
  obtain ⟨D, h1, h2⟩ := h
  obtain ⟨v, ps, hrun, hv⟩ := h1.look_ok lawU Try.underlying98 (zero_unit w) unitElem_mk (key_u64 n hn)
  obtain ⟨rfl, _⟩ := unitElem_inv hv
  rw [hrun, h2 n hn]
theorem USet.congr {w : World} {b m m' : Nat} {f g : Nat → Bool} (h : USet w b m f) (e : ∀ n, f n = g n) (hm : m ≤ m') : USet w b m' g := by
  obtain ⟨D, h1, h2⟩ := h
  exact ⟨D, h1.mono hm, fun n hn => by rw [← e n]; exact h2 n hn⟩
theorem USet.lt {w : World} {b m : Nat} {f : Nat → Bool} (h : USet w b m f) : b < w.heap.size := by
  obtain ⟨D, h1, h2⟩ := h
  exact h1.lt

end Go.Proofs.Ytbdoekogoiijeaa

/- Walks of edit's reader: table, tables, numbers. -/
import Derived.Test.YtbdoekogoiijeaaEdE
namespace Go.Proofs.Ytbdoekogoiijeaa
open Go.RowKit Sk
set_option linter.unusedVariables false
set_option maxRecDepth 20000

theorem box_turn {b k : Nat} {w w' : World} {o : Obj} (ht : Turns (At b) w w') (h : w.heap[k]? = some o) (hne : k ≠ b) : w'.heap[k]? = some o := by
  rw [ht.block k (heap_lt h) hne]; exact h
theorem RdS.setCell {b k : Nat} {w : World} {s : Ed.St} (h : RdS w b s) (hne : k ≠ b) (o : Nat) (v : Value) : RdS (w.setCell ⟨k, o, none⟩ v) b s := by
  show (w.setCell ⟨k, o, none⟩ v).heap[b]? = _
  rw [setCell_kept w ⟨k, o, none⟩ v (fun e => hne e.symm)]; exact h
theorem At.set {b k : Nat} {w w' : World} (h : Turns (At b) w w') (hk : w.heap.size ≤ k) (o : Nat) (v : Value) : Turns (At b) w (w'.setCell ⟨k, o, none⟩ v) :=
  h.trans (Turns.of_setCell (P := At k) _ _ _ rfl) (fun x hx => Or.inr (by show w.heap.size ≤ x; rw [show x = k from hx]; exact hk))

/-- A table's box, whole. -/
def Tx (w : World) (B : Nat) (n : Nat) (lv ct sz : Int) (f l : ByteArray) (le mo : Nat) : Prop := w.heap[B]? = some (.cells #[.int .u64 (n : Nat), .int .i64 lv, .int .i64 ct, .int .i64 sz, .string f, .string l, .int .u64 (le : Nat), .int .u64 (mo : Nat)] 38 (0, 0))
theorem Tx.of {w : World} {B n : Nat} {lv ct sz : Int} {f l : ByteArray} {le mo : Nat} (h : Tx w B n lv ct sz f l le mo) : w.cell? ⟨B, 0, none⟩ = some (.int .u64 (n : Nat)) ∧ w.cell? ⟨B, 1, none⟩ = some (.int .i64 lv) ∧ w.cell? ⟨B, 2, none⟩ = some (.int .i64 ct) ∧ w.cell? ⟨B, 3, none⟩ = some (.int .i64 sz) ∧ w.cell? ⟨B, 4, none⟩ = some (.string f) ∧ w.cell? ⟨B, 5, none⟩ = some (.string l) ∧ w.cell? ⟨B, 6, none⟩ = some (.int .u64 (le : Nat)) ∧ w.cell? ⟨B, 7, none⟩ = some (.int .u64 (mo : Nat)) ∧ (∀ k, w.frozen? ⟨B, k, none⟩ = false) ∧ B < w.heap.size := by
  refine ⟨?_, ?_, ?_, ?_, ?_, ?_, ?_, ?_, fun k => Sk.unfrozen_of h k, Sk.heap_lt h⟩ <;> (rw [Sk.cell_of h]; rfl)

theorem Tx.fill {P : World → Prop} {w : World} {B n' : Nat} {lv' ct' sz' : Int} {f' l' : ByteArray} {le' mo' : Nat} (h : Tx w B n' lv' ct' sz' f' l' le' mo') (n : Nat) (lv ct sz : Int) (f l : ByteArray) (le mo : Nat)
    (k : ∀ wF, Tx wF B n lv ct sz f l le mo → Turns (At B) w wF → P wF) : P ((((((((w.setCell ⟨B, 0, none⟩ (.int .u64 (n : Nat))).setCell ⟨B, 1, none⟩ (.int .i64 lv)).setCell ⟨B, 2, none⟩ (.int .i64 ct)).setCell ⟨B, 3, none⟩ (.int .i64 sz)).setCell ⟨B, 4, none⟩ (.string f)).setCell ⟨B, 5, none⟩ (.string l)).setCell ⟨B, 6, none⟩ (.int .u64 (le : Nat))).setCell ⟨B, 7, none⟩ (.int .u64 (mo : Nat))) := by
  have t : ∀ (W : World) (o : Nat) (v : Value), Turns (At B) w W → Turns (At B) w (W.setCell ⟨B, o, none⟩ v) := fun W o v hT => At.trans hT (Turns.of_setCell (P := At B) _ _ _ rfl)
  have x0 : Tx _ B n lv' ct' sz' f' l' le' mo' := heap_setCell_same _ _ 0 _ _ (.int .u64 (n : Nat)) h
  have x1 : Tx _ B n lv ct' sz' f' l' le' mo' := heap_setCell_same _ _ 1 _ _ (.int .i64 lv) x0
  have x2 : Tx _ B n lv ct sz' f' l' le' mo' := heap_setCell_same _ _ 2 _ _ (.int .i64 ct) x1
  have x3 : Tx _ B n lv ct sz f' l' le' mo' := heap_setCell_same _ _ 3 _ _ (.int .i64 sz) x2
  have x4 : Tx _ B n lv ct sz f l' le' mo' := heap_setCell_same _ _ 4 _ _ (.string f) x3
  have x5 : Tx _ B n lv ct sz f l le' mo' := heap_setCell_same _ _ 5 _ _ (.string l) x4
  have x6 : Tx _ B n lv ct sz f l le mo' := heap_setCell_same _ _ 6 _ _ (.int .u64 (le : Nat)) x5
  have x7 : Tx _ B n lv ct sz f l le mo := heap_setCell_same _ _ 7 _ _ (.int .u64 (mo : Nat)) x6
  exact k _ x7 (t _ _ _ (t _ _ _ (t _ _ _ (t _ _ _ (t _ _ _ (t _ _ _ (t _ _ _ (t _ _ _ (Turns.refl _ _)))))))))

set_option maxHeartbeats 4000000 in
theorem table_any (b : Nat) (s : Ed.St) (w : World) (h : RdS w b s) (hs : s.rest.length ≤ 1000000000) :
    Calls Try.prog 89 #[.pointer (some ⟨b, 0, none⟩)] w (Readd b (tbV (Ed.tab s).1) (Ed.tab s).2 w) := by
  have hE0 : Ed.tab s = Ed.tab s := rfl
  have hlt : b < w.heap.size := Sk.heap_lt h
  have l1 := num_le s
  have l2 := int_le (Ed.num s).2
  have l3 := int_le (Ed.int (Ed.num s).2).2
  have l4 := int_le (Ed.int (Ed.int (Ed.num s).2).2).2
  have l5 := num_le (Ed.int (Ed.int (Ed.int (Ed.num s).2).2).2).2
  have l6 := num_le (Ed.num (Ed.int (Ed.int (Ed.int (Ed.num s).2).2).2).2).2
  have l7 := key_le (Ed.num (Ed.num (Ed.int (Ed.int (Ed.int (Ed.num s).2).2).2).2).2).2
  have H1 : Hid (∀ W, RdS W b s → Calls Try.prog 72 #[.pointer (some ⟨b, 0, none⟩)] W (Readd b (.int .u64 ((Ed.num s).1 : Nat)) (Ed.num s).2 W)) := Lib.hid (fun W hW => number_any b s W hW hs)
  have H2 : Hid (∀ W, RdS W b (Ed.num s).2 → Calls Try.prog 100 #[.pointer (some ⟨b, 0, none⟩)] W (Readd b (.int .i64 ((Ed.int (Ed.num s).2).1 : Nat)) (Ed.int (Ed.num s).2).2 W)) := Lib.hid (fun W hW => integer_any b _ W hW (by omega))
  have H3 : Hid (∀ W, RdS W b (Ed.int (Ed.num s).2).2 → Calls Try.prog 100 #[.pointer (some ⟨b, 0, none⟩)] W (Readd b (.int .i64 ((Ed.int (Ed.int (Ed.num s).2).2).1 : Nat)) (Ed.int (Ed.int (Ed.num s).2).2).2 W)) := Lib.hid (fun W hW => integer_any b _ W hW (by omega))
  have H4 : Hid (∀ W, RdS W b (Ed.int (Ed.int (Ed.num s).2).2).2 → Calls Try.prog 100 #[.pointer (some ⟨b, 0, none⟩)] W (Readd b (.int .i64 ((Ed.int (Ed.int (Ed.int (Ed.num s).2).2).2).1 : Nat)) (Ed.int (Ed.int (Ed.int (Ed.num s).2).2).2).2 W)) := Lib.hid (fun W hW => integer_any b _ W hW (by omega))
  have H5 : Hid (∀ W, RdS W b (Ed.int (Ed.int (Ed.int (Ed.num s).2).2).2).2 → Calls Try.prog 72 #[.pointer (some ⟨b, 0, none⟩)] W (Readd b (.int .u64 ((Ed.num (Ed.int (Ed.int (Ed.int (Ed.num s).2).2).2).2).1 : Nat)) (Ed.num (Ed.int (Ed.int (Ed.int (Ed.num s).2).2).2).2).2 W)) := Lib.hid (fun W hW => number_any b _ W hW (by omega))
  have H6 : Hid (∀ W, RdS W b (Ed.num (Ed.int (Ed.int (Ed.int (Ed.num s).2).2).2).2).2 → Calls Try.prog 72 #[.pointer (some ⟨b, 0, none⟩)] W (Readd b (.int .u64 ((Ed.num (Ed.num (Ed.int (Ed.int (Ed.int (Ed.num s).2).2).2).2).2).1 : Nat)) (Ed.num (Ed.num (Ed.int (Ed.int (Ed.int (Ed.num s).2).2).2).2).2).2 W)) := Lib.hid (fun W hW => number_any b _ W hW (by omega))
  have H7 : Hid (∀ W, RdS W b (Ed.num (Ed.num (Ed.int (Ed.int (Ed.int (Ed.num s).2).2).2).2).2).2 → Calls Try.prog 101 #[.pointer (some ⟨b, 0, none⟩)] W (Readd b (.string (Ed.key (Ed.num (Ed.num (Ed.int (Ed.int (Ed.int (Ed.num s).2).2).2).2).2).2).1) (Ed.key (Ed.num (Ed.num (Ed.int (Ed.int (Ed.int (Ed.num s).2).2).2).2).2).2).2 W)) := Lib.hid (fun W hW => key_any b _ W hW (by omega))
  have H8 : Hid (∀ W, RdS W b (Ed.key (Ed.num (Ed.num (Ed.int (Ed.int (Ed.int (Ed.num s).2).2).2).2).2).2).2 → Calls Try.prog 101 #[.pointer (some ⟨b, 0, none⟩)] W (Readd b (.string (Ed.key (Ed.key (Ed.num (Ed.num (Ed.int (Ed.int (Ed.int (Ed.num s).2).2).2).2).2).2).2).1) (Ed.key (Ed.key (Ed.num (Ed.num (Ed.int (Ed.int (Ed.int (Ed.num s).2).2).2).2).2).2).2).2 W)) := Lib.hid (fun W hW => key_any b _ W hW (by omega))
  have HE : Hid (Ed.tab s = _) := Lib.hid (by unfold Ed.tab; exact rfl)
  clear hE0 l1 l2 l3 l4 l5 l6 l7 hs
  generalize Ed.tab s = X at *
  generalize Ed.num s = x1 at *
  obtain ⟨n1, s1⟩ := x1
  dsimp only at H1 H2 H3 H4 H5 H6 H7 H8 HE
  generalize Ed.int s1 = x2 at *
  obtain ⟨n2, s2⟩ := x2
  dsimp only at H1 H2 H3 H4 H5 H6 H7 H8 HE
  generalize Ed.int s2 = x3 at *
  obtain ⟨n3, s3⟩ := x3
  dsimp only at H1 H2 H3 H4 H5 H6 H7 H8 HE
  generalize Ed.int s3 = x4 at *
  obtain ⟨n4, s4⟩ := x4
  dsimp only at H1 H2 H3 H4 H5 H6 H7 H8 HE
  generalize Ed.num s4 = x5 at *
  obtain ⟨n5, s5⟩ := x5
  dsimp only at H1 H2 H3 H4 H5 H6 H7 H8 HE
  generalize Ed.num s5 = x6 at *
  obtain ⟨n6, s6⟩ := x6
  dsimp only at H1 H2 H3 H4 H5 H6 H7 H8 HE
  generalize Ed.key s6 = x7 at *
  obtain ⟨f, s7⟩ := x7
  dsimp only at H1 H2 H3 H4 H5 H6 H7 H8 HE
  generalize Ed.key s7 = x8 at *
  obtain ⟨l, s8⟩ := x8
  dsimp only at H1 H2 H3 H4 H5 H6 H7 H8 HE
  have hX := HE.out
  clear HE
  subst hX
  have H := Lib.hid h
  have hne : w.heap.size + 1 ≠ b := by omega
  have hne0 : w.heap.size ≠ b := by omega
  clear h
  unfold tbV
  dsimp only
  go_enter Try.func89, Try.ntmps89
  go_wp2_with fail
  have hr0 : RdS ((w.alloc (.cells #[.int .u64 0, .int .i64 0, .int .i64 0, .int .i64 0, .string ⟨#[]⟩, .string ⟨#[]⟩, .int .u64 0, .int .u64 0] 38)).alloc (.cells #[.int .u64 0, .int .i64 0, .int .i64 0, .int .i64 0, .string ⟨#[]⟩, .string ⟨#[]⟩, .int .u64 0, .int .u64 0] 38)) b s := H.out.frame (Below.next_alloc ((Below.refl _ _).alloc (Nat.le_refl _) _) _)
  have ht0 : Turns (At b) w ((w.alloc (.cells #[.int .u64 0, .int .i64 0, .int .i64 0, .int .i64 0, .string ⟨#[]⟩, .string ⟨#[]⟩, .int .u64 0, .int .u64 0] 38)).alloc (.cells #[.int .u64 0, .int .i64 0, .int .i64 0, .int .i64 0, .string ⟨#[]⟩, .string ⟨#[]⟩, .int .u64 0, .int .u64 0] 38)) := Turns.of_below (Below.next_alloc ((Below.refl _ _).alloc (Nat.le_refl _) _) _)
  have hx0 : Tx ((w.alloc (.cells #[.int .u64 0, .int .i64 0, .int .i64 0, .int .i64 0, .string ⟨#[]⟩, .string ⟨#[]⟩, .int .u64 0, .int .u64 0] 38)).alloc (.cells #[.int .u64 0, .int .i64 0, .int .i64 0, .int .i64 0, .string ⟨#[]⟩, .string ⟨#[]⟩, .int .u64 0, .int .u64 0] 38)) (w.heap.size + 1) 0 0 0 0 ⟨#[]⟩ ⟨#[]⟩ 0 0 := heap_alloc2_new _ _ _
  have hy0 : Tx ((w.alloc (.cells #[.int .u64 0, .int .i64 0, .int .i64 0, .int .i64 0, .string ⟨#[]⟩, .string ⟨#[]⟩, .int .u64 0, .int .u64 0] 38)).alloc (.cells #[.int .u64 0, .int .i64 0, .int .i64 0, .int .i64 0, .string ⟨#[]⟩, .string ⟨#[]⟩, .int .u64 0, .int .u64 0] 38)) w.heap.size 0 0 0 0 ⟨#[]⟩ ⟨#[]⟩ 0 0 := heap_alloc2_old _ _ _
  generalize ((w.alloc (.cells #[.int .u64 0, .int .i64 0, .int .i64 0, .int .i64 0, .string ⟨#[]⟩, .string ⟨#[]⟩, .int .u64 0, .int .u64 0] 38)).alloc (.cells #[.int .u64 0, .int .i64 0, .int .i64 0, .int .i64 0, .string ⟨#[]⟩, .string ⟨#[]⟩, .int .u64 0, .int .u64 0] 38)) = W at *
  have HT0 := Lib.hid ht0
  have HX0 := Lib.hid hx0
  have HY0 := Lib.hid hy0
  clear ht0 hx0 hy0
  refine (H1.out _ hr0).mono ?_
  rintro e w1 ⟨rfl, hr1, ht1⟩
  have HT1 : Hid (Turns (At b) w w1) := Lib.hid (At.trans HT0.out ht1)
  have HX1 : Hid (Tx w1 (w.heap.size + 1) 0 0 0 0 ⟨#[]⟩ ⟨#[]⟩ 0 0) := Lib.hid (box_turn ht1 HX0.out hne)
  have HY1 : Hid (Tx w1 w.heap.size 0 0 0 0 ⟨#[]⟩ ⟨#[]⟩ 0 0) := Lib.hid (box_turn ht1 HY0.out hne0)
  clear ht1
  obtain ⟨a0, a1, a2, a3, a4, a5, a6, a7, af, alt⟩ := HX1.out.of
  have c1_0 := a0
  have f1_0 := af 0
  clear a0 a1 a2 a3 a4 a5 a6 a7 af alt
  have HX10 : Hid (Tx (w1.setCell ⟨w.heap.size + 1, 0, none⟩ (.int .u64 (n1 : Nat))) (w.heap.size + 1) n1 0 0 0 ⟨#[]⟩ ⟨#[]⟩ 0 0) := Lib.hid (heap_setCell_same _ _ 0 _ _ _ HX1.out)
  have HY10 : Hid (Tx (w1.setCell ⟨w.heap.size + 1, 0, none⟩ (.int .u64 (n1 : Nat))) w.heap.size 0 0 0 0 ⟨#[]⟩ ⟨#[]⟩ 0 0) := Lib.hid ((setCell_kept _ ⟨w.heap.size + 1, 0, none⟩ _ (by simp)).trans HY1.out)
  have HT10 : Hid (Turns (At b) w (w1.setCell ⟨w.heap.size + 1, 0, none⟩ (.int .u64 (n1 : Nat)))) := Lib.hid (At.set HT1.out (Nat.le_succ _) _ _)
  have HR10 : Hid (RdS (w1.setCell ⟨w.heap.size + 1, 0, none⟩ (.int .u64 (n1 : Nat))) b s1) := Lib.hid (hr1.setCell hne 0 _)
  clear hr0 hr1
  go_wp2_with fail
  refine (H2.out _ HR10.out).mono ?_
  rintro e w2 ⟨rfl, hr2, ht2⟩
  have HT2 : Hid (Turns (At b) w w2) := Lib.hid (At.trans HT10.out ht2)
  have HX2 : Hid (Tx w2 (w.heap.size + 1) n1 0 0 0 ⟨#[]⟩ ⟨#[]⟩ 0 0) := Lib.hid (box_turn ht2 HX10.out hne)
  have HY2 : Hid (Tx w2 w.heap.size 0 0 0 0 ⟨#[]⟩ ⟨#[]⟩ 0 0) := Lib.hid (box_turn ht2 HY10.out hne0)
  clear ht2
  go_wp2_with fail
  refine (H3.out _ hr2).mono ?_
  rintro e w3 ⟨rfl, hr3, ht3⟩
  have HT3 : Hid (Turns (At b) w w3) := Lib.hid (At.trans HT2.out ht3)
  have HX3 : Hid (Tx w3 (w.heap.size + 1) n1 0 0 0 ⟨#[]⟩ ⟨#[]⟩ 0 0) := Lib.hid (box_turn ht3 HX2.out hne)
  have HY3 : Hid (Tx w3 w.heap.size 0 0 0 0 ⟨#[]⟩ ⟨#[]⟩ 0 0) := Lib.hid (box_turn ht3 HY2.out hne0)
  clear ht3
  go_wp2_with fail
  refine (H4.out _ hr3).mono ?_
  rintro e w4 ⟨rfl, hr4, ht4⟩
  have HT4 : Hid (Turns (At b) w w4) := Lib.hid (At.trans HT3.out ht4)
  have HX4 : Hid (Tx w4 (w.heap.size + 1) n1 0 0 0 ⟨#[]⟩ ⟨#[]⟩ 0 0) := Lib.hid (box_turn ht4 HX3.out hne)
  have HY4 : Hid (Tx w4 w.heap.size 0 0 0 0 ⟨#[]⟩ ⟨#[]⟩ 0 0) := Lib.hid (box_turn ht4 HY3.out hne0)
  clear ht4
  obtain ⟨a0, a1, a2, a3, a4, a5, a6, a7, af, alt⟩ := HX4.out.of
  have c4_0 := a1
  have f4_0 := af 1
  clear a0 a1 a2 a3 a4 a5 a6 a7 af alt
  have HX40 : Hid (Tx (w4.setCell ⟨w.heap.size + 1, 1, none⟩ (.int .i64 (n2 : Nat))) (w.heap.size + 1) n1 n2 0 0 ⟨#[]⟩ ⟨#[]⟩ 0 0) := Lib.hid (heap_setCell_same _ _ 1 _ _ _ HX4.out)
  have HY40 : Hid (Tx (w4.setCell ⟨w.heap.size + 1, 1, none⟩ (.int .i64 (n2 : Nat))) w.heap.size 0 0 0 0 ⟨#[]⟩ ⟨#[]⟩ 0 0) := Lib.hid ((setCell_kept _ ⟨w.heap.size + 1, 1, none⟩ _ (by simp)).trans HY4.out)
  have HT40 : Hid (Turns (At b) w (w4.setCell ⟨w.heap.size + 1, 1, none⟩ (.int .i64 (n2 : Nat)))) := Lib.hid (At.set HT4.out (Nat.le_succ _) _ _)
  have HR40 : Hid (RdS (w4.setCell ⟨w.heap.size + 1, 1, none⟩ (.int .i64 (n2 : Nat))) b s4) := Lib.hid (hr4.setCell hne 1 _)
  obtain ⟨a0, a1, a2, a3, a4, a5, a6, a7, af, alt⟩ := HX40.out.of
  have c4_1 := a2
  have f4_1 := af 2
  clear a0 a1 a2 a3 a4 a5 a6 a7 af alt
  have HX41 : Hid (Tx ((w4.setCell ⟨w.heap.size + 1, 1, none⟩ (.int .i64 (n2 : Nat))).setCell ⟨w.heap.size + 1, 2, none⟩ (.int .i64 (n3 : Nat))) (w.heap.size + 1) n1 n2 n3 0 ⟨#[]⟩ ⟨#[]⟩ 0 0) := Lib.hid (heap_setCell_same _ _ 2 _ _ _ HX40.out)
  have HY41 : Hid (Tx ((w4.setCell ⟨w.heap.size + 1, 1, none⟩ (.int .i64 (n2 : Nat))).setCell ⟨w.heap.size + 1, 2, none⟩ (.int .i64 (n3 : Nat))) w.heap.size 0 0 0 0 ⟨#[]⟩ ⟨#[]⟩ 0 0) := Lib.hid ((setCell_kept _ ⟨w.heap.size + 1, 2, none⟩ _ (by simp)).trans HY40.out)
  have HT41 : Hid (Turns (At b) w ((w4.setCell ⟨w.heap.size + 1, 1, none⟩ (.int .i64 (n2 : Nat))).setCell ⟨w.heap.size + 1, 2, none⟩ (.int .i64 (n3 : Nat)))) := Lib.hid (At.set HT40.out (Nat.le_succ _) _ _)
  have HR41 : Hid (RdS ((w4.setCell ⟨w.heap.size + 1, 1, none⟩ (.int .i64 (n2 : Nat))).setCell ⟨w.heap.size + 1, 2, none⟩ (.int .i64 (n3 : Nat))) b s4) := Lib.hid (HR40.out.setCell hne 2 _)
  obtain ⟨a0, a1, a2, a3, a4, a5, a6, a7, af, alt⟩ := HX41.out.of
  have c4_2 := a3
  have f4_2 := af 3
  clear a0 a1 a2 a3 a4 a5 a6 a7 af alt
  have HX42 : Hid (Tx (((w4.setCell ⟨w.heap.size + 1, 1, none⟩ (.int .i64 (n2 : Nat))).setCell ⟨w.heap.size + 1, 2, none⟩ (.int .i64 (n3 : Nat))).setCell ⟨w.heap.size + 1, 3, none⟩ (.int .i64 (n4 : Nat))) (w.heap.size + 1) n1 n2 n3 n4 ⟨#[]⟩ ⟨#[]⟩ 0 0) := Lib.hid (heap_setCell_same _ _ 3 _ _ _ HX41.out)
  have HY42 : Hid (Tx (((w4.setCell ⟨w.heap.size + 1, 1, none⟩ (.int .i64 (n2 : Nat))).setCell ⟨w.heap.size + 1, 2, none⟩ (.int .i64 (n3 : Nat))).setCell ⟨w.heap.size + 1, 3, none⟩ (.int .i64 (n4 : Nat))) w.heap.size 0 0 0 0 ⟨#[]⟩ ⟨#[]⟩ 0 0) := Lib.hid ((setCell_kept _ ⟨w.heap.size + 1, 3, none⟩ _ (by simp)).trans HY41.out)
  have HT42 : Hid (Turns (At b) w (((w4.setCell ⟨w.heap.size + 1, 1, none⟩ (.int .i64 (n2 : Nat))).setCell ⟨w.heap.size + 1, 2, none⟩ (.int .i64 (n3 : Nat))).setCell ⟨w.heap.size + 1, 3, none⟩ (.int .i64 (n4 : Nat)))) := Lib.hid (At.set HT41.out (Nat.le_succ _) _ _)
  have HR42 : Hid (RdS (((w4.setCell ⟨w.heap.size + 1, 1, none⟩ (.int .i64 (n2 : Nat))).setCell ⟨w.heap.size + 1, 2, none⟩ (.int .i64 (n3 : Nat))).setCell ⟨w.heap.size + 1, 3, none⟩ (.int .i64 (n4 : Nat))) b s4) := Lib.hid (HR41.out.setCell hne 3 _)
  clear hr2 hr3 hr4
  go_wp2_with fail
  refine (H5.out _ HR42.out).mono ?_
  rintro e w5 ⟨rfl, hr5, ht5⟩
  have HT5 : Hid (Turns (At b) w w5) := Lib.hid (At.trans HT42.out ht5)
  have HX5 : Hid (Tx w5 (w.heap.size + 1) n1 n2 n3 n4 ⟨#[]⟩ ⟨#[]⟩ 0 0) := Lib.hid (box_turn ht5 HX42.out hne)
  have HY5 : Hid (Tx w5 w.heap.size 0 0 0 0 ⟨#[]⟩ ⟨#[]⟩ 0 0) := Lib.hid (box_turn ht5 HY42.out hne0)
  clear ht5
  go_wp2_with fail
  refine (H6.out _ hr5).mono ?_
  rintro e w6 ⟨rfl, hr6, ht6⟩
  have HT6 : Hid (Turns (At b) w w6) := Lib.hid (At.trans HT5.out ht6)
  have HX6 : Hid (Tx w6 (w.heap.size + 1) n1 n2 n3 n4 ⟨#[]⟩ ⟨#[]⟩ 0 0) := Lib.hid (box_turn ht6 HX5.out hne)
  have HY6 : Hid (Tx w6 w.heap.size 0 0 0 0 ⟨#[]⟩ ⟨#[]⟩ 0 0) := Lib.hid (box_turn ht6 HY5.out hne0)
  clear ht6
  obtain ⟨a0, a1, a2, a3, a4, a5, a6, a7, af, alt⟩ := HX6.out.of
  have c6_0 := a6
  have f6_0 := af 6
  clear a0 a1 a2 a3 a4 a5 a6 a7 af alt
  have HX60 : Hid (Tx (w6.setCell ⟨w.heap.size + 1, 6, none⟩ (.int .u64 (n5 : Nat))) (w.heap.size + 1) n1 n2 n3 n4 ⟨#[]⟩ ⟨#[]⟩ n5 0) := Lib.hid (heap_setCell_same _ _ 6 _ _ _ HX6.out)
  have HY60 : Hid (Tx (w6.setCell ⟨w.heap.size + 1, 6, none⟩ (.int .u64 (n5 : Nat))) w.heap.size 0 0 0 0 ⟨#[]⟩ ⟨#[]⟩ 0 0) := Lib.hid ((setCell_kept _ ⟨w.heap.size + 1, 6, none⟩ _ (by simp)).trans HY6.out)
  have HT60 : Hid (Turns (At b) w (w6.setCell ⟨w.heap.size + 1, 6, none⟩ (.int .u64 (n5 : Nat)))) := Lib.hid (At.set HT6.out (Nat.le_succ _) _ _)
  have HR60 : Hid (RdS (w6.setCell ⟨w.heap.size + 1, 6, none⟩ (.int .u64 (n5 : Nat))) b s6) := Lib.hid (hr6.setCell hne 6 _)
  obtain ⟨a0, a1, a2, a3, a4, a5, a6, a7, af, alt⟩ := HX60.out.of
  have c6_1 := a7
  have f6_1 := af 7
  clear a0 a1 a2 a3 a4 a5 a6 a7 af alt
  have HX61 : Hid (Tx ((w6.setCell ⟨w.heap.size + 1, 6, none⟩ (.int .u64 (n5 : Nat))).setCell ⟨w.heap.size + 1, 7, none⟩ (.int .u64 (n6 : Nat))) (w.heap.size + 1) n1 n2 n3 n4 ⟨#[]⟩ ⟨#[]⟩ n5 n6) := Lib.hid (heap_setCell_same _ _ 7 _ _ _ HX60.out)
  have HY61 : Hid (Tx ((w6.setCell ⟨w.heap.size + 1, 6, none⟩ (.int .u64 (n5 : Nat))).setCell ⟨w.heap.size + 1, 7, none⟩ (.int .u64 (n6 : Nat))) w.heap.size 0 0 0 0 ⟨#[]⟩ ⟨#[]⟩ 0 0) := Lib.hid ((setCell_kept _ ⟨w.heap.size + 1, 7, none⟩ _ (by simp)).trans HY60.out)
  have HT61 : Hid (Turns (At b) w ((w6.setCell ⟨w.heap.size + 1, 6, none⟩ (.int .u64 (n5 : Nat))).setCell ⟨w.heap.size + 1, 7, none⟩ (.int .u64 (n6 : Nat)))) := Lib.hid (At.set HT60.out (Nat.le_succ _) _ _)
  have HR61 : Hid (RdS ((w6.setCell ⟨w.heap.size + 1, 6, none⟩ (.int .u64 (n5 : Nat))).setCell ⟨w.heap.size + 1, 7, none⟩ (.int .u64 (n6 : Nat))) b s6) := Lib.hid (HR60.out.setCell hne 7 _)
  clear hr5 hr6
  go_wp2_with fail
  refine (H7.out _ HR61.out).mono ?_
  rintro e w7 ⟨rfl, hr7, ht7⟩
  have HT7 : Hid (Turns (At b) w w7) := Lib.hid (At.trans HT61.out ht7)
  have HX7 : Hid (Tx w7 (w.heap.size + 1) n1 n2 n3 n4 ⟨#[]⟩ ⟨#[]⟩ n5 n6) := Lib.hid (box_turn ht7 HX61.out hne)
  have HY7 : Hid (Tx w7 w.heap.size 0 0 0 0 ⟨#[]⟩ ⟨#[]⟩ 0 0) := Lib.hid (box_turn ht7 HY61.out hne0)
  clear ht7
  go_wp2_with fail
  refine (H8.out _ hr7).mono ?_
  rintro e w8 ⟨rfl, hr8, ht8⟩
  have HT8 : Hid (Turns (At b) w w8) := Lib.hid (At.trans HT7.out ht8)
  have HX8 : Hid (Tx w8 (w.heap.size + 1) n1 n2 n3 n4 ⟨#[]⟩ ⟨#[]⟩ n5 n6) := Lib.hid (box_turn ht8 HX7.out hne)
  have HY8 : Hid (Tx w8 w.heap.size 0 0 0 0 ⟨#[]⟩ ⟨#[]⟩ 0 0) := Lib.hid (box_turn ht8 HY7.out hne0)
  clear ht8
  obtain ⟨a0, a1, a2, a3, a4, a5, a6, a7, af, alt⟩ := HX8.out.of
  have c8_0 := a4
  have f8_0 := af 4
  clear a0 a1 a2 a3 a4 a5 a6 a7 af alt
  have HX80 : Hid (Tx (w8.setCell ⟨w.heap.size + 1, 4, none⟩ (.string f)) (w.heap.size + 1) n1 n2 n3 n4 f ⟨#[]⟩ n5 n6) := Lib.hid (heap_setCell_same _ _ 4 _ _ _ HX8.out)
  have HY80 : Hid (Tx (w8.setCell ⟨w.heap.size + 1, 4, none⟩ (.string f)) w.heap.size 0 0 0 0 ⟨#[]⟩ ⟨#[]⟩ 0 0) := Lib.hid ((setCell_kept _ ⟨w.heap.size + 1, 4, none⟩ _ (by simp)).trans HY8.out)
  have HT80 : Hid (Turns (At b) w (w8.setCell ⟨w.heap.size + 1, 4, none⟩ (.string f))) := Lib.hid (At.set HT8.out (Nat.le_succ _) _ _)
  have HR80 : Hid (RdS (w8.setCell ⟨w.heap.size + 1, 4, none⟩ (.string f)) b s8) := Lib.hid (hr8.setCell hne 4 _)
  obtain ⟨a0, a1, a2, a3, a4, a5, a6, a7, af, alt⟩ := HX80.out.of
  have c8_1 := a5
  have f8_1 := af 5
  clear a0 a1 a2 a3 a4 a5 a6 a7 af alt
  have HX81 : Hid (Tx ((w8.setCell ⟨w.heap.size + 1, 4, none⟩ (.string f)).setCell ⟨w.heap.size + 1, 5, none⟩ (.string l)) (w.heap.size + 1) n1 n2 n3 n4 f l n5 n6) := Lib.hid (heap_setCell_same _ _ 5 _ _ _ HX80.out)
  have HY81 : Hid (Tx ((w8.setCell ⟨w.heap.size + 1, 4, none⟩ (.string f)).setCell ⟨w.heap.size + 1, 5, none⟩ (.string l)) w.heap.size 0 0 0 0 ⟨#[]⟩ ⟨#[]⟩ 0 0) := Lib.hid ((setCell_kept _ ⟨w.heap.size + 1, 5, none⟩ _ (by simp)).trans HY80.out)
  have HT81 : Hid (Turns (At b) w ((w8.setCell ⟨w.heap.size + 1, 4, none⟩ (.string f)).setCell ⟨w.heap.size + 1, 5, none⟩ (.string l))) := Lib.hid (At.set HT80.out (Nat.le_succ _) _ _)
  have HR81 : Hid (RdS ((w8.setCell ⟨w.heap.size + 1, 4, none⟩ (.string f)).setCell ⟨w.heap.size + 1, 5, none⟩ (.string l)) b s8) := Lib.hid (HR80.out.setCell hne 5 _)
  clear hr7 hr8
  obtain ⟨a0, a1, a2, a3, a4, a5, a6, a7, af, alt⟩ := HX81.out.of
  obtain ⟨b0, b1, b2, b3, b4, b5, b6, b7, bf, blt⟩ := HY81.out.of
  clear HX81
  go_wp2_with fail
  refine Tx.fill (P := bodyPost _ _ _ _ _) HY81.out n1 (n2 : Int) (n3 : Int) (n4 : Int) f l n5 n6 ?_
  intro wF hF hTF
  have HRF : Hid (RdS wF b s8) := Lib.hid ((hTF.block b (Sk.heap_lt HR81.out) (fun e => hne0 e.symm)).trans HR81.out)
  have HTF : Hid (Turns (At b) w wF) := Lib.hid (HT81.out.trans hTF (fun x hx => Or.inr (by rw [show x = w.heap.size from hx]; exact Nat.le_refl _)))
  clear a0 a1 a2 a3 a4 a5 a6 a7 af alt b0 b1 b2 b3 b4 b5 b6 b7 bf blt
  obtain ⟨b0, b1, b2, b3, b4, b5, b6, b7, bf, blt⟩ := hF.of
  exact bodyPost_ret (v := .agg #[.int .u64 (n1 : Nat), .int .i64 (n2 : Nat), .int .i64 (n3 : Nat), .int .i64 (n4 : Nat), .string f, .string l, .int .u64 (n5 : Nat), .int .u64 (n6 : Nat)]) (by simp [results, Try.results89, go_sem, b0, b1, b2, b3, b4, b5, b6, b7]) rfl ⟨rfl, HRF.out, HTF.out⟩

end Go.Proofs.Ytbdoekogoiijeaa

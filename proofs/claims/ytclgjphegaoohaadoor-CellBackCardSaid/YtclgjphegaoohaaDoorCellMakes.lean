/- The walk of CellMakes. -/
import Derived.Test.YtclgjphegaoohaaDoorCellF
import Derived.Test.YtclgjphegaoohaaDoorCellS
namespace Go.Proofs.YtclgjphegaoohaaDoor
open Go.RowKit

set_option maxHeartbeats 400000 in
theorem given_any (f l : Bool) (n : Int) (d : ByteArray) (w : World) :
    Calls Tryd.prog 14 #[.agg #[.bool f, .bool l, .int .i64 n, .string d]] w (Gives (.agg #[.bool f, .bool l, .int .i64 n, .string d]) w) := by
  go_enter Tryd.func14, Tryd.ntmps14
  go_wp2_with fail
  exact bodyPost_ret (v := .agg #[.bool f, .bool l, .int .i64 n, .string d]) (by simp [results, Tryd.results14, go_sem]) rfl ⟨rfl, Below.next_alloc ((Below.refl _ _).alloc (Nat.le_refl _) _) _⟩

set_option maxHeartbeats 400000 in
theorem makes_great (f l : Bool) (n : Int) (d : ByteArray) (w : World) (hT : Tab w) (hd : 3000 < (d.size : Int)) :
    Calls Tryd.prog 5 #[.agg #[.bool f, .bool l, .int .i64 n, .string d]] w (Gives (.bool true) w) := by
  have HT := Lib.hid hT; clear hT
  go_enter Tryd.func5, Tryd.ntmps5
  go_wp2_with fail
  refine (awake_any _ (HT.out.alloc _)).mono ?_
  rintro e w1 ⟨rfl, hb⟩
  have HB := Lib.hid hb; clear hb
  go_wp2_with fail
  go_ret
  exact ⟨rfl, Below.next ((Below.refl _ _).alloc (Nat.le_refl _) _) HB.out⟩

/-- Both makes, whatever the cell. -/
def mkV (c : Cr.Cl) : Value := if Cr.may c = true then .tuple #[.string ⟨(Cr.mk c).toArray⟩, .int .i64 0] else .tuple #[.string ⟨#[]⟩, .int .i64 1]
theorem make_any (f l : Bool) (n : Int) (d : ByteArray) (w : World) (hT : Tab w) (hs : d.size ≤ 9223372036854775807) :
    Calls Tryd.prog 10 #[.agg #[.bool f, .bool l, .int .i64 n, .string d]] w (Gives (mkV ⟨f, l, n, d⟩) w) := by
  unfold mkV
  by_cases h : Cr.may ⟨f, l, n, d⟩ = true
  · rw [if_pos h]; exact make_yes f l n d w hT h
  · rw [if_neg h]; exact make_no f l n d w hs (Bool.eq_false_iff.2 h)
theorem refMake_any (f l : Bool) (n : Int) (d : ByteArray) (w : World) (hs : d.size ≤ 9223372036854775807) :
    Calls Tryd.prog 15 #[.agg #[.bool f, .bool l, .int .i64 n, .string d]] w (Gives (mkV ⟨f, l, n, d⟩) w) := by
  unfold mkV
  by_cases h : Cr.may ⟨f, l, n, d⟩ = true
  · rw [if_pos h]; exact refMake_yes f l n d w h
  · rw [if_neg h]; exact refMake_no f l n d w hs (Bool.eq_false_iff.2 h)
theorem mkV_tuple (c : Cr.Cl) : ∃ (t : ByteArray) (e : Int), mkV c = .tuple #[.string t, .int .i64 e] := by
  unfold mkV
  split
  · exact ⟨_, _, rfl⟩
  · exact ⟨_, _, rfl⟩

set_option maxHeartbeats 400000 in
theorem makes_any (f l : Bool) (n : Int) (d : ByteArray) (w : World) (hT : Tab w) (hd : ¬ 3000 < (d.size : Int)) :
    Calls Tryd.prog 5 #[.agg #[.bool f, .bool l, .int .i64 n, .string d]] w (Gives (.bool true) w) := by
  obtain ⟨t, e, hte⟩ := mkV_tuple ⟨f, l, n, d⟩
  have HTE := Lib.hid hte; clear hte
  have HT := Lib.hid hT; clear hT
  have hd2 : d.size ≤ 9223372036854775807 := by omega
  go_enter Tryd.func5, Tryd.ntmps5
  go_wp2_with fail
  refine (given_any f l n d _).mono ?_
  rintro e1 w1 ⟨rfl, hb⟩
  obtain ⟨hc, hf⟩ := bcell hb
  have HB1 := Lib.hid (Below.next ((Below.refl w.heap.size w).alloc (Nat.le_refl _) _) hb)
  have HT1 := Lib.hid (HT.out.below HB1.out)
  have c0 : w1.cell? ⟨w.heap.size, 0, none⟩ = some (.bool f) := (hc _ _ (by simp)).trans (cell_of_row _ _ _ _ _ _ (heap_alloc_new w _))
  have c1 : w1.cell? ⟨w.heap.size, 1, none⟩ = some (.bool l) := (hc _ _ (by simp)).trans (cell_of_row _ _ _ _ _ _ (heap_alloc_new w _))
  have c2 : w1.cell? ⟨w.heap.size, 2, none⟩ = some (.int .i64 n) := (hc _ _ (by simp)).trans (cell_of_row _ _ _ _ _ _ (heap_alloc_new w _))
  have c3 : w1.cell? ⟨w.heap.size, 3, none⟩ = some (.string d) := (hc _ _ (by simp)).trans (cell_of_row _ _ _ _ _ _ (heap_alloc_new w _))
  have hz : w.heap.size < w1.heap.size := by have := hb.size; simp at this; omega
  clear hb hc hf
  go_wp2_with fail
  refine (make_any f l n d _ HT1.out hd2).mono ?_
  rintro e2 w2 ⟨rfl, hb⟩
  rw [HTE.out]
  have HB2 := Lib.hid (Below.next HB1.out hb)
  have HT2 := Lib.hid (HT1.out.below hb)
  have d0 : w2.cell? ⟨w.heap.size, 0, none⟩ = some (.bool f) := (hb.cell (p := ⟨w.heap.size, 0, none⟩) hz).trans c0
  have d1 : w2.cell? ⟨w.heap.size, 1, none⟩ = some (.bool l) := (hb.cell (p := ⟨w.heap.size, 1, none⟩) hz).trans c1
  have d2 : w2.cell? ⟨w.heap.size, 2, none⟩ = some (.int .i64 n) := (hb.cell (p := ⟨w.heap.size, 2, none⟩) hz).trans c2
  have d3 : w2.cell? ⟨w.heap.size, 3, none⟩ = some (.string d) := (hb.cell (p := ⟨w.heap.size, 3, none⟩) hz).trans c3
  clear hb c0 c1 c2 c3
  go_wp2_with fail
  refine (refMake_any f l n d _ hd2).mono ?_
  rintro e3 w3 ⟨rfl, hb⟩
  rw [HTE.out]
  have HB3 := Lib.hid (Below.next HB2.out hb)
  have HT3 := Lib.hid (HT2.out.below hb)
  clear hb d0 d1 d2 d3
  go_wp2_with fail
  refine (awake_any _ HT3.out).mono ?_
  rintro e4 w4 ⟨rfl, hb⟩
  have HB4 := Lib.hid (Below.next HB3.out hb)
  clear hb
  go_wp2_with fail
  go_ret
  exact ⟨rfl, HB4.out⟩

theorem makes_walk (f l : Bool) (n : Int) (d : ByteArray) (w : World) (hT : Tab w) (_hs : d.size ≤ 9223372036854775807) :
    Calls Tryd.prog 5 #[.agg #[.bool f, .bool l, .int .i64 n, .string d]] w (Gives (.bool true) w) := by
  by_cases h : 3000 < (d.size : Int)
  · exact makes_great f l n d w hT h
  · exact makes_any f l n d w hT h

end Go.Proofs.YtclgjphegaoohaaDoor

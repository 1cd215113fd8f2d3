/- The walk of BlockBack. -/
import Derived.Test.YtjpmcphfiiiecaaBoN
import Derived.Deep.RegionLaw
import Derived.Deep.RegionHeld3
import Derived.Deep.DeepCutAuto
import Derived.Deep.CutRange
namespace Go.Proofs.Ytjpmcphfiiiecaa.Bo
open Go Go.RowKit
set_option linter.unusedVariables false

/-- What a builder turns is none of the entries' blocks. -/
theorem ownsN_turned {w w' : World} {b1 b2 : Nat} {v : Value} {l : List En} {L : BL} {s : St} (h : OwnsN w b1 v l) (hb : Built w b2 L s) (ht : Turns (OwnB L) w w') : OwnsN w' b1 v l := by
  refine ownsRow_frame h fun k hk => ?_
  obtain ⟨cs, hc⟩ := ownsRow_obj h hk
  refine ht.block k (heap_lt hc) fun ho => ?_
  rcases ho with rfl | ho | ho
  · rw [hb.box] at hc
    simp only [Option.some.injEq, Obj.cells.injEq] at hc
    exact absurd hc.2.1 (by decide)
  · obtain ⟨c2, hc2⟩ := ownsRow_obj hb.rows ho
    rw [hc2] at hc
    simp only [Option.some.injEq, Obj.cells.injEq] at hc
    exact absurd hc.2.1 (by decide)
  · obtain ⟨c2, hc2⟩ := ownsRow_obj hb.foot ho
    rw [hc2] at hc
    simp only [Option.some.injEq, Obj.cells.injEq] at hc
    exact absurd hc.2.1 (by decide)
/-- What the entries' slice turns is none of a builder's blocks. -/
theorem built_grown {w w' : World} {b1 b2 n : Nat} {v : Value} {xs : List Value} {L : BL} {s : St} (h : w.ownsRow b1 51 2 v n xs) (hb : Built w b2 L s) (hg : w.grownBy w' v.ownBlock) : Built w' b2 L s := by
  refine hb.frame fun k hk => hg.block k (hb.own_lt hk) fun e => ?_
  obtain ⟨cs, hc⟩ := ownsRow_obj h e.symm
  rcases hk with rfl | ho | ho
  · rw [hb.box] at hc
    simp only [Option.some.injEq, Obj.cells.injEq] at hc
    exact absurd hc.2.1 (by decide)
  · obtain ⟨c2, hc2⟩ := ownsRow_obj hb.rows ho
    rw [hc2] at hc
    simp only [Option.some.injEq, Obj.cells.injEq] at hc
    exact absurd hc.2.1 (by decide)
  · obtain ⟨c2, hc2⟩ := ownsRow_obj hb.foot ho
    rw [hc2] at hc
    simp only [Option.some.injEq, Obj.cells.injEq] at hc
    exact absurd hc.2.1 (by decide)

set_option maxHeartbeats 4000000 in
set_option maxRecDepth 100000 in
theorem back_great (a : Option Addr) (n c : Nat) (l : List Ac) (s : ByteArray) (w : World) (h : SeesA w (.slice a n c) l) (hg : greatA l = true) :
    Calls Try.prog 6 #[.slice a n c, .string s] w (Gives (.bool true) w) := by
  have HGR := Lib.hid (great_any a n c l w h)
  rw [hg] at HGR
  clear h hg
  go_enter Try.func6, Try.ntmps6
  go_wp2_with fail
  refine HGR.out.mono ?_
  rintro e w1 ⟨rfl, hb1⟩
  go_wp2_with fail
  refine (awake_any _).mono ?_
  rintro e w2 ⟨rfl, hb2⟩
  go_wp2_with fail
  go_ret
  exact ⟨rfl, hb1.trans (hb2.mono hb1.size)⟩
/-- Each key is found where it stands. -/
theorem seek_own {l : List En} {k : Nat} {x : En} (ha : Asc l) (hx : l[k]? = some x) : seekN l x.key = k := by
  refine seekN_eq (Nat.le_of_lt (List.getElem?_eq_some_iff.1 hx).1) (fun i e hi hik => ?_) (fun e he => ?_)
  · obtain ⟨h1, rfl⟩ := List.getElem?_eq_some_iff.1 hi
    obtain ⟨h2, rfl⟩ := List.getElem?_eq_some_iff.1 hx
    exact List.pairwise_iff_getElem.1 ha i k h1 h2 hik
  · rw [hx] at he
    simp only [Option.some.injEq] at he
    subst he
    exact Nm.bytesLess_self _
theorem seek_tells {l : List En} {k : Nat} {x : En} {key : ByteArray} (ha : Asc l) (hx : l[k]? = some x) : Op.bytesLess x.key.data.toList key.data.toList = decide (k < seekN l key) := by
  by_cases h : k < seekN l key
  · rw [decide_eq_true h]; exact seekN_below l key k x hx h
  · rw [decide_eq_false h]; exact seekN_above l key k x ha hx (by omega)
theorem few_of {l : List Ac} {n : Nat} (h : greatA l = false) (hl : l.length = n) : n ≤ 120 := by
  unfold greatA at h
  rw [Bool.or_eq_false_iff, decide_eq_false_iff_not] at h
  omega

/-- What the last loop's region reads. -/
abbrev RG (w4 : World) (g j : Nat) (xk yk : ByteArray) (w' : World) : Prop := w'.cell? ⟨g, (j + 1) * 2, none⟩ = some (.string xk) ∧ w'.cell? ⟨g, j * 2, none⟩ = some (.string yk) ∧ Below w4.heap.size w4 w'
theorem RG.of {w4 w' : World} {g j : Nat} {xk yk : ByteArray} (hg : g < w4.heap.size) (hx : w4.cell? ⟨g, (j + 1) * 2, none⟩ = some (.string xk)) (hy : w4.cell? ⟨g, j * 2, none⟩ = some (.string yk)) (hb : Below w4.heap.size w4 w') : RG w4 g j xk yk w' :=
  ⟨(hb.cell (p := ⟨g, _, none⟩) hg).trans hx, (hb.cell (p := ⟨g, _, none⟩) hg).trans hy, hb⟩
theorem RG.call {w4 w' w2 : World} {g j : Nat} {xk yk : ByteArray} (h : RG w4 g j xk yk w') (hg : g < w4.heap.size) (hx : w4.cell? ⟨g, (j + 1) * 2, none⟩ = some (.string xk)) (hy : w4.cell? ⟨g, j * 2, none⟩ = some (.string yk)) (hb : Below w'.heap.size w' w2) : RG w4 g j xk yk w2 :=
  RG.of hg hx hy (h.2.2.trans (hb.mono h.2.2.size))


end Go.Proofs.Ytjpmcphfiiiecaa.Bo

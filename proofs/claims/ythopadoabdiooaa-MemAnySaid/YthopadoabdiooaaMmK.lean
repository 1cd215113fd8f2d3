/- The law's same: two rows of the same entries. -/
import Derived.Test.YthopadoabdiooaaMmJ
namespace Go.Proofs.Ythopadoabdiooaa.Mm
open Go Go.RowKit Go.Proofs.Ythopadoabdiooaa.Sk Go.Proofs.Ythopadoabdiooaa.Sm
set_option linter.unusedVariables false
set_option linter.unusedSimpArgs false
set_option maxHeartbeats 4000000 in
set_option maxRecDepth 100000 in
theorem same_any {b1 b2 : Nat} {v1 v2 : Value} {R : List Ent} (w : World) (h1 : OwnsE w b1 v1 R) (h2 : OwnsE w b2 v2 R) (hR : R.length ≤ 1000000) :
    Calls Try.prog 25 #[v1, v2] w fun e w' => e = .returned (.bool true) ∧ Below w.heap.size w w' := by
  have H1 := Lib.hid h1
  have H2 := Lib.hid h2
  have hRi : (R.length : Int) ≤ 1000000 := by omega
  obtain ⟨a1, c1, e1⟩ := row_any h1
  obtain ⟨a2, c2, e2⟩ := row_any h2
  subst e1 e2
  clear h1 h2 hR
  go_enter Try.func25, Try.ntmps25
  go_wp2_with fail
  go_loopw [5] (fun i wr => ∃ k : Nat, k ≤ R.length ∧ i = .int .i64 (k : Int) ∧ Hid (Below w.heap.size w wr)) (fun i _ => R.length - (intOf i).toNat)
  case atStart => exact ⟨0, Nat.zero_le _, rfl, Lib.hid (Below.refl _ _)⟩
  case round =>
    obtain ⟨k, hk, rfl, HB⟩ := hrel
    by_cases hkn : k < R.length
    · obtain ⟨x, hx⟩ : ∃ x, R[k]? = some x := ⟨R[k]'hkn, List.getElem?_eq_getElem _⟩
      obtain ⟨g1, p1, e1, _, hg1, _, _, c0', c1', c2', c3'⟩ := H1.out.get hx
      obtain ⟨g2, p2, e2, _, hg2, _, _, d0', d1', d2', d3'⟩ := H2.out.get hx
      simp only [Value.slice.injEq] at e1 e2
      obtain ⟨rfl, _, rfl⟩ := e1
      obtain ⟨rfl, _, rfl⟩ := e2
      have x0 := (HB.out.cell (p := ⟨g1, k * 4, none⟩) hg1).trans c0'
      have x1 := (HB.out.cell (p := ⟨g1, k * 4 + 1, none⟩) hg1).trans c1'
      have x2 := (HB.out.cell (p := ⟨g1, k * 4 + 2, none⟩) hg1).trans c2'
      have x3 := (HB.out.cell (p := ⟨g1, k * 4 + 3, none⟩) hg1).trans c3'
      have y0 := (HB.out.cell (p := ⟨g2, k * 4, none⟩) hg2).trans d0'
      have y1 := (HB.out.cell (p := ⟨g2, k * 4 + 1, none⟩) hg2).trans d1'
      have y2 := (HB.out.cell (p := ⟨g2, k * 4 + 2, none⟩) hg2).trans d2'
      have y3 := (HB.out.cell (p := ⟨g2, k * 4 + 3, none⟩) hg2).trans d3'
      have hkk : (k : Int) < R.length := by omega
      clear hx hg1 hg2 c0' c1' c2' c3' d0' d1' d2' d3'
      go_wp2_with fail
      go_quiet (fail)
      go_wp2_with fail
      go_roundw
      case rel => exact ⟨k + 1, by omega, by go_num, by first | exact HB | exact Lib.hid (below_drewN HB.out _)⟩
      case measure => simp [intOf]; omega
    · obtain rfl : k = R.length := by omega
      go_wp2_with fail
      go_ret
      exact ⟨rfl, HB.out⟩
end Go.Proofs.Ythopadoabdiooaa.Mm

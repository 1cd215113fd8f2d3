/- The walk of law 9's awake. -/
import Derived.Test.YtmdnmabbphnhaaaMmG
namespace Go.Proofs.Ytmdnmabbphnhaaa.Mm
open Go Go.RowKit Go.Proofs.Ytmdnmabbphnhaaa.Sk Go.Proofs.Ytmdnmabbphnhaaa.Sm
set_option linter.unusedVariables false
set_option linter.unusedSimpArgs false

set_option maxHeartbeats 8000000 in
set_option maxRecDepth 100000 in
theorem awake_any (w : World) : Calls Try.prog 6 #[] w fun e w' => e = .returned (.bool true) ∧ Below w.heap.size w w' := by
  have HNEW := Lib.hid (has_new w)
  have HF := Lib.hid awake_facts
  have HP1 : Hid (∀ W m, w.heap.size ≤ W.heap.size → Has w.heap.size W m [] [] → Calls Try.prog 9 #[.pointer (some ⟨m, 0, none⟩), .agg #[.string ⟨#[97]⟩, .string ⟨#[49]⟩, .int .u64 3, .bool false], .int .i64 1] W fun x w' => x = .returned (.int .i64 0) ∧ Has w.heap.size w' m sA (putR eA 1 [] []) ∧ Below w.heap.size W w') := Lib.hid (fun W m hb h => by
    have h1 := has_put h hb eA 1 ⟨by decide, by decide, by decide⟩ (by decide)
    rw [HF.out.1, HF.out.2.1] at h1
    exact h1)
  have HP2 : Hid (∀ W m, w.heap.size ≤ W.heap.size → Has w.heap.size W m sA (putR eA 1 [] []) → Calls Try.prog 9 #[.pointer (some ⟨m, 0, none⟩), .agg #[.string ⟨#[97]⟩, .string ⟨#[]⟩, .int .u64 5, .bool true], .int .i64 2] W fun x w' => x = .returned (.int .i64 0) ∧ Has w.heap.size w' m sB (putR eB 2 sA (putR eA 1 [] [])) ∧ Below w.heap.size W w') := Lib.hid (fun W m hb h => by
    have h1 := has_put h hb eB 2 ⟨by decide, by decide, by decide⟩ (by decide)
    rw [HF.out.2.2.1, HF.out.2.2.2.1] at h1
    exact h1)
  have HAT : Hid (∀ W m r, Has w.heap.size W m sB r → Calls Try.prog 10 #[.pointer (some ⟨m, 0, none⟩), .string ⟨#[97]⟩, .int .u64 4] W fun x w' => x = .returned (.tuple #[.agg #[.string ⟨#[97]⟩, .string ⟨#[49]⟩, .int .u64 3, .bool false], .bool true]) ∧ Below W.heap.size W w') := Lib.hid (fun W m r h => by
    have h1 := has_at h ⟨#[97]⟩ 4 (by decide) (by decide)
    rw [show atL sB (⟨#[97]⟩ : ByteArray).data.toList 4 = some eA from HF.out.2.2.2.2.1] at h1
    exact h1)
  have HRG : Hid (∀ W m r, Has w.heap.size W m sB r → Calls Try.prog 16 #[.pointer (some ⟨m, 0, none⟩), .string ⟨#[]⟩, .string ⟨#[]⟩] W fun e w' => ∃ v, e = .returned v ∧ OwnsE w' W.heap.size v [eB, eA] ∧ Below W.heap.size W w') := Lib.hid (fun W m r h => by
    have h1 := has_range h ⟨#[]⟩ ⟨#[]⟩ (by decide)
    rw [show rangeL sB (⟨#[]⟩ : ByteArray).data.toList (⟨#[]⟩ : ByteArray).data.toList = [eB, eA] from HF.out.2.2.2.2.2.1] at h1
    exact h1)
  have HRL : Hid ((putR eB 2 sA (putR eA 1 [] [])).length = 2) := Lib.hid HF.out.2.2.2.2.2.2
  generalize putR eB 2 sA (putR eA 1 [] []) = rB at *
  generalize putR eA 1 [] [] = rA at *
  go_enter Try.func6, Try.ntmps6
  go_wp2_with fail
  refine HNEW.out.mono ?_
  rintro e w1 ⟨m, rfl, h1, hb1⟩
  have H1 := Lib.hid h1
  have B1 := Lib.hid hb1
  clear h1 hb1
  go_wp2_with fail
  refine (HP1.out _ _ B1.out.size H1.out).mono ?_
  rintro e w2 ⟨rfl, h2, hb2⟩
  have H2 := Lib.hid h2
  have B2 := Lib.hid (B1.out.trans hb2)
  clear h2 hb2
  go_wp2_with fail
  refine (HP2.out _ _ B2.out.size H2.out).mono ?_
  rintro e w3 ⟨rfl, h3, hb3⟩
  have H3 := Lib.hid h3
  have B3 := Lib.hid (B2.out.trans hb3)
  clear h3 hb3
  go_wp2_with fail
  refine (HAT.out _ _ _ H3.out).mono ?_
  rintro e w4 ⟨rfl, hb4⟩
  have H4 := Lib.hid (H3.out.below hb4)
  have B4 := Lib.hid (Below.next B3.out hb4)
  clear hb4
  go_wp2_with fail
  obtain ⟨W5, hW5⟩ : ∃ W5, W5 = w4.alloc (.cells #[.string ⟨#[97]⟩, .string ⟨#[49]⟩, .int .u64 3, .bool false] 32) := ⟨_, rfl⟩
  rw [← hW5]
  have hb5 : Below w4.heap.size w4 W5 := by rw [hW5]; exact alloc_below w4 _
  have hx5 : W5.heap[w4.heap.size]? = some (.cells #[.string ⟨#[97]⟩, .string ⟨#[49]⟩, .int .u64 3, .bool false] 32 (0, 0)) := by rw [hW5]; exact heap_alloc_new w4 _
  have H5 := Lib.hid (H4.out.below hb5)
  have B5 := Lib.hid (Below.next B4.out hb5)
  clear hW5 hb5
  refine (HRG.out _ _ _ H5.out).mono ?_
  rintro e w6 ⟨v, rfl, ho, hb6⟩
  have H6 := Lib.hid (H5.out.below hb6)
  have B6 := Lib.hid (Below.next B5.out hb6)
  obtain ⟨b0, b1, b2, b3, _⟩ := box4 ((hb6.block _ (heap_lt hx5)).trans hx5)
  obtain ⟨g, cap, hsh, _, _, _, _, hcell⟩ := row_shape ho (by decide)
  have hc3 : w6.cell? ⟨g, 3, none⟩ = some (.bool true) := hcell 3 _ rfl
  rw [hsh, show ([eB, eA] : List Ent).length = 2 from rfl]
  clear hb6 hcell ho hsh hx5
  obtain ⟨L, hm0, hl⟩ := H6.out.list
  have HLN := Lib.hid (len_any hl)
  rw [HRL.out] at HLN
  clear hl
  go_wp2_with fail
  refine HLN.out.mono ?_
  rintro e w7 ⟨rfl, rfl⟩
  go_wp2_with fail
  go_ret
  exact ⟨rfl, B6.out⟩
end Go.Proofs.Ytmdnmabbphnhaaa.Mm

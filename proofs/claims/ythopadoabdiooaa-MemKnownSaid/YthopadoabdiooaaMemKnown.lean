/- The walk of MemKnown (genmemknown.py): it answers true. -/
import Derived.Test.YthopadoabdiooaaMmH
namespace Go.Proofs.Ythopadoabdiooaa.Mm
open Go Go.RowKit Go.Proofs.Ythopadoabdiooaa.Sk Go.Proofs.Ythopadoabdiooaa.Sm
set_option linter.unusedVariables false
set_option linter.unusedSimpArgs false

def eK0 : Ent := ⟨⟨#[97]⟩, ⟨#[49]⟩, 3, false⟩
def eK1 : Ent := ⟨⟨#[97]⟩, ⟨#[]⟩, 5, true⟩
def eK2 : Ent := ⟨⟨#[98]⟩, ⟨#[50]⟩, 4, false⟩
def eK3 : Ent := ⟨⟨#[98]⟩, ⟨#[55]⟩, 4, false⟩
def eK4 : Ent := ⟨⟨#[99]⟩, ⟨#[120]⟩, 9, true⟩
def sK0 : List (It Ent) := []
def rK0 : List (It Ent) := []
def sK1 : List (It Ent) := [⟨placeE eK0, eK0, 1⟩]
def rK1 : List (It Ent) := [⟨placeE eK0, eK0, 1⟩]
def sK2 : List (It Ent) := [⟨placeE eK1, eK1, 2⟩, ⟨placeE eK0, eK0, 1⟩]
def rK2 : List (It Ent) := [⟨placeE eK0, eK0, 1⟩, ⟨placeE eK1, eK1, 2⟩]
def sK3 : List (It Ent) := [⟨placeE eK1, eK1, 2⟩, ⟨placeE eK0, eK0, 1⟩, ⟨placeE eK2, eK2, 3⟩]
def rK3 : List (It Ent) := [⟨placeE eK0, eK0, 1⟩, ⟨placeE eK1, eK1, 2⟩, ⟨placeE eK2, eK2, 3⟩]
theorem known_put0 : putE eK0 sK0 = 0 ∧ putS eK0 1 sK0 = sK1 ∧ putR eK0 1 sK0 rK0 = rK1 := ⟨by decide, rfl, rfl⟩
theorem known_put1 : putE eK1 sK1 = 0 ∧ putS eK1 2 sK1 = sK2 ∧ putR eK1 2 sK1 rK1 = rK2 := ⟨by decide, rfl, rfl⟩
theorem known_put2 : putE eK2 sK2 = 0 ∧ putS eK2 3 sK2 = sK3 ∧ putR eK2 3 sK2 rK2 = rK3 := ⟨by decide, rfl, rfl⟩
theorem known_put3 : putE eK3 sK3 = 5 ∧ putS eK3 1 sK3 = sK3 ∧ putR eK3 1 sK3 rK3 = rK3 := ⟨by decide, rfl, rfl⟩
theorem known_put4 : putE eK4 sK3 = 1 ∧ putS eK4 1 sK3 = sK3 ∧ putR eK4 1 sK3 rK3 = rK3 := ⟨by decide, rfl, rfl⟩
theorem known_at : atL sK3 [97] 4 = some eK0 ∧ atL sK3 [97] 5 = some eK1 ∧ atL sK3 [97] 2 = none ∧ atL sK3 [98] 9 = some eK2 := ⟨rfl, rfl, rfl, rfl⟩
theorem known_range : rangeL sK3 [] [] = [eK1, eK0, eK2] ∧ rangeL sK3 [97] [98] = [eK1, eK0] := ⟨rfl, rfl⟩
theorem known_sums : newestL (ents rK3) = 5 ∧ bytesL (ents rK3) = 5 := ⟨rfl, rfl⟩
theorem has_newest {base m : Nat} {w : World} {s r : List (It Ent)} (h : Has base w m s r) : Calls Try.prog 16 #[.pointer (some ⟨m, 0, none⟩)] w fun e w' => e = .returned (.int .u64 (newestL (ents r) : Int)) ∧ w' = w := by
  obtain ⟨M, rfl, h1, h2⟩ := h
  exact newest_any h1
theorem has_bytes {base m : Nat} {w : World} {s r : List (It Ent)} (h : Has base w m s r) : Calls Try.prog 17 #[.pointer (some ⟨m, 0, none⟩)] w fun e w' => e = .returned (.int .i64 (bytesL (ents r) : Int)) ∧ w' = w := by
  obtain ⟨M, rfl, h1, h2⟩ := h
  exact bytes_any h1

set_option maxHeartbeats 8000000 in
set_option maxRecDepth 100000 in
theorem known_walk (w : World) : Calls Try.prog 4 #[] w fun e w' => e = .returned (.bool true) ∧ Below w.heap.size w w' := by
  have HNEW := Lib.hid (has_new w)
  have HP0 : Hid (∀ W m, w.heap.size ≤ W.heap.size → Has w.heap.size W m sK0 rK0 → Calls Try.prog 13 #[.pointer (some ⟨m, 0, none⟩), .agg #[.string ⟨#[97]⟩, .string ⟨#[49]⟩, .int .u64 3, .bool false], .int .i64 1] W fun x w' => x = .returned (.int .i64 0) ∧ Has w.heap.size w' m sK1 rK1 ∧ Below w.heap.size W w') := Lib.hid (fun W m hb h => by
    have h1 := has_put h hb eK0 1 ⟨by decide, by decide, by decide⟩ (by decide)
    rw [known_put0.1, known_put0.2.1, known_put0.2.2] at h1
    exact h1)
  have HP1 : Hid (∀ W m, w.heap.size ≤ W.heap.size → Has w.heap.size W m sK1 rK1 → Calls Try.prog 13 #[.pointer (some ⟨m, 0, none⟩), .agg #[.string ⟨#[97]⟩, .string ⟨#[]⟩, .int .u64 5, .bool true], .int .i64 2] W fun x w' => x = .returned (.int .i64 0) ∧ Has w.heap.size w' m sK2 rK2 ∧ Below w.heap.size W w') := Lib.hid (fun W m hb h => by
    have h1 := has_put h hb eK1 2 ⟨by decide, by decide, by decide⟩ (by decide)
    rw [known_put1.1, known_put1.2.1, known_put1.2.2] at h1
    exact h1)
  have HP2 : Hid (∀ W m, w.heap.size ≤ W.heap.size → Has w.heap.size W m sK2 rK2 → Calls Try.prog 13 #[.pointer (some ⟨m, 0, none⟩), .agg #[.string ⟨#[98]⟩, .string ⟨#[50]⟩, .int .u64 4, .bool false], .int .i64 3] W fun x w' => x = .returned (.int .i64 0) ∧ Has w.heap.size w' m sK3 rK3 ∧ Below w.heap.size W w') := Lib.hid (fun W m hb h => by
    have h1 := has_put h hb eK2 3 ⟨by decide, by decide, by decide⟩ (by decide)
    rw [known_put2.1, known_put2.2.1, known_put2.2.2] at h1
    exact h1)
  have HP3 : Hid (∀ W m, w.heap.size ≤ W.heap.size → Has w.heap.size W m sK3 rK3 → Calls Try.prog 13 #[.pointer (some ⟨m, 0, none⟩), .agg #[.string ⟨#[98]⟩, .string ⟨#[55]⟩, .int .u64 4, .bool false], .int .i64 1] W fun x w' => x = .returned (.int .i64 5) ∧ Has w.heap.size w' m sK3 rK3 ∧ Below w.heap.size W w') := Lib.hid (fun W m hb h => by
    have h1 := has_put h hb eK3 1 ⟨by decide, by decide, by decide⟩ (by decide)
    rw [known_put3.1, known_put3.2.1, known_put3.2.2] at h1
    exact h1)
  have HP4 : Hid (∀ W m, w.heap.size ≤ W.heap.size → Has w.heap.size W m sK3 rK3 → Calls Try.prog 13 #[.pointer (some ⟨m, 0, none⟩), .agg #[.string ⟨#[99]⟩, .string ⟨#[120]⟩, .int .u64 9, .bool true], .int .i64 1] W fun x w' => x = .returned (.int .i64 1) ∧ Has w.heap.size w' m sK3 rK3 ∧ Below w.heap.size W w') := Lib.hid (fun W m hb h => by
    have h1 := has_put h hb eK4 1 ⟨by decide, by decide, by decide⟩ (by decide)
    rw [known_put4.1, known_put4.2.1, known_put4.2.2] at h1
    exact h1)
  have HA0 : Hid (∀ W m, Has w.heap.size W m sK3 rK3 → Calls Try.prog 14 #[.pointer (some ⟨m, 0, none⟩), .string ⟨#[97]⟩, .int .u64 4] W fun x w' => x = .returned (.tuple #[.agg #[.string ⟨#[97]⟩, .string ⟨#[49]⟩, .int .u64 3, .bool false], .bool true]) ∧ Below W.heap.size W w') := Lib.hid (fun W m h => by
    have h1 := has_at h ⟨#[97]⟩ 4 (by decide) (by decide)
    rw [show atL sK3 (⟨#[97]⟩ : ByteArray).data.toList 4 = some eK0 from known_at.1] at h1
    exact h1)
  have HA1 : Hid (∀ W m, Has w.heap.size W m sK3 rK3 → Calls Try.prog 14 #[.pointer (some ⟨m, 0, none⟩), .string ⟨#[97]⟩, .int .u64 5] W fun x w' => x = .returned (.tuple #[.agg #[.string ⟨#[97]⟩, .string ⟨#[]⟩, .int .u64 5, .bool true], .bool true]) ∧ Below W.heap.size W w') := Lib.hid (fun W m h => by
    have h1 := has_at h ⟨#[97]⟩ 5 (by decide) (by decide)
    rw [show atL sK3 (⟨#[97]⟩ : ByteArray).data.toList 5 = some eK1 from known_at.2.1] at h1
    exact h1)
  have HA2 : Hid (∀ W m, Has w.heap.size W m sK3 rK3 → Calls Try.prog 14 #[.pointer (some ⟨m, 0, none⟩), .string ⟨#[97]⟩, .int .u64 2] W fun x w' => x = .returned (.tuple #[.agg #[.string ⟨#[]⟩, .string ⟨#[]⟩, .int .u64 0, .bool false], .bool false]) ∧ Below W.heap.size W w') := Lib.hid (fun W m h => by
    have h1 := has_at h ⟨#[97]⟩ 2 (by decide) (by decide)
    rw [show atL sK3 (⟨#[97]⟩ : ByteArray).data.toList 2 = none from known_at.2.2.1] at h1
    exact h1)
  have HA3 : Hid (∀ W m, Has w.heap.size W m sK3 rK3 → Calls Try.prog 14 #[.pointer (some ⟨m, 0, none⟩), .string ⟨#[98]⟩, .int .u64 9] W fun x w' => x = .returned (.tuple #[.agg #[.string ⟨#[98]⟩, .string ⟨#[50]⟩, .int .u64 4, .bool false], .bool true]) ∧ Below W.heap.size W w') := Lib.hid (fun W m h => by
    have h1 := has_at h ⟨#[98]⟩ 9 (by decide) (by decide)
    rw [show atL sK3 (⟨#[98]⟩ : ByteArray).data.toList 9 = some eK2 from known_at.2.2.2] at h1
    exact h1)
  have HR0 : Hid (∀ W m, Has w.heap.size W m sK3 rK3 → Calls Try.prog 20 #[.pointer (some ⟨m, 0, none⟩), .string ⟨#[]⟩, .string ⟨#[]⟩] W fun e w' => ∃ v, e = .returned v ∧ OwnsE w' W.heap.size v [eK1, eK0, eK2] ∧ Below W.heap.size W w') := Lib.hid (fun W m h => by
    have h1 := has_range h ⟨#[]⟩ ⟨#[]⟩ (by decide)
    rw [show rangeL sK3 (⟨#[]⟩ : ByteArray).data.toList (⟨#[]⟩ : ByteArray).data.toList = [eK1, eK0, eK2] from known_range.1] at h1
    exact h1)
  have HR1 : Hid (∀ W m, Has w.heap.size W m sK3 rK3 → Calls Try.prog 20 #[.pointer (some ⟨m, 0, none⟩), .string ⟨#[97]⟩, .string ⟨#[98]⟩] W fun e w' => ∃ v, e = .returned v ∧ OwnsE w' W.heap.size v [eK1, eK0] ∧ Below W.heap.size W w') := Lib.hid (fun W m h => by
    have h1 := has_range h ⟨#[97]⟩ ⟨#[98]⟩ (by decide)
    rw [show rangeL sK3 (⟨#[97]⟩ : ByteArray).data.toList (⟨#[98]⟩ : ByteArray).data.toList = [eK1, eK0] from known_range.2] at h1
    exact h1)
  have HAW := Lib.hid awake_any
  go_enter Try.func4, Try.ntmps4
  go_wp2_with fail
  refine HNEW.out.mono ?_
  rintro e w1 ⟨m, rfl, h1, hb1⟩
  have H1 : Hid (Has w.heap.size w1 m sK0 rK0) := Lib.hid h1
  have B1 := Lib.hid hb1
  clear h1 hb1
  go_wp2_with fail
  refine (HP0.out _ _ B1.out.size H1.out).mono ?_
  rintro e w2 ⟨rfl, h2, hb2⟩
  have H2 := Lib.hid h2
  have B2 := Lib.hid (B1.out.trans hb2)
  clear h2 hb2
  go_wp2_with fail
  refine (HP1.out _ _ B2.out.size H2.out).mono ?_
  rintro e w3 ⟨rfl, h2, hb2⟩
  have H3 := Lib.hid h2
  have B3 := Lib.hid (B2.out.trans hb2)
  clear h2 hb2
  go_wp2_with fail
  refine (HP2.out _ _ B3.out.size H3.out).mono ?_
  rintro e w4 ⟨rfl, h2, hb2⟩
  have H4 := Lib.hid h2
  have B4 := Lib.hid (B3.out.trans hb2)
  clear h2 hb2
  go_wp2_with fail
  refine (HP3.out _ _ B4.out.size H4.out).mono ?_
  rintro e w5 ⟨rfl, h2, hb2⟩
  have H5 := Lib.hid h2
  have B5 := Lib.hid (B4.out.trans hb2)
  clear h2 hb2
  go_wp2_with fail
  refine (HP4.out _ _ B5.out.size H5.out).mono ?_
  rintro e w6 ⟨rfl, h2, hb2⟩
  have H6 := Lib.hid h2
  have B6 := Lib.hid (B5.out.trans hb2)
  clear h2 hb2
  go_wp2_with fail
  refine (HA0.out _ _ H6.out).mono ?_
  rintro e w7 ⟨rfl, hb2⟩
  have H7 := Lib.hid (H6.out.below hb2)
  have B7 := Lib.hid (Below.next B6.out hb2)
  clear hb2
  go_wp2_with fail
  obtain ⟨w8, hV⟩ : ∃ V, V = w7.alloc (.cells #[.string ⟨#[97]⟩, .string ⟨#[49]⟩, .int .u64 3, .bool false] 32) := ⟨_, rfl⟩
  rw [← hV]
  have hb2 : Below w7.heap.size w7 w8 := by rw [hV]; exact alloc_below w7 _
  have x0 : w8.heap[w7.heap.size]? = some (.cells #[.string ⟨#[97]⟩, .string ⟨#[49]⟩, .int .u64 3, .bool false] 32 (0, 0)) := by rw [hV]; exact heap_alloc_new w7 _
  have H8 := Lib.hid (H7.out.below hb2)
  have B8 := Lib.hid (Below.next B7.out hb2)
  clear hb2 hV
  refine (HA1.out _ _ H8.out).mono ?_
  rintro e w9 ⟨rfl, hb2⟩
  have H9 := Lib.hid (H8.out.below hb2)
  have B9 := Lib.hid (Below.next B8.out hb2)
  have x0n := (hb2.block _ (heap_lt x0)).trans x0
  clear x0
  have x0 := x0n
  clear x0n
  clear hb2
  go_wp2_with fail
  obtain ⟨w10, hV⟩ : ∃ V, V = w9.alloc (.cells #[.string ⟨#[97]⟩, .string ⟨#[]⟩, .int .u64 5, .bool true] 32) := ⟨_, rfl⟩
  rw [← hV]
  have hb2 : Below w9.heap.size w9 w10 := by rw [hV]; exact alloc_below w9 _
  have x0n := (hb2.block _ (heap_lt x0)).trans x0
  clear x0
  have x0 := x0n
  clear x0n
  have x1 : w10.heap[w9.heap.size]? = some (.cells #[.string ⟨#[97]⟩, .string ⟨#[]⟩, .int .u64 5, .bool true] 32 (0, 0)) := by rw [hV]; exact heap_alloc_new w9 _
  have H10 := Lib.hid (H9.out.below hb2)
  have B10 := Lib.hid (Below.next B9.out hb2)
  clear hb2 hV
  refine (HA2.out _ _ H10.out).mono ?_
  rintro e w11 ⟨rfl, hb2⟩
  have H11 := Lib.hid (H10.out.below hb2)
  have B11 := Lib.hid (Below.next B10.out hb2)
  have x0n := (hb2.block _ (heap_lt x0)).trans x0
  clear x0
  have x0 := x0n
  clear x0n
  have x1n := (hb2.block _ (heap_lt x1)).trans x1
  clear x1
  have x1 := x1n
  clear x1n
  clear hb2
  go_wp2_with fail
  obtain ⟨w12, hV⟩ : ∃ V, V = w11.alloc (.cells #[.string ⟨#[]⟩, .string ⟨#[]⟩, .int .u64 0, .bool false] 32) := ⟨_, rfl⟩
  rw [← hV]
  have hb2 : Below w11.heap.size w11 w12 := by rw [hV]; exact alloc_below w11 _
  have x0n := (hb2.block _ (heap_lt x0)).trans x0
  clear x0
  have x0 := x0n
  clear x0n
  have x1n := (hb2.block _ (heap_lt x1)).trans x1
  clear x1
  have x1 := x1n
  clear x1n
  have x2 : w12.heap[w11.heap.size]? = some (.cells #[.string ⟨#[]⟩, .string ⟨#[]⟩, .int .u64 0, .bool false] 32 (0, 0)) := by rw [hV]; exact heap_alloc_new w11 _
  have H12 := Lib.hid (H11.out.below hb2)
  have B12 := Lib.hid (Below.next B11.out hb2)
  clear hb2 hV
  refine (HA3.out _ _ H12.out).mono ?_
  rintro e w13 ⟨rfl, hb2⟩
  have H13 := Lib.hid (H12.out.below hb2)
  have B13 := Lib.hid (Below.next B12.out hb2)
  have x0n := (hb2.block _ (heap_lt x0)).trans x0
  clear x0
  have x0 := x0n
  clear x0n
  have x1n := (hb2.block _ (heap_lt x1)).trans x1
  clear x1
  have x1 := x1n
  clear x1n
  have x2n := (hb2.block _ (heap_lt x2)).trans x2
  clear x2
  have x2 := x2n
  clear x2n
  clear hb2
  have x0q1 : ∀ o, (w13.alloc o).cell? ⟨w7.heap.size, 1, none⟩ = some _ := fun o => (box4 ((RowKit.Below.heap_alloc w13 o _ (heap_lt x0)).trans x0)).2.1
  have x0q3 : ∀ o, (w13.alloc o).cell? ⟨w7.heap.size, 3, none⟩ = some _ := fun o => (box4 ((RowKit.Below.heap_alloc w13 o _ (heap_lt x0)).trans x0)).2.2.2.1
  have x1q1 : ∀ o, (w13.alloc o).cell? ⟨w9.heap.size, 1, none⟩ = some _ := fun o => (box4 ((RowKit.Below.heap_alloc w13 o _ (heap_lt x1)).trans x1)).2.1
  have x1q3 : ∀ o, (w13.alloc o).cell? ⟨w9.heap.size, 3, none⟩ = some _ := fun o => (box4 ((RowKit.Below.heap_alloc w13 o _ (heap_lt x1)).trans x1)).2.2.2.1
  have x2q1 : ∀ o, (w13.alloc o).cell? ⟨w11.heap.size, 1, none⟩ = some _ := fun o => (box4 ((RowKit.Below.heap_alloc w13 o _ (heap_lt x2)).trans x2)).2.1
  have x2q3 : ∀ o, (w13.alloc o).cell? ⟨w11.heap.size, 3, none⟩ = some _ := fun o => (box4 ((RowKit.Below.heap_alloc w13 o _ (heap_lt x2)).trans x2)).2.2.2.1
  go_wp2_with fail
  obtain ⟨w14, hV⟩ : ∃ V, V = w13.alloc (.cells #[.string ⟨#[98]⟩, .string ⟨#[50]⟩, .int .u64 4, .bool false] 32) := ⟨_, rfl⟩
  rw [← hV]
  have hb2 : Below w13.heap.size w13 w14 := by rw [hV]; exact alloc_below w13 _
  have x0n := (hb2.block _ (heap_lt x0)).trans x0
  clear x0
  have x0 := x0n
  clear x0n
  have x1n := (hb2.block _ (heap_lt x1)).trans x1
  clear x1
  have x1 := x1n
  clear x1n
  have x2n := (hb2.block _ (heap_lt x2)).trans x2
  clear x2
  have x2 := x2n
  clear x2n
  have x3 : w14.heap[w13.heap.size]? = some (.cells #[.string ⟨#[98]⟩, .string ⟨#[50]⟩, .int .u64 4, .bool false] 32 (0, 0)) := by rw [hV]; exact heap_alloc_new w13 _
  have H14 := Lib.hid (H13.out.below hb2)
  have B14 := Lib.hid (Below.next B13.out hb2)
  clear hb2 hV
  clear x0q1 x0q3
  clear x1q1 x1q3
  clear x2q1 x2q3
  refine (HR0.out _ _ H14.out).mono ?_
  rintro e w15 ⟨v1, rfl, ho1, hb2⟩
  have H15 := Lib.hid (H14.out.below hb2)
  have B15 := Lib.hid (Below.next B14.out hb2)
  clear hb2
  clear x0
  clear x1
  clear x2
  clear x3
  obtain ⟨g1, cap1, hs1, _, _, _, _, hc1⟩ := row_shape ho1 (by decide)
  rw [hs1, show ([eK1, eK0, eK2] : List Ent).length = 3 from rfl]
  have C1 : Hid (g1 < w15.heap.size ∧ w15.cell? ⟨g1, 2, none⟩ = some (.int .u64 5) ∧ w15.cell? ⟨g1, 6, none⟩ = some (.int .u64 3) ∧ w15.cell? ⟨g1, 8, none⟩ = some (.string ⟨#[98]⟩)) := Lib.hid ⟨World.block_lt_of_cell? _ _ (hc1 0 _ rfl), hc1 2 _ rfl, hc1 6 _ rfl, hc1 8 _ rfl⟩
  clear hc1 hs1 ho1
  go_wp2_with fail
  refine (HR1.out _ _ H15.out).mono ?_
  rintro e w16 ⟨v2, rfl, ho2, hb2⟩
  have H16 := Lib.hid (H15.out.below hb2)
  have B16 := Lib.hid (Below.next B15.out hb2)
  have p0 : w16.cell? ⟨g1, 2, none⟩ = some (.int .u64 5) := (hb2.cell (p := ⟨g1, 2, none⟩) C1.out.1).trans C1.out.2.1
  have p1 : w16.cell? ⟨g1, 6, none⟩ = some (.int .u64 3) := (hb2.cell (p := ⟨g1, 6, none⟩) C1.out.1).trans C1.out.2.2.1
  have p2 : w16.cell? ⟨g1, 8, none⟩ = some (.string ⟨#[98]⟩) := (hb2.cell (p := ⟨g1, 8, none⟩) C1.out.1).trans C1.out.2.2.2
  obtain ⟨ao2, cap2, hs2⟩ := row_any ho2
  rw [hs2, show ([eK1, eK0] : List Ent).length = 2 from rfl]
  clear hb2 hs2 ho2
  have HN := Lib.hid (has_newest H16.out)
  have HB := Lib.hid (has_bytes H16.out)
  rw [known_sums.1] at HN
  rw [known_sums.2] at HB
  obtain ⟨L, hm0, hl⟩ := H16.out.list
  have HLN := Lib.hid (len_any hl)
  rw [show rK3.length = 3 from rfl] at HLN
  clear hl
  go_wp2_with fail
  refine HN.out.mono ?_
  rintro e w17 ⟨rfl, hw⟩
  rw [hw]
  clear hw w17
  go_wp2_with fail
  refine HB.out.mono ?_
  rintro e w17 ⟨rfl, hw⟩
  rw [hw]
  clear hw w17
  go_wp2_with fail
  refine HLN.out.mono ?_
  rintro e w17 ⟨rfl, hw⟩
  rw [hw]
  clear hw w17
  go_wp2_with fail
  refine (HAW.out _).mono ?_
  rintro e w17 ⟨rfl, hb2⟩
  have BL := Lib.hid (Below.next B16.out hb2)
  clear hb2
  go_wp2_with fail
  go_ret
  exact ⟨rfl, BL.out⟩
end Go.Proofs.Ythopadoabdiooaa.Mm

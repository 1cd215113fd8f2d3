/- Texts on the program's own functions, several in one: CellD. -/
import Derived.Test.YtfeconankopjmaaGreatDoorPk8
import Derived.Test.YtfeconankopjmaaGreatDoorPk9
import Derived.Deep.RegionLaw
import Derived.Deep.RegionHeld3

/- The walk of cell.Make. -/
namespace Go.Proofs.YtfeconankopjmaaGreatDoor
open Go.RowKit

set_option maxHeartbeats 400000 in
theorem make_no (f l : Bool) (n : Int) (d : ByteArray) (w : World) (hs : d.size ≤ 9223372036854775807) (hm : Cr.may ⟨f, l, n, d⟩ = false) :
    Calls Tryz.prog 125 #[.agg #[.bool f, .bool l, .int .i64 n, .string d]] w (Gives (.tuple #[.string ⟨#[]⟩, .int .i64 1]) w) := by
  have HM := Lib.hid hm; clear hm
  go_enter Tryz.func125, Tryz.ntmps125
  go_wp2_with fail
  refine (mayBe_any ⟨f, l, n, d⟩ _ hs).mono ?_
  rintro e w1 ⟨rfl, hb⟩
  rw [HM.out]
  have HB := Lib.hid hb; clear hb
  go_wp2_with fail
  go_ret2
  exact ⟨rfl, Below.next ((Below.refl _ _).alloc (Nat.le_refl _) _) HB.out⟩

/-- An array of 32 noughts. -/
def zeros : Array Value := #[.int .u8 0, .int .u8 0, .int .u8 0, .int .u8 0, .int .u8 0, .int .u8 0, .int .u8 0, .int .u8 0, .int .u8 0, .int .u8 0, .int .u8 0, .int .u8 0, .int .u8 0, .int .u8 0, .int .u8 0, .int .u8 0, .int .u8 0, .int .u8 0, .int .u8 0, .int .u8 0, .int .u8 0, .int .u8 0, .int .u8 0, .int .u8 0, .int .u8 0, .int .u8 0, .int .u8 0, .int .u8 0, .int .u8 0, .int .u8 0, .int .u8 0, .int .u8 0]

theorem zeros_set (a b c e : Value) : ((((zeros.setIfInBounds 0 a).setIfInBounds 1 b).setIfInBounds 2 c).setIfInBounds 3 e).toList = a :: b :: c :: e :: List.replicate 28 (.int .u8 0) := rfl
theorem cells_head {f l : Bool} {n : Int} {d : ByteArray} (M : Nat) (hm : Hid (Cr.may ⟨f, l, n, d⟩ = true)) (hM : M = Cr.mark ⟨f, l, n, d⟩) :
    List.take 4 ((((zeros.setIfInBounds 0 (.int .u8 M)).setIfInBounds 1 (.int .u8 d.size)).setIfInBounds 2 (.int .u8 (n % 256))).setIfInBounds 3 (.int .u8 (n / 256 % 256))).toList ++
      (Lib.byteCells d.data.toList ++ List.drop (4 + d.size) ((((zeros.setIfInBounds 0 (.int .u8 M)).setIfInBounds 1 (.int .u8 d.size)).setIfInBounds 2 (.int .u8 (n % 256))).setIfInBounds 3 (.int .u8 (n / 256 % 256))).toList) =
    Lib.byteCells (Cr.head ⟨f, l, n, d⟩ ++ [0, 0, 0, 0]) := by
  have hs : d.size ≤ 24 := Cr.may_size hm.out
  obtain ⟨n0, n1⟩ := Cr.may_num hm.out
  have hk := Cr.mark_lt ⟨f, l, n, d⟩
  dsimp only at n0 n1
  rw [zeros_set, Cr.head, byteCells_append, byteCells_append, byteCells_append, byteCells_noughts]
  rw [show List.drop (4 + d.size) (Value.int .u8 M :: Value.int .u8 d.size :: Value.int .u8 (n % 256) :: Value.int .u8 (n / 256 % 256) :: List.replicate 28 (.int .u8 0)) = List.replicate (28 - d.size) (.int .u8 0) by
    rw [show 4 + d.size = d.size + 4 by omega]
    simp only [List.drop_succ_cons, List.drop_replicate]]
  have e1 : Lib.byteCells [UInt8.ofNat (Cr.mark ⟨f, l, n, d⟩), UInt8.ofNat d.size, UInt8.ofNat n.toNat, UInt8.ofNat (n.toNat / 256)] = [.int .u8 M, .int .u8 d.size, .int .u8 (n % 256), .int .u8 (n / 256 % 256)] := by
    simp only [Lib.byteCells, List.map_cons, List.map_nil, Cr.toNat_ofNat]
    rw [hM]
    have a1 : ((Cr.mark ⟨f, l, n, d⟩ % 256 : Nat) : Int) = (Cr.mark ⟨f, l, n, d⟩ : Nat) := by omega
    have a2 : ((d.size % 256 : Nat) : Int) = (d.size : Nat) := by omega
    have a3 : ((n.toNat % 256 : Nat) : Int) = n % 256 := by omega
    have a4 : ((n.toNat / 256 % 256 : Nat) : Int) = n / 256 % 256 := by omega
    rw [a1, a2, a3, a4]
  have e2 : Lib.byteCells [0, 0, 0, 0] = List.replicate 4 (.int .u8 0) := rfl
  show [_, _, _, _] ++ _ = _
  rw [e1, e2, List.append_assoc, List.append_assoc, List.replicate_append_replicate, show 24 - d.size + 4 = 28 - d.size by omega]

/-- The last four bytes, as they are filled. -/
def fillk (S : Nat) : Nat → List UInt8
  | 0 => [0, 0, 0, 0]
  | 1 => [UInt8.ofNat S, 0, 0, 0]
  | 2 => [UInt8.ofNat S, UInt8.ofNat (S / 256), 0, 0]
  | 3 => [UInt8.ofNat S, UInt8.ofNat (S / 256), UInt8.ofNat (S / 65536), 0]
  | _ => Cr.le4 S
theorem fill0 {L : List UInt8} (S : Nat) (hL : L.length = 28) {x : Int} (hx : x = ((S % 256 : Nat) : Int)) : (Lib.byteCells (L ++ fillk S 0)).toArray.setIfInBounds 28 (.int .u8 x) = (Lib.byteCells (L ++ fillk S 1)).toArray := by
  have h := set_cells L [0, 0, 0] 0 (UInt8.ofNat S) 28 (by simp [hL]) (.int .u8 x) (by rw [hx, Cr.toNat_ofNat])
  skip
  exact h
theorem fill1 {L : List UInt8} (S : Nat) (hL : L.length = 28) {x : Int} (hx : x = (((S / 256) % 256 : Nat) : Int)) : (Lib.byteCells (L ++ fillk S 1)).toArray.setIfInBounds 29 (.int .u8 x) = (Lib.byteCells (L ++ fillk S 2)).toArray := by
  have h := set_cells (L ++ [UInt8.ofNat S]) [0, 0] 0 (UInt8.ofNat (S / 256)) 29 (by simp [hL]) (.int .u8 x) (by rw [hx, Cr.toNat_ofNat])
  simp only [List.append_assoc, List.cons_append, List.nil_append] at h
  exact h
theorem fill2 {L : List UInt8} (S : Nat) (hL : L.length = 28) {x : Int} (hx : x = (((S / 65536) % 256 : Nat) : Int)) : (Lib.byteCells (L ++ fillk S 2)).toArray.setIfInBounds 30 (.int .u8 x) = (Lib.byteCells (L ++ fillk S 3)).toArray := by
  have h := set_cells (L ++ [UInt8.ofNat S, UInt8.ofNat (S / 256)]) [0] 0 (UInt8.ofNat (S / 65536)) 30 (by simp [hL]) (.int .u8 x) (by rw [hx, Cr.toNat_ofNat])
  simp only [List.append_assoc, List.cons_append, List.nil_append] at h
  exact h
theorem fill3 {L : List UInt8} (S : Nat) (hL : L.length = 28) {x : Int} (hx : x = (((S / 16777216) % 256 : Nat) : Int)) : (Lib.byteCells (L ++ fillk S 3)).toArray.setIfInBounds 31 (.int .u8 x) = (Lib.byteCells (L ++ fillk S 4)).toArray := by
  have h := set_cells (L ++ [UInt8.ofNat S, UInt8.ofNat (S / 256), UInt8.ofNat (S / 65536)]) [] 0 (UInt8.ofNat (S / 16777216)) 31 (by simp [hL]) (.int .u8 x) (by rw [hx, Cr.toNat_ofNat])
  simp only [List.append_assoc, List.cons_append, List.nil_append] at h
  exact h
theorem one_small {L : List UInt8} (h : L.length ≤ 9223372036854775807) : ∀ s ∈ [ByteArray.mk L.toArray], s.size ≤ 9223372036854775807 := by
  intro s hs
  obtain rfl : s = ⟨L.toArray⟩ := by simpa using hs
  exact h

set_option maxHeartbeats 400000 in
theorem make_yes (f l : Bool) (n : Int) (d : ByteArray) (w : World) (hT : Tab w) (hm : Cr.may ⟨f, l, n, d⟩ = true) :
    Calls Tryz.prog 125 #[.agg #[.bool f, .bool l, .int .i64 n, .string d]] w (Gives (.tuple #[.string ⟨(Cr.mk ⟨f, l, n, d⟩).toArray⟩, .int .i64 0]) w) := by
  have hs : d.size ≤ 24 := Cr.may_size hm
  have HM := Lib.hid hm; clear hm
  go_enter Tryz.func125, Tryz.ntmps125
  go_wp2_with fail
  refine (mayBe_any ⟨f, l, n, d⟩ _ (by show d.size ≤ _; omega)).mono ?_
  rintro e w1 ⟨rfl, hb⟩
  rw [HM.out]
  obtain ⟨hc, hf⟩ := bcell hb
  have hz : w.heap.size < w1.heap.size := by have := hb.size; simp at this; omega
  have HB := Lib.hid hb; clear hb
  go_wp2_with fail
  refine (markOf_any ⟨f, l, n, d⟩ _).mono ?_
  rintro e w2 ⟨rfl, hb⟩
  have hB2 : w2.heap[w1.heap.size]? = some (.cells zeros 228 (0, 0)) := (hb.block _ (by simp)).trans (heap_alloc_new w1 _)
  have hd2 : w2.cell? ⟨w.heap.size, 3, none⟩ = some (.string d) := by
    rw [hb.cell (p := ⟨w.heap.size, 3, none⟩) (by simp; omega), World.cell?_alloc_lt _ _ _ (by simpa using hz), hc _ _ (by simp), World.cell?_alloc_mark]; rfl
  have hn2 : w2.cell? ⟨w.heap.size, 2, none⟩ = some (.int .i64 n) := by
    rw [hb.cell (p := ⟨w.heap.size, 2, none⟩) (by simp; omega), World.cell?_alloc_lt _ _ _ (by simpa using hz), hc _ _ (by simp), World.cell?_alloc_mark]; rfl
  have hT2 : Tab w2 := (((hT.alloc _).below HB.out).alloc _).below hb
  have hbb : Below w.heap.size w w2 := Below.next (Below.next_alloc (Below.next ((Below.refl _ _).alloc (Nat.le_refl _) _) HB.out) _) hb
  have hlt2 : w1.heap.size < w2.heap.size := by have := hb.size; simp at this; omega
  have HT0 := Lib.hid hT; clear hT2 hT
  have HBB := Lib.hid hbb; clear hbb hb HB hc hf
  have HB2 := Lib.hid hB2
  generalize w1.heap.size = B at *
  have c0 : w2.cell? ⟨B, 0, none⟩ = some (.int .u8 0) := (cell_of_row w2 B 0 _ _ _ hB2).trans rfl
  have c1 : w2.cell? ⟨B, 1, none⟩ = some (.int .u8 0) := (cell_of_row w2 B 1 _ _ _ hB2).trans rfl
  have c2 : w2.cell? ⟨B, 2, none⟩ = some (.int .u8 0) := (cell_of_row w2 B 2 _ _ _ hB2).trans rfl
  have c3 : w2.cell? ⟨B, 3, none⟩ = some (.int .u8 0) := (cell_of_row w2 B 3 _ _ _ hB2).trans rfl
  have f0 : ∀ o, w2.frozen? ⟨B, o, none⟩ = false := fun o => by simp [World.frozen?, hB2]
  clear hB2
  go_wp2_with fail
  obtain ⟨M, hM⟩ : ∃ M : Nat, M = Cr.mark ⟨f, l, n, d⟩ := ⟨_, rfl⟩
  rw [← hM]
  have HMK := Lib.hid hM; clear hM
  have h3 : ((((w2.setCell ⟨B, 0, none⟩ (.int .u8 M)).setCell ⟨B, 1, none⟩ (.int .u8 d.size)).setCell ⟨B, 2, none⟩ (.int .u8 (n % 256))).setCell ⟨B, 3, none⟩ (.int .u8 (n / 256 % 256))).heap[B]? = some (.cells ((((zeros.setIfInBounds 0 (.int .u8 M)).setIfInBounds 1 (.int .u8 d.size)).setIfInBounds 2 (.int .u8 (n % 256))).setIfInBounds 3 (.int .u8 (n / 256 % 256))) 228 (0, 0)) :=
    Lib.heap_setCell_same (i := 3) (Lib.heap_setCell_same (i := 2) (Lib.heap_setCell_same (i := 1) (Lib.heap_setCell_same (i := 0) HB2.out _) _) _) _
  have hb3 : Below w.heap.size w ((((w2.setCell ⟨B, 0, none⟩ (.int .u8 M)).setCell ⟨B, 1, none⟩ (.int .u8 d.size)).setCell ⟨B, 2, none⟩ (.int .u8 (n % 256))).setCell ⟨B, 3, none⟩ (.int .u8 (n / 256 % 256))) :=
    ((((HBB.out.setCell (p := ⟨B, 0, none⟩) (by simp; omega) _).setCell (p := ⟨B, 1, none⟩) (by simp; omega) _).setCell (p := ⟨B, 2, none⟩) (by simp; omega) _).setCell (p := ⟨B, 3, none⟩) (by simp; omega) _)
  have hne : ∀ o o', (⟨w.heap.size, o, none⟩ : Addr) ≠ ⟨B, o', none⟩ := fun o o' e => by injection e; omega
  have hd3 : ((((w2.setCell ⟨B, 0, none⟩ (.int .u8 M)).setCell ⟨B, 1, none⟩ (.int .u8 d.size)).setCell ⟨B, 2, none⟩ (.int .u8 (n % 256))).setCell ⟨B, 3, none⟩ (.int .u8 (n / 256 % 256))).cell? ⟨w.heap.size, 3, none⟩ = some (.string d) := by
    rw [World.cell?_setCell_other _ _ _ _ (hne 3 3).symm, World.cell?_setCell_other _ _ _ _ (hne 3 2).symm, World.cell?_setCell_other _ _ _ _ (hne 3 1).symm, World.cell?_setCell_other _ _ _ _ (hne 3 0).symm]; exact hd2
  have hz3 : B < ((((w2.setCell ⟨B, 0, none⟩ (.int .u8 M)).setCell ⟨B, 1, none⟩ (.int .u8 d.size)).setCell ⟨B, 2, none⟩ (.int .u8 (n % 256))).setCell ⟨B, 3, none⟩ (.int .u8 (n / 256 % 256))).heap.size := by simpa [World.setCell] using hlt2
  clear hn2 hd2 c0 c1 c2 c3 f0 HB2 HBB hlt2 hne
  generalize (((w2.setCell ⟨B, 0, none⟩ (.int .u8 M)).setCell ⟨B, 1, none⟩ (.int .u8 d.size)).setCell ⟨B, 2, none⟩ (.int .u8 (n % 256))).setCell ⟨B, 3, none⟩ (.int .u8 (n / 256 % 256)) = w3 at *
  obtain ⟨cur, hcur⟩ : ∃ cur : Array Value, cur = (((zeros.setIfInBounds 0 (.int .u8 M)).setIfInBounds 1 (.int .u8 d.size)).setIfInBounds 2 (.int .u8 (n % 256))).setIfInBounds 3 (.int .u8 (n / 256 % 256)) := ⟨_, rfl⟩
  rw [← hcur] at h3
  have hcs : cur.size = 32 := by rw [hcur]; simp [zeros]
  have HCUR := Lib.hid hcur; clear hcur
  have hcp := Lib.run_copy_row_string (P := Tryz.prog) w3.drew 128 9 3 5 B 4 24 28 d cur 228 Tryz.underlying128 (by kernel_rfl) h3 hs (by omega)
  have H3 := Lib.hid h3; clear h3
  have HB3 := Lib.hid hb3; clear hb3
  have HCS := Lib.hid hcs; clear hcs
  go_region
  have h4 : (w3.drew.setRow B (List.take 4 cur.toList ++ (Lib.byteCells d.data.toList ++ List.drop (4 + d.size) cur.toList)).toArray).heap[B]? = some (.cells (Lib.byteCells (Cr.head ⟨f, l, n, d⟩ ++ [0, 0, 0, 0])).toArray 228 (0, 0)) := by
    have e := cells_head M (Lib.hid HM.out) HMK.out
    rw [← HCUR.out] at e
    rw [e]
    exact setRow_heap w3.drew B cur _ _ (0, 0) H3.out
  have hb4 : Below w.heap.size w (w3.drew.setRow B (List.take 4 cur.toList ++ (Lib.byteCells d.data.toList ++ List.drop (4 + d.size) cur.toList)).toArray) :=
    (show Below w.heap.size w w3.drew from HB3.out.drew).trans ⟨rfl, rfl, rfl, by simp [World.setRow], fun k hk => setRow_other w3.drew B k _ (by omega)⟩
  clear hcp HCUR H3 HB3 HCS
  generalize w3.drew.setRow B (List.take 4 cur.toList ++ (Lib.byteCells d.data.toList ++ List.drop (4 + d.size) cur.toList)).toArray = w4 at *
  obtain ⟨L, hL⟩ : ∃ L, L = Cr.head ⟨f, l, n, d⟩ := ⟨_, rfl⟩
  have hlen : L.length = 28 := by rw [hL]; exact Cr.head_length hs
  rw [← hL] at h4
  have HMK2 : Hid (Cr.mk ⟨f, l, n, d⟩ = L ++ Cr.le4 (Cr.crc L)) := by rw [hL]; exact Lib.hid rfl
  have hcv := row_text h4 28 (by rw [← hlen]; simp) 32
  have e28 : List.take 28 (L ++ [0, 0, 0, 0]) = L := by rw [← hlen]; exact List.take_left'  rfl
  rw [e28] at hcv
  have HT4 := Lib.hid (HT0.out.below hb4)
  have HL := Lib.hid hL; have HLEN := Lib.hid hlen; have H4 := Lib.hid h4; have HB4 := Lib.hid hb4
  clear hL hlen h4 hb4 e28 hd3 hz3 HM HMK
  go_wp2_with fail
  refine (crc_any _ _ _ [⟨L.toArray⟩] _ (sees_one w4 _ _ _) (HT4.out.alloc _) (one_small (by rw [HLEN.out]; omega)) (by omega)).mono ?_
  rintro e w5 ⟨rfl, rfl⟩
  obtain ⟨S, hS⟩ : ∃ S, S = Cr.crc L := ⟨_, rfl⟩
  rw [catl_one, show (ByteArray.mk L.toArray).data.toList = L from rfl, ← hS]
  have hS2 : S < 4294967296 := by rw [hS]; exact Cr.crc_lt L
  have h5 : (w4.alloc (.cells #[.string ⟨L.toArray⟩] 9)).heap[B]? = some (.cells (Lib.byteCells (L ++ fillk S 0)).toArray 228 (0, 0)) := by
    exact (Below.heap_alloc w4 _ B (Array.getElem?_eq_some_iff.1 H4.out).1).trans H4.out
  have hb5 : Below w.heap.size w (w4.alloc (.cells #[.string ⟨L.toArray⟩] 9)) := Below.next_alloc HB4.out _
  have HS := Lib.hid hS
  have H5 := Lib.hid h5; have HB5 := Lib.hid hb5
  clear hS h5 hb5 hcv H4 HB4 HT4
  generalize w4.alloc (.cells #[.string ⟨L.toArray⟩] 9) = w5 at *
  go_wp2_with fail
  go_loopw [35] (fun i wr => ∃ k : Int, 0 ≤ k ∧ k ≤ 4 ∧ i = .int .i64 k ∧ Hid (wr.heap[B]? = some (.cells (Lib.byteCells (L ++ fillk S k.toNat)).toArray 228 (0, 0))) ∧ Hid (Below w.heap.size w wr)) (fun i _ => (4 - intOf i).toNat)
  case atStart => exact ⟨0, by omega, by omega, rfl, H5, HB5⟩
  case round =>
    obtain ⟨k, hk0, hk, rfl, HR, HBR⟩ := hrel
    clear H5 HB5
    have hf : ∀ o, wr.frozen? ⟨B, o, none⟩ = false := fun o => by simp [World.frozen?, HR.out]
    have hl4 : ∀ k, (fillk S k).length = 4 := fun k => by unfold fillk; split <;> rfl
    have HL4 := Lib.hid hl4; clear hl4
    by_cases hlt : k < 4
    · rcases (show k = 0 ∨ k = 1 ∨ k = 2 ∨ k = 3 by omega) with rfl | rfl | rfl | rfl
      · have hc := cell_of_row wr B 28 _ _ _ HR.out
        rw [byte_cell _ 28 (by rw [List.length_append, HL4.out, HLEN.out]; omega)] at hc
        go_wp2_with fail
        go_roundw
        case rel => exact ⟨1, by omega, by omega, rfl, Lib.hid ((Lib.heap_setCell_same (i := 28) HR.out _).trans (by refine congrArg (fun c => some (Obj.cells c 228 (0, 0))) (fill0 S HLEN.out ?_); omega)), Lib.hid (HBR.out.setCell (p := ⟨B, 28, none⟩) (show w.heap.size ≤ B by omega) _)⟩
        case measure => decide
      · have hc := cell_of_row wr B 29 _ _ _ HR.out
        rw [byte_cell _ 29 (by rw [List.length_append, HL4.out, HLEN.out]; omega)] at hc
        go_wp2_with fail
        go_roundw
        case rel => exact ⟨2, by omega, by omega, rfl, Lib.hid ((Lib.heap_setCell_same (i := 29) HR.out _).trans (by refine congrArg (fun c => some (Obj.cells c 228 (0, 0))) (fill1 S HLEN.out ?_); omega)), Lib.hid (HBR.out.setCell (p := ⟨B, 29, none⟩) (show w.heap.size ≤ B by omega) _)⟩
        case measure => decide
      · have hc := cell_of_row wr B 30 _ _ _ HR.out
        rw [byte_cell _ 30 (by rw [List.length_append, HL4.out, HLEN.out]; omega)] at hc
        go_wp2_with fail
        go_roundw
        case rel => exact ⟨3, by omega, by omega, rfl, Lib.hid ((Lib.heap_setCell_same (i := 30) HR.out _).trans (by refine congrArg (fun c => some (Obj.cells c 228 (0, 0))) (fill2 S HLEN.out ?_); omega)), Lib.hid (HBR.out.setCell (p := ⟨B, 30, none⟩) (show w.heap.size ≤ B by omega) _)⟩
        case measure => decide
      · have hc := cell_of_row wr B 31 _ _ _ HR.out
        rw [byte_cell _ 31 (by rw [List.length_append, HL4.out, HLEN.out]; omega)] at hc
        go_wp2_with fail
        go_roundw
        case rel => exact ⟨4, by omega, by omega, rfl, Lib.hid ((Lib.heap_setCell_same (i := 31) HR.out _).trans (by refine congrArg (fun c => some (Obj.cells c 228 (0, 0))) (fill3 S HLEN.out ?_); omega)), Lib.hid (HBR.out.setCell (p := ⟨B, 31, none⟩) (show w.heap.size ≤ B by omega) _)⟩
        case measure => decide
    · obtain rfl : k = 4 := by omega
      have hcv := row_text HR.out 32 (by rw [List.length_append, HL4.out, HLEN.out]; omega) 32
      rw [List.take_of_length_le (by rw [List.length_append, HL4.out, HLEN.out]; omega)] at hcv
      go_wp2_with fail
      go_ret2
      rw [HMK2.out, ← HS.out]
      exact ⟨rfl, HBR.out⟩

end Go.Proofs.YtfeconankopjmaaGreatDoor

/- The walk of CellKnown. -/
import Derived.Test.YtclgjphegaoohaaDoorCellF
namespace Go.Proofs.YtclgjphegaoohaaDoor
open Go.RowKit

/-- Cells that may not be. -/
def bads : List Cr.Cl := [⟨true, false, 0, ⟨#[97, 98]⟩⟩, ⟨false, true, 0, ⟨#[97, 98]⟩⟩, ⟨false, true, 3, ⟨#[]⟩⟩, ⟨true, true, 0, ((⟨#[97, 98, 99, 100, 101, 102, 103, 104, 105, 106, 107, 108, 109, 110, 111, 112, 113, 114, 115, 116, 117, 118, 119, 120]⟩ : ByteArray) ++ ⟨#[121]⟩)⟩, ⟨true, false, 1, ⟨#[97, 98, 99, 100, 101, 102, 103, 104, 105, 106, 107, 108, 109, 110, 111, 112, 113, 114, 115, 116, 117, 118, 119, 120]⟩⟩, ⟨false, false, 65536, ⟨#[97, 98, 99, 100, 101, 102, 103, 104, 105, 106, 107, 108, 109, 110, 111, 112, 113, 114, 115, 116, 117, 118, 119, 120]⟩⟩, ⟨false, false, (-1), ⟨#[97, 98, 99, 100, 101, 102, 103, 104, 105, 106, 107, 108, 109, 110, 111, 112, 113, 114, 115, 116, 117, 118, 119, 120]⟩⟩]
def badD : Cr.Cl := ⟨false, false, -1, ⟨#[]⟩⟩
theorem bad_may : ∀ k, k < 7 → Cr.may (bads.getD k badD) = false := by decide +kernel
theorem bad_size : ∀ k, k < 7 → (bads.getD k badD).data.size ≤ 25 := by decide +kernel
theorem bad_cells (w : World) (k : Nat) (hk : k < 7) :
    (w.alloc (.cells #[.bool true, .bool false, .int .i64 0, .string ⟨#[97, 98]⟩, .bool false, .bool true, .int .i64 0, .string ⟨#[97, 98]⟩, .bool false, .bool true, .int .i64 3, .string ⟨#[]⟩, .bool true, .bool true, .int .i64 0, .string ((⟨#[97, 98, 99, 100, 101, 102, 103, 104, 105, 106, 107, 108, 109, 110, 111, 112, 113, 114, 115, 116, 117, 118, 119, 120]⟩ : ByteArray) ++ ⟨#[121]⟩), .bool true, .bool false, .int .i64 1, .string ⟨#[97, 98, 99, 100, 101, 102, 103, 104, 105, 106, 107, 108, 109, 110, 111, 112, 113, 114, 115, 116, 117, 118, 119, 120]⟩, .bool false, .bool false, .int .i64 65536, .string ⟨#[97, 98, 99, 100, 101, 102, 103, 104, 105, 106, 107, 108, 109, 110, 111, 112, 113, 114, 115, 116, 117, 118, 119, 120]⟩, .bool false, .bool false, .int .i64 (-1), .string ⟨#[97, 98, 99, 100, 101, 102, 103, 104, 105, 106, 107, 108, 109, 110, 111, 112, 113, 114, 115, 116, 117, 118, 119, 120]⟩] 23)).cell? ⟨w.heap.size, k * 4, none⟩ = some (.bool (bads.getD k badD).first) ∧
    (w.alloc (.cells #[.bool true, .bool false, .int .i64 0, .string ⟨#[97, 98]⟩, .bool false, .bool true, .int .i64 0, .string ⟨#[97, 98]⟩, .bool false, .bool true, .int .i64 3, .string ⟨#[]⟩, .bool true, .bool true, .int .i64 0, .string ((⟨#[97, 98, 99, 100, 101, 102, 103, 104, 105, 106, 107, 108, 109, 110, 111, 112, 113, 114, 115, 116, 117, 118, 119, 120]⟩ : ByteArray) ++ ⟨#[121]⟩), .bool true, .bool false, .int .i64 1, .string ⟨#[97, 98, 99, 100, 101, 102, 103, 104, 105, 106, 107, 108, 109, 110, 111, 112, 113, 114, 115, 116, 117, 118, 119, 120]⟩, .bool false, .bool false, .int .i64 65536, .string ⟨#[97, 98, 99, 100, 101, 102, 103, 104, 105, 106, 107, 108, 109, 110, 111, 112, 113, 114, 115, 116, 117, 118, 119, 120]⟩, .bool false, .bool false, .int .i64 (-1), .string ⟨#[97, 98, 99, 100, 101, 102, 103, 104, 105, 106, 107, 108, 109, 110, 111, 112, 113, 114, 115, 116, 117, 118, 119, 120]⟩] 23)).cell? ⟨w.heap.size, k * 4 + 1, none⟩ = some (.bool (bads.getD k badD).last) ∧
    (w.alloc (.cells #[.bool true, .bool false, .int .i64 0, .string ⟨#[97, 98]⟩, .bool false, .bool true, .int .i64 0, .string ⟨#[97, 98]⟩, .bool false, .bool true, .int .i64 3, .string ⟨#[]⟩, .bool true, .bool true, .int .i64 0, .string ((⟨#[97, 98, 99, 100, 101, 102, 103, 104, 105, 106, 107, 108, 109, 110, 111, 112, 113, 114, 115, 116, 117, 118, 119, 120]⟩ : ByteArray) ++ ⟨#[121]⟩), .bool true, .bool false, .int .i64 1, .string ⟨#[97, 98, 99, 100, 101, 102, 103, 104, 105, 106, 107, 108, 109, 110, 111, 112, 113, 114, 115, 116, 117, 118, 119, 120]⟩, .bool false, .bool false, .int .i64 65536, .string ⟨#[97, 98, 99, 100, 101, 102, 103, 104, 105, 106, 107, 108, 109, 110, 111, 112, 113, 114, 115, 116, 117, 118, 119, 120]⟩, .bool false, .bool false, .int .i64 (-1), .string ⟨#[97, 98, 99, 100, 101, 102, 103, 104, 105, 106, 107, 108, 109, 110, 111, 112, 113, 114, 115, 116, 117, 118, 119, 120]⟩] 23)).cell? ⟨w.heap.size, k * 4 + 2, none⟩ = some (.int .i64 (bads.getD k badD).num) ∧
    (w.alloc (.cells #[.bool true, .bool false, .int .i64 0, .string ⟨#[97, 98]⟩, .bool false, .bool true, .int .i64 0, .string ⟨#[97, 98]⟩, .bool false, .bool true, .int .i64 3, .string ⟨#[]⟩, .bool true, .bool true, .int .i64 0, .string ((⟨#[97, 98, 99, 100, 101, 102, 103, 104, 105, 106, 107, 108, 109, 110, 111, 112, 113, 114, 115, 116, 117, 118, 119, 120]⟩ : ByteArray) ++ ⟨#[121]⟩), .bool true, .bool false, .int .i64 1, .string ⟨#[97, 98, 99, 100, 101, 102, 103, 104, 105, 106, 107, 108, 109, 110, 111, 112, 113, 114, 115, 116, 117, 118, 119, 120]⟩, .bool false, .bool false, .int .i64 65536, .string ⟨#[97, 98, 99, 100, 101, 102, 103, 104, 105, 106, 107, 108, 109, 110, 111, 112, 113, 114, 115, 116, 117, 118, 119, 120]⟩, .bool false, .bool false, .int .i64 (-1), .string ⟨#[97, 98, 99, 100, 101, 102, 103, 104, 105, 106, 107, 108, 109, 110, 111, 112, 113, 114, 115, 116, 117, 118, 119, 120]⟩] 23)).cell? ⟨w.heap.size, k * 4 + 3, none⟩ = some (.string (bads.getD k badD).data) := by
  have hh := heap_alloc_new w (.cells #[.bool true, .bool false, .int .i64 0, .string ⟨#[97, 98]⟩, .bool false, .bool true, .int .i64 0, .string ⟨#[97, 98]⟩, .bool false, .bool true, .int .i64 3, .string ⟨#[]⟩, .bool true, .bool true, .int .i64 0, .string ((⟨#[97, 98, 99, 100, 101, 102, 103, 104, 105, 106, 107, 108, 109, 110, 111, 112, 113, 114, 115, 116, 117, 118, 119, 120]⟩ : ByteArray) ++ ⟨#[121]⟩), .bool true, .bool false, .int .i64 1, .string ⟨#[97, 98, 99, 100, 101, 102, 103, 104, 105, 106, 107, 108, 109, 110, 111, 112, 113, 114, 115, 116, 117, 118, 119, 120]⟩, .bool false, .bool false, .int .i64 65536, .string ⟨#[97, 98, 99, 100, 101, 102, 103, 104, 105, 106, 107, 108, 109, 110, 111, 112, 113, 114, 115, 116, 117, 118, 119, 120]⟩, .bool false, .bool false, .int .i64 (-1), .string ⟨#[97, 98, 99, 100, 101, 102, 103, 104, 105, 106, 107, 108, 109, 110, 111, 112, 113, 114, 115, 116, 117, 118, 119, 120]⟩] 23)
  refine ⟨(cell_of_row _ _ _ _ _ _ hh).trans ?_, (cell_of_row _ _ _ _ _ _ hh).trans ?_, (cell_of_row _ _ _ _ _ _ hh).trans ?_, (cell_of_row _ _ _ _ _ _ hh).trans ?_⟩
  all_goals
    match k, hk with
    | 0, _ => rfl
    | 1, _ => rfl
    | 2, _ => rfl
    | 3, _ => rfl
    | 4, _ => rfl
    | 5, _ => rfl
    | 6, _ => rfl

theorem e_may : Cr.may ⟨true, true, 0, ⟨#[]⟩⟩ = true := by decide +kernel
theorem e_head : (Cr.mk ⟨true, true, 0, ⟨#[]⟩⟩).take 28 = 67 :: List.replicate 27 0 := by decide +kernel
theorem t_may : Cr.may ⟨false, false, 258, ⟨#[97, 98, 99, 100, 101, 102, 103, 104, 105, 106, 107, 108, 109, 110, 111, 112, 113, 114, 115, 116, 117, 118, 119, 120]⟩⟩ = true := by decide +kernel
theorem t_head : (Cr.mk ⟨false, false, 258, ⟨#[97, 98, 99, 100, 101, 102, 103, 104, 105, 106, 107, 108, 109, 110, 111, 112, 113, 114, 115, 116, 117, 118, 119, 120]⟩⟩).take 28 = ((⟨#[64, 24, 2, 1]⟩ : ByteArray) ++ ⟨#[97, 98, 99, 100, 101, 102, 103, 104, 105, 106, 107, 108, 109, 110, 111, 112, 113, 114, 115, 116, 117, 118, 119, 120]⟩).data.toList := by decide +kernel
theorem nine_crc : Cr.crc (catl [⟨#[49, 50, 51, 52, 53, 54, 55, 56, 57]⟩]) = 3421780262 := by decide +kernel
theorem none_crc : Cr.crc (catl []) = 0 := by decide +kernel
theorem empty_crc : Cr.crc (catl [⟨#[]⟩]) = 0 := by decide +kernel
theorem one_sm {s : ByteArray} (h : s.size ≤ 9223372036854775807) : ∀ x ∈ [s], x.size ≤ 9223372036854775807 := by
  intro x hx
  obtain rfl : x = s := by simpa using hx
  exact h
theorem take_at {l m : List UInt8} {k : Nat} (h : l.take k = m) (i : Nat) (hi : i < k) : l[i]? = m[i]? := by rw [← h, List.getElem?_take, if_pos hi]
theorem byte_is {s : ByteArray} {l : List UInt8} (hl : s.data.toList = l) (i : Nat) (hi : i < s.size) (b : UInt8) (hb : l[i]? = some b) : s[i] = b := by
  have : s.data.toList[i]? = some s[i] := by rw [List.getElem?_eq_getElem (by rw [Cr.size_list]; exact hi)]; rfl
  rw [hl, hb] at this
  exact (Option.some.inj this).symm

set_option maxRecDepth 100000 in
set_option maxHeartbeats 2000000 in
theorem known_walk (w : World) (hT : Tab w) :
    Calls Tryd.prog 3 #[] w (Gives (.bool true) w) := by
  have HT := Lib.hid hT; clear hT
  obtain ⟨S, hS⟩ : ∃ S : ByteArray, S = ⟨(Cr.mk ⟨true, true, 0, ⟨#[]⟩⟩).toArray⟩ := ⟨_, rfl⟩
  have hSl : S.data.toList = Cr.mk ⟨true, true, 0, ⟨#[]⟩⟩ := by rw [hS]
  have hSs : S.size = 32 := by rw [hS]; exact Cr.mk_length (Cr.may_size e_may)
  have HMS := Lib.hid (fun (x : World) (hx : Tab x) => make_yes true true 0 ⟨#[]⟩ x hx e_may)
  rw [← hS] at HMS
  have hS0 : (∀ w : World, (Instr.index 9 (.string S) (.int .i64 0)).run Tryd.prog w = .ok (.int .u8 67) w) := fun w => by
    have := index_byte S 0 (by omega) w
    rw [byte_is hSl 0 (by omega) 67 (take_at e_head 0 (by omega))] at this
    exact this
  have HSI : Hid (∀ i : Nat, 1 ≤ i → i < 28 → ∀ w : World, (Instr.index 9 (.string S) (.int .i64 (i : Int))).run Tryd.prog w = .ok (.int .u8 0) w) := Lib.hid fun i h1 h2 w => by
    have := index_byte S i (by omega) w
    rw [byte_is hSl i (by omega) 0 (by
      rw [take_at e_head i h2]
      obtain ⟨j, rfl⟩ : ∃ j, i = j + 1 := ⟨i - 1, by omega⟩
      rw [List.getElem?_cons_succ, List.getElem?_replicate, if_pos (by omega)])] at this
    exact this
  have hz1 : (!((S.size : Int) == 32)) = false := by rw [hSs]; rfl
  have hz1' : ((S.size : Int) != 32) = false := hz1
  obtain ⟨T, hTt⟩ : ∃ T : ByteArray, T = ⟨(Cr.mk ⟨false, false, 258, ⟨#[97, 98, 99, 100, 101, 102, 103, 104, 105, 106, 107, 108, 109, 110, 111, 112, 113, 114, 115, 116, 117, 118, 119, 120]⟩⟩).toArray⟩ := ⟨_, rfl⟩
  have hTs : T.size = 32 := by rw [hTt]; exact Cr.mk_length (Cr.may_size t_may)
  have HMT := Lib.hid (fun (x : World) (hx : Tab x) => make_yes false false 258 ⟨#[97, 98, 99, 100, 101, 102, 103, 104, 105, 106, 107, 108, 109, 110, 111, 112, 113, 114, 115, 116, 117, 118, 119, 120]⟩ x hx t_may)
  rw [← hTt] at HMT
  have hTsl : ∀ w : World, (Instr.slice 9 (.string T) none (some (.int .i64 28)) none).run Tryd.prog w = .ok (.string (⟨#[64, 24, 2, 1]⟩ ++ ⟨#[97, 98, 99, 100, 101, 102, 103, 104, 105, 106, 107, 108, 109, 110, 111, 112, 113, 114, 115, 116, 117, 118, 119, 120]⟩)) w := fun w => by
    rw [run_slice_string_h w 9 T Tryd.underlying9 .i64 28 (by omega) (by omega)]
    refine congrArg (fun x => Result.ok (Value.string x) w) ?_
    apply ByteArray.ext; apply Array.toList_inj.1
    rw [Lib.extract_data, List.drop_zero, hTt]
    exact t_head
  have hz2 : (!((T.size : Int) == 32)) = false := by rw [hTs]; rfl
  have hz2' : ((T.size : Int) != 32) = false := hz2
  clear hS hSl hSs hTt hTs
  go_enter Tryd.func3, Tryd.ntmps3
  go_wp2_with fail
  have HC := Lib.hid (bad_cells w)
  have HB := Lib.hid ((Below.refl w.heap.size w).alloc (Nat.le_refl _) (.cells #[.bool true, .bool false, .int .i64 0, .string ⟨#[97, 98]⟩, .bool false, .bool true, .int .i64 0, .string ⟨#[97, 98]⟩, .bool false, .bool true, .int .i64 3, .string ⟨#[]⟩, .bool true, .bool true, .int .i64 0, .string ((⟨#[97, 98, 99, 100, 101, 102, 103, 104, 105, 106, 107, 108, 109, 110, 111, 112, 113, 114, 115, 116, 117, 118, 119, 120]⟩ : ByteArray) ++ ⟨#[121]⟩), .bool true, .bool false, .int .i64 1, .string ⟨#[97, 98, 99, 100, 101, 102, 103, 104, 105, 106, 107, 108, 109, 110, 111, 112, 113, 114, 115, 116, 117, 118, 119, 120]⟩, .bool false, .bool false, .int .i64 65536, .string ⟨#[97, 98, 99, 100, 101, 102, 103, 104, 105, 106, 107, 108, 109, 110, 111, 112, 113, 114, 115, 116, 117, 118, 119, 120]⟩, .bool false, .bool false, .int .i64 (-1), .string ⟨#[97, 98, 99, 100, 101, 102, 103, 104, 105, 106, 107, 108, 109, 110, 111, 112, 113, 114, 115, 116, 117, 118, 119, 120]⟩] 23))
  have HLW : Hid (w.heap.size < (w.alloc (.cells #[.bool true, .bool false, .int .i64 0, .string ⟨#[97, 98]⟩, .bool false, .bool true, .int .i64 0, .string ⟨#[97, 98]⟩, .bool false, .bool true, .int .i64 3, .string ⟨#[]⟩, .bool true, .bool true, .int .i64 0, .string ((⟨#[97, 98, 99, 100, 101, 102, 103, 104, 105, 106, 107, 108, 109, 110, 111, 112, 113, 114, 115, 116, 117, 118, 119, 120]⟩ : ByteArray) ++ ⟨#[121]⟩), .bool true, .bool false, .int .i64 1, .string ⟨#[97, 98, 99, 100, 101, 102, 103, 104, 105, 106, 107, 108, 109, 110, 111, 112, 113, 114, 115, 116, 117, 118, 119, 120]⟩, .bool false, .bool false, .int .i64 65536, .string ⟨#[97, 98, 99, 100, 101, 102, 103, 104, 105, 106, 107, 108, 109, 110, 111, 112, 113, 114, 115, 116, 117, 118, 119, 120]⟩, .bool false, .bool false, .int .i64 (-1), .string ⟨#[97, 98, 99, 100, 101, 102, 103, 104, 105, 106, 107, 108, 109, 110, 111, 112, 113, 114, 115, 116, 117, 118, 119, 120]⟩] 23)).heap.size) := Lib.hid (by rw [World.size_alloc]; omega)
  generalize w.alloc (.cells #[.bool true, .bool false, .int .i64 0, .string ⟨#[97, 98]⟩, .bool false, .bool true, .int .i64 0, .string ⟨#[97, 98]⟩, .bool false, .bool true, .int .i64 3, .string ⟨#[]⟩, .bool true, .bool true, .int .i64 0, .string ((⟨#[97, 98, 99, 100, 101, 102, 103, 104, 105, 106, 107, 108, 109, 110, 111, 112, 113, 114, 115, 116, 117, 118, 119, 120]⟩ : ByteArray) ++ ⟨#[121]⟩), .bool true, .bool false, .int .i64 1, .string ⟨#[97, 98, 99, 100, 101, 102, 103, 104, 105, 106, 107, 108, 109, 110, 111, 112, 113, 114, 115, 116, 117, 118, 119, 120]⟩, .bool false, .bool false, .int .i64 65536, .string ⟨#[97, 98, 99, 100, 101, 102, 103, 104, 105, 106, 107, 108, 109, 110, 111, 112, 113, 114, 115, 116, 117, 118, 119, 120]⟩, .bool false, .bool false, .int .i64 (-1), .string ⟨#[97, 98, 99, 100, 101, 102, 103, 104, 105, 106, 107, 108, 109, 110, 111, 112, 113, 114, 115, 116, 117, 118, 119, 120]⟩] 23) = W at *
  go_loopw [3] (fun i wr => ∃ k : Nat, k ≤ 7 ∧ i = .int .i64 k ∧ Hid (Below W.heap.size W wr)) (fun i _ => 7 - (intOf i).toNat)
  case atStart => exact ⟨0, by omega, rfl, Lib.hid (Below.refl _ _)⟩
  case round =>
    obtain ⟨k, hk, rfl, HW⟩ := hrel
    by_cases hlt : k < 7
    · obtain ⟨c0, c1, c2, c3⟩ := HC.out k hlt
      have d0 := (HW.out.cell (p := ⟨w.heap.size, k * 4, none⟩) HLW.out).trans c0
      have d1 := (HW.out.cell (p := ⟨w.heap.size, k * 4 + 1, none⟩) HLW.out).trans c1
      have d2 := (HW.out.cell (p := ⟨w.heap.size, k * 4 + 2, none⟩) HLW.out).trans c2
      have d3 := (HW.out.cell (p := ⟨w.heap.size, k * 4 + 3, none⟩) HLW.out).trans c3
      have HM := Lib.hid (bad_may k hlt)
      have HZ := Lib.hid (bad_size k hlt)
      clear c0 c1 c2 c3
      generalize bads.getD k badD = c at *
      obtain ⟨f, l, n, d⟩ := c
      dsimp only at d0 d1 d2 d3
      clear hS0 hTsl hz1 hz1' hz2 hz2'
      go_wp2_with fail
      refine (make_no f l n d _ (Nat.le_trans HZ.out (by omega)) HM.out).mono ?_
      rintro e w1 ⟨rfl, hb⟩
      have HN := Lib.hid (Below.next HW.out hb)
      clear hb d0 d1 d2 d3
      go_wp2_with fail
      go_roundw
      case rel => exact ⟨k + 1, by omega, by go_num, HN⟩
      case measure => simp [intOf]; omega
    · have B0 := Lib.hid (Below.next HB.out HW.out)
      clear HC HLW
      go_wp2_with fail
      refine (HMS.out _ (HT.out.below B0.out)).mono ?_
      rintro e w1 ⟨rfl, hb⟩
      have B1 := Lib.hid (Below.next B0.out hb)
      clear hb
      go_wp2_with fail
      refine (HMT.out _ (HT.out.below B1.out)).mono ?_
      rintro e w2 ⟨rfl, hb⟩
      have B2 := Lib.hid (Below.next B1.out hb)
      clear hb
      go_wp2_with fail
      go_loop [10] (fun i => ∃ k : Nat, 1 ≤ k ∧ k ≤ 28 ∧ i = .int .i64 k) (fun i => 28 - (intOf i).toNat)
      case atStart => exact ⟨1, by omega, by omega, rfl⟩
      case round =>
        obtain ⟨k, hk1, hk2, rfl⟩ := hrel
        by_cases hlt2 : k < 28
        · have hx := HSI.out k hk1 hlt2
          go_wp2_with fail
          go_round
          case rel => exact ⟨k + 1, by omega, by omega, by go_num⟩
          case measure => simp [intOf]; omega
        · go_wp2_with fail
          refine (crc_any _ _ _ [⟨#[49, 50, 51, 52, 53, 54, 55, 56, 57]⟩] _ (sees_one w2 _ _ _) ((HT.out.below B2.out).alloc _) (one_sm (by decide)) (by omega)).mono ?_
          rintro e w3 ⟨rfl, rfl⟩
          rw [nine_crc]
          have B3 := Lib.hid (Below.next_alloc B2.out (.cells #[.string ⟨#[49, 50, 51, 52, 53, 54, 55, 56, 57]⟩] 9))
          go_wp2_with fail
          generalize w2.alloc (.cells #[.string ⟨#[49, 50, 51, 52, 53, 54, 55, 56, 57]⟩] 9) = w3 at *
          refine (crc_any _ _ _ [] _ (Or.inl ⟨rfl, _, _, rfl⟩) (HT.out.below B3.out) (by intro s hs; simp at hs) (by omega)).mono ?_
          rintro e w4 ⟨rfl, rfl⟩
          rw [none_crc]
          go_wp2_with fail
          refine (crc_any _ _ _ [⟨#[]⟩] _ (sees_one w3 _ _ _) ((HT.out.below B3.out).alloc _) (one_sm (by decide)) (by omega)).mono ?_
          rintro e w4 ⟨rfl, rfl⟩
          rw [empty_crc]
          have B4 := Lib.hid (Below.next_alloc B3.out (.cells #[.string ⟨#[]⟩] 9))
          go_wp2_with fail
          refine (awake_any _ (HT.out.below B4.out)).mono ?_
          rintro e w5 ⟨rfl, hb⟩
          have B5 := Lib.hid (Below.next B4.out hb)
          clear hb
          go_wp2_with fail
          go_ret
          exact ⟨rfl, B5.out⟩

end Go.Proofs.YtclgjphegaoohaaDoor

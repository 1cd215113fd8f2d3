/- The walks of Twin: slices.Clone of bytes, a file's twin. -/
import Derived.Test.YtefoijamedciiaaDkList
import Derived.Deep.AppendLies
namespace Go.Proofs.Ytefoijamedciiaa
open Go.RowKit Go.Maps
open Dk (Dir Chg Disk File Str)


set_option maxHeartbeats 8000000 in
set_option maxRecDepth 100000 in
theorem clone_bytes (w : World) (v : Value) (l : Str) (h : w.ownsRow 0 5 1 v l.length (Lib.byteCells l)) (hl : l.length ≤ 1099511627776) :
    Calls Try.prog 45 #[v] w fun e w' => ∃ ao cap, e = .returned (.slice ao l.length cap) ∧ w'.ownsRow w.heap.size 5 1 (.slice ao l.length cap) l.length (Lib.byteCells l) ∧ Below w.heap.size w w' := by
  rcases h.2 with ⟨rfl, h0⟩ | ⟨g, cap, cur, rfl, hb, hg, hnc, hcm, hcs, htk⟩
  · obtain rfl := List.eq_nil_of_length_eq_zero h0
    have he : ∀ W : World, (binOp .eql 65 (.slice none 0 0) (.slice none 0 0)).run Try.prog W = .ok (.bool true) W := fun _ => rfl
    go_enter Try.func45, Try.ntmps45
    go_wp2_with fail
    go_ret
    exact ⟨_, _, rfl, World.ownsRow_nil .., Below.refl _ _⟩
  · have he : ∀ W : World, (binOp .eql 65 (.slice (some ⟨g, 0, none⟩) l.length cap) (.slice none 0 0)).run Try.prog W = .ok (.bool false) W := fun _ => rfl
    have hal := (Below.refl w.heap.size w).alloc (Nat.le_refl _) (.cells #[] 5)
    have hgl : g < w.heap.size := by
      rcases Nat.lt_or_ge g w.heap.size with h | h
      · exact h
      · rw [Array.getElem?_eq_none h] at hg; cases hg
    have hg2 : (w.alloc (.cells #[] 5)).heap[g]? = some (.cells cur 5 (0, 0)) := (hal.block g hgl).trans hg
    have hown : (w.alloc (.cells #[] 5)).ownsRow w.heap.size 5 1 (.slice (some ⟨w.heap.size, 0, none⟩) 0 0) 0 [] :=
      ⟨rfl, Or.inr ⟨_, _, _, rfl, Nat.le_refl _, heap_alloc_new w _, Nat.le_refl _, Nat.zero_le _, rfl, rfl⟩⟩
    obtain ⟨i0, hi, hz0, hz1, hz2⟩ := info_parts info_u8
    have hnews : ∀ j u, (Lib.byteCells l)[j]? = some u → (w.alloc (.cells #[] 5)).cell? ((⟨g, 0, none⟩ : Addr).add j) = some u := fun j u hu => by
      refine World.news_of_block hg2 j u ?_
      rw [← htk] at hu
      have hj : j < l.length * 1 := by
        rcases Nat.lt_or_ge j (l.length * 1) with h | h
        · exact h
        · rw [List.getElem?_eq_none (by rw [List.length_take]; omega)] at hu; cases hu
      rw [List.getElem?_take_of_lt hj] at hu
      simpa using hu
    have hone : ∀ u ∈ Lib.byteCells l, u.oneCell' = true := fun u hu => by
      obtain ⟨b, _, rfl⟩ := List.mem_map.1 hu
      rfl
    have hlen : (Lib.byteCells l).length = l.length * 1 := by rw [Lib.byteCells_length]; omega
    have HAL := Lib.hid hal
    clear hal hg2 hg hgl h hb hnc hcm hcs htk
    go_enter Try.func45, Try.ntmps45
    go_wp2_with (at_builtin; refine wpList_append_own _ rfl _ _ 65 rfl w.heap.size 5 i0 (.int .u8 0) 1 1 Try.underlying65 hi hz0 hz1 hz2 rfl (by decide) _ _ _ rfl hown ⟨g, 0, none⟩ l.length cap (Lib.byteCells l) rfl ?qc1 ?qc2 ?qc3 ?qc4 ?qc5 ?qc6 ?_)
    case qc1 => exact hlen
    case qc2 => exact hnews
    case qc3 => exact hone
    case qc4 => unfold maxLen; omega
    case qc5 => omega
    case qc6 => simp
    intro v' w3 hown3 hg3 hnil
    obtain ⟨ao, cap4, rfl⟩ : ∃ ao cap4, v' = .slice ao l.length cap4 := by
      rcases hown3.2 with ⟨rfl, h0⟩ | ⟨g4, cap4, cur4, rfl, _⟩
      · exact ⟨none, 0, by rw [show l.length = 0 by omega]⟩
      · exact ⟨_, _, rfl⟩
    have HE : Hid (w3.ownsRow w.heap.size 5 1 (.slice ao l.length cap4) l.length (Lib.byteCells l) ∧ Below w.heap.size w w3) := by
      exact Lib.hid ⟨hown3, HAL.out.grown hg3 (by simp) (fun j hj => by simp [Value.ownBlock] at hj; omega)⟩
    clear hown3 hg3 hnil hnews hone
    go_wp2_with fail
    go_ret
    exact ⟨_, _, rfl, HE.out.1, HE.out.2⟩

theorem row_base {w : World} {base : Nat} {e : TypeId} {z n : Nat} {v : Value} {xs : List Value} (h : w.ownsRow base e z v n xs) : w.ownsRow 0 e z v n xs := ⟨h.1, h.2.imp id fun ⟨g, cap, cur, hv, _, r⟩ => ⟨g, cap, cur, hv, Nat.zero_le _, r⟩⟩
theorem two_keep {w w' : World} {b : Nat} {x y : Value} (h : w.cell? ⟨b, 0, none⟩ = some x ∧ w.cell? ⟨b, 1, none⟩ = some y ∧ b < w.heap.size) (hb : Below w.heap.size w w') : w'.cell? ⟨b, 0, none⟩ = some x ∧ w'.cell? ⟨b, 1, none⟩ = some y ∧ b < w'.heap.size :=
  ⟨cell_kept h.1 (hb.block b h.2.2), cell_kept h.2.1 (hb.block b h.2.2), Nat.lt_of_lt_of_le h.2.2 hb.size⟩
set_option maxHeartbeats 8000000 in
set_option maxRecDepth 100000 in
/-- A file's twin: a new file with the same bytes. -/
theorem fileTwin_any (w : World) (b : Nat) (v : Value) (f : File) (h : FileAt w b v f) (hl : f.data.length ≤ 1099511627776) :
    Calls Try.prog 30 #[.pointer (some ⟨b, 0, none⟩)] w fun e w' => ∃ b' v', e = .returned (.pointer (some ⟨b', 0, none⟩)) ∧ FileAt w' b' v' f ∧ Below w.heap.size w w' ∧ w.heap.size ≤ b' ∧ ∀ k, v'.ownBlock = some k → w.heap.size ≤ k ∧ k < b' := by
  have c0 : w.cell? ⟨b, 0, none⟩ = some v := by rw [cell_of h.box]; rfl
  have c1 : w.cell? ⟨b, 1, none⟩ = some (.int .i64 (f.lasts : Int)) := by rw [cell_of h.box]; rfl
  have HROW := Lib.hid h.row
  have HLE := Lib.hid h.le
  have hbl : b < w.heap.size := World.block_lt_of_cell? _ _ c0
  clear h
  go_enter Try.func30, Try.ntmps30
  go_wp2_with fail
  go_region_held3 (fun w' => w'.cell? ⟨b, 0, none⟩ = some v ∧ w'.cell? ⟨b, 1, none⟩ = some (.int .i64 (f.lasts : Int)) ∧ b < w'.heap.size)
    (first | exact ⟨c0, c1, hbl⟩ | exact two_keep (by assumption) hb1 | exact two_keep (by assumption) ((Below.refl _ _).alloc (Nat.le_refl _) _))
    (first | (go_at_call 45; refine (clone_bytes w.drew v f.data HROW.out.drew hl).mono ?_; rintro e w1 ⟨ao, cap, rfl, hrow, hb1⟩))
  have hbw : Below w.heap.size w w1 := ⟨hb1.os, hb1.tape, hb1.output, hb1.size, hb1.block⟩
  have hba := (Below.refl w1.heap.size w1).alloc (Nat.le_refl _) (.cells #[.slice ao f.data.length cap, .int .i64 (f.lasts : Int)] 67)
  have HE : Hid (FileAt (w1.alloc (.cells #[.slice ao f.data.length cap, .int .i64 (f.lasts : Int)] 67)) w1.heap.size (.slice ao f.data.length cap) f ∧ Below w.heap.size w (w1.alloc (.cells #[.slice ao f.data.length cap, .int .i64 (f.lasts : Int)] 67)) ∧ w.heap.size ≤ w1.heap.size ∧ ∀ k, (Value.slice ao f.data.length cap).ownBlock = some k → w.heap.size ≤ k ∧ k < w1.heap.size) := by
    refine Lib.hid ⟨⟨heap_alloc_new w1 _, ownsRow_frame (row_base hrow) (fun b hb => hba.block b (ownsRow_lt (row_base hrow) hb)), HLE.out⟩, Below.next hbw hba, hbw.size, fun k hk => ⟨?_, ownsRow_lt (row_base hrow) hk⟩⟩
    exact (World.ownsRow.lt hrow k hk).1
  clear hrow hb1 hbw hba c0 c1 hbl HROW HLE
  rename_i hHeld
  clear hHeld
  generalize w1.alloc (.cells #[.slice ao f.data.length cap, .int .i64 (f.lasts : Int)] 67) = w2 at *
  go_wp2_with fail
  go_ret
  exact ⟨_, _, rfl, HE.out⟩

end Go.Proofs.Ytefoijamedciiaa

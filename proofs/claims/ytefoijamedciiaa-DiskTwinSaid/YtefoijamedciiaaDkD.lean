/- The walks of Sync, Read, Room, Used, Fuse, Fused, Start, Down over a disk that lies in memory. -/
import Derived.Test.YtefoijamedciiaaDkA
import Derived.RegionTactic
import Derived.ChangeAlike
import Derived.BigQuiet
namespace Go.Proofs.Ytefoijamedciiaa
open Go.RowKit Go.Maps
open Dk (Dir Chg Disk File Str)

/-- A disk goes on: it lies where it lay, of other blocks nothing has turned, and what is new is its own. -/
def Goes (L : Lay) (w : World) (S' : Disk) (w' : World) : Prop :=
  ∃ L' : Lay, L'.d = L.d ∧ Holds w' L' S' ∧ Turns (Own L) w w' ∧ ∀ b, Own L' b → Own L b ∨ w.heap.size ≤ b
theorem Goes.stay {L : Lay} {S : Disk} {w : World} (h : Holds w L S) : Goes L w S w := ⟨L, rfl, h, Turns.refl _ _, fun _ hb => Or.inl hb⟩
theorem Goes.same {L : Lay} {S : Disk} {w w' : World} (h : Holds w' L S) (ht : Turns (Own L) w w') : Goes L w S w' := ⟨L, rfl, h, ht, fun _ hb => Or.inl hb⟩
theorem Turns.box {L : Lay} {w w' : World} (h : Turns (fun b => b = L.d) w w') : Turns (Own L) w w' := h.mono fun _ hx => Or.inl (Or.inl hx)

/-- What is small enough for Go's numbers. -/
structure Fits (S : Disk) : Prop where
  fuse : S.fuse ≤ 9223372036854775807
  now : S.now.length ≤ 1099511627776
  old : S.lasting.length ≤ 1099511627776
  chg : S.changes.length ≤ 1099511627776
  room0 : 0 ≤ S.room
  room : S.room ≤ 1048576
  least : -1152921504606846976 ≤ S.used
  most : S.used ≤ 1152921504606846976
  dat : ∀ i, (S.file i).data.length ≤ 1099511627776

theorem burn_now (S : Disk) : S.burn.now = S.now ∧ S.burn.lasting = S.lasting ∧ S.burn.changes = S.changes ∧ S.burn.file = S.file ∧ S.burn.next = S.next ∧ S.burn.used = S.used ∧ S.burn.room = S.room := by
  unfold Disk.burn
  split <;> exact ⟨rfl, rfl, rfl, rfl, rfl, rfl, rfl⟩
theorem row_shape {w : World} {base : Nat} {e : TypeId} {z n : Nat} {v : Value} {xs : List Value} (h : w.ownsRow base e z v n xs) : ∃ a cap, v = .slice a n cap := by
  rcases h.2 with ⟨rfl, rfl⟩ | ⟨g, cap, _, rfl, _⟩
  · exact ⟨_, _, rfl⟩
  · exact ⟨_, _, rfl⟩

section
variable {L : Lay} {S : Disk} (w : World)

set_option maxHeartbeats 1000000 in
set_option maxRecDepth 100000 in
theorem fused_any (h : Holds w L S) : Calls Try.prog 21 #[.pointer (some ⟨L.d, 0, none⟩)] w fun e w' => e = .returned (.int .i64 (S.fuse : Int)) ∧ w' = w := by
  obtain ⟨c0, c1, c2, c3, c4, c5, c6⟩ := h.cells
  have HM := Lib.hid (made_any w h)
  clear h
  go_enter Try.func21, Try.ntmps21
  go_wp2_with fail
  refine HM.out.mono ?_
  rintro e w1 ⟨rfl, rfl⟩
  go_wp2_with fail
  go_ret
  exact ⟨rfl, rfl⟩

set_option maxHeartbeats 1000000 in
set_option maxRecDepth 100000 in
theorem start_any (h : Holds w L S) : Calls Try.prog 11 #[.pointer (some ⟨L.d, 0, none⟩)] w fun e w' => e = .returned (.tuple #[]) ∧ Goes L w S.start w' := by
  obtain ⟨c0, c1, c2, c3, c4, c5, c6⟩ := h.cells
  have f3 := h.soft 3
  have HM := Lib.hid (made_any w h)
  have HH := Lib.hid h; clear h
  go_enter Try.func11, Try.ntmps11
  go_wp2_with fail
  refine HM.out.mono ?_
  rintro e w1 ⟨rfl, rfl⟩
  go_wp2_with fail
  go_end0
  exact ⟨rfl, Goes.same (HH.out.setBox 3 _ _ rfl rfl rfl rfl rfl rfl) (Turns.of_setCell _ _ _ (Or.inl rfl))⟩

set_option maxHeartbeats 1000000 in
set_option maxRecDepth 100000 in
theorem fuse_any (h : Holds w L S) (n : Int) : Calls Try.prog 12 #[.pointer (some ⟨L.d, 0, none⟩), .int .i64 n] w fun e w' => e = .returned (.tuple #[]) ∧ Goes L w (S.light n) w' := by
  obtain ⟨c0, c1, c2, c3, c4, c5, c6⟩ := h.cells
  have f2 := h.soft 2
  have HM := Lib.hid (made_any w h)
  have HH := Lib.hid h; clear h
  go_enter Try.func12, Try.ntmps12
  go_wp2_with fail
  refine HM.out.mono ?_
  rintro e w1 ⟨rfl, rfl⟩
  go_wp2_with fail
  go_end0
  have e : max n 0 = ((n.toNat : Nat) : Int) := by omega
  rw [e]
  exact ⟨rfl, Goes.same (HH.out.setBox 2 _ _ rfl rfl rfl rfl rfl rfl) (Turns.of_setCell _ _ _ (Or.inl rfl))⟩

/-- What Read answers. -/
def readV (S : Disk) (s : ByteArray) : Value := .tuple #[.string ⟨(S.read s.data.toList).1.toArray⟩, .int .i64 (S.read s.data.toList).2]

theorem file_text {w : World} {v : Value} {l : Str} (h : w.ownsRow 0 5 1 v l.length (Lib.byteCells l)) : (convert 65 9 v).run Try.prog w = .ok (.string ⟨l.toArray⟩) w := by
  rcases h.2 with ⟨rfl, h0⟩ | ⟨g, cap, cur, rfl, _, _, _⟩
  · have : l = [] := List.eq_nil_of_length_eq_zero h0
    subst this
    rw [run_convert_bytes_string w _ _ _ _ _ _ Try.underlying65 Try.underlying5 Try.underlying9]
    simp [Conv.bytesToString]
    rfl
  · refine run_convert_bytes_back w _ _ _ _ _ _ Try.underlying65 Try.underlying5 Try.underlying9 ?_
    intro j hj
    refine h.cells (g := g) rfl j _ ?_
    simp [Lib.byteCells, List.getElem?_eq_getElem hj]

set_option maxHeartbeats 1000000 in
set_option maxRecDepth 100000 in
theorem read_any (h : Holds w L S) (s : ByteArray) (hs : s.size ≤ maxLen) : Calls Try.prog 17 #[.pointer (some ⟨L.d, 0, none⟩), .string s] w fun e w' => e = .returned (readV S s) ∧ w' = w := by
  have HFI := Lib.hid (find_any w h s hs)
  have HH := Lib.hid h; clear h
  obtain ⟨R, hR⟩ : ∃ R, R = readV S s := ⟨_, rfl⟩
  rw [← hR]
  unfold readV Disk.read at hR
  have HR := Lib.hid hR; clear hR
  go_enter Try.func17, Try.ntmps17
  go_wp2_with fail
  refine HFI.out.mono ?_
  rintro e w1 ⟨rfl, rfl⟩
  clear HFI hs
  unfold findV
  cases hd : S.down with
  | true =>
    have HE : Hid (R = .tuple #[.string ⟨#[]⟩, .int .i64 7]) := by have := HR.out; rw [hd] at this; exact Lib.hid this
    rw [if_pos rfl]
    clear HR
    go_wp2_with fail
    go_ret2
    exact ⟨HE.out.symm ▸ rfl, rfl⟩
  | false =>
    rw [if_neg (by simp)]
    cases hl : Dk.look s.data.toList S.now with
    | none =>
      have HE : Hid (R = .tuple #[.string ⟨#[]⟩, .int .i64 4]) := by have := HR.out; rw [hd, hl] at this; exact Lib.hid this
      dsimp only
      clear HR
      go_wp2_with fail
      go_ret2
      exact ⟨HE.out.symm ▸ rfl, rfl⟩
    | some i =>
      have HE : Hid (R = .tuple #[.string ⟨(S.file i).data.toArray⟩, .int .i64 0]) := by have := HR.out; rw [hd, hl] at this; exact Lib.hid this
      dsimp only
      have hf := HH.out.file i (HH.out.inNow _ (Dk.mem_of_look hl))
      have hcv := file_text hf.row
      have d0 : w1.cell? ⟨L.loc i, 0, none⟩ = some (L.dat i) := by rw [cell_of hf.box]; rfl
      clear HR hf
      go_wp2_with fail
      go_ret2
      exact ⟨HE.out.symm ▸ rfl, rfl⟩

end
end Go.Proofs.Ytefoijamedciiaa

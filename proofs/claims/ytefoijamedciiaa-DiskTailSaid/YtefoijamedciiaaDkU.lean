/- Walks of methods that only some seats' translations hold: Down, Delete. -/
import Derived.Test.YtefoijamedciiaaDkF
namespace Go.Proofs.Ytefoijamedciiaa
open Go.RowKit Go.Maps
open Dk (Dir Chg Disk File Str)

section
variable {L : Lay} {S : Disk} (w : World)

set_option maxHeartbeats 1000000 in
set_option maxRecDepth 100000 in
theorem down_any (h : Holds w L S) : Calls Try.prog 18 #[.pointer (some ⟨L.d, 0, none⟩)] w fun e w' => e = .returned (.bool S.down) ∧ w' = w := by
  obtain ⟨c0, c1, c2, c3, c4, c5, c6⟩ := h.cells
  have HM := Lib.hid (made_any w h)
  clear h
  go_enter Try.func18, Try.ntmps18
  go_wp2_with fail
  refine HM.out.mono ?_
  rintro e w1 ⟨rfl, rfl⟩
  go_wp2_with fail
  go_ret
  exact ⟨rfl, rfl⟩

set_option maxHeartbeats 2000000 in
set_option maxRecDepth 100000 in
theorem delete_any (h : Holds w L S) (F : Fits S) (hnm : ∀ p ∈ S.now, p.1 ≠ []) (s : ByteArray) (hs : s.size ≤ 281474976710656) : Calls Try.prog 38 #[.pointer (some ⟨L.d, 0, none⟩), .string s] w fun e w' => e = .returned (errV (S.delete s.data.toList).1) ∧ Goes L w (S.delete s.data.toList).2 w' := by
  have HFI := Lib.hid (find_any w h s (by unfold maxLen; omega))
  have HF := Lib.hid F; clear F
  have HH := Lib.hid h; clear h
  have HS := Lib.hid hs; clear hs
  have HNM := Lib.hid hnm; clear hnm
  obtain ⟨R, hR⟩ : ∃ R, R = S.delete s.data.toList := ⟨_, rfl⟩
  rw [← hR]
  unfold Disk.delete at hR
  have HR := Lib.hid hR; clear hR
  go_enter Try.func38, Try.ntmps38
  go_wp2_with fail
  refine HFI.out.mono ?_
  rintro e w1 ⟨rfl, rfl⟩
  clear HFI
  unfold findV
  cases hd : S.down with
  | true =>
    have HE : Hid (R = (7, S)) := by have := HR.out; rw [hd] at this; exact Lib.hid this
    rw [if_pos rfl]
    clear HR
    go_wp2_with fail
    go_ret
    rw [HE.out]
    exact ⟨rfl, Goes.stay HH.out⟩
  | false =>
    rw [if_neg (by simp)]
    cases hl : Dk.look s.data.toList S.now with
    | none =>
      have HE : Hid (R = (4, S)) := by have := HR.out; rw [hd, hl] at this; exact Lib.hid this
      dsimp only
      clear HR
      go_wp2_with fail
      go_ret
      rw [HE.out]
      exact ⟨rfl, Goes.stay HH.out⟩
    | some i =>
      have hi := HH.out.inNow _ (Dk.mem_of_look hl)
      have HE : Hid (R = S.change ⟨s.data.toList, [], none⟩ (some i)) := by have := HR.out; rw [hd, hl] at this; exact Lib.hid this
      clear HR
      dsimp only at hi ⊢
      have hne : s.data.toList ≠ [] := HNM.out _ (Dk.mem_of_look hl)
      have HC := Lib.hid (change_any w1 HH.out HF.out s ByteArray.empty none (some i) ⟨fun e => absurd rfl e, fun e => absurd e hne⟩ (fun _ e => by cases e) (fun j e => by cases e; exact hi) HS.out (by decide))
      clear hne hi hl
      go_wp2_with fail
      refine HC.out.mono ?_
      rintro e w2 ⟨rfl, hg⟩
      have HG := Lib.hid hg; clear hg
      go_wp2_with fail
      go_ret
      rw [HE.out]
      exact ⟨rfl, HG.out⟩

end
end Go.Proofs.Ytefoijamedciiaa

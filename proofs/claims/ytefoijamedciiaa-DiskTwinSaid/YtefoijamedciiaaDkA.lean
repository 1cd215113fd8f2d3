/- The walks of disk.held, made, barred, burns, find, isName over a disk that lies in memory. -/
import Derived.Test.YtefoijamedciiaaDkTurn
import Derived.Maps.OwnOps
namespace Go.Proofs.Ytefoijamedciiaa
open Go.RowKit Go.Maps
open Dk (Dir Chg Disk File Str)

theorem cell_of {w : World} {b : Nat} {cs : Array Value} {t : TypeId} (h : w.heap[b]? = some (.cells cs t (0, 0))) (j : Nat) : w.cell? ⟨b, j, none⟩ = cs[j]? := by
  simp [World.cell?, h]
theorem unfrozen_of {w : World} {b : Nat} {cs : Array Value} {t : TypeId} (h : w.heap[b]? = some (.cells cs t (0, 0))) (j : Nat) : w.frozen? ⟨b, j, none⟩ = false := by
  simp [World.frozen?, h]
theorem cell_kept {w w' : World} {a : Addr} {v : Value} (h : w.cell? a = some v) (hb : w'.heap[a.block]? = w.heap[a.block]?) : w'.cell? a = some v := (World.cell?_of_block hb).trans h
theorem Holds.cells {w : World} {L : Lay} {S : Disk} (h : Holds w L S) :
    w.cell? ⟨L.d, 0, none⟩ = some (.int .i64 S.room) ∧ w.cell? ⟨L.d, 1, none⟩ = some (.int .i64 S.used) ∧ w.cell? ⟨L.d, 2, none⟩ = some (.int .i64 (S.fuse : Int)) ∧ w.cell? ⟨L.d, 3, none⟩ = some (.bool S.down) ∧
    w.cell? ⟨L.d, 4, none⟩ = some (.map (some L.bn)) ∧ w.cell? ⟨L.d, 5, none⟩ = some (.map (some L.bl)) ∧ w.cell? ⟨L.d, 6, none⟩ = some L.vec := by
  refine ⟨?_, ?_, ?_, ?_, ?_, ?_, ?_⟩ <;> rw [cell_of h.box] <;> rfl
theorem Holds.soft {w : World} {L : Lay} {S : Disk} (h : Holds w L S) (j : Nat) : w.frozen? ⟨L.d, j, none⟩ = false := unfrozen_of h.box j

set_option maxHeartbeats 1000000 in
theorem held_any (n most : Int) (w : World) : Calls Try.prog 25 #[.int .i64 n, .int .i64 most] w fun e w' => e = .returned (.int .i64 (Dk.held n most)) ∧ w' = w := by
  obtain ⟨R, hR⟩ : ∃ R, R = Dk.held n most := ⟨_, rfl⟩
  rw [← hR]
  have HR := Lib.hid hR; clear hR
  go_enter Try.func25, Try.ntmps25
  go_wp2_with fail
  go_ret
  exact ⟨by rw [HR.out]; rfl, rfl⟩

theorem run_equalIn_map_nil (w : World) (d : Nat) (t k e : TypeId) (p : Option Nat) (h : Try.prog.underlying t = some (.map k e)) :
    (Op.equalIn (d + 1) t (.map p) (.map none)).run Try.prog w = .ok p.isNone w := by
  cases p <;> simp [Op.equalIn, run_underlying h]
theorem run_neq_map_nil (w : World) (p : Option Nat) : (binOp BinOp.neq 54 (.map p) (.map none)).run Try.prog w = .ok (.bool p.isSome) w := by
  simp only [binOp]
  simp [show Op.equal 54 (.map p) (.map none) = Op.equalIn (9999 + 1) 54 (.map p) (.map none) from rfl, run_equalIn_map_nil w 9999 _ _ _ p Try.underlying54]

set_option maxHeartbeats 1000000 in
set_option maxRecDepth 100000 in
theorem made_any {L : Lay} {S : Disk} (w : World) (h : Holds w L S) : Calls Try.prog 26 #[.pointer (some ⟨L.d, 0, none⟩)] w fun e w' => e = .returned (.bool true) ∧ w' = w := by
  obtain ⟨c0, c1, c2, c3, c4, c5, c6⟩ := h.cells
  clear h
  have hne := run_neq_map_nil w (some L.bn)
  rw [Option.isSome_some] at hne
  go_enter Try.func26, Try.ntmps26
  go_wp2_with fail
  go_ret
  exact ⟨rfl, rfl⟩

/-- What bars each operation. -/
def barV (S : Disk) : Value := .int .i64 (if S.down then 7 else 0)

set_option maxHeartbeats 1000000 in
set_option maxRecDepth 100000 in
theorem barred_any {L : Lay} {S : Disk} (w : World) (h : Holds w L S) : Calls Try.prog 27 #[.pointer (some ⟨L.d, 0, none⟩)] w fun e w' => e = .returned (barV S) ∧ w' = w := by
  obtain ⟨c0, c1, c2, c3, c4, c5, c6⟩ := h.cells
  have HM := Lib.hid (made_any w h)
  clear h
  go_enter Try.func27, Try.ntmps27
  go_wp2_with fail
  refine HM.out.mono ?_
  rintro e w1 ⟨rfl, rfl⟩
  cases hd : S.down
  · rw [hd] at c3
    go_wp2_with fail
    go_ret
    exact ⟨by unfold barV; rw [hd]; rfl, rfl⟩
  · rw [hd] at c3
    go_wp2_with fail
    go_ret
    exact ⟨by unfold barV; rw [hd]; rfl, rfl⟩

/-- An operation that nothing else bars. -/
theorem Dk_burn_fuse0 {S : Disk} (h : S.fuse = 0) : S.burn = S ∧ S.burnt = false := by
  unfold Disk.burn Disk.burnt
  rw [if_pos h, h]
  exact ⟨rfl, rfl⟩

set_option maxHeartbeats 1000000 in
set_option maxRecDepth 100000 in
theorem burns_any {L : Lay} {S : Disk} (w : World) (h : Holds w L S) (hf : S.fuse ≤ 9223372036854775807) :
    Calls Try.prog 28 #[.pointer (some ⟨L.d, 0, none⟩)] w fun e w' => e = .returned (.bool S.burnt) ∧ Holds w' L S.burn ∧ Turns (fun b => b = L.d) w w' ∧ w'.heap.size = w.heap.size := by
  obtain ⟨c0, c1, c2, c3, c4, c5, c6⟩ := h.cells
  have f2 := h.soft 2
  have f3 := h.soft 3
  have H := Lib.hid h; clear h
  by_cases h0 : S.fuse = 0
  · have HB := Lib.hid (Dk_burn_fuse0 h0)
    rw [HB.out.1, HB.out.2]
    rw [h0] at c2
    clear h0
    go_enter Try.func28, Try.ntmps28
    go_wp2_with fail
    go_ret
    exact ⟨rfl, H.out, Turns.refl _ _, rfl⟩
  · obtain ⟨n, hn⟩ : ∃ n : Nat, S.fuse = n + 1 := ⟨S.fuse - 1, by omega⟩
    have e2 : (S.fuse : Int) = (n : Int) + 1 := by omega
    have hn2 : (n : Int) ≤ 9223372036854775806 := by omega
    rw [e2] at c2
    have HN := Lib.hid hn
    clear h0 hn e2 hf
    go_enter Try.func28, Try.ntmps28
    go_wp2_with fail
    go_ret
    have e1 : S.burnt = ((n : Int) == 0) := by
      unfold Disk.burnt
      rw [HN.out]
      cases n <;> simp <;> omega
    have e2 : S.burn = { S with fuse := n, down := S.burnt } := by
      unfold Disk.burn
      rw [if_neg (by rw [HN.out]; omega)]
      have e3 : S.fuse - 1 = n := by rw [HN.out]; rfl
      rw [e3]
      rfl
    have hH := H.out
    refine ⟨by rw [e1]; rfl, ?_, ?_, by simp [World.setCell]⟩
    · rw [e2, ← e1]
      have h1 := hH.setBox 2 (.int .i64 (n : Int)) { S with fuse := n } rfl rfl rfl rfl rfl rfl
      exact h1.setBox 3 (.bool S.burnt) { S with fuse := n, down := S.burnt } rfl rfl rfl rfl rfl rfl
    · exact (Turns.of_setCell (P := fun b => b = L.d) w ⟨L.d, 2, none⟩ _ rfl).trans (Turns.of_setCell (P := fun b => b = L.d) _ ⟨L.d, 3, none⟩ _ rfl) (fun _ hx => Or.inl hx)

theorem notEmpty {s : ByteArray} (h0 : s.size ≠ 0) : s.toList.isEmpty = false ∧ ¬ s.toList = [] := by
  have e1 : s.toList ≠ [] := fun e => h0 (by rw [Lib.size_eq, ← ByteArray.toList_eq, e]; rfl)
  exact ⟨by cases hs : s.toList with
    | nil => exact absurd hs e1
    | cons _ _ => rfl, e1⟩

theorem law : Keyed Try.prog 9 := string_keyed Try.underlying9
theorem zero_ptr (w : World) : (zeroValue 58).run Try.prog w = .ok (.pointer none) w := by kernel_rfl
theorem key_string (s : ByteArray) (h : s.size ≤ maxLen) : keyOf Try.prog 9 (.string s) = some (.string s.data.toList)   := Go.WideMaps.keyOf_string_mk Try.underlying9 h
/-- A look-up in a directory. -/
theorem look_run {w : World} {b n : Nat} {loc : Nat → Nat} {d : Dir} (h : w.ownsMap Try.prog 9 ptrElem b n (toD loc d)) (s : ByteArray) (hs : s.size ≤ maxLen) :
    (Instr.lookup 54 (.map (some b)) (.string s) false).run Try.prog w = .ok (fileV loc (Dk.look s.data.toList d)) w := by
  obtain ⟨v, ps, hrun, hR⟩ := h.lookup law Try.underlying54 (zero_ptr w) (zd := .nil) (zp := []) rfl (key_string s hs)
  rw [toD_at] at hR
  rw [hrun]
  cases hl : Dk.look s.data.toList d with
  | none =>
    rw [hl] at hR
    rw [ptrElem_nil hR]; rfl
  | some i =>
    rw [hl] at hR
    obtain ⟨m, rfl, hm⟩ := ptrElem_inv hR
    have : m = loc i := by omega
    subst this
    rfl

/-- What find answers. -/
def findV (L : Lay) (S : Disk) (s : ByteArray) : Value := if S.down then .tuple #[.pointer none, .int .i64 7] else match Dk.look s.data.toList S.now with
  | none => .tuple #[.pointer none, .int .i64 4]
  | some i => .tuple #[.pointer (some ⟨L.loc i, 0, none⟩), .int .i64 0]

set_option maxHeartbeats 1000000 in
set_option maxRecDepth 100000 in
theorem find_any {L : Lay} {S : Disk} (w : World) (h : Holds w L S) (s : ByteArray) (hs : s.size ≤ maxLen) : Calls Try.prog 36 #[.pointer (some ⟨L.d, 0, none⟩), .string s] w fun e w' => e = .returned (findV L S s) ∧ w' = w := by
  obtain ⟨c0, c1, c2, c3, c4, c5, c6⟩ := h.cells
  have HL := Lib.hid (look_run h.now s hs)
  have HM := Lib.hid (barred_any w h)
  clear h
  obtain ⟨R, hR⟩ : ∃ R, R = findV L S s := ⟨_, rfl⟩
  rw [← hR]
  unfold findV at hR
  have HR := Lib.hid hR; clear hR
  go_enter Try.func36, Try.ntmps36
  go_wp2_with fail
  refine HM.out.mono ?_
  rintro e w1 ⟨rfl, rfl⟩
  cases hd : S.down
  · have HV : Hid (barV S = .int .i64 0) := by unfold barV; rw [hd]; exact Lib.hid rfl
    rw [HV.out]
    have HR2 : Hid _ := Lib.hid (by have := HR.out; rw [hd] at this; exact this)
    cases hl : Dk.look s.data.toList S.now with
    | none =>
      have hlr := HL.out
      rw [hl] at hlr
      unfold fileV at hlr
      have HE : Hid (R = .tuple #[.pointer none, .int .i64 4]) := by have := HR2.out; rw [hl] at this; exact Lib.hid this
      clear HR HR2 HL HM HV hs
      go_wp2_with fail
      go_ret2
      exact ⟨HE.out.symm ▸ rfl, rfl⟩
    | some i =>
      have hlr := HL.out
      rw [hl] at hlr
      unfold fileV at hlr
      have HE : Hid (R = .tuple #[.pointer (some ⟨L.loc i, 0, none⟩), .int .i64 0]) := by have := HR2.out; rw [hl] at this; exact Lib.hid this
      clear HR HR2 HL HM HV hs
      go_wp2_with fail
      go_ret2
      exact ⟨HE.out.symm ▸ rfl, rfl⟩
  · have HV : Hid (barV S = .int .i64 7) := by unfold barV; rw [hd]; exact Lib.hid rfl
    rw [HV.out]
    have HE : Hid (R = .tuple #[.pointer none, .int .i64 7]) := by have := HR.out; rw [hd] at this; exact Lib.hid this
    clear HR HL HM HV hs
    go_wp2_with fail
    go_ret2
    exact ⟨HE.out.symm ▸ rfl, rfl⟩

end Go.Proofs.Ytefoijamedciiaa

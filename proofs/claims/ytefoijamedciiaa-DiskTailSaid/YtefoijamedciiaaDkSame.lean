/- The walks of Same: bytes.Equal, alike. -/
import Derived.Test.YtefoijamedciiaaDkTwin
import Derived.Deep.QuietTactic
import Derived.LaidEqlPtr
namespace Go.Proofs.Ytefoijamedciiaa
open Go.RowKit Go.Maps
open Dk (Dir Chg Disk File Str)

set_option maxHeartbeats 8000000 in
set_option maxRecDepth 100000 in
theorem bytesEqual_any (w : World) (v u : Value) (l : Str) (h : w.ownsRow 0 5 1 v l.length (Lib.byteCells l)) (k : w.ownsRow 0 5 1 u l.length (Lib.byteCells l)) :
    Calls Try.prog 51 #[v, u] w fun e w' => e = .returned (.bool true) ∧ w' = w := by
  have c1 : ∀ n, (convert 65 9 v).run Try.prog (w.drewN n) = .ok (.string ⟨l.toArray⟩) (w.drewN n) := fun n => file_text (w := w.drewN n) h
  have c2 : ∀ n, (convert 65 9 u).run Try.prog (w.drewN n) = .ok (.string ⟨l.toArray⟩) (w.drewN n) := fun n => file_text (w := w.drewN n) k
  have c3 : (convert 65 9 v).run Try.prog w = .ok (.string ⟨l.toArray⟩) w := file_text h
  have c4 : (convert 65 9 u).run Try.prog w = .ok (.string ⟨l.toArray⟩) w := file_text k
  clear h k
  generalize (⟨l.toArray⟩ : ByteArray) = s at *
  go_enter Try.func51, Try.ntmps51
  go_wp2_with fail
  go_ret
  exact ⟨rfl, rfl⟩

theorem info_file : ∃ j, Try.prog.info? 67 = some j ∧ j.size ≠ 0 := by
  have h : (Try.prog.info? 67).map (·.size) = some 2 := by kernel_rfl
  obtain ⟨j, hj, e⟩ := Option.map_eq_some_iff.1 h
  exact ⟨j, hj, by rw [e]; decide⟩
/-- The same file, at two places (or the same one, or none). -/
def FileTwo (w : World) (a b : Value) : Prop := a = b ∧ (a = .pointer none ∨ ∃ p, a = .pointer (some ⟨p, 0, none⟩)) ∨ ∃ p q v u f, p ≠ q ∧ a = .pointer (some ⟨p, 0, none⟩) ∧ b = .pointer (some ⟨q, 0, none⟩) ∧ FileAt w p v f ∧ FileAt w q u f

set_option maxHeartbeats 8000000 in
set_option maxRecDepth 100000 in
theorem alike_any (w : World) (a b : Value) (h : FileTwo w a b) :
    Calls Try.prog 40 #[a, b] w fun e w' => e = .returned (.bool true) ∧ Still w w' := by
  rcases h with ⟨rfl, rfl | ⟨p, rfl⟩⟩ | ⟨p, q, v, u, f, hne, rfl, rfl, hp, hq⟩
  · go_enter Try.func40, Try.ntmps40
    go_wp2_with fail
    go_quiet (fail)
    go_wp2_with fail
    go_ret
    exact ⟨rfl, still_drewN _ _⟩
  · obtain ⟨j, hj, _⟩ := info_file
    have he : ∀ W : World, (binOp .eql 58 (.pointer (some ⟨p, 0, none⟩)) (.pointer (some ⟨p, 0, none⟩))).run Try.prog W = .ok (.bool true) W := fun W => run_eql_ptr_same W _ Try.underlying58 hj
    go_enter Try.func40, Try.ntmps40
    go_wp2_with fail
    go_quiet (fail)
    go_wp2_with fail
    go_ret
    exact ⟨rfl, still_drewN _ _⟩
  · obtain ⟨j, hj, hjz⟩ := info_file
    have hadd : (⟨p, 0, none⟩ : Addr) ≠ ⟨q, 0, none⟩ := fun e => hne (by injection e)
    have he0 : (binOp .eql 58 (.pointer (some ⟨p, 0, none⟩)) (.pointer (some ⟨q, 0, none⟩))).run Try.prog w = .ok (.bool false) w := run_eql_ptr_other w Try.underlying58 hj hjz hadd hp.box hq.box
    have he : ∀ n, (binOp .eql 58 (.pointer (some ⟨p, 0, none⟩)) (.pointer (some ⟨q, 0, none⟩))).run Try.prog (w.drewN n) = .ok (.bool false) (w.drewN n) := fun n => run_eql_ptr_other (w.drewN n) Try.underlying58 hj hjz hadd hp.box hq.box
    have a0 : w.cell? ⟨p, 0, none⟩ = some v := by rw [cell_of hp.box]; rfl
    have a1 : w.cell? ⟨p, 1, none⟩ = some (.int .i64 (f.lasts : Int)) := by rw [cell_of hp.box]; rfl
    have b0 : w.cell? ⟨q, 0, none⟩ = some u := by rw [cell_of hq.box]; rfl
    have b1 : w.cell? ⟨q, 1, none⟩ = some (.int .i64 (f.lasts : Int)) := by rw [cell_of hq.box]; rfl
    have HP := Lib.hid hp.row; have HQ := Lib.hid hq.row
    have hpq : (p == q) = false := by rw [beq_eq_false_iff_ne]; exact hne
    clear hp hq
    go_enter Try.func40, Try.ntmps40
    go_wp2_with fail
    go_quiet (first | (go_at_call 51; refine Calls.mono (bytesEqual_any _ v u f.data (by exact HP.out) (by exact HQ.out)) ?_; rintro e wz ⟨rfl, rfl⟩; exact ⟨rfl, _, rfl⟩))
    go_wp2_with fail
    go_ret
    exact ⟨rfl, still_drewN _ _⟩

theorem FileAt.under {w w' : World} {b : Nat} {v : Value} {f : File} (h : FileAt w b v f) (hb : Below w.heap.size w w') : FileAt w' b v f :=
  ⟨(hb.block b (World.block_lt_of_cell? w (a := ⟨b, 1, none⟩) (by rw [cell_of h.box]; rfl))).trans h.box, ownsRow_frame h.row (fun k hk => hb.block k (ownsRow_lt h.row hk)), h.le⟩
theorem FileTwo.under {w w' : World} {a b : Value} (h : FileTwo w a b) (hb : Below w.heap.size w w') : FileTwo w' a b := by
  rcases h with h | ⟨p, q, v, u, f, hne, rfl, rfl, hp, hq⟩
  · exact Or.inl h
  · exact Or.inr ⟨p, q, v, u, f, hne, rfl, rfl, hp.under hb, hq.under hb⟩

set_option maxHeartbeats 8000000 in
set_option maxRecDepth 100000 in
theorem sameChange_any (w : World) (s t : ByteArray) (p q : Value) (h : FileTwo w p q) :
    Calls Try.prog 42 #[.agg #[.string s, .string t, p], .agg #[.string s, .string t, q]] w fun e w' => e = .returned (.bool true) ∧ Below w.heap.size w w' := by
  have hb0 := ((Below.refl w.heap.size w).alloc (Nat.le_refl _) (.cells #[.string s, .string t, p] 62)).alloc (by simp) (.cells #[.string s, .string t, q] 62)
  have HF := Lib.hid (h.under hb0)
  have HB := Lib.hid hb0
  clear h hb0
  go_enter Try.func42, Try.ntmps42
  go_wp2_with fail
  refine (alike_any _ p q HF.out).mono ?_
  rintro e w1 ⟨rfl, hst⟩
  have HS := Lib.hid (hst.below HB.out)
  clear hst HF HB
  go_wp2_with fail
  go_ret
  exact ⟨rfl, HS.out⟩

end Go.Proofs.Ytefoijamedciiaa

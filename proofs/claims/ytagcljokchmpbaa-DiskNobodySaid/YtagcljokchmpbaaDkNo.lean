/- The walks of the disk's methods over a nil disk, and one that New did not make. -/
import Derived.Test.YtagcljokchmpbaaDkP
namespace Go.Proofs.Ytagcljokchmpbaa
open Go.RowKit Go.Maps
open Dk (Dir Chg Disk File Str)

/-- A nil disk, or one that New did not make. -/
def Nobody (w : World) (po : Option Addr) : Prop := po = none ∨ ∃ b, po = some ⟨b, 0, none⟩ ∧ w.heap[b]? = some (.cells #[.int .i64 0, .int .i64 0, .int .i64 0, .bool false, .map none, .map none, .slice none 0 0] 27 (0, 0))
theorem Nobody.below {w w' : World} {po : Option Addr} (h : Nobody w po) (hb : Below w.heap.size w w') : Nobody w' po := by
  rcases h with h | ⟨b, h1, h2⟩
  · exact Or.inl h
  · exact Or.inr ⟨b, h1, (hb.block b (heap_lt h2)).trans h2⟩

set_option maxHeartbeats 1000000 in
set_option maxRecDepth 100000 in
theorem made_no (w : World) (po : Option Addr) (h : Nobody w po) : Calls Try.prog 31 #[.pointer po] w fun e w' => e = .returned (.bool false) ∧ w' = w := by
  rcases h with rfl | ⟨b, rfl, hb⟩
  · go_enter Try.func31, Try.ntmps31
    go_wp2_with fail
    go_ret
    exact ⟨rfl, rfl⟩
  · have c4 : w.cell? ⟨b, 4, none⟩ = some (.map none) := by rw [cell_of hb]; rfl
    have hne := run_neq_map_nil w none
    rw [Option.isSome_none] at hne
    clear hb
    go_enter Try.func31, Try.ntmps31
    go_wp2_with fail
    go_ret
    exact ⟨rfl, rfl⟩

set_option maxHeartbeats 1000000 in
set_option maxRecDepth 100000 in
theorem barred_no (w : World) (po : Option Addr) (h : Nobody w po) : Calls Try.prog 37 #[.pointer po] w fun e w' => e = .returned (.int .i64 2) ∧ w' = w := by
  have HM := Lib.hid (made_no w po h)
  clear h
  go_enter Try.func37, Try.ntmps37
  go_wp2_with fail
  refine (HM).out.mono ?_
  rintro e w1 ⟨rfl, rfl⟩
  go_wp2_with fail
  go_ret
  exact ⟨rfl, rfl⟩

set_option maxHeartbeats 1000000 in
set_option maxRecDepth 100000 in
theorem find_no (w : World) (po : Option Addr) (h : Nobody w po) (s : ByteArray) : Calls Try.prog 36 #[.pointer po, .string s] w fun e w' => e = .returned (.tuple #[.pointer none, .int .i64 2]) ∧ w' = w := by
  have HM := Lib.hid (barred_no w po h)
  clear h
  go_enter Try.func36, Try.ntmps36
  go_wp2_with fail
  refine (HM).out.mono ?_
  rintro e w1 ⟨rfl, rfl⟩
  go_wp2_with fail
  go_ret2
  exact ⟨rfl, rfl⟩

set_option maxHeartbeats 1000000 in
set_option maxRecDepth 100000 in
theorem fuse_no (w : World) (po : Option Addr) (h : Nobody w po) (n : Int) : Calls Try.prog 9 #[.pointer po, .int .i64 n] w fun e w' => e = .returned (.tuple #[]) ∧ w' = w := by
  have HM := Lib.hid (made_no w po h)
  clear h
  go_enter Try.func9, Try.ntmps9
  go_wp2_with fail
  refine (HM).out.mono ?_
  rintro e w1 ⟨rfl, rfl⟩
  go_wp2_with fail
  go_end0
  exact ⟨rfl, rfl⟩

set_option maxHeartbeats 1000000 in
set_option maxRecDepth 100000 in
theorem crash_no (w : World) (po : Option Addr) (h : Nobody w po) (n : Int) : Calls Try.prog 10 #[.pointer po, .agg #[.int .i64 n, .slice none 0 0, .slice none 0 0]] w fun e w' => e = .returned (.tuple #[]) ∧ Below w.heap.size w w' := by
  have HM := fun o => Lib.hid (made_no (w.alloc o) po (h.below ((Below.refl _ _).alloc (Nat.le_refl _) o)))
  clear h
  go_enter Try.func10, Try.ntmps10
  go_wp2_with fail
  refine (HM _).out.mono ?_
  rintro e w1 ⟨rfl, rfl⟩
  go_wp2_with fail
  refine bodyPost_ret (results_none rfl _ _ _) rfl ?_
  exact ⟨rfl, (Below.refl _ _).alloc (Nat.le_refl _) _⟩

set_option maxHeartbeats 1000000 in
set_option maxRecDepth 100000 in
theorem start_no (w : World) (po : Option Addr) (h : Nobody w po) : Calls Try.prog 11 #[.pointer po] w fun e w' => e = .returned (.tuple #[]) ∧ w' = w := by
  have HM := Lib.hid (made_no w po h)
  clear h
  go_enter Try.func11, Try.ntmps11
  go_wp2_with fail
  refine (HM).out.mono ?_
  rintro e w1 ⟨rfl, rfl⟩
  go_wp2_with fail
  go_end0
  exact ⟨rfl, rfl⟩

set_option maxHeartbeats 1000000 in
set_option maxRecDepth 100000 in
theorem read_no (w : World) (po : Option Addr) (h : Nobody w po) (s : ByteArray) : Calls Try.prog 12 #[.pointer po, .string s] w fun e w' => e = .returned (.tuple #[.string ⟨#[]⟩, .int .i64 2]) ∧ w' = w := by
  have HM := Lib.hid (find_no w po h s)
  clear h
  go_enter Try.func12, Try.ntmps12
  go_wp2_with fail
  refine (HM).out.mono ?_
  rintro e w1 ⟨rfl, rfl⟩
  go_wp2_with fail
  go_ret2
  exact ⟨rfl, rfl⟩

set_option maxHeartbeats 1000000 in
set_option maxRecDepth 100000 in
theorem create_no (w : World) (po : Option Addr) (h : Nobody w po) (s : ByteArray) : Calls Try.prog 13 #[.pointer po, .string s] w fun e w' => e = .returned (.int .i64 2) ∧ w' = w := by
  have HM := Lib.hid (barred_no w po h)
  clear h
  go_enter Try.func13, Try.ntmps13
  go_wp2_with fail
  refine (HM).out.mono ?_
  rintro e w1 ⟨rfl, rfl⟩
  go_wp2_with fail
  go_ret
  exact ⟨rfl, rfl⟩

set_option maxHeartbeats 1000000 in
set_option maxRecDepth 100000 in
theorem append_no (w : World) (po : Option Addr) (h : Nobody w po) (s t : ByteArray) : Calls Try.prog 14 #[.pointer po, .string s, .string t] w fun e w' => e = .returned (.int .i64 2) ∧ w' = w := by
  have HM := Lib.hid (find_no w po h s)
  clear h
  go_enter Try.func14, Try.ntmps14
  go_wp2_with fail
  refine (HM).out.mono ?_
  rintro e w1 ⟨rfl, rfl⟩
  go_wp2_with fail
  go_ret
  exact ⟨rfl, rfl⟩

set_option maxHeartbeats 1000000 in
set_option maxRecDepth 100000 in
theorem sync_no (w : World) (po : Option Addr) (h : Nobody w po) (s : ByteArray) : Calls Try.prog 15 #[.pointer po, .string s] w fun e w' => e = .returned (.int .i64 2) ∧ w' = w := by
  have HM := Lib.hid (find_no w po h s)
  clear h
  go_enter Try.func15, Try.ntmps15
  go_wp2_with fail
  refine (HM).out.mono ?_
  rintro e w1 ⟨rfl, rfl⟩
  go_wp2_with fail
  go_ret
  exact ⟨rfl, rfl⟩

set_option maxHeartbeats 1000000 in
set_option maxRecDepth 100000 in
theorem rename_no (w : World) (po : Option Addr) (h : Nobody w po) (s t : ByteArray) : Calls Try.prog 16 #[.pointer po, .string s, .string t] w fun e w' => e = .returned (.int .i64 2) ∧ w' = w := by
  have HM := Lib.hid (barred_no w po h)
  clear h
  go_enter Try.func16, Try.ntmps16
  go_wp2_with fail
  refine (HM).out.mono ?_
  rintro e w1 ⟨rfl, rfl⟩
  go_wp2_with fail
  go_ret
  exact ⟨rfl, rfl⟩

set_option maxHeartbeats 1000000 in
set_option maxRecDepth 100000 in
theorem delete_no (w : World) (po : Option Addr) (h : Nobody w po) (s : ByteArray) : Calls Try.prog 17 #[.pointer po, .string s] w fun e w' => e = .returned (.int .i64 2) ∧ w' = w := by
  have HM := Lib.hid (find_no w po h s)
  clear h
  go_enter Try.func17, Try.ntmps17
  go_wp2_with fail
  refine (HM).out.mono ?_
  rintro e w1 ⟨rfl, rfl⟩
  go_wp2_with fail
  go_ret
  exact ⟨rfl, rfl⟩

set_option maxHeartbeats 1000000 in
set_option maxRecDepth 100000 in
theorem dirSync_no (w : World) (po : Option Addr) (h : Nobody w po) : Calls Try.prog 18 #[.pointer po] w fun e w' => e = .returned (.int .i64 2) ∧ w' = w := by
  have HM := Lib.hid (barred_no w po h)
  clear h
  go_enter Try.func18, Try.ntmps18
  go_wp2_with fail
  refine (HM).out.mono ?_
  rintro e w1 ⟨rfl, rfl⟩
  go_wp2_with fail
  go_ret
  exact ⟨rfl, rfl⟩

set_option maxHeartbeats 1000000 in
set_option maxRecDepth 100000 in
theorem list_no (w : World) (po : Option Addr) (h : Nobody w po) : Calls Try.prog 19 #[.pointer po] w fun e w' => e = .returned (.slice none 0 0) ∧ w' = w := by
  have HM := Lib.hid (made_no w po h)
  clear h
  go_enter Try.func19, Try.ntmps19
  go_wp2_with fail
  refine (HM).out.mono ?_
  rintro e w1 ⟨rfl, rfl⟩
  go_wp2_with fail
  go_ret
  exact ⟨rfl, rfl⟩

set_option maxHeartbeats 1000000 in
set_option maxRecDepth 100000 in
theorem used_no (w : World) (po : Option Addr) (h : Nobody w po) : Calls Try.prog 20 #[.pointer po] w fun e w' => e = .returned (.int .i64 0) ∧ w' = w := by
  have HM := Lib.hid (made_no w po h)
  clear h
  go_enter Try.func20, Try.ntmps20
  go_wp2_with fail
  refine (HM).out.mono ?_
  rintro e w1 ⟨rfl, rfl⟩
  go_wp2_with fail
  go_ret
  exact ⟨rfl, rfl⟩

set_option maxHeartbeats 1000000 in
set_option maxRecDepth 100000 in
theorem room_no (w : World) (po : Option Addr) (h : Nobody w po) : Calls Try.prog 21 #[.pointer po] w fun e w' => e = .returned (.int .i64 0) ∧ w' = w := by
  have HM := Lib.hid (made_no w po h)
  clear h
  go_enter Try.func21, Try.ntmps21
  go_wp2_with fail
  refine (HM).out.mono ?_
  rintro e w1 ⟨rfl, rfl⟩
  go_wp2_with fail
  go_ret
  exact ⟨rfl, rfl⟩

set_option maxHeartbeats 1000000 in
set_option maxRecDepth 100000 in
theorem fused_no (w : World) (po : Option Addr) (h : Nobody w po) : Calls Try.prog 22 #[.pointer po] w fun e w' => e = .returned (.int .i64 0) ∧ w' = w := by
  have HM := Lib.hid (made_no w po h)
  clear h
  go_enter Try.func22, Try.ntmps22
  go_wp2_with fail
  refine (HM).out.mono ?_
  rintro e w1 ⟨rfl, rfl⟩
  go_wp2_with fail
  go_ret
  exact ⟨rfl, rfl⟩

set_option maxHeartbeats 1000000 in
set_option maxRecDepth 100000 in
theorem down_no (w : World) (po : Option Addr) (h : Nobody w po) : Calls Try.prog 23 #[.pointer po] w fun e w' => e = .returned (.bool true) ∧ w' = w := by
  have HM := Lib.hid (made_no w po h)
  clear h
  go_enter Try.func23, Try.ntmps23
  go_wp2_with fail
  refine (HM).out.mono ?_
  rintro e w1 ⟨rfl, rfl⟩
  go_wp2_with fail
  go_ret
  exact ⟨rfl, rfl⟩

set_option maxHeartbeats 1000000 in
set_option maxRecDepth 100000 in
theorem twin_no (w : World) (po : Option Addr) (h : Nobody w po) : Calls Try.prog 24 #[.pointer po] w fun e w' => e = .returned (.pointer none) ∧ w' = w := by
  have HM := Lib.hid (made_no w po h)
  clear h
  go_enter Try.func24, Try.ntmps24
  go_wp2_with fail
  refine (HM).out.mono ?_
  rintro e w1 ⟨rfl, rfl⟩
  go_wp2_with fail
  go_ret
  exact ⟨rfl, rfl⟩

set_option maxHeartbeats 2000000 in
set_option maxRecDepth 100000 in
theorem same_no (w : World) (po qo : Option Addr) (h : Nobody w po) (q : Bool) (hq : Calls Try.prog 31 #[.pointer qo] w fun e w' => e = .returned (.bool q) ∧ w' = w) : Calls Try.prog 25 #[.pointer po, .pointer qo] w fun e w' => e = .returned (.bool (!q)) ∧ w' = w := by
  have HM := Lib.hid (made_no w po h)
  have HQ := Lib.hid hq
  clear h hq
  go_enter Try.func25, Try.ntmps25
  go_wp2_with fail
  refine HM.out.mono ?_
  rintro e w1 ⟨rfl, rfl⟩
  go_wp2_with fail
  refine HM.out.mono ?_
  rintro e w1 ⟨rfl, rfl⟩
  go_wp2_with fail
  refine HQ.out.mono ?_
  rintro e w1 ⟨rfl, rfl⟩
  cases q
  · go_wp2_with fail
    go_ret
    exact ⟨rfl, rfl⟩
  · go_wp2_with fail
    go_ret
    exact ⟨rfl, rfl⟩

end Go.Proofs.Ytagcljokchmpbaa

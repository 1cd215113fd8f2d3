/- The walk of the laws' awake. -/
import Derived.Test.YtclgjphegaoohaaDoorCellE
namespace Go.Proofs.YtclgjphegaoohaaDoor
open Go.RowKit

/-- The cell of the laws' awake. -/
def abC : Cr.Cl := ⟨true, true, 0, ⟨#[97, 98]⟩⟩
theorem ab_may : Cr.may abC = true := by decide +kernel
theorem ab_head : (Cr.mk abC).take 6 = [67, 2, 0, 0, 97, 98] := by decide +kernel
theorem ab_crc : Cr.crc (catl [⟨#[49, 50, 51, 52]⟩, ⟨#[53, 54, 55, 56, 57]⟩]) = 3421780262 := by decide +kernel

theorem rdV_mk {c : Cr.Cl} (h : Cr.may c = true) : rdV ⟨(Cr.mk c).toArray⟩ = .tuple #[clV c, .bool true] := by
  unfold rdV
  rw [show (ByteArray.mk (Cr.mk c).toArray).data.toList = Cr.mk c from rfl, Cr.rd_mk h]

theorem two_small {a b : ByteArray} (ha : a.size ≤ 9223372036854775807) (hb : b.size ≤ 9223372036854775807) : ∀ s ∈ [a, b], s.size ≤ 9223372036854775807 := by
  intro s hs
  simp only [List.mem_cons, List.not_mem_nil, or_false] at hs
  rcases hs with rfl | rfl <;> assumption

theorem sees_two_at (w : World) (o : Obj) (s u : ByteArray) (t : TypeId) (cap : Nat) : SeesS ((w.alloc o).alloc (.cells #[.string s, .string u] t)) (.slice (some ⟨w.heap.size + 1, 0, none⟩) 2 cap) [s, u] := by
  have := sees_two (w.alloc o) s u t cap
  rw [World.size_alloc] at this
  exact this

set_option maxHeartbeats 1000000 in
theorem awake_any (w : World) (hT : Tab w) : Calls Tryd.prog 12 #[] w (Gives (.bool true) w) := by
  obtain ⟨R, hR⟩ : ∃ R : ByteArray, R = ⟨(Cr.mk abC).toArray⟩ := ⟨_, rfl⟩
  have hsz : R.size = 32 := by rw [hR]; exact Cr.mk_length (Cr.may_size ab_may)
  have hpre : R.extract 0 6 = ⟨#[67, 2, 0, 0, 97, 98]⟩ := by
    apply ByteArray.ext; apply Array.toList_inj.1
    rw [Lib.extract_data, List.drop_zero, hR]
    exact ab_head
  have hsl : ∀ w : World, (Instr.slice 9 (.string R) none (some (.int .i64 6)) none).run Tryd.prog w = .ok (.string ⟨#[67, 2, 0, 0, 97, 98]⟩) w := fun w => by
    rw [run_slice_string_h w 9 R Tryd.underlying9 .i64 6 (by omega) (by omega)]
    exact congrArg (fun x => Result.ok (Value.string x) w) hpre
  have hrd : rdV R = .tuple #[.agg #[.bool true, .bool true, .int .i64 0, .string ⟨#[97, 98]⟩], .bool true] := by rw [hR]; exact rdV_mk ab_may
  have HMK := make_yes true true 0 ⟨#[97, 98]⟩ w hT ab_may
  rw [show (⟨(Cr.mk ⟨true, true, 0, ⟨#[97, 98]⟩⟩).toArray⟩ : ByteArray) = R from hR.symm] at HMK
  have HM := Lib.hid HMK
  have HR := Lib.hid hrd
  have HSZ : ((R.size : Int) == 32) = true := by rw [hsz]; rfl
  clear hR hsz hpre HMK hrd
  have HT := Lib.hid hT; clear hT
  go_enter Tryd.func12, Tryd.ntmps12
  go_wp2_with fail
  refine HM.out.mono ?_
  rintro e w1 ⟨rfl, hb1⟩
  have HT1 := Lib.hid (HT.out.below hb1)
  have HB1 := Lib.hid hb1; clear hb1
  go_wp2_with fail
  refine (read_any R _ HT1.out).mono ?_
  rintro e w2 ⟨rfl, hb2⟩
  rw [HR.out]
  have HT2 := Lib.hid (HT1.out.below hb2)
  have HB2 := Lib.hid (Below.next HB1.out hb2); clear hb2
  go_wp2_with fail
  refine (crc_any _ _ _ [⟨#[49, 50, 51, 52]⟩, ⟨#[53, 54, 55, 56, 57]⟩] _ (sees_two_at _ _ _ _ _ _) ((HT2.out.alloc _).alloc _) (two_small (by decide) (by decide)) (by omega)).mono ?_
  rintro e w3 ⟨rfl, rfl⟩
  rw [ab_crc]
  go_wp2_with fail
  go_ret
  exact ⟨rfl, Below.next_alloc (Below.next_alloc HB2.out _) _⟩

end Go.Proofs.YtclgjphegaoohaaDoor

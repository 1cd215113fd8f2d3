/- Texts on the program's own functions, several in one: NnP. -/
import Derived.Test.YtfeconankopjmaaGreatDoorPk6
import Derived.Test.YtfeconankopjmaaGreatDoorPk9
import Derived.Test.YtfeconankopjmaaGreatDoorDnPlain
import Derived.Lib.ItoaMem

/- Walks of disk's Name and Number. -/
namespace Go.Proofs.YtfeconankopjmaaGreatDoor
open Go.RowKit Go.Sort

/-- The conversion of a byte row's numbers to values. -/
abbrev u8V : UInt8 → Value := fun b => Value.int .u8 (b.toNat : Int)
theorem zeros_hold (w : World) (T : TypeId) (nd : Nat) (hs : nd ≤ 24) : Holds u8V (w.alloc (.cells Lib.zeros24 T)) w.heap.size 0 (Array.replicate nd (0 : UInt8)) := fun j hj => by
  have hj' : j < nd := by simpa using hj
  refine ⟨?_, World.frozen?_alloc_new _ _ _ _⟩
  rw [World.cell?_alloc_new, Lib.zeros24_at _ (by omega), getElem!_pos _ j hj]
  simp

theorem below_grow (w : World) (os : Array Obj) (k : Nat) : Below w.heap.size w ((grow w os).drewN k) :=
  ⟨rfl, rfl, rfl, by simp [grow, World.drewN], fun b hb => by simp [grow, World.drewN, Array.getElem?_append_left hb]⟩

set_option maxRecDepth 100000 in
set_option maxHeartbeats 800000 in
theorem fmtIn_any (N : Nat) (w : World) (hN : N < 18446744073709551616) (hs : ¬ N < 100) (htab : Lib.TabIs Tryz.prog w "internal/strconv.uint64pow10" .u64 Lib.pow10Tab) :
    Calls Tryz.prog 157 #[.int .u64 N, .int .i64 10] w (Gives (.string ⟨(Lib.decDigits N).toArray⟩) w) := by
  have hg : ¬ (N : Int) < 100 := by omega
  have hn1 : 1 ≤ N := by omega
  have hnd : Lib.nDigits N ≤ 20 := by have := Lib.numDigits_eq N hn1 hN; split at this <;> omega
  have hal : Tryz.prog.arrayLen 253 = 24 := by kernel_rfl
  have hel : Tryz.prog.elem 253 = Tryz.prog.elem 253 := rfl
  have hsl : ∀ W, (Instr.sliceAt 253 (.pointer (some ⟨w.heap.size, 0, none⟩)) none (some (.int .i64 (Lib.nDigits N : Int))) none).run Tryz.prog W = .ok (.slice (some ⟨w.heap.size, 0, none⟩) (Lib.nDigits N) 24) W := fun W => by
    rw [run_sliceAt_array_h W 253 ⟨w.heap.size, 0, none⟩ (by kernel_rfl) .i64 (Lib.nDigits N : Int) (by omega) (by rw [hal]; omega)]
    go_simp
  have hH0 := zeros_hold w 253 (Lib.nDigits N) (by omega)
  have hfmt := Tryz.internal_strconv_formatBase10 w.heap.size 0 24 N (Array.replicate (Lib.nDigits N) 0) (w.alloc (.cells Lib.zeros24 253)) hH0 (by rw [Array.size_replicate]; exact Lib.lt_pow_nDigits N) hN (by rw [Array.size_replicate]; omega)
  rw [Array.size_replicate] at hfmt
  have HND := Lib.hid (Tryz.internal_strconv_numDigits N hn1 hN _ (Lib.tabIs_alloc htab (.cells Lib.zeros24 253)))
  have HF := Lib.hid hfmt
  have HH0 := Lib.hid hH0
  clear hH0 hal hel hfmt htab
  go_enter Tryz.func157, Tryz.ntmps157
  go_wp2_with fail
  refine HND.out.mono ?_
  rintro e w1 ⟨rfl, rfl⟩
  go_wp2_with fail
  refine HF.out.mono ?_
  rintro e w2 ⟨rfl, k, v', dk, rfl, hF⟩
  have hcv : (convert 128 9 (.slice (some ⟨w.heap.size, 0, none⟩) (Lib.nDigits N) 24)).run Tryz.prog ((putRow u8V (w.alloc (.cells Lib.zeros24 253)) w.heap.size 0 dk).drewN k) = .ok (.string ⟨(Lib.decDigits N).toArray⟩) ((putRow u8V (w.alloc (.cells Lib.zeros24 253)) w.heap.size 0 dk).drewN k) := by
    have h := run_convert_bytes_back (P := Tryz.prog) ((putRow u8V (w.alloc (.cells Lib.zeros24 253)) w.heap.size 0 dk).drewN k) 128 9 5 ⟨w.heap.size, 0, none⟩ 24 (Lib.decDigits N) Tryz.underlying128 Tryz.underlying5 Tryz.underlying9 (fun j hj => by
      rw [Lib.row_is_numeral hF j hj, Lib.add_plain, World.cell?_drewN]
      exact cell?_putRow u8V _ w.heap.size 0 _ dk HH0.out (by rw [hF.size, Array.size_replicate]) j (by rw [hF.size]; rw [Lib.decDigits_length] at hj; exact hj))
    rw [Lib.decDigits_length] at h
    exact h
  have HB : Hid (Below w.heap.size w ((putRow u8V (w.alloc (.cells Lib.zeros24 253)) w.heap.size 0 dk).drewN k)) := Lib.hid (by
    rw [alloc_eq_grow]
    obtain ⟨os, _, e⟩ := putRow_grow_new u8V w #[.cells Lib.zeros24 253] w.heap.size 0 dk (Nat.le_refl _)
    rw [e]
    exact below_grow w os k)
  clear HH0 HF HND
  go_wp2_with fail
  go_ret
  exact ⟨rfl, HB.out⟩

set_option maxRecDepth 100000 in
theorem fmtIn_small (N : Nat) (w : World) (hs : N < 100) :
    Calls Tryz.prog 157 #[.int .u64 N, .int .i64 10] w (Gives (.string ⟨(Lib.decDigits N).toArray⟩) w) := by
  have hg : (N : Int) < 100 := by omega
  have HS := Lib.hid (Tryz.internal_strconv_small N hs w)
  go_enter Tryz.func157, Tryz.ntmps157
  go_wp2_with fail
  refine HS.out.mono ?_
  rintro e w1 ⟨rfl, rfl⟩
  go_wp2_with fail
  go_ret
  exact ⟨rfl, Below.refl _ _⟩

theorem fmt_any (N : Nat) (w : World) (hN : N < 18446744073709551616) (htab : Lib.TabIs Tryz.prog w "internal/strconv.uint64pow10" .u64 Lib.pow10Tab) :
    Calls Tryz.prog 120 #[.int .u64 N, .int .i64 10] w (Gives (.string ⟨(Lib.decDigits N).toArray⟩) w) := by
  have HI : Hid (Calls Tryz.prog 157 #[.int .u64 N, .int .i64 10] w (Gives (.string ⟨(Lib.decDigits N).toArray⟩) w)) := Lib.hid (by
    by_cases hs : N < 100
    · exact fmtIn_small N w hs
    · exact fmtIn_any N w hN hs htab)
  clear htab
  go_enter Tryz.func120, Tryz.ntmps120
  go_wp2_with fail
  refine HI.out.mono ?_
  rintro e w1 ⟨rfl, hb⟩
  have HB := Lib.hid hb
  clear hb
  go_wp2_with fail
  go_ret
  exact ⟨rfl, HB.out⟩

theorem repeat_eq (c : Nat) : Lib.repeatL [48] c = List.replicate c 48 := by
  induction c with
  | zero => rfl
  | succ c ih => rw [List.replicate_succ, Lib.repeatL, ih]; rfl

set_option maxRecDepth 100000 in
set_option maxHeartbeats 800000 in
theorem name_any (wd : ByteArray) (N : Nat) (w : World) (hw : wd.size ≤ 1000) (hN : N < 18446744073709551616) (htab : Lib.TabIs Tryz.prog w "internal/strconv.uint64pow10" .u64 Lib.pow10Tab) :
    Calls Tryz.prog 85 #[.string wd, .int .u64 N] w (Gives (.string ⟨(Nn.name wd.data.toList N).toArray⟩) w) := by
  have HF := Lib.hid (fmt_any N w hN htab)
  have hl : (Lib.decDigits N).length ≤ 20 := by
    have := Nn.nDigits_le 19 N (Nat.lt_of_lt_of_le hN (by decide))
    rw [Lib.decDigits_length]; exact this
  have HN : Hid (Nn.name wd.data.toList N = wd.data.toList ++ 46 :: (List.replicate (8 - (Lib.decDigits N).length) 48 ++ Lib.decDigits N)) := Lib.hid (by rw [Nn.name, Nn.digs_eq])
  clear htab
  obtain ⟨D, hD⟩ : ∃ D : ByteArray, D = ⟨(Lib.decDigits N).toArray⟩ := ⟨_, rfl⟩
  have hDs : D.size ≤ 20 := by rw [hD]; exact hl
  rw [← hD] at HF
  have HD : Hid (D.data.toList = Lib.decDigits N) := Lib.hid (by rw [hD])
  have HL : Hid ((Lib.decDigits N).length = D.size) := Lib.hid (by rw [hD]; rfl)
  clear hD hl
  go_enter Tryz.func85, Tryz.ntmps85
  go_wp2_with fail
  refine HF.out.mono ?_
  rintro e w1 ⟨rfl, hb1⟩
  have HB1 := Lib.hid hb1
  clear hb1
  go_wp2_with fail
  have hm : max 0 (8 - (D.size : Int)) = ((8 - D.size : Nat) : Int) := by omega
  rw [hm]
  refine (Tryz.strings_Repeat ⟨#[48]⟩ (8 - D.size) w1 (by omega) (by show 1 * (8 - D.size) ≤ _; omega)).mono ?_
  rintro e w2 ⟨rfl, hb2⟩
  have HB2 := Lib.hid (Below.next HB1.out hb2)
  obtain ⟨R, hR⟩ : ∃ R : ByteArray, R = ⟨(Lib.repeatL [48] (8 - D.size)).toArray⟩ := ⟨_, rfl⟩
  have hRs : R.size ≤ 8 := by rw [hR, repeat_eq]; show (List.replicate _ _).length ≤ 8; rw [List.length_replicate]; omega
  have HR : Hid (R.data.toList = List.replicate (8 - D.size) 48) := Lib.hid (by rw [hR, repeat_eq])
  rw [show (Value.string ⟨(Lib.repeatL ((⟨#[48]⟩ : ByteArray).data.toList) (8 - D.size)).toArray⟩) = Value.string R from by rw [hR]]
  clear hb2 HB1 HF hm hR
  have a1 : ¬ 9223372036854775807 < wd.size + 1 := by omega
  have a2 : ¬ 9223372036854775807 < wd.size + 1 + R.size := by omega
  have a3 : ¬ 9223372036854775807 < wd.size + 1 + R.size + D.size := by omega
  go_wp2_with fail
  go_ret
  refine ⟨?_, HB2.out⟩
  refine congrArg (fun x => Ending.returned (Value.string x)) ?_
  apply ByteArray.ext; apply Array.toList_inj.1
  rw [HN.out]
  simp only [ByteArray.data_append, Array.toList_append, HR.out, HD.out, HL.out, List.append_assoc]
  rfl

end Go.Proofs.YtfeconankopjmaaGreatDoor

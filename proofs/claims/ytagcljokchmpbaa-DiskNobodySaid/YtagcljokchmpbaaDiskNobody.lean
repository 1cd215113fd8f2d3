/- The walk of DiskNobody. -/
import Derived.Test.YtagcljokchmpbaaDkNo
namespace Go.Proofs.Ytagcljokchmpbaa
open Go.RowKit Go.Maps
open Dk (Dir Chg Disk File Str)

set_option maxHeartbeats 8000000 in
set_option maxRecDepth 100000 in
theorem nobody_walk (a b : ByteArray) (n : Int) (w : World) (ha : a.size ≤ 9223372036854775807) (hb : b.size ≤ 9223372036854775807) (_ : -9223372036854775808 ≤ n ∧ n ≤ 9223372036854775807) :
    Calls Try.prog 3 #[.string a, .string b, .int .i64 n] w (Gives (.bool true) w) := by
  by_cases hg : (3000 : Int) < a.size ∨ (3000 : Int) < b.size
  · have HA := Lib.hid (awake_any w)
    by_cases h1 : (3000 : Int) < a.size
    · clear hg
      go_enter Try.func3, Try.ntmps3
      go_wp2_with fail
      refine HA.out.mono ?_
      rintro e w1 ⟨rfl, hb1⟩
      have HB1 := Lib.hid hb1; clear hb1
      go_wp2_with fail
      go_ret
      exact ⟨rfl, HB1.out⟩
    · have h2 : (3000 : Int) < b.size := by omega
      have h3 : (a.size : Int) ≤ 3000 := by omega
      clear hg h1
      go_enter Try.func3, Try.ntmps3
      go_wp2_with fail
      refine HA.out.mono ?_
      rintro e w1 ⟨rfl, hb1⟩
      have HB1 := Lib.hid hb1; clear hb1
      go_wp2_with fail
      go_ret
      exact ⟨rfl, HB1.out⟩
  · have h1 : (a.size : Int) ≤ 3000 := by omega
    have h2 : (b.size : Int) ≤ 3000 := by omega
    clear hg
    go_enter Try.func3, Try.ntmps3
    go_wp2_with fail
    obtain ⟨p, hp⟩ : ∃ p, p = w.heap.size + 1 := ⟨_, rfl⟩
    have hn0 : ∀ k : Nat, k < 2 → ∃ po, Nobody ((w.alloc (.cells #[.int .i64 0, .int .i64 0, .int .i64 0, .bool false, .map none, .map none, .slice none 0 0] 27)).alloc (.cells #[.pointer none, .pointer (some ⟨w.heap.size, 0, none⟩)] 23)) po ∧
        ((w.alloc (.cells #[.int .i64 0, .int .i64 0, .int .i64 0, .bool false, .map none, .map none, .slice none 0 0] 27)).alloc (.cells #[.pointer none, .pointer (some ⟨w.heap.size, 0, none⟩)] 23)).cell? ⟨p, k, none⟩ = some (.pointer po) := fun k hk => by
      have hnew : ((w.alloc (.cells #[.int .i64 0, .int .i64 0, .int .i64 0, .bool false, .map none, .map none, .slice none 0 0] 27)).alloc (.cells #[.pointer none, .pointer (some ⟨w.heap.size, 0, none⟩)] 23)).heap[p]? = some (.cells #[.pointer none, .pointer (some ⟨w.heap.size, 0, none⟩)] 23 (0, 0)) := by
        have := heap_alloc_new (w.alloc (.cells #[.int .i64 0, .int .i64 0, .int .i64 0, .bool false, .map none, .map none, .slice none 0 0] 27)) (.cells #[.pointer none, .pointer (some ⟨w.heap.size, 0, none⟩)] 23)
        rw [World.size_alloc] at this
        rw [hp]; exact this
      rcases (show k = 0 ∨ k = 1 by omega) with rfl | rfl
      · exact ⟨none, Or.inl rfl, by rw [cell_of hnew]; rfl⟩
      · refine ⟨some ⟨w.heap.size, 0, none⟩, Or.inr ⟨_, rfl, ?_⟩, by rw [cell_of hnew]; rfl⟩
        exact ((((Below.refl _ (w.alloc (.cells #[.int .i64 0, .int .i64 0, .int .i64 0, .bool false, .map none, .map none, .slice none 0 0] 27))).alloc (Nat.le_refl _) _).block w.heap.size (by simp))).trans (heap_alloc_new w _)
    have hpl : p < ((w.alloc (.cells #[.int .i64 0, .int .i64 0, .int .i64 0, .bool false, .map none, .map none, .slice none 0 0] 27)).alloc (.cells #[.pointer none, .pointer (some ⟨w.heap.size, 0, none⟩)] 23)).heap.size := by rw [World.size_alloc, World.size_alloc]; omega
    have hb2 : Below w.heap.size w ((w.alloc (.cells #[.int .i64 0, .int .i64 0, .int .i64 0, .bool false, .map none, .map none, .slice none 0 0] 27)).alloc (.cells #[.pointer none, .pointer (some ⟨w.heap.size, 0, none⟩)] 23)) := ((Below.refl _ w).alloc (Nat.le_refl _) _).alloc (by simp) _
    rw [← hp]
    generalize (w.alloc (.cells #[.int .i64 0, .int .i64 0, .int .i64 0, .bool false, .map none, .map none, .slice none 0 0] 27)).alloc (.cells #[.pointer none, .pointer (some ⟨w.heap.size, 0, none⟩)] 23) = w2 at *
    have HN := Lib.hid hn0; have HB := Lib.hid hb2; have HPL := Lib.hid hpl
    clear hn0 hb2 hpl hp
    go_loopw [26] (fun z wr => ∃ k : Nat, k ≤ 2 ∧ z = .int .i64 (k : Int) ∧ Hid (Below w2.heap.size w2 wr)) (fun z _ => 2 - (intOf z).toNat)
    case atStart => exact ⟨0, by omega, rfl, Lib.hid (Below.refl _ _)⟩
    case round =>
      obtain ⟨k, hk, rfl, HK⟩ := hrel
      by_cases hlt : k < 2
      · have hlt2 : (k : Int) < 2 := by omega
        obtain ⟨po, hno, hcell⟩ := HN.out k hlt
        have c0 := (HK.out.cell (p := ⟨p, k, none⟩) HPL.out).trans hcell
        have NO := Lib.hid (hno.below HK.out)
        clear hno hcell
        go_wp2_with fail
        refine (fuse_no _ po NO.out n).mono ?_
        rintro e wz ⟨rfl, rfl⟩
        go_wp2_with fail
        refine (crash_no _ po NO.out n).mono ?_
        rintro e w3 ⟨rfl, hb3⟩
        have NO3 := Lib.hid (NO.out.below hb3)
        have B3 := Lib.hid (Below.next HK.out hb3)
        clear hb3 NO c0
        go_wp2_with fail
        refine (start_no _ po NO3.out).mono ?_
        rintro e wz ⟨rfl, rfl⟩
        go_wp2_with fail
        refine (read_no _ po NO3.out a).mono ?_
        rintro e wz ⟨rfl, rfl⟩
        go_wp2_with fail
        refine (create_no _ po NO3.out a).mono ?_
        rintro e wz ⟨rfl, rfl⟩
        go_wp2_with fail
        refine (append_no _ po NO3.out a b).mono ?_
        rintro e wz ⟨rfl, rfl⟩
        go_wp2_with fail
        refine (sync_no _ po NO3.out a).mono ?_
        rintro e wz ⟨rfl, rfl⟩
        go_wp2_with fail
        refine (rename_no _ po NO3.out a b).mono ?_
        rintro e wz ⟨rfl, rfl⟩
        go_wp2_with fail
        refine (delete_no _ po NO3.out a).mono ?_
        rintro e wz ⟨rfl, rfl⟩
        go_wp2_with fail
        refine (dirSync_no _ po NO3.out).mono ?_
        rintro e wz ⟨rfl, rfl⟩
        go_wp2_with fail
        refine (list_no _ po NO3.out).mono ?_
        rintro e wz ⟨rfl, rfl⟩
        go_wp2_with fail
        refine (used_no _ po NO3.out).mono ?_
        rintro e wz ⟨rfl, rfl⟩
        go_wp2_with fail
        refine (room_no _ po NO3.out).mono ?_
        rintro e wz ⟨rfl, rfl⟩
        go_wp2_with fail
        refine (fused_no _ po NO3.out).mono ?_
        rintro e wz ⟨rfl, rfl⟩
        go_wp2_with fail
        refine (down_no _ po NO3.out).mono ?_
        rintro e wz ⟨rfl, rfl⟩
        go_wp2_with fail
        refine (twin_no _ po NO3.out).mono ?_
        rintro e wz ⟨rfl, rfl⟩
        go_wp2_with fail
        refine (same_no _ po none NO3.out false (made_no _ none (Or.inl rfl))).mono ?_
        rintro e wz ⟨rfl, rfl⟩
        go_wp2_with fail
        refine (new_any _ 0).mono ?_
        rintro e w4 ⟨L, rfl, hh, hb4, _⟩
        have NO4 := Lib.hid (NO3.out.below hb4)
        have B4 := Lib.hid (Below.next B3.out hb4)
        have HH := Lib.hid hh
        clear hb4 NO3 hh
        go_wp2_with fail
        refine (same_no _ po (some ⟨L.d, 0, none⟩) NO4.out true (made_any _ HH.out)).mono ?_
        rintro e wz ⟨rfl, rfl⟩
        go_wp2_with fail
        go_roundw
        case rel => exact ⟨k + 1, by omega, by go_num, B4⟩
        case measure => simp [intOf]; omega
      · obtain rfl : k = 2 := by omega
        have HA := Lib.hid (awake_any wr)
        clear hlt
        go_wp2_with fail
        refine HA.out.mono ?_
        rintro e w5 ⟨rfl, hb5⟩
        have HB5 := Lib.hid hb5; clear hb5
        go_wp2_with fail
        go_ret
        exact ⟨rfl, HB.out.trans ((Below.next HK.out HB5.out).mono HB.out.size)⟩

end Go.Proofs.Ytagcljokchmpbaa

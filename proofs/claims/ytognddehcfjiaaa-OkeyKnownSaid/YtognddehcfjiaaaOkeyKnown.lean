/- The walk of OkeyKnown. -/
import Derived.Test.YtognddehcfjiaaaOkeyBack
namespace Go.Proofs.Ytognddehcfjiaaa
open Go.RowKit
set_option linter.unusedVariables false

def badKeys : List ByteArray := [⟨#[1]⟩, ⟨#[2, 97]⟩, ⟨#[2, 0, 2]⟩, ⟨#[3]⟩, ⟨#[1, 248, 0]⟩, ⟨#[2, 97, 0]⟩]
theorem bad0 : prl [1] = none := by kernel_rfl
theorem bad1 : prl [2, 97] = none := by kernel_rfl
theorem bad2 : prl [2, 0, 2] = none := by kernel_rfl
theorem bad3 : prl [3] = none := by kernel_rfl
theorem bad4 : prl [1, 248, 0] = none := by kernel_rfl
theorem bad5 : prl [2, 97, 0] = none := by kernel_rfl
theorem bad_none : ∀ k, k < 6 → prl (badKeys.getD k ByteArray.empty).data.toList = none := by
  intro k hk
  match k, hk with
  | 0, _ => exact bad0
  | 1, _ => exact bad1
  | 2, _ => exact bad2
  | 3, _ => exact bad3
  | 4, _ => exact bad4
  | 5, _ => exact bad5
theorem bad_size : ∀ k, (badKeys.getD k ByteArray.empty).size ≤ 1000000000 := by
  intro k
  match k with
  | 0 => decide
  | 1 => decide
  | 2 => decide
  | 3 => decide
  | 4 => decide
  | 5 => decide
  | _ + 6 => simp [badKeys]
theorem bad_cells (w : World) : ∀ k, k < 6 → (w.alloc (.cells #[.string ⟨#[1]⟩, .string ⟨#[2, 97]⟩, .string ⟨#[2, 0, 2]⟩, .string ⟨#[3]⟩, .string ⟨#[1, 248, 0]⟩, .string ⟨#[2, 97, 0]⟩] 9)).cell? ⟨w.heap.size, k, none⟩ = some (.string (badKeys.getD k ByteArray.empty)) := by
  intro k hk
  rw [World.cell?_alloc_mark]
  match k, hk with
  | 0, _ => rfl
  | 1, _ => rfl
  | 2, _ => rfl
  | 3, _ => rfl
  | 4, _ => rfl
  | 5, _ => rfl
theorem prl_five : prl (⟨#[1, 5]⟩ : ByteArray).data.toList = some [⟨false, ⟨#[]⟩, 5⟩] := by kernel_rfl
theorem prl_empty : prl (⟨#[]⟩ : ByteArray).data.toList = some [] := by kernel_rfl
theorem keyl_none : keyl [] = [] := rfl
theorem keyl_seven : keyl [⟨false, ⟨#[]⟩, 7⟩] = [1, 7] := by kernel_rfl
theorem keyl_seven3 : keyl [⟨false, ⟨#[]⟩, 7⟩] ++ [3] = [1, 7, 3] := by kernel_rfl
theorem cmp_a5 : cmpL [⟨true, ⟨#[97]⟩, 0⟩] [⟨false, ⟨#[]⟩, 5⟩] = 1 := by kernel_rfl
theorem cmp_aa0 : cmpL [⟨true, ⟨#[97]⟩, 0⟩] [⟨true, ⟨#[97, 0]⟩, 0⟩] = -1 := by kernel_rfl
theorem cmp_aa : cmpL [⟨true, ⟨#[97]⟩, 0⟩] [⟨true, ⟨#[97]⟩, 0⟩] = 0 := by kernel_rfl
theorem sees_oneP (w : World) (p : Pt) (t : TypeId) : SeesP (w.alloc (.cells #[.bool p.t, .string p.s, .int .u64 p.n] t)) (.slice (some ⟨w.heap.size, 0, none⟩) 1 1) [p] := by
  refine sees_builtP (ps := [p]) (fun i hi => ?_) 1
  match i, hi with
  | 0, _ => exact ⟨rfl, rfl, rfl⟩

set_option maxRecDepth 100000 in
set_option maxHeartbeats 4000000 in
theorem known_walk (w : World) : Calls Try.prog 3 #[] w (Gives (.bool true) w) := by
  go_enter Try.func3, Try.ntmps3
  go_wp2_with fail
  refine (partsS_some _ _ 1 _ (by decide) prl_five rfl).mono ?_
  rintro e w1 ⟨ao1, cap1, rfl, hs1, hb1⟩
  obtain ⟨_, b, off, hc⟩ := hs1.get
  obtain ⟨rfl, hlt, hp⟩ := hc 0 (by decide)
  have HP := Lib.hid hp; have HW1 := Lib.hid hb1; have HLT := Lib.hid hlt
  clear hs1 hc hb1 hp hlt
  go_wp2_with fail
  refine (partsS_some _ _ 0 _ (by decide) prl_empty rfl).mono ?_
  rintro e w2 ⟨ao2, cap2, rfl, hs2, hb2⟩
  have HW2 := Lib.hid (Below.next HW1.out hb2)
  obtain ⟨c0, c1, c2⟩ := HP.out.below hb2 HLT.out
  have hlt2 : b < w2.heap.size := Nat.lt_of_lt_of_le HLT.out hb2.size
  clear hs2 hb2 HW1 HP HLT
  simp only [Nat.zero_mul, Nat.add_zero, List.getD_cons_zero] at c0 c1 c2
  go_wp2_with fail
  go_region_held3 (fun w' => w'.cell? ⟨b, off, none⟩ = some (.bool false) ∧ w'.cell? ⟨b, off + 1, none⟩ = some (.string ⟨#[]⟩) ∧ w'.cell? ⟨b, off + 2, none⟩ = some (.int .u64 5))
    (first
      | go_keep
      | (go_split_ands
         refine ⟨?_, ?_, ?_⟩
         · (rw [hb4.cell (p := ⟨b, off, none⟩) (by first | exact hlt2 | (have := hb3.size; simp at this ⊢; omega))]; first | assumption | simp)
         · (rw [hb4.cell (p := ⟨b, off + 1, none⟩) (by first | exact hlt2 | (have := hb3.size; simp at this ⊢; omega))]; first | assumption | simp)
         · (rw [hb4.cell (p := ⟨b, off + 2, none⟩) (by first | exact hlt2 | (have := hb3.size; simp at this ⊢; omega))]; first | assumption | simp))
      | (go_split_ands
         refine ⟨?_, ?_, ?_⟩
         · (rw [hb3.cell (p := ⟨b, off, none⟩) hlt2]; first | assumption | simp)
         · (rw [hb3.cell (p := ⟨b, off + 1, none⟩) hlt2]; first | assumption | simp)
         · (rw [hb3.cell (p := ⟨b, off + 2, none⟩) hlt2]; first | assumption | simp)))
    (first
      | (go_at_call 10; refine (key_any _ _ _ [] _ (Or.inl ⟨rfl, _, _, rfl⟩) (by decide) (by decide) (fun i => by simp [pd])).mono ?_; rintro e w3 ⟨rfl, hb3⟩; rw [keyl_none])
      | (go_at_call 11; refine (num_any 5 _).mono ?_; rintro e w4 ⟨rfl, hb4⟩; unfold partV))
  have HW4 : Hid (Below w.heap.size w w4) := Below.next (Below.next HW2.out.drew hb3) hb4
  clear hb3 hb4 HW2 c0 c1 c2
  go_wp2_with fail
  have HC := Lib.hid (bad_cells w4)
  generalize hW : w4.alloc (.cells #[.string ⟨#[1]⟩, .string ⟨#[2, 97]⟩, .string ⟨#[2, 0, 2]⟩, .string ⟨#[3]⟩, .string ⟨#[1, 248, 0]⟩, .string ⟨#[2, 97, 0]⟩] 9) = W at *
  have HB : Hid (Below w.heap.size w W) := by rw [← hW]; exact Below.next_alloc HW4.out _
  have HLW : Hid (w4.heap.size < W.heap.size) := by rw [← hW]; exact Lib.hid (by simp)
  clear HW4 hW
  go_loopw [50] (fun i wr => ∃ k : Nat, k ≤ 6 ∧ i = .int .i64 k ∧ Below w.heap.size w wr ∧ Below W.heap.size W wr) (fun i _ => 6 - (intOf i).toNat)
  case atStart => exact ⟨0, by omega, rfl, HB.out, Below.refl _ _⟩
  case round =>
    obtain ⟨k, hk, rfl, hbel, hbelW⟩ := hrel
    by_cases hlt : k < 6
    · have hcell := (hbelW.cell (p := ⟨w4.heap.size, k, none⟩) HLW.out).trans (HC.out k hlt)
      have HN := Lib.hid (bad_none k hlt)
      have HZ := Lib.hid (bad_size k)
      generalize badKeys.getD k ByteArray.empty = x at *
      go_wp2_with fail
      refine (partsS_none x _ HZ.out HN.out).mono ?_
      rintro e w5 ⟨rfl, hb5⟩
      go_wp2_with fail
      go_roundw
      case rel => exact ⟨k + 1, by omega, by go_num, Below.next hbel hb5, Below.next hbelW hb5⟩
      case measure => simp [intOf]; omega
    · have HWr := Lib.hid hbel
      clear hbel hbelW
      go_wp2_with fail
      refine (str_any _ _ (by decide)).mono ?_
      rintro e w5 ⟨rfl, hb5⟩
      unfold partV
      have HW5 := Lib.hid (Below.next HWr.out hb5); clear hb5
      go_wp2_with fail
      have HA := Lib.hid (sees_oneP w5 ⟨true, ⟨#[97]⟩, 0⟩ 28)
      have HW6 := Lib.hid (Below.next_alloc HW5.out (.cells #[.bool true, .string ⟨#[97]⟩, .int .u64 0] 28))
      clear HW5 HWr
      refine (num_any 5 _).mono ?_
      rintro e w7 ⟨rfl, hb7⟩
      unfold partV
      have HW7 := Lib.hid (Below.next HW6.out hb7); have HA7 := Lib.hid (HA.out.below hb7); clear hb7 HW6 HA
      go_wp2_with fail
      have HF := Lib.hid (sees_oneP w7 ⟨false, ⟨#[]⟩, 5⟩ 28)
      have hx8 : Below w7.heap.size w7 (w7.alloc (.cells #[.bool false, .string ⟨#[]⟩, .int .u64 5] 28)) := (Below.refl _ _).alloc (Nat.le_refl _) _
      have HW8 := Lib.hid (Below.next HW7.out hx8); have HA8 := Lib.hid (HA7.out.below hx8); clear hx8 HW7 HA7
      refine (num_any 7 _).mono ?_
      rintro e w9 ⟨rfl, hb9⟩
      unfold partV
      have HW9 := Lib.hid (Below.next HW8.out hb9); have HA9 := Lib.hid (HA8.out.below hb9); have HF9 := Lib.hid (HF.out.below hb9); clear hb9 HW8 HA8 HF
      go_wp2_with fail
      have HS := Lib.hid (sees_oneP w9 ⟨false, ⟨#[]⟩, 7⟩ 28)
      have hx10 : Below w9.heap.size w9 (w9.alloc (.cells #[.bool false, .string ⟨#[]⟩, .int .u64 7] 28)) := (Below.refl _ _).alloc (Nat.le_refl _) _
      have HW10 := Lib.hid (Below.next HW9.out hx10); have HA10 := Lib.hid (HA9.out.below hx10); have HF10 := Lib.hid (HF9.out.below hx10); clear hx10 HW9 HA9 HF9
      refine (range_any _ _ _ [⟨false, ⟨#[]⟩, 7⟩] _ HS.out (by decide) (by decide) (fun i => by match i with | 0 => decide | _ + 1 => simp [pd])).mono ?_
      rintro e w11 ⟨rfl, hb11⟩
      rw [keyl_seven, List.cons_append, List.cons_append, List.nil_append]
      have HW11 := Lib.hid (Below.next HW10.out hb11); have HA11 := Lib.hid (HA10.out.below hb11); have HF11 := Lib.hid (HF10.out.below hb11); clear hb11 HW10 HA10 HF10 HS
      go_wp2_with fail
      refine (compare_any _ _ _ _ _ _ [⟨true, ⟨#[97]⟩, 0⟩] [⟨false, ⟨#[]⟩, 5⟩] _ HA11.out HF11.out (by decide) (by decide)).mono ?_
      rintro e w12 ⟨rfl, hb12⟩
      rw [cmp_a5]
      have HW12 := Lib.hid (Below.next HW11.out hb12); have HA12 := Lib.hid (HA11.out.below hb12); clear hb12 HW11 HA11 HF11
      go_wp2_with fail
      refine (str_any _ _ (by decide)).mono ?_
      rintro e w13 ⟨rfl, hb13⟩
      unfold partV
      have HW13 := Lib.hid (Below.next HW12.out hb13); have HA13 := Lib.hid (HA12.out.below hb13); clear hb13 HW12 HA12
      go_wp2_with fail
      have HZ := Lib.hid (sees_oneP w13 ⟨true, ⟨#[97, 0]⟩, 0⟩ 28)
      have hx14 : Below w13.heap.size w13 (w13.alloc (.cells #[.bool true, .string ⟨#[97, 0]⟩, .int .u64 0] 28)) := (Below.refl _ _).alloc (Nat.le_refl _) _
      have HW14 := Lib.hid (Below.next HW13.out hx14); have HA14 := Lib.hid (HA13.out.below hx14); clear hx14 HW13 HA13
      refine (compare_any _ _ _ _ _ _ [⟨true, ⟨#[97]⟩, 0⟩] [⟨true, ⟨#[97, 0]⟩, 0⟩] _ HA14.out HZ.out (by decide) (by decide)).mono ?_
      rintro e w15 ⟨rfl, hb15⟩
      rw [cmp_aa0]
      have HW15 := Lib.hid (Below.next HW14.out hb15); have HA15 := Lib.hid (HA14.out.below hb15); clear hb15 HW14 HA14 HZ
      go_wp2_with fail
      refine (compare_any _ _ _ _ _ _ [⟨true, ⟨#[97]⟩, 0⟩] [⟨true, ⟨#[97]⟩, 0⟩] _ HA15.out HA15.out (by decide) (by decide)).mono ?_
      rintro e w16 ⟨rfl, hb16⟩
      rw [cmp_aa]
      have HW16 := Lib.hid (Below.next HW15.out hb16); clear hb16 HW15 HA15
      go_wp2_with fail
      refine (awake_any _).mono ?_
      rintro e w17 ⟨rfl, hb17⟩
      go_wp2_with fail
      go_ret
      exact ⟨rfl, Below.next HW16.out hb17⟩

end Go.Proofs.Ytognddehcfjiaaa

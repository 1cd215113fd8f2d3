/- The walk of CellBack. -/
import Derived.Test.YtclgjphegaoohaaDoorCellReads
namespace Go.Proofs.YtclgjphegaoohaaDoor
open Go.RowKit

set_option maxHeartbeats 400000 in
theorem back_great (f l : Bool) (n : Int) (d s : ByteArray) (w : World) (hT : Tab w) (hd : 3000 < (d.size : Int)) :
    Calls Tryd.prog 8 #[.agg #[.bool f, .bool l, .int .i64 n, .string d], .string s] w (Gives (.bool true) w) := by
  have HT := Lib.hid hT; clear hT
  go_enter Tryd.func8, Tryd.ntmps8
  go_wp2_with fail
  refine (awake_any _ (HT.out.alloc _)).mono ?_
  rintro e w1 ⟨rfl, hb⟩
  have HB := Lib.hid hb; clear hb
  go_wp2_with fail
  go_ret
  exact ⟨rfl, Below.next ((Below.refl _ _).alloc (Nat.le_refl _) _) HB.out⟩

/-- What Read tells of any text, and what making it again tells. -/
theorem rdV_cases (s : ByteArray) : (∃ (f l : Bool) (n : Int) (d : ByteArray), rdV s = .tuple #[.agg #[.bool f, .bool l, .int .i64 n, .string d], .bool true] ∧ Cr.may ⟨f, l, n, d⟩ = true ∧ (⟨(Cr.mk ⟨f, l, n, d⟩).toArray⟩ : ByteArray) = s ∧ s.size = 32) ∨ rdV s = noV := by
  unfold rdV
  cases e : Cr.rd s.data.toList with
  | none => exact .inr rfl
  | some c =>
    obtain ⟨h1, h2, h3⟩ := Cr.rd_some e
    exact .inl ⟨c.first, c.last, c.num, c.data, rfl, h1, by show (⟨(Cr.mk c).toArray⟩ : ByteArray) = s; rw [h2], by rw [Cr.size_list] at h3; exact h3⟩
theorem rdV_len {s : ByteArray} (h : ¬ s.size = 32) : rdV s = noV := by
  unfold rdV
  rw [Cr.rd_none (by rw [Cr.size_list]; exact h)]

set_option maxRecDepth 100000 in
set_option maxHeartbeats 2000000 in
theorem back_00 (f l : Bool) (n : Int) (d s : ByteArray) (w : World) (hT : Tab w) (hd : ¬ 3000 < (d.size : Int)) (h100 : ¬ 100 < (s.size : Int)) (hm : Cr.may ⟨f, l, n, d⟩ = false) :
    Calls Tryd.prog 8 #[.agg #[.bool f, .bool l, .int .i64 n, .string d], .string s] w (Gives (.bool true) w) := by
  have HT := Lib.hid hT; clear hT
  have HC := Lib.hid (rdV_cases s)
  have HM := Lib.hid hm; clear hm
  have L0 := Lib.hid (lies_new w f l n d 23)
  have B0 := Lib.hid ((Below.refl w.heap.size w).alloc (Nat.le_refl _) (.cells #[.bool f, .bool l, .int .i64 n, .string d] 23))
  go_enter Tryd.func8, Tryd.ntmps8
  go_wp2_with fail
  generalize w.alloc (.cells #[.bool f, .bool l, .int .i64 n, .string d] 23) = w0 at *
  refine (make_no f l n d _ (by omega) HM.out).mono ?_
  rintro e w7 ⟨rfl, hb⟩
  have B7 := Lib.hid (Below.next B0.out hb)
  clear hb B0 L0
  go_wp2_with fail
  refine (read_any s _ (HT.out.below B7.out)).mono ?_
  rintro e w8 ⟨rfl, hb⟩
  have B8 := Lib.hid (Below.next B7.out hb)
  clear hb
  rcases HC.out with ⟨f2, l2, n2, d2, hr, hm2, hs2, hz2⟩ | hr
  · rw [hr]
    have HM2 := Lib.hid hm2
    have HMK2 := Lib.hid (fun (x : World) (hx : Tab x) => make_yes f2 l2 n2 d2 x hx hm2)
    rw [hs2] at HMK2
    have hz3 : ((s.size : Int) == 32) = true := by rw [hz2]; rfl
    clear hr hm2 hs2 hz2 HC
    have B9 := Lib.hid (Below.next_alloc B8.out (.cells #[.bool f2, .bool l2, .int .i64 n2, .string d2] 23))
    go_wp2_with fail
    refine (HMK2.out _ (HT.out.below B9.out)).mono ?_
    rintro e w9 ⟨rfl, hb⟩
    have BA := Lib.hid (Below.next B9.out hb)
    clear hb
    go_wp2_with fail
    refine (awake_any _ (HT.out.below BA.out)).mono ?_
    rintro e wA ⟨rfl, hb⟩
    have BB := Lib.hid (Below.next BA.out hb)
    clear hb
    go_wp2_with fail
    go_ret
    exact ⟨rfl, BB.out⟩
  · rw [hr]
    clear hr HC
    unfold noV
    have B9 := Lib.hid (Below.next_alloc B8.out (.cells #[.bool false, .bool false, .int .i64 0, .string ⟨#[]⟩] 23))
    go_wp2_with fail
    refine (awake_any _ (HT.out.below B9.out)).mono ?_
    rintro e wA ⟨rfl, hb⟩
    have BB := Lib.hid (Below.next B9.out hb)
    clear hb
    go_wp2_with fail
    go_ret
    exact ⟨rfl, BB.out⟩

set_option maxRecDepth 100000 in
set_option maxHeartbeats 2000000 in
theorem back_01 (f l : Bool) (n : Int) (d s : ByteArray) (w : World) (hT : Tab w) (hd : ¬ 3000 < (d.size : Int)) (h100 : ¬ 100 < (s.size : Int)) (hm : Cr.may ⟨f, l, n, d⟩ = true) :
    Calls Tryd.prog 8 #[.agg #[.bool f, .bool l, .int .i64 n, .string d], .string s] w (Gives (.bool true) w) := by
  have HT := Lib.hid hT; clear hT
  have HC := Lib.hid (rdV_cases s)
  obtain ⟨R, hR⟩ : ∃ R : ByteArray, R = ⟨(Cr.mk ⟨f, l, n, d⟩).toArray⟩ := ⟨_, rfl⟩
  have hRs : R.size = 32 := by rw [hR]; exact Cr.mk_length (Cr.may_size hm)
  have HMK := Lib.hid (fun (x : World) (hx : Tab x) => make_yes f l n d x hx hm)
  rw [← hR] at HMK
  have HRD : Hid (rdV R = .tuple #[.agg #[.bool f, .bool l, .int .i64 n, .string d], .bool true]) := by rw [hR]; exact Lib.hid (rdV_mk hm)
  obtain ⟨R1, hR1⟩ : ∃ R1 : ByteArray, R1 = R.extract 1 R.size := ⟨_, rfl⟩
  have hsl2 : ∀ w : World, (Instr.slice 9 (.string R) (some (.int .i64 1)) none none).run Tryd.prog w = .ok (.string R1) w := fun w => by
    rw [run_slice_string_l w 9 R Tryd.underlying9 .i64 1 (by omega) (by omega), hR1]
    rfl
  have HR1 : Hid (rdV R1 = noV) := Lib.hid (rdV_len (by rw [hR1, ByteArray.size_extract]; omega))
  obtain ⟨R2, hR2⟩ : ∃ R2 : ByteArray, R2 = R ++ ⟨#[0]⟩ := ⟨_, rfl⟩
  have HR2 : Hid (rdV R2 = noV) := Lib.hid (rdV_len (by rw [hR2, ByteArray.size_append, hRs]; decide))
  have HRE := Lib.hid hR2
  have hz : ((R.size : Int) == 0) = false := by rw [beq_eq_false_iff_ne]; omega
  have hadd : ¬ 9223372036854775807 < R.size + 1 := by omega
  have hR0 : R.size ≤ 32 := by omega
  clear hR hRs hm hR1 hR2
  have L0 := Lib.hid (lies_new w f l n d 23)
  have B0 := Lib.hid ((Below.refl w.heap.size w).alloc (Nat.le_refl _) (.cells #[.bool f, .bool l, .int .i64 n, .string d] 23))
  go_enter Tryd.func8, Tryd.ntmps8
  go_wp2_with fail
  generalize w.alloc (.cells #[.bool f, .bool l, .int .i64 n, .string d] 23) = w0 at *
  refine (HMK.out _ (HT.out.below B0.out)).mono ?_
  rintro e w1 ⟨rfl, hb⟩
  have L1 := Lib.hid (L0.out.below hb)
  have B1 := Lib.hid (Below.next B0.out hb)
  clear hb L0 B0
  go_wp2_with fail
  refine (read_any R _ (HT.out.below B1.out)).mono ?_
  rintro e w2 ⟨rfl, hb⟩
  rw [HRD.out]
  have L2 := Lib.hid ((L1.out.below hb).below ((Below.refl _ w2).alloc (Nat.le_refl _) (.cells #[.bool f, .bool l, .int .i64 n, .string d] 23)))
  have M2 := Lib.hid (lies_new w2 f l n d 23)
  have B2 := Lib.hid (Below.next_alloc (Below.next B1.out hb) (.cells #[.bool f, .bool l, .int .i64 n, .string d] 23))
  clear hb L1 B1
  go_wp2_with fail
  generalize w2.alloc (.cells #[.bool f, .bool l, .int .i64 n, .string d] 23) = w3 at *
  generalize w2.heap.size = p at *
  refine (read_any R1 _ (HT.out.below B2.out)).mono ?_
  rintro e w4 ⟨rfl, hb⟩
  rw [HR1.out]
  unfold noV
  have L4 := Lib.hid ((L2.out.below hb).below ((Below.refl _ w4).alloc (Nat.le_refl _) (.cells #[.bool false, .bool false, .int .i64 0, .string ⟨#[]⟩] 23)))
  have M4 := Lib.hid ((M2.out.below hb).below ((Below.refl _ w4).alloc (Nat.le_refl _) (.cells #[.bool false, .bool false, .int .i64 0, .string ⟨#[]⟩] 23)))
  have B4 := Lib.hid (Below.next_alloc (Below.next B2.out hb) (.cells #[.bool false, .bool false, .int .i64 0, .string ⟨#[]⟩] 23))
  clear hb L2 M2 B2
  go_wp2_with fail
  generalize w4.alloc (.cells #[.bool false, .bool false, .int .i64 0, .string ⟨#[]⟩] 23) = w5 at *
  generalize w4.heap.size = p4 at *
  rw [← HRE.out]
  refine (read_any R2 _ (HT.out.below B4.out)).mono ?_
  rintro e w6 ⟨rfl, hb⟩
  rw [HR2.out]
  unfold noV
  have L6 := Lib.hid ((L4.out.below hb).below ((Below.refl _ w6).alloc (Nat.le_refl _) (.cells #[.bool false, .bool false, .int .i64 0, .string ⟨#[]⟩] 23)))
  have M6 := Lib.hid ((M4.out.below hb).below ((Below.refl _ w6).alloc (Nat.le_refl _) (.cells #[.bool false, .bool false, .int .i64 0, .string ⟨#[]⟩] 23)))
  have B6 := Lib.hid (Below.next_alloc (Below.next B4.out hb) (.cells #[.bool false, .bool false, .int .i64 0, .string ⟨#[]⟩] 23))
  clear hb L4 M4 B4
  obtain ⟨a0, a1, a2, a3⟩ := L6.out.at
  obtain ⟨b0, b1, b2, b3⟩ := M6.out.at
  go_wp2_with fail
  generalize w6.alloc (.cells #[.bool false, .bool false, .int .i64 0, .string ⟨#[]⟩] 23) = w7 at *
  generalize w6.heap.size = p6 at *
  clear a0 a1 a2 a3 b0 b1 b2 b3 HMK HRD HR1 HR2 hsl2 hz hadd hR0
  have B7 := B6
  refine (read_any s _ (HT.out.below B7.out)).mono ?_
  rintro e w8 ⟨rfl, hb⟩
  have B8 := Lib.hid (Below.next B7.out hb)
  clear hb
  rcases HC.out with ⟨f2, l2, n2, d2, hr, hm2, hs2, hz2⟩ | hr
  · rw [hr]
    have HM2 := Lib.hid hm2
    have HMK2 := Lib.hid (fun (x : World) (hx : Tab x) => make_yes f2 l2 n2 d2 x hx hm2)
    rw [hs2] at HMK2
    have hz3 : ((s.size : Int) == 32) = true := by rw [hz2]; rfl
    clear hr hm2 hs2 hz2 HC
    have B9 := Lib.hid (Below.next_alloc B8.out (.cells #[.bool f2, .bool l2, .int .i64 n2, .string d2] 23))
    go_wp2_with fail
    refine (HMK2.out _ (HT.out.below B9.out)).mono ?_
    rintro e w9 ⟨rfl, hb⟩
    have BA := Lib.hid (Below.next B9.out hb)
    clear hb
    go_wp2_with fail
    refine (awake_any _ (HT.out.below BA.out)).mono ?_
    rintro e wA ⟨rfl, hb⟩
    have BB := Lib.hid (Below.next BA.out hb)
    clear hb
    go_wp2_with fail
    go_ret
    exact ⟨rfl, BB.out⟩
  · rw [hr]
    clear hr HC
    unfold noV
    have B9 := Lib.hid (Below.next_alloc B8.out (.cells #[.bool false, .bool false, .int .i64 0, .string ⟨#[]⟩] 23))
    go_wp2_with fail
    refine (awake_any _ (HT.out.below B9.out)).mono ?_
    rintro e wA ⟨rfl, hb⟩
    have BB := Lib.hid (Below.next B9.out hb)
    clear hb
    go_wp2_with fail
    go_ret
    exact ⟨rfl, BB.out⟩

set_option maxRecDepth 100000 in
set_option maxHeartbeats 2000000 in
theorem back_10 (f l : Bool) (n : Int) (d s : ByteArray) (w : World) (hT : Tab w) (hd : ¬ 3000 < (d.size : Int)) (h100 : 100 < (s.size : Int)) (hm : Cr.may ⟨f, l, n, d⟩ = false) :
    Calls Tryd.prog 8 #[.agg #[.bool f, .bool l, .int .i64 n, .string d], .string s] w (Gives (.bool true) w) := by
  have HT := Lib.hid hT; clear hT
  obtain ⟨s1, hs1⟩ : ∃ s1, s1 = s.extract 0 100 := ⟨_, rfl⟩
  have hs1s : s1.size = 100 := by rw [hs1, ByteArray.size_extract]; omega
  have hsl1 : ∀ w : World, (Instr.slice 9 (.string s) none (some (.int .i64 100)) none).run Tryd.prog w = .ok (.string s1) w := fun w => by
    rw [run_slice_string_h w 9 s Tryd.underlying9 .i64 100 (by omega) (by omega), hs1]
    rfl
  have h99 : s1.size ≤ 100 := by omega
  clear hs1 hs1s
  have HC := Lib.hid (rdV_cases s1)
  have HM := Lib.hid hm; clear hm
  have L0 := Lib.hid (lies_new w f l n d 23)
  have B0 := Lib.hid ((Below.refl w.heap.size w).alloc (Nat.le_refl _) (.cells #[.bool f, .bool l, .int .i64 n, .string d] 23))
  go_enter Tryd.func8, Tryd.ntmps8
  go_wp2_with fail
  generalize w.alloc (.cells #[.bool f, .bool l, .int .i64 n, .string d] 23) = w0 at *
  refine (make_no f l n d _ (by omega) HM.out).mono ?_
  rintro e w7 ⟨rfl, hb⟩
  have B7 := Lib.hid (Below.next B0.out hb)
  clear hb B0 L0
  go_wp2_with fail
  refine (read_any s1 _ (HT.out.below B7.out)).mono ?_
  rintro e w8 ⟨rfl, hb⟩
  have B8 := Lib.hid (Below.next B7.out hb)
  clear hb
  rcases HC.out with ⟨f2, l2, n2, d2, hr, hm2, hs2, hz2⟩ | hr
  · rw [hr]
    have HM2 := Lib.hid hm2
    have HMK2 := Lib.hid (fun (x : World) (hx : Tab x) => make_yes f2 l2 n2 d2 x hx hm2)
    rw [hs2] at HMK2
    have hz3 : ((s1.size : Int) == 32) = true := by rw [hz2]; rfl
    clear hr hm2 hs2 hz2 HC
    have B9 := Lib.hid (Below.next_alloc B8.out (.cells #[.bool f2, .bool l2, .int .i64 n2, .string d2] 23))
    go_wp2_with fail
    refine (HMK2.out _ (HT.out.below B9.out)).mono ?_
    rintro e w9 ⟨rfl, hb⟩
    have BA := Lib.hid (Below.next B9.out hb)
    clear hb
    go_wp2_with fail
    refine (awake_any _ (HT.out.below BA.out)).mono ?_
    rintro e wA ⟨rfl, hb⟩
    have BB := Lib.hid (Below.next BA.out hb)
    clear hb
    go_wp2_with fail
    go_ret
    exact ⟨rfl, BB.out⟩
  · rw [hr]
    clear hr HC
    unfold noV
    have B9 := Lib.hid (Below.next_alloc B8.out (.cells #[.bool false, .bool false, .int .i64 0, .string ⟨#[]⟩] 23))
    go_wp2_with fail
    refine (awake_any _ (HT.out.below B9.out)).mono ?_
    rintro e wA ⟨rfl, hb⟩
    have BB := Lib.hid (Below.next B9.out hb)
    clear hb
    go_wp2_with fail
    go_ret
    exact ⟨rfl, BB.out⟩

set_option maxRecDepth 100000 in
set_option maxHeartbeats 2000000 in
theorem back_11 (f l : Bool) (n : Int) (d s : ByteArray) (w : World) (hT : Tab w) (hd : ¬ 3000 < (d.size : Int)) (h100 : 100 < (s.size : Int)) (hm : Cr.may ⟨f, l, n, d⟩ = true) :
    Calls Tryd.prog 8 #[.agg #[.bool f, .bool l, .int .i64 n, .string d], .string s] w (Gives (.bool true) w) := by
  have HT := Lib.hid hT; clear hT
  obtain ⟨s1, hs1⟩ : ∃ s1, s1 = s.extract 0 100 := ⟨_, rfl⟩
  have hs1s : s1.size = 100 := by rw [hs1, ByteArray.size_extract]; omega
  have hsl1 : ∀ w : World, (Instr.slice 9 (.string s) none (some (.int .i64 100)) none).run Tryd.prog w = .ok (.string s1) w := fun w => by
    rw [run_slice_string_h w 9 s Tryd.underlying9 .i64 100 (by omega) (by omega), hs1]
    rfl
  have h99 : s1.size ≤ 100 := by omega
  clear hs1 hs1s
  have HC := Lib.hid (rdV_cases s1)
  obtain ⟨R, hR⟩ : ∃ R : ByteArray, R = ⟨(Cr.mk ⟨f, l, n, d⟩).toArray⟩ := ⟨_, rfl⟩
  have hRs : R.size = 32 := by rw [hR]; exact Cr.mk_length (Cr.may_size hm)
  have HMK := Lib.hid (fun (x : World) (hx : Tab x) => make_yes f l n d x hx hm)
  rw [← hR] at HMK
  have HRD : Hid (rdV R = .tuple #[.agg #[.bool f, .bool l, .int .i64 n, .string d], .bool true]) := by rw [hR]; exact Lib.hid (rdV_mk hm)
  obtain ⟨R1, hR1⟩ : ∃ R1 : ByteArray, R1 = R.extract 1 R.size := ⟨_, rfl⟩
  have hsl2 : ∀ w : World, (Instr.slice 9 (.string R) (some (.int .i64 1)) none none).run Tryd.prog w = .ok (.string R1) w := fun w => by
    rw [run_slice_string_l w 9 R Tryd.underlying9 .i64 1 (by omega) (by omega), hR1]
    rfl
  have HR1 : Hid (rdV R1 = noV) := Lib.hid (rdV_len (by rw [hR1, ByteArray.size_extract]; omega))
  obtain ⟨R2, hR2⟩ : ∃ R2 : ByteArray, R2 = R ++ ⟨#[0]⟩ := ⟨_, rfl⟩
  have HR2 : Hid (rdV R2 = noV) := Lib.hid (rdV_len (by rw [hR2, ByteArray.size_append, hRs]; decide))
  have HRE := Lib.hid hR2
  have hz : ((R.size : Int) == 0) = false := by rw [beq_eq_false_iff_ne]; omega
  have hadd : ¬ 9223372036854775807 < R.size + 1 := by omega
  have hR0 : R.size ≤ 32 := by omega
  clear hR hRs hm hR1 hR2
  have L0 := Lib.hid (lies_new w f l n d 23)
  have B0 := Lib.hid ((Below.refl w.heap.size w).alloc (Nat.le_refl _) (.cells #[.bool f, .bool l, .int .i64 n, .string d] 23))
  go_enter Tryd.func8, Tryd.ntmps8
  go_wp2_with fail
  generalize w.alloc (.cells #[.bool f, .bool l, .int .i64 n, .string d] 23) = w0 at *
  refine (HMK.out _ (HT.out.below B0.out)).mono ?_
  rintro e w1 ⟨rfl, hb⟩
  have L1 := Lib.hid (L0.out.below hb)
  have B1 := Lib.hid (Below.next B0.out hb)
  clear hb L0 B0
  go_wp2_with fail
  refine (read_any R _ (HT.out.below B1.out)).mono ?_
  rintro e w2 ⟨rfl, hb⟩
  rw [HRD.out]
  have L2 := Lib.hid ((L1.out.below hb).below ((Below.refl _ w2).alloc (Nat.le_refl _) (.cells #[.bool f, .bool l, .int .i64 n, .string d] 23)))
  have M2 := Lib.hid (lies_new w2 f l n d 23)
  have B2 := Lib.hid (Below.next_alloc (Below.next B1.out hb) (.cells #[.bool f, .bool l, .int .i64 n, .string d] 23))
  clear hb L1 B1
  go_wp2_with fail
  generalize w2.alloc (.cells #[.bool f, .bool l, .int .i64 n, .string d] 23) = w3 at *
  generalize w2.heap.size = p at *
  refine (read_any R1 _ (HT.out.below B2.out)).mono ?_
  rintro e w4 ⟨rfl, hb⟩
  rw [HR1.out]
  unfold noV
  have L4 := Lib.hid ((L2.out.below hb).below ((Below.refl _ w4).alloc (Nat.le_refl _) (.cells #[.bool false, .bool false, .int .i64 0, .string ⟨#[]⟩] 23)))
  have M4 := Lib.hid ((M2.out.below hb).below ((Below.refl _ w4).alloc (Nat.le_refl _) (.cells #[.bool false, .bool false, .int .i64 0, .string ⟨#[]⟩] 23)))
  have B4 := Lib.hid (Below.next_alloc (Below.next B2.out hb) (.cells #[.bool false, .bool false, .int .i64 0, .string ⟨#[]⟩] 23))
  clear hb L2 M2 B2
  go_wp2_with fail
  generalize w4.alloc (.cells #[.bool false, .bool false, .int .i64 0, .string ⟨#[]⟩] 23) = w5 at *
  generalize w4.heap.size = p4 at *
  rw [← HRE.out]
  refine (read_any R2 _ (HT.out.below B4.out)).mono ?_
  rintro e w6 ⟨rfl, hb⟩
  rw [HR2.out]
  unfold noV
  have L6 := Lib.hid ((L4.out.below hb).below ((Below.refl _ w6).alloc (Nat.le_refl _) (.cells #[.bool false, .bool false, .int .i64 0, .string ⟨#[]⟩] 23)))
  have M6 := Lib.hid ((M4.out.below hb).below ((Below.refl _ w6).alloc (Nat.le_refl _) (.cells #[.bool false, .bool false, .int .i64 0, .string ⟨#[]⟩] 23)))
  have B6 := Lib.hid (Below.next_alloc (Below.next B4.out hb) (.cells #[.bool false, .bool false, .int .i64 0, .string ⟨#[]⟩] 23))
  clear hb L4 M4 B4
  obtain ⟨a0, a1, a2, a3⟩ := L6.out.at
  obtain ⟨b0, b1, b2, b3⟩ := M6.out.at
  go_wp2_with fail
  generalize w6.alloc (.cells #[.bool false, .bool false, .int .i64 0, .string ⟨#[]⟩] 23) = w7 at *
  generalize w6.heap.size = p6 at *
  clear a0 a1 a2 a3 b0 b1 b2 b3 HMK HRD HR1 HR2 hsl2 hz hadd hR0
  have B7 := B6
  refine (read_any s1 _ (HT.out.below B7.out)).mono ?_
  rintro e w8 ⟨rfl, hb⟩
  have B8 := Lib.hid (Below.next B7.out hb)
  clear hb
  rcases HC.out with ⟨f2, l2, n2, d2, hr, hm2, hs2, hz2⟩ | hr
  · rw [hr]
    have HM2 := Lib.hid hm2
    have HMK2 := Lib.hid (fun (x : World) (hx : Tab x) => make_yes f2 l2 n2 d2 x hx hm2)
    rw [hs2] at HMK2
    have hz3 : ((s1.size : Int) == 32) = true := by rw [hz2]; rfl
    clear hr hm2 hs2 hz2 HC
    have B9 := Lib.hid (Below.next_alloc B8.out (.cells #[.bool f2, .bool l2, .int .i64 n2, .string d2] 23))
    go_wp2_with fail
    refine (HMK2.out _ (HT.out.below B9.out)).mono ?_
    rintro e w9 ⟨rfl, hb⟩
    have BA := Lib.hid (Below.next B9.out hb)
    clear hb
    go_wp2_with fail
    refine (awake_any _ (HT.out.below BA.out)).mono ?_
    rintro e wA ⟨rfl, hb⟩
    have BB := Lib.hid (Below.next BA.out hb)
    clear hb
    go_wp2_with fail
    go_ret
    exact ⟨rfl, BB.out⟩
  · rw [hr]
    clear hr HC
    unfold noV
    have B9 := Lib.hid (Below.next_alloc B8.out (.cells #[.bool false, .bool false, .int .i64 0, .string ⟨#[]⟩] 23))
    go_wp2_with fail
    refine (awake_any _ (HT.out.below B9.out)).mono ?_
    rintro e wA ⟨rfl, hb⟩
    have BB := Lib.hid (Below.next B9.out hb)
    clear hb
    go_wp2_with fail
    go_ret
    exact ⟨rfl, BB.out⟩

theorem back_walk (f l : Bool) (n : Int) (d s : ByteArray) (w : World) (hT : Tab w) (_hs : d.size ≤ 9223372036854775807) (_hs2 : s.size ≤ 9223372036854775807) :
    Calls Tryd.prog 8 #[.agg #[.bool f, .bool l, .int .i64 n, .string d], .string s] w (Gives (.bool true) w) := by
  by_cases h : 3000 < (d.size : Int)
  · exact back_great f l n d s w hT h
  · by_cases h100 : 100 < (s.size : Int)
    · by_cases hy : Cr.may ⟨f, l, n, d⟩ = true
      · exact back_11 f l n d s w hT h h100 hy
      · exact back_10 f l n d s w hT h h100 (Bool.eq_false_iff.2 hy)
    · by_cases hy : Cr.may ⟨f, l, n, d⟩ = true
      · exact back_01 f l n d s w hT h h100 hy
      · exact back_00 f l n d s w hT h h100 (Bool.eq_false_iff.2 hy)

end Go.Proofs.YtclgjphegaoohaaDoor

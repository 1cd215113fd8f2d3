/- The walk of CellBurst. -/
import Derived.Test.YtclgjphegaoohaaDoorCellV
import Derived.Test.YtclgjphegaoohaaDoorCellMakes
namespace Go.Proofs.YtclgjphegaoohaaDoor
open Go.RowKit

set_option maxHeartbeats 400000 in
theorem burst_great (f l : Bool) (n : Int) (d : ByteArray) (a m : Int) (w : World) (hT : Tab w) (hd : 3000 < (d.size : Int)) :
    Calls Tryd.prog 7 #[.agg #[.bool f, .bool l, .int .i64 n, .string d], .int .u8 a, .int .u32 m] w (Gives (.bool true) w) := by
  have HT := Lib.hid hT; clear hT
  go_enter Tryd.func7, Tryd.ntmps7
  go_wp2_with fail
  refine (awake_any _ (HT.out.alloc _)).mono ?_
  rintro e w1 ⟨rfl, hb⟩
  have HB := Lib.hid hb; clear hb
  go_wp2_with fail
  go_ret
  exact ⟨rfl, Below.next ((Below.refl _ _).alloc (Nat.le_refl _) _) HB.out⟩

set_option maxHeartbeats 400000 in
theorem burst_no (f l : Bool) (n : Int) (d : ByteArray) (a m : Int) (w : World) (hT : Tab w) (hd : ¬ 3000 < (d.size : Int)) (hm : Cr.may ⟨f, l, n, d⟩ = false) :
    Calls Tryd.prog 7 #[.agg #[.bool f, .bool l, .int .i64 n, .string d], .int .u8 a, .int .u32 m] w (Gives (.bool true) w) := by
  have HT := Lib.hid hT; clear hT
  have HM := Lib.hid hm; clear hm
  go_enter Tryd.func7, Tryd.ntmps7
  go_wp2_with fail
  refine (make_no f l n d _ (by omega) HM.out).mono ?_
  rintro e w1 ⟨rfl, hb⟩
  have HB := Lib.hid (Below.next ((Below.refl w.heap.size w).alloc (Nat.le_refl _) _) hb); clear hb
  go_wp2_with fail
  refine (awake_any _ (HT.out.below HB.out)).mono ?_
  rintro e w2 ⟨rfl, hb⟩
  have HB2 := Lib.hid (Below.next HB.out hb); clear hb
  go_wp2_with fail
  go_ret
  exact ⟨rfl, HB2.out⟩

/-- What Read tells of a cell's bytes of which some are turned. -/
theorem rdV_turn {c : Cr.Cl} (h : Cr.may c = true) (k m : Nat) (hk : k ≤ 32) :
    (∃ (f l : Bool) (n : Int) (d : ByteArray), rdV ⟨(Cr.turn (Cr.mk c) k m 4).toArray⟩ = .tuple #[.agg #[.bool f, .bool l, .int .i64 n, .string d], .bool true] ∧ Cr.mk c = Cr.turn (Cr.mk c) k m 4) ∨
    (rdV ⟨(Cr.turn (Cr.mk c) k m 4).toArray⟩ = noV ∧ ¬ Cr.mk c = Cr.turn (Cr.mk c) k m 4) := by
  have hr := Cr.rd_turn h k m hk
  unfold rdV
  rw [show (ByteArray.mk (Cr.turn (Cr.mk c) k m 4).toArray).data.toList = Cr.turn (Cr.mk c) k m 4 from rfl]
  cases e : Cr.rd (Cr.turn (Cr.mk c) k m 4) with
  | none =>
    rw [e] at hr
    exact .inr ⟨rfl, fun hc => by have := hr.2 hc; cases this⟩
  | some c' =>
    rw [e] at hr
    exact .inl ⟨c'.first, c'.last, c'.num, c'.data, rfl, hr.1 rfl⟩

set_option maxRecDepth 100000 in
set_option maxHeartbeats 1000000 in
theorem burst_yes (f l : Bool) (n : Int) (d : ByteArray) (a : Nat) (m : Nat) (w : World) (hT : Tab w) (hd : ¬ 3000 < (d.size : Int)) (hm : Cr.may ⟨f, l, n, d⟩ = true) (ha : a < 256) (hmm : m < 4294967296) :
    Calls Tryd.prog 7 #[.agg #[.bool f, .bool l, .int .i64 n, .string d], .int .u8 a, .int .u32 m] w (Gives (.bool true) w) := by
  have hcase := rdV_turn hm (a % 32) m (by omega)
  obtain ⟨R, hR⟩ : ∃ R : ByteArray, R = ⟨(Cr.mk ⟨f, l, n, d⟩).toArray⟩ := ⟨_, rfl⟩
  have hRs : R.size ≤ 1000000 := by rw [hR]; show (Cr.mk ⟨f, l, n, d⟩).length ≤ _; rw [Cr.mk_length (Cr.may_size hm)]; omega
  have hRl : R.data.toList = Cr.mk ⟨f, l, n, d⟩ := by rw [hR]
  rw [← hRl] at hcase
  have HMK := Lib.hid (fun (x : World) (hx : Tab x) => make_yes f l n d x hx hm)
  rw [← hR] at HMK
  obtain ⟨T, hT2⟩ : ∃ T : ByteArray, T = ⟨(Cr.turn R.data.toList (a % 32) m 4).toArray⟩ := ⟨_, rfl⟩
  have HTU := Lib.hid (fun (x : World) => turned_any R (a % 32) m x hRs (by omega) hmm)
  rw [← hT2] at HTU hcase
  have hTl : Cr.turn R.data.toList (a % 32) m 4 = T.data.toList := by rw [hT2]
  rw [hTl] at hcase
  have HT := Lib.hid hT
  clear hT hRs hRl hR hT2 hTl hm
  have hmod : ((a : Int) % 32) = ((a % 32 : Nat) : Int) := by omega
  have HC := Lib.hid hcase; clear hcase
  generalize a % 32 = k at *
  go_enter Tryd.func7, Tryd.ntmps7
  go_wp2_with fail
  refine (HMK.out _ (HT.out.alloc _)).mono ?_
  rintro e w1 ⟨rfl, hb⟩
  have HB := Lib.hid (Below.next ((Below.refl w.heap.size w).alloc (Nat.le_refl _) _) hb); clear hb
  go_wp2_with fail
  refine (HTU.out _).mono ?_
  rintro e w2 ⟨rfl, hb⟩
  have HB2 := Lib.hid (Below.next HB.out hb); clear hb
  go_wp2_with fail
  refine (read_any T _ (HT.out.below HB2.out)).mono ?_
  rintro e w3 ⟨rfl, hb⟩
  have HB3 := Lib.hid (Below.next HB2.out hb); clear hb
  clear HMK HTU
  rcases HC.out with ⟨f2, l2, n2, d2, hr, heq⟩ | ⟨hr, hne⟩
  · rw [hr]
    obtain rfl : R = T := ByteArray.ext (Array.toList_inj.1 heq)
    clear hr heq HC
    have HB4 := Lib.hid (Below.next_alloc HB3.out (.cells #[.bool f2, .bool l2, .int .i64 n2, .string d2] 23))
    go_wp2_with fail
    refine (awake_any _ (HT.out.below HB4.out)).mono ?_
    rintro e w4 ⟨rfl, hb⟩
    have HB5 := Lib.hid (Below.next HB4.out hb); clear hb
    go_wp2_with fail
    go_ret
    exact ⟨rfl, HB5.out⟩
  · rw [hr]
    have q0 : ¬ R.toList = T.toList := fun e => hne (by rw [str_eq e])
    have q1 : (R.toList == T.toList) = false := by rw [beq_eq_false_iff_ne]; exact q0
    clear hr hne HC
    unfold noV
    have HB4 := Lib.hid (Below.next_alloc HB3.out (.cells #[.bool false, .bool false, .int .i64 0, .string ⟨#[]⟩] 23))
    go_wp2_with fail
    refine (awake_any _ (HT.out.below HB4.out)).mono ?_
    rintro e w4 ⟨rfl, hb⟩
    have HB5 := Lib.hid (Below.next HB4.out hb); clear hb
    go_wp2_with fail
    go_ret
    exact ⟨rfl, HB5.out⟩

theorem burst_walk (f l : Bool) (n : Int) (d : ByteArray) (a m : Int) (w : World) (hT : Tab w) (_hs : d.size ≤ 9223372036854775807) (ha : 0 ≤ a ∧ a ≤ 255) (hm : 0 ≤ m ∧ m ≤ 4294967295) :
    Calls Tryd.prog 7 #[.agg #[.bool f, .bool l, .int .i64 n, .string d], .int .u8 a, .int .u32 m] w (Gives (.bool true) w) := by
  by_cases h : 3000 < (d.size : Int)
  · exact burst_great f l n d a m w hT h
  · by_cases hy : Cr.may ⟨f, l, n, d⟩ = true
    · obtain ⟨A, rfl⟩ := Int.eq_ofNat_of_zero_le ha.1
      obtain ⟨M, rfl⟩ := Int.eq_ofNat_of_zero_le hm.1
      exact burst_yes f l n d A M w hT h hy (by omega) (by omega)
    · exact burst_no f l n d a m w hT h (Bool.eq_false_iff.2 hy)

end Go.Proofs.YtclgjphegaoohaaDoor

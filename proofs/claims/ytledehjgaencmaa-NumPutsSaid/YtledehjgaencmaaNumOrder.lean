/- The walk of NumOrder. -/
import Derived.Test.YtledehjgaencmaaNumAwake
import Derived.Deep.QuietTactic
import Derived.BigQuiet
import Derived.Deep.RegionWith
import Derived.StillTailTactics
namespace Go.Proofs.Ytledehjgaencmaa
open Go.RowKit

theorem sees_one (w : World) (n : Nat) (t : TypeId) : SeesU (w.alloc (.cells #[.int .u64 n] t)) (.slice (some ⟨w.heap.size, 0, none⟩) 1 1) [n] :=
  sees_built (ns := [n]) (fun i hi => by match i, hi with | 0, _ => rfl) 1
theorem getD_one {n : Nat} (h : n < 18446744073709551616) (i : Nat) : ([n] : List Nat).getD i 0 < 18446744073709551616 := by
  match i with
  | 0 => exact h
  | _ + 1 => simp
theorem mk_of {l : List UInt8} {S : ByteArray} (h : l = S.data.toList) : (⟨l.toArray⟩ : ByteArray) = S := by subst h; cases S; simp
theorem varl_one (n : Nat) : varl [n] = Nm.row n := by simp [varl]

set_option maxHeartbeats 400000 in
theorem order_great (a b : Int) (x y : ByteArray) (w : World) (h : 100 < x.size ∨ 100 < y.size) :
    Calls Try.prog 6 #[.int .u64 a, .int .u64 b, .string x, .string y] w (Gives (.bool true) w) := by
  by_cases hx : 100 < x.size
  · clear h
    go_enter Try.func6, Try.ntmps6
    go_wp2_with fail
    refine (awake_any _).mono ?_
    rintro e w1 ⟨rfl, hb1⟩
    go_wp2_with fail
    go_ret
    exact ⟨rfl, hb1⟩
  · have hx' : x.size ≤ 100 := by omega
    have hy : 100 < y.size := by omega
    clear h hx
    go_enter Try.func6, Try.ntmps6
    go_wp2_with fail
    refine (awake_any _).mono ?_
    rintro e w1 ⟨rfl, hb1⟩
    go_wp2_with fail
    go_ret
    exact ⟨rfl, hb1⟩

set_option maxHeartbeats 400000 in
theorem order_same (a : Nat) (x y : ByteArray) (w : World) (hx : x.size ≤ 100) (hy : y.size ≤ 100) (ha : a < 18446744073709551616) :
    Calls Try.prog 6 #[.int .u64 a, .int .u64 a, .string x, .string y] w (Gives (.bool true) w) := by
  have hl := Nm.row_length a
  have HV := Lib.hid (varl_one a)
  have HG := Lib.hid (getD_one ha); clear ha
  obtain ⟨hl1, hl2⟩ := hl
  generalize Nm.row a = L at *
  go_enter Try.func6, Try.ntmps6
  go_wp2_with fail
  refine (var_any _ [a] _ (sees_one _ a _) HG.out (by simp)).mono ?_
  rintro e w1 ⟨rfl, hb1⟩
  rw [HV.out]
  go_wp2_with fail
  refine (var_any _ [a] _ (sees_one _ a _) HG.out (by simp)).mono ?_
  rintro e w2 ⟨rfl, hb2⟩
  rw [HV.out]
  go_wp2_with fail
  refine (awake_any _).mono ?_
  rintro e w3 ⟨rfl, hb3⟩
  go_wp2_with fail
  go_ret
  exact ⟨rfl, Below.next (Below.next (Below.next_alloc (Below.next (Below.next_alloc (Below.refl _ _) _) hb1) _) hb2) hb3⟩

set_option maxHeartbeats 1000000 in
theorem order_walk1 (a b : Nat) (x y S T : ByteArray) (m : Nat) (c d : Int) (w : World) (hx : x.size ≤ 100) (hy : y.size ≤ 100) (ha : a < 18446744073709551616) (hb : b < 18446744073709551616)
    (hS : varl [a] = S.data.toList) (hT : varl [b] = T.data.toList) (hS1 : m < S.size) (hS9 : S.size ≤ 9) (hT1 : m < T.size) (hT9 : T.size ≤ 9)
    (hne : (S.toList == T.toList) = false) (hab : ((a : Int) == b) = false)
    (hsame : ∀ k, k < m → ∃ z : Int, (∀ w : World, (Instr.index 9 (.string S) (.int .i64 k)).run Try.prog w = .ok (.int .u8 z) w) ∧ ∀ w : World, (Instr.index 9 (.string T) (.int .i64 k)).run Try.prog w = .ok (.int .u8 z) w)
    (hc : ∀ w : World, (Instr.index 9 (.string S) (.int .i64 m)).run Try.prog w = .ok (.int .u8 c) w) (hd : ∀ w : World, (Instr.index 9 (.string T) (.int .i64 m)).run Try.prog w = .ok (.int .u8 d) w)
    (hcd : (c != d) = true) (hlt : decide (c < d) = decide ((a : Int) < b)) (hless : Op.bytesLess (S ++ x).toList (T ++ y).toList = decide ((a : Int) < b)) :
    Calls Try.prog 6 #[.int .u64 a, .int .u64 b, .string x, .string y] w (Gives (.bool true) w) := by
  have HS := Lib.hid hS; have HT := Lib.hid hT; clear hS hT
  have HG := Lib.hid (getD_one ha); clear ha
  have HG2 := Lib.hid (getD_one hb); clear hb
  have HSAME := Lib.hid hsame; clear hsame
  have HC := Lib.hid hc; have HD := Lib.hid hd; clear hc hd
  have HCD := Lib.hid hcd; have HLT := Lib.hid hlt; have HLESS := Lib.hid hless; clear hcd hlt hless
  go_enter Try.func6, Try.ntmps6
  go_wp2_with fail
  refine (var_any _ [a] _ (sees_one _ a _) HG.out (by simp)).mono ?_
  rintro e w1 ⟨rfl, hb1⟩
  rw [mk_of HS.out]
  go_wp2_with fail
  refine (var_any _ [b] _ (sees_one _ b _) HG2.out (by simp)).mono ?_
  rintro e w2 ⟨rfl, hb2⟩
  rw [mk_of HT.out]
  go_wp2_with fail
  have HB : Hid (Below w.heap.size w w2) := Below.next (Below.next_alloc (Below.next (Below.next_alloc (Below.refl _ _) _) hb1) _) hb2
  clear hb1 hb2
  go_loopw [11] (fun i wr => (∃ k : Nat, k ≤ m ∧ i = .int .i64 k) ∧ Below w.heap.size w wr) (fun i _ => m - (intOf i).toNat)
  case atStart => exact ⟨⟨0, Nat.zero_le _, rfl⟩, HB.out⟩
  case round =>
    obtain ⟨⟨k, hk, rfl⟩, hbel⟩ := hrel
    have HB2 := Lib.hid hbel; clear hbel
    by_cases hlt : k < m
    · obtain ⟨z, hz1, hz2⟩ := HSAME.out k hlt
      go_wp2_with fail
      go_quiet (fail)
      go_wp2_with fail
      go_roundw
      case rel => exact ⟨⟨k + 1, by omega, by go_num⟩, below_drewN HB2.out _⟩
      case measure => simp [intOf]; omega
    · obtain rfl : k = m := by omega
      have hc := HC.out; have hd := HD.out; have hcd := HCD.out
      go_wp2_with fail
      go_quiet (fail)
      go_wp2_with fail
      have hlt2 := HLT.out
      have hless := HLESS.out
      have hA1 : ¬ 9223372036854775807 < S.size + x.size := by omega
      have hA2 : ¬ 9223372036854775807 < T.size + y.size := by omega
      go_still_tail 25, (by kernel_rfl)
      change wpList _ _ _ _ _ (wr.drewN nq).drew
      have HB3 : Hid (Below w.heap.size w (wr.drewN nq).drew) := (below_drewN HB2.out _).drew
      generalize (wr.drewN nq).drew = w5 at *
      go_wp2_with fail
      refine (awake_any _).mono ?_
      rintro e w9 ⟨rfl, hb9⟩
      go_wp2_with fail
      go_ret
      exact ⟨rfl, Below.next HB3.out hb9⟩

theorem parts_index {x y : List UInt8} {S T : ByteArray} (hS : x = S.data.toList) (hT : y = T.data.toList) (h : Nm.Parts x y) :
    ∃ (m : Nat) (c d : Int), m < S.size ∧ m < T.size ∧ c < d ∧
      (∀ k, k < m → ∃ z : Int, (∀ w : World, (Instr.index 9 (.string S) (.int .i64 k)).run Try.prog w = .ok (.int .u8 z) w) ∧ ∀ w : World, (Instr.index 9 (.string T) (.int .i64 k)).run Try.prog w = .ok (.int .u8 z) w) ∧
      (∀ w : World, (Instr.index 9 (.string S) (.int .i64 m)).run Try.prog w = .ok (.int .u8 c) w) ∧ (∀ w : World, (Instr.index 9 (.string T) (.int .i64 m)).run Try.prog w = .ok (.int .u8 d) w) := by
  obtain ⟨p, c, d, u, v, hx, hy, hcd⟩ := h
  rw [hS] at hx
  rw [hT] at hy
  have hl1 : S.size = p.length + (u.length + 1) := by rw [← length_list, hx]; simp
  have hl2 : T.size = p.length + (v.length + 1) := by rw [← length_list, hy]; simp
  have get : ∀ (A : ByteArray) (k : Nat) (h : k < A.size), A[k] = A.data.toList[k]'(by rw [length_list]; exact h) := fun A k h => rfl
  refine ⟨p.length, c.toNat, d.toNat, by omega, by omega, by omega, fun k hk => ⟨(p[k]'hk).toNat, ?_, ?_⟩, ?_, ?_⟩
  · have h1 := index_byte S k (by omega)
    rw [get] at h1
    simp only [hx, List.getElem_append_left hk] at h1
    exact h1
  · have h1 := index_byte T k (by omega)
    rw [get] at h1
    simp only [hy, List.getElem_append_left hk] at h1
    exact h1
  · have h1 := index_byte S p.length (by omega)
    rw [get] at h1
    simp only [hx, List.getElem_append_right (Nat.le_refl _), Nat.sub_self, List.getElem_cons_zero] at h1
    exact h1
  · have h1 := index_byte T p.length (by omega)
    rw [get] at h1
    simp only [hy, List.getElem_append_right (Nat.le_refl _), Nat.sub_self, List.getElem_cons_zero] at h1
    exact h1

theorem order_walk (a b : Int) (x y : ByteArray) (w : World) (ha : 0 ≤ a ∧ a ≤ 18446744073709551615) (hb : 0 ≤ b ∧ b ≤ 18446744073709551615) (_hx : x.size ≤ 9223372036854775807) (_hy : y.size ≤ 9223372036854775807) :
    Calls Try.prog 6 #[.int .u64 a, .int .u64 b, .string x, .string y] w (Gives (.bool true) w) := by
  by_cases h1 : 100 < x.size ∨ 100 < y.size
  · exact order_great a b x y w h1
  · obtain ⟨a, rfl⟩ := Int.eq_ofNat_of_zero_le ha.1
    obtain ⟨b, rfl⟩ := Int.eq_ofNat_of_zero_le hb.1
    have hla := Nm.row_length a
    have hlb := Nm.row_length b
    obtain ⟨S, hS⟩ : ∃ S : ByteArray, Nm.row a = S.data.toList := ⟨⟨(Nm.row a).toArray⟩, by simp⟩
    obtain ⟨T, hT⟩ : ∃ T : ByteArray, Nm.row b = T.data.toList := ⟨⟨(Nm.row b).toArray⟩, by simp⟩
    rw [hS, length_list] at hla
    rw [hT, length_list] at hlb
    have eS : varl [a] = S.data.toList := (varl_one a).trans hS
    have eT : varl [b] = T.data.toList := (varl_one b).trans hT
    have app : ∀ A B : ByteArray, (A ++ B).toList = A.data.toList ++ B.data.toList := fun A B => by
      rw [ByteArray.toList_eq, ByteArray.data_append, Array.toList_append]
    rcases Nat.lt_trichotomy a b with h | h | h
    · have hp := Nm.parts_row h (by omega)
      obtain ⟨m, c, d, hm1, hm2, hcd, hsame, hc, hd⟩ := parts_index hS hT hp
      have hl := (Nm.bytesLess_parts hp x.data.toList y.data.toList).1
      have hne : (S.toList == T.toList) = false := by
        rw [ByteArray.toList_eq, ByteArray.toList_eq, ← hS, ← hT]
        have := (Nm.bytesLess_parts hp [] []).1
        simp only [List.append_nil] at this
        rw [beq_eq_false_iff_ne]
        intro e
        rw [e, Nm.bytesLess_self] at this
        cases this
      refine order_walk1 a b x y S T m c d w (by omega) (by omega) (by omega) (by omega) eS eT hm1 (by omega) hm2 (by omega) hne (by rw [beq_eq_false_iff_ne]; omega) hsame hc hd (by rw [bne_iff_ne]; omega) ?_ ?_
      · rw [decide_eq_true hcd, decide_eq_true (show (a : Int) < b by omega)]
      · rw [app, app, ← hS, ← hT, hl, decide_eq_true (show (a : Int) < b by omega)]
    · subst h
      exact order_same a x y w (by omega) (by omega) (by omega)
    · have hp := Nm.parts_row h (by omega)
      obtain ⟨m, d, c, hm2, hm1, hcd, hsame, hd, hc⟩ := parts_index hT hS hp
      have hl := (Nm.bytesLess_parts hp y.data.toList x.data.toList).2
      have hne : (S.toList == T.toList) = false := by
        rw [ByteArray.toList_eq, ByteArray.toList_eq, ← hS, ← hT]
        have := (Nm.bytesLess_parts hp [] []).1
        simp only [List.append_nil] at this
        rw [beq_eq_false_iff_ne]
        intro e
        rw [e, Nm.bytesLess_self] at this
        cases this
      refine order_walk1 a b x y S T m c d w (by omega) (by omega) (by omega) (by omega) eS eT hm1 (by omega) hm2 (by omega) hne (by rw [beq_eq_false_iff_ne]; omega) (fun k hk => by obtain ⟨z, h1, h2⟩ := hsame k hk; exact ⟨z, h2, h1⟩) hc hd (by rw [bne_iff_ne]; omega) ?_ ?_
      · rw [decide_eq_false (show ¬ c < d by omega), decide_eq_false (show ¬ (a : Int) < b by omega)]
      · rw [app, app, ← hS, ← hT, hl, decide_eq_false (show ¬ (a : Int) < b by omega)]

end Go.Proofs.Ytledehjgaencmaa

/- The walk of the document's ReadText; the walks of NumPuts and NumReads. -/
import Derived.Test.YtledehjgaencmaaNumRefB
namespace Go.Proofs.Ytledehjgaencmaa
open Go.RowKit

set_option maxHeartbeats 400000 in
theorem refReadText_none (s : ByteArray) (most : Int) (w : World) (hs : s.size ≤ 9223372036854775807) (hv : rvV s.data.toList = .tuple #[.int .u64 0, .int .i64 0, .bool false]) :
    Calls Try.prog 23 #[.string s, .int .i64 most] w (Gives noText w) := by
  have HV := Lib.hid hv; clear hv
  have HS := Lib.hid hs; clear hs
  go_enter Try.func23, Try.ntmps23
  go_wp2_with fail
  refine (refReadVar_any _ _ HS.out).mono ?_
  rintro e w1 ⟨rfl, hb1⟩
  rw [HV.out]
  go_wp2_with fail
  go_ret3
  exact ⟨rfl, hb1⟩

set_option maxHeartbeats 400000 in
theorem refReadText_over (s : ByteArray) (most n k : Int) (w : World) (hs : s.size ≤ 281474976710656) (hv : rvV s.data.toList = .tuple #[.int .u64 n, .int .i64 k, .bool true]) (h1 : (s.size : Int) < n) :
    Calls Try.prog 23 #[.string s, .int .i64 most] w (Gives noText w) := by
  have HV := Lib.hid hv; clear hv
  go_enter Try.func23, Try.ntmps23
  go_wp2_with fail
  refine (refReadVar_any _ _ (by omega)).mono ?_
  rintro e w1 ⟨rfl, hb1⟩
  rw [HV.out]
  go_wp2_with fail
  go_ret3
  exact ⟨rfl, hb1⟩

set_option maxHeartbeats 400000 in
theorem refReadText_cut (s : ByteArray) (most n k : Int) (w : World) (hs : s.size ≤ 281474976710656) (hv : rvV s.data.toList = .tuple #[.int .u64 n, .int .i64 k, .bool true]) (h0 : 0 ≤ n) (h1 : n ≤ s.size) (hk0 : 1 ≤ k) (hk : k ≤ s.size)
    (hn : s.size < k + n) :
    Calls Try.prog 23 #[.string s, .int .i64 most] w (Gives noText w) := by
  have HV := Lib.hid hv; clear hv
  go_enter Try.func23, Try.ntmps23
  go_wp2_with fail
  refine (refReadVar_any _ _ (by omega)).mono ?_
  rintro e w1 ⟨rfl, hb1⟩
  rw [HV.out]
  go_wp2_with fail
  go_ret3
  exact ⟨rfl, hb1⟩

set_option maxHeartbeats 400000 in
theorem refReadText_most (s : ByteArray) (most n k : Int) (w : World) (hs : s.size ≤ 281474976710656) (hv : rvV s.data.toList = .tuple #[.int .u64 n, .int .i64 k, .bool true]) (h0 : 0 ≤ n) (h1 : n ≤ s.size) (hk0 : 1 ≤ k)
    (hn : k + n ≤ s.size) (hm : most < n) :
    Calls Try.prog 23 #[.string s, .int .i64 most] w (Gives noText w) := by
  have HV := Lib.hid hv; clear hv
  go_enter Try.func23, Try.ntmps23
  go_wp2_with fail
  refine (refReadVar_any _ _ (by omega)).mono ?_
  rintro e w1 ⟨rfl, hb1⟩
  rw [HV.out]
  go_wp2_with fail
  go_ret3
  exact ⟨rfl, hb1⟩

set_option maxHeartbeats 400000 in
theorem refReadText_yes (s : ByteArray) (most : Int) (n k : Nat) (w : World) (hs : s.size ≤ 281474976710656) (hv : rvV s.data.toList = .tuple #[.int .u64 n, .int .i64 k, .bool true]) (hk0 : 1 ≤ k)
    (hn : k + n ≤ s.size) (hm : n ≤ most) :
    Calls Try.prog 23 #[.string s, .int .i64 most] w (Gives (.tuple #[.string (s.extract k (k + n)), .int .i64 ((k : Int) + n), .bool true]) w) := by
  have HV := Lib.hid hv; clear hv
  have hn1 : (n : Int) ≤ s.size := by omega
  have hn2 : (k : Int) + n ≤ s.size := by omega
  go_enter Try.func23, Try.ntmps23
  go_wp2_with fail
  refine (refReadVar_any _ _ (by omega)).mono ?_
  rintro e w1 ⟨rfl, hb1⟩
  rw [HV.out]
  go_wp2_with fail
  go_ret3
  exact ⟨rfl, hb1⟩

/-- The document's ReadText, of every text of at most 2^48 bytes. -/
theorem refReadText_any (s : ByteArray) (most : Int) (w : World) (hs : s.size ≤ 281474976710656) :
    Calls Try.prog 23 #[.string s, .int .i64 most] w (Gives (rtV s.data.toList most) w) := by
  cases h : Nm.rv s.data.toList with
  | none =>
    have e : rtV s.data.toList most = noText := by unfold rtV rt; rw [h]
    rw [e]
    exact refReadText_none s most w (by omega) (rvV_none h)
  | some p =>
    obtain ⟨n, k⟩ := p
    have hv := rvV_some h
    obtain ⟨hk0, hk, -, -⟩ := Nm.row_rv h
    rw [length_list] at hk
    by_cases hc : most < n ∨ s.data.toList.length < k + n
    · have e : rtV s.data.toList most = noText := by unfold rtV rt; rw [h]; simp only [if_pos hc]
      rw [e]
      rw [length_list] at hc
      by_cases h1 : s.size < n
      · exact refReadText_over s most n k w hs hv (by omega)
      · by_cases h2 : s.size < k + n
        · exact refReadText_cut s most n k w hs hv (by omega) (by omega) (by omega) (by omega) (by omega)
        · exact refReadText_most s most n k w hs hv (by omega) (by omega) (by omega) (by omega) (by omega)
    · have e : rtV s.data.toList most = .tuple #[.string (s.extract k (k + n)), .int .i64 ((k : Int) + n), .bool true] := by
        unfold rtV rt
        rw [h]
        simp only [if_neg hc]
        rw [Lib.extract_eq, Nat.add_sub_cancel_left, Int.natCast_add]
      rw [e]
      rw [length_list] at hc
      exact refReadText_yes s most n k w hs hv hk0 (by omega) (by omega)

/-- A triple's parts. -/
theorem rvV_form (l : List UInt8) : ∃ (n k : Int) (b : Bool), rvV l = .tuple #[.int .u64 n, .int .i64 k, .bool b] := by
  unfold rvV
  split
  · exact ⟨_, _, _, rfl⟩
  · exact ⟨_, _, _, rfl⟩
theorem rtV_form (l : List UInt8) (m : Int) : ∃ (t : ByteArray) (k : Int) (b : Bool), rtV l m = .tuple #[.string t, .int .i64 k, .bool b] := by
  unfold rtV
  split
  · exact ⟨_, _, _, rfl⟩
  · exact ⟨_, _, _, rfl⟩

/-- What ReadBig answers. -/
def rbN (l : List UInt8) (x : Int) : Int := if 1 ≤ x ∧ x ≤ 8 ∧ x ≤ l.length then (Nm.val (l.take x.toNat) : Nat) else 0
def rbB (l : List UInt8) (x : Int) : Bool := decide (1 ≤ x ∧ x ≤ 8 ∧ x ≤ l.length)
theorem readBig_any (s : ByteArray) (x : Int) (w : World) (hs : s.size ≤ 9223372036854775807) :
    Calls Try.prog 21 #[.string s, .int .i64 x] w fun e w' => e = .returned (.tuple #[.int .u64 (rbN s.data.toList x), .bool (rbB s.data.toList x)]) ∧ w = w' := by
  unfold rbN rbB
  rw [length_list]
  by_cases h : 1 ≤ x ∧ x ≤ 8 ∧ x ≤ s.size
  · rw [if_pos h, decide_eq_true h]; exact readBig_yes s x w h.1 h.2.1 h.2.2 hs
  · rw [if_neg h, decide_eq_false h]; exact readBig_no s x w (by omega) hs
theorem refReadBig_any (s : ByteArray) (x : Int) (w : World) (hs : s.size ≤ 9223372036854775807) :
    Calls Try.prog 22 #[.string s, .int .i64 x] w fun e w' => e = .returned (.tuple #[.int .u64 (rbN s.data.toList x), .bool (rbB s.data.toList x)]) ∧ w = w' := by
  unfold rbN rbB
  rw [length_list]
  by_cases h : 1 ≤ x ∧ x ≤ 8 ∧ x ≤ s.size
  · rw [if_pos h, decide_eq_true h]; exact refReadBig_yes s x w h.1 h.2.1 h.2.2 hs
  · rw [if_neg h, decide_eq_false h]; exact refReadBig_no s x w (by omega) hs

set_option maxHeartbeats 2000000 in
theorem reads_small (s : ByteArray) (x most : Int) (w : World) (hs : s.size ≤ 20000) (hm : most ≤ 9223372036854775807) :
    Calls Try.prog 5 #[.string s, .int .i64 x, .int .i64 most] w (Gives (.bool true) w) := by
  have HM := Lib.hid hm; clear hm
  obtain ⟨n, k, b, hv⟩ := rvV_form s.data.toList
  obtain ⟨t, k2, b2, ht⟩ := rtV_form s.data.toList most
  have HV := Lib.hid hv; have HT := Lib.hid ht; clear hv ht
  have HX : Hid (∃ z, rbN s.data.toList x = z) := ⟨_, rfl⟩
  have HY : Hid (∃ z, rbB s.data.toList x = z) := ⟨_, rfl⟩
  obtain ⟨z1, hz1⟩ := HX.out
  obtain ⟨z2, hz2⟩ := HY.out
  have HZ1 := Lib.hid hz1; have HZ2 := Lib.hid hz2; clear HX HY hz1 hz2
  go_enter Try.func5, Try.ntmps5
  go_wp2_with fail
  refine (readVar_any _ _ (by omega)).mono ?_
  rintro e w' ⟨rfl, rfl⟩
  rw [HV.out]
  go_wp2_with fail
  refine (refReadVar_any _ _ (by omega)).mono ?_
  rintro e w1 ⟨rfl, hb1⟩
  rw [HV.out]
  go_wp2_with fail
  refine (readBig_any _ _ _ (by omega)).mono ?_
  rintro e w' ⟨rfl, rfl⟩
  rw [HZ1.out, HZ2.out]
  go_wp2_with fail
  refine (refReadBig_any _ _ _ (by omega)).mono ?_
  rintro e w' ⟨rfl, rfl⟩
  rw [HZ1.out, HZ2.out]
  go_wp2_with fail
  refine (readText_any _ _ _ (by omega) HM.out).mono ?_
  rintro e w2 ⟨rfl, hb2⟩
  rw [HT.out]
  go_wp2_with fail
  refine (refReadText_any _ _ _ (by omega)).mono ?_
  rintro e w3 ⟨rfl, hb3⟩
  rw [HT.out]
  go_wp2_with fail
  refine (awake_any _).mono ?_
  rintro e w4 ⟨rfl, hb4⟩
  go_wp2_with fail
  go_ret
  exact ⟨rfl, Below.next (Below.next (Below.next hb1 hb2) hb3) hb4⟩

set_option maxHeartbeats 2000000 in
theorem reads_cut (S0 : ByteArray) (x most : Int) (w : World) (hS : 20000 < S0.size) (hm : most ≤ 9223372036854775807) :
    Calls Try.prog 5 #[.string S0, .int .i64 x, .int .i64 most] w (Gives (.bool true) w) := by
  have HM := Lib.hid hm; clear hm
  have hs : (S0.extract 0 20000).size ≤ 20000 := by rw [ByteArray.size_extract]; omega
  obtain ⟨n, k, b, hv⟩ := rvV_form (S0.extract 0 20000).data.toList
  obtain ⟨t, k2, b2, ht⟩ := rtV_form (S0.extract 0 20000).data.toList most
  have HV := Lib.hid hv; have HT := Lib.hid ht; clear hv ht
  have HX : Hid (∃ z, rbN (S0.extract 0 20000).data.toList x = z) := ⟨_, rfl⟩
  have HY : Hid (∃ z, rbB (S0.extract 0 20000).data.toList x = z) := ⟨_, rfl⟩
  obtain ⟨z1, hz1⟩ := HX.out
  obtain ⟨z2, hz2⟩ := HY.out
  have HZ1 := Lib.hid hz1; have HZ2 := Lib.hid hz2; clear HX HY hz1 hz2
  go_enter Try.func5, Try.ntmps5
  go_wp2_with fail
  generalize S0.extract 0 20000 = s at *
  refine (readVar_any _ _ (by omega)).mono ?_
  rintro e w' ⟨rfl, rfl⟩
  rw [HV.out]
  go_wp2_with fail
  refine (refReadVar_any _ _ (by omega)).mono ?_
  rintro e w1 ⟨rfl, hb1⟩
  rw [HV.out]
  go_wp2_with fail
  refine (readBig_any _ _ _ (by omega)).mono ?_
  rintro e w' ⟨rfl, rfl⟩
  rw [HZ1.out, HZ2.out]
  go_wp2_with fail
  refine (refReadBig_any _ _ _ (by omega)).mono ?_
  rintro e w' ⟨rfl, rfl⟩
  rw [HZ1.out, HZ2.out]
  go_wp2_with fail
  refine (readText_any _ _ _ (by omega) HM.out).mono ?_
  rintro e w2 ⟨rfl, hb2⟩
  rw [HT.out]
  go_wp2_with fail
  refine (refReadText_any _ _ _ (by omega)).mono ?_
  rintro e w3 ⟨rfl, hb3⟩
  rw [HT.out]
  go_wp2_with fail
  refine (awake_any _).mono ?_
  rintro e w4 ⟨rfl, hb4⟩
  go_wp2_with fail
  go_ret
  exact ⟨rfl, Below.next (Below.next (Below.next hb1 hb2) hb3) hb4⟩

theorem reads_walk (s : ByteArray) (x most : Int) (w : World) (_hs : s.size ≤ 9223372036854775807) (_hx : -9223372036854775808 ≤ x ∧ x ≤ 9223372036854775807) (hm : -9223372036854775808 ≤ most ∧ most ≤ 9223372036854775807) :
    Calls Try.prog 5 #[.string s, .int .i64 x, .int .i64 most] w (Gives (.bool true) w) := by
  by_cases hs : 20000 < s.size
  · exact reads_cut s x most w hs hm.2
  · exact reads_small s x most w (by omega) hm.2

set_option maxHeartbeats 800000 in
theorem puts_great (ao : Option Addr) (len cap : Nat) (so : Option Addr) (slen scap : Nat) (ss : List ByteArray) (n x : Int) (w : World) (hS : SeesS w (.slice so slen scap) ss) (h : 200 < len ∨ greatB ss = true) :
    Calls Try.prog 4 #[.slice ao len cap, .slice so slen scap, .int .u64 n, .int .i64 x] w (Gives (.bool true) w) := by
  have HS := Lib.hid hS; clear hS
  by_cases hl : 200 < len
  · clear h
    go_enter Try.func4, Try.ntmps4
    go_wp2_with fail
    refine (awake_any _).mono ?_
    rintro e w1 ⟨rfl, hb1⟩
    go_wp2_with fail
    go_ret
    exact ⟨rfl, hb1⟩
  · have hg : greatB ss = true := by
      rcases h with h | h
      · exact absurd h hl
      · exact h
    have HG := Lib.hid hg; clear hg h
    have hl2 : len ≤ 200 := by omega
    clear hl
    go_enter Try.func4, Try.ntmps4
    go_wp2_with fail
    refine (great_any _ _ _ _ _ HS.out).mono ?_
    rintro e w' ⟨rfl, rfl⟩
    rw [HG.out]
    go_wp2_with fail
    refine (awake_any _).mono ?_
    rintro e w1 ⟨rfl, hb1⟩
    go_wp2_with fail
    go_ret
    exact ⟨rfl, hb1⟩

set_option maxHeartbeats 2000000 in
theorem puts_small (ao : Option Addr) (len cap : Nat) (ns : List Nat) (so : Option Addr) (slen scap : Nat) (ss : List ByteArray) (n x : Int) (w : World) (hU : SeesU w (.slice ao len cap) ns) (hS : SeesS w (.slice so slen scap) ss)
    (hlen : ns.length = len) (hslen : ss.length = slen) (hn : ∀ i, ns.getD i 0 < 18446744073709551616) (hl : len ≤ 200) (hg : greatB ss = false) (h0 : 0 ≤ n) (h1 : n ≤ 18446744073709551615) :
    Calls Try.prog 4 #[.slice ao len cap, .slice so slen scap, .int .u64 n, .int .i64 x] w (Gives (.bool true) w) := by
  obtain ⟨hsl, _, hsum⟩ := greatB_no hg
  have HU := Lib.hid hU; have HS := Lib.hid hS; have HN := Lib.hid hn; have HG := Lib.hid hg; have H1 := Lib.hid h1; have HLEN := Lib.hid hlen; have HSUM := Lib.hid hsum
  have hsl2 : slen ≤ 200 := by omega
  have HSL := Lib.hid hslen
  clear hU hS hn hg h1 hlen hsum hslen hsl
  go_enter Try.func4, Try.ntmps4
  go_wp2_with fail
  refine (great_any _ _ _ _ _ HS.out).mono ?_
  rintro e w' ⟨rfl, rfl⟩
  rw [HG.out]
  go_wp2_with fail
  refine (big_any _ _ _ h0 H1.out).mono ?_
  rintro e w1 ⟨rfl, hb1⟩
  generalize hBL : bigL n x = BL
  generalize hBE : bigE n x = BE
  have HBL := Lib.hid hBL; have HBE := Lib.hid hBE; clear hBL hBE
  go_wp2_with fail
  refine (refBig_any _ _ _ h0 H1.out).mono ?_
  rintro e w2 ⟨rfl, hb2⟩
  rw [HBL.out, HBE.out]
  have HB2 : Hid (Below w.heap.size w w2) := Below.next hb1 hb2
  clear hb1 hb2
  go_wp2_with fail
  refine (var_any _ ns _ (HU.out.below HB2.out) HN.out (by rw [HLEN.out]; omega)).mono ?_
  rintro e w3 ⟨rfl, hb3⟩
  have HB3 : Hid (Below w.heap.size w w3) := Below.next HB2.out hb3
  clear hb3
  go_wp2_with fail
  refine (refVar_any _ _ _ ns _ (HU.out.below HB3.out) HN.out (by omega)).mono ?_
  rintro e w4 ⟨rfl, hb4⟩
  have HB4 : Hid (Below w.heap.size w w4) := Below.next HB3.out hb4
  clear hb4
  generalize varl ns = VL at *
  go_wp2_with fail
  refine (text_any _ ss _ (HS.out.below HB4.out) (by rw [HSL.out]; omega) (by have := HSUM.out; omega)).mono ?_
  rintro e w5 ⟨rfl, hb5⟩
  have HB5 : Hid (Below w.heap.size w w5) := Below.next HB4.out hb5
  clear hb5
  go_wp2_with fail
  refine (refText_any _ _ _ ss _ (HS.out.below HB5.out) (by omega) (by have := HSUM.out; omega)).mono ?_
  rintro e w6 ⟨rfl, hb6⟩
  have HB6 : Hid (Below w.heap.size w w6) := Below.next HB5.out hb6
  clear hb6
  generalize textl ss = TL at *
  go_wp2_with fail
  refine (awake_any _).mono ?_
  rintro e w7 ⟨rfl, hb7⟩
  go_wp2_with fail
  go_ret
  exact ⟨rfl, Below.next HB6.out hb7⟩

theorem puts_walk (ao : Option Addr) (len cap : Nat) (ns : List Nat) (so : Option Addr) (slen scap : Nat) (ss : List ByteArray) (n x : Int) (w : World) (hU : SeesU w (.slice ao len cap) ns) (hlen : ns.length = len) (hn : ∀ i, ns.getD i 0 < 18446744073709551616)
    (hS : SeesS w (.slice so slen scap) ss) (hslen : ss.length = slen) (_hz : ∀ s ∈ ss, s.size ≤ 9223372036854775807) (h0 : 0 ≤ n ∧ n ≤ 18446744073709551615) (_hx : -9223372036854775808 ≤ x ∧ x ≤ 9223372036854775807) :
    Calls Try.prog 4 #[.slice ao len cap, .slice so slen scap, .int .u64 n, .int .i64 x] w (Gives (.bool true) w) := by
  by_cases hl : 200 < len
  · exact puts_great ao len cap so slen scap ss n x w hS (Or.inl hl)
  · cases hg : greatB ss with
    | true => exact puts_great ao len cap so slen scap ss n x w hS (Or.inr hg)
    | false => exact puts_small ao len cap ns so slen scap ss n x w hU hS hlen hslen hn (by omega) hg h0.1 h0.2

end Go.Proofs.Ytledehjgaencmaa

/- Walks of num.ReadText. -/
import Derived.Test.YtbdoekogoiijeaaNumClone
namespace Go.Proofs.Ytbdoekogoiijeaa
open Go.RowKit

/-- What ReadText answers: no text. -/
def noText : Value := .tuple #[.string ByteArray.empty, .int .i64 0, .bool false]

/-- The text that a text begins with, and its row's length. -/
def rt (l : List UInt8) (most : Int) : Option (List UInt8 × Nat) :=
  match Nm.rv l with
  | none => none
  | some (n, k) => if most < n ∨ l.length < k + n then none else some ((l.drop k).take n, k + n)

def rtV (l : List UInt8) (most : Int) : Value :=
  match rt l most with
  | none => noText
  | some (t, k) => .tuple #[.string ⟨t.toArray⟩, .int .i64 k, .bool true]

set_option maxHeartbeats 400000 in
theorem readText_none (s : ByteArray) (most : Int) (w : World) (hs : s.size ≤ 9223372036854775807) (hv : rvV s.data.toList = .tuple #[.int .u64 0, .int .i64 0, .bool false]) :
    Calls Try.prog 108 #[.string s, .int .i64 most] w (Gives noText w) := by
  have HV := Lib.hid hv; clear hv
  have HS := Lib.hid hs; clear hs
  go_enter Try.func108, Try.ntmps108
  go_wp2_with fail
  refine (readVar_any _ _ HS.out).mono ?_
  rintro e w' ⟨rfl, rfl⟩
  rw [HV.out]
  go_wp2_with fail
  go_ret3
  exact ⟨rfl, Below.refl _ _⟩

set_option maxHeartbeats 400000 in
theorem readText_less (s : ByteArray) (most n k : Int) (w : World) (hs : s.size ≤ 9223372036854775807) (hv : rvV s.data.toList = .tuple #[.int .u64 n, .int .i64 k, .bool true]) (h0 : most < 0) :
    Calls Try.prog 108 #[.string s, .int .i64 most] w (Gives noText w) := by
  have HV := Lib.hid hv; clear hv
  have HS := Lib.hid hs; clear hs
  go_enter Try.func108, Try.ntmps108
  go_wp2_with fail
  refine (readVar_any _ _ HS.out).mono ?_
  rintro e w' ⟨rfl, rfl⟩
  rw [HV.out]
  go_wp2_with fail
  go_ret3
  exact ⟨rfl, Below.refl _ _⟩

set_option maxHeartbeats 400000 in
theorem readText_most (s : ByteArray) (most n k : Int) (w : World) (hs : s.size ≤ 9223372036854775807) (hv : rvV s.data.toList = .tuple #[.int .u64 n, .int .i64 k, .bool true]) (h0 : 0 ≤ most) (h1 : most < n) (hm : most ≤ 9223372036854775807) :
    Calls Try.prog 108 #[.string s, .int .i64 most] w (Gives noText w) := by
  have HV := Lib.hid hv; clear hv
  have HS := Lib.hid hs; clear hs
  go_enter Try.func108, Try.ntmps108
  go_wp2_with fail
  refine (readVar_any _ _ HS.out).mono ?_
  rintro e w' ⟨rfl, rfl⟩
  rw [HV.out]
  go_wp2_with fail
  go_ret3
  exact ⟨rfl, Below.refl _ _⟩

set_option maxHeartbeats 400000 in
theorem readText_cut (s : ByteArray) (most n k : Int) (w : World) (hs : s.size ≤ 9223372036854775807) (hv : rvV s.data.toList = .tuple #[.int .u64 n, .int .i64 k, .bool true]) (h0 : 0 ≤ most) (h1 : n ≤ most) (hm : most ≤ 9223372036854775807)
    (_hk0 : 1 ≤ k) (hk : k ≤ s.size) (hn : s.size < k + n) :
    Calls Try.prog 108 #[.string s, .int .i64 most] w (Gives noText w) := by
  have HV := Lib.hid hv; clear hv
  have hn' : (s.size : Int) - k < n := by omega
  go_enter Try.func108, Try.ntmps108
  go_wp2_with fail
  refine (readVar_any _ _ hs).mono ?_
  rintro e w' ⟨rfl, rfl⟩
  rw [HV.out]
  go_wp2_with fail
  go_ret3
  exact ⟨rfl, Below.refl _ _⟩

set_option maxHeartbeats 400000 in
theorem readText_yes (s : ByteArray) (most : Int) (n k : Nat) (w : World) (hs : s.size ≤ 281474976710656) (hv : rvV s.data.toList = .tuple #[.int .u64 n, .int .i64 k, .bool true]) (h0 : 0 ≤ most) (h1 : n ≤ most) (hm : most ≤ 9223372036854775807)
    (hk0 : 1 ≤ k) (hn : k + n ≤ s.size) :
    Calls Try.prog 108 #[.string s, .int .i64 most] w (Gives (.tuple #[.string (s.extract k (k + n)), .int .i64 ((k : Int) + n), .bool true]) w) := by
  have HV := Lib.hid hv; clear hv
  have hn' : (n : Int) ≤ (s.size : Int) - k := by omega
  have hle : (s.extract k (k + n)).size ≤ 281474976710656 := by rw [ByteArray.size_extract]; omega
  have HLE := Lib.hid hle; clear hle
  go_enter Try.func108, Try.ntmps108
  go_wp2_with fail
  refine (readVar_any _ _ (by omega)).mono ?_
  rintro e w' ⟨rfl, rfl⟩
  rw [HV.out]
  go_wp2_with fail
  refine (clone_any _ _ HLE.out).mono ?_
  rintro e w1 ⟨rfl, hb⟩
  go_wp2_with fail
  go_ret3
  exact ⟨rfl, hb⟩

theorem rvV_some {l : List UInt8} {n k : Nat} (h : Nm.rv l = some (n, k)) : rvV l = .tuple #[.int .u64 n, .int .i64 k, .bool true] := by unfold rvV; rw [h]
theorem rvV_none {l : List UInt8} (h : Nm.rv l = none) : rvV l = .tuple #[.int .u64 0, .int .i64 0, .bool false] := by unfold rvV; rw [h]

/-- ReadText, of every text of at most 2^48 bytes. -/
theorem readText_any (s : ByteArray) (most : Int) (w : World) (hs : s.size ≤ 281474976710656) (hm : most ≤ 9223372036854775807) :
    Calls Try.prog 108 #[.string s, .int .i64 most] w (Gives (rtV s.data.toList most) w) := by
  cases h : Nm.rv s.data.toList with
  | none =>
    have e : rtV s.data.toList most = noText := by unfold rtV rt; rw [h]
    rw [e]
    exact readText_none s most w (by omega) (rvV_none h)
  | some p =>
    obtain ⟨n, k⟩ := p
    have hv := rvV_some h
    obtain ⟨hk0, hk, -, -⟩ := Nm.row_rv h
    rw [length_list] at hk
    by_cases hc : most < n ∨ s.data.toList.length < k + n
    · have e : rtV s.data.toList most = noText := by unfold rtV rt; rw [h]; simp only [if_pos hc]
      rw [e]
      rw [length_list] at hc
      by_cases h0 : most < 0
      · exact readText_less s most n k w (by omega) hv h0
      · by_cases h1 : most < n
        · exact readText_most s most n k w (by omega) hv (by omega) h1 hm
        · exact readText_cut s most n k w (by omega) hv (by omega) (by omega) hm (by omega) (by omega) (by omega)
    · have e : rtV s.data.toList most = .tuple #[.string (s.extract k (k + n)), .int .i64 ((k : Int) + n), .bool true] := by
        unfold rtV rt
        rw [h]
        simp only [if_neg hc]
        rw [Lib.extract_eq, Nat.add_sub_cancel_left, Int.natCast_add]
      rw [e]
      rw [length_list] at hc
      exact readText_yes s most n k w hs hv (by omega) (by omega) hm hk0 (by omega)

end Go.Proofs.Ytbdoekogoiijeaa

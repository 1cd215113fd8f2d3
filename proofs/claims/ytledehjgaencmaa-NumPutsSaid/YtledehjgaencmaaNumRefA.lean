/- Walks of the document's own answers for layer 1: bytesOf, Row, Big, ReadBig. -/
import Derived.Test.YtledehjgaencmaaNumGreat
import Derived.Deep.RegionHeld3
namespace Go.Proofs.Ytledehjgaencmaa
open Go.RowKit

theorem big_cons : ∀ (w n : Nat), Nm.big n (w + 1) = UInt8.ofNat (n / 256 ^ w) :: Nm.big n w
  | 0, n => by simp [Nm.big]
  | w + 1, n => by
    rw [Nm.big, big_cons w (n / 256), Nat.div_div_eq_div_mul, ← Nat.pow_succ', List.cons_append]
    rfl

/-- 'string([]byte of one byte)'. -/
theorem convert_one (W : World) (c : Int) (b : UInt8) (h : c = b.toNat) :
    (convert 47 9 (.slice (some ⟨W.heap.size, 0, none⟩) 1 1)).run Try.prog (W.alloc (.cells #[.int .u8 c] 5)) = .ok (.string ⟨#[b]⟩) (W.alloc (.cells #[.int .u8 c] 5)) := by
  subst h
  refine run_convert_bytes_back (l := [b]) _ _ _ _ _ _ Try.underlying47 Try.underlying5 Try.underlying9 ?_
  intro j hj
  match j, hj with
  | 0, _ => simp [Addr.add]

theorem byteOf_mod (m : Nat) : ((m : Int) % 256) = (UInt8.ofNat m).toNat := by rw [Nm.toNat_ofNat]; omega
theorem mk_cons (b : UInt8) (S : ByteArray) (l : List UInt8) (h : S.data.toList = l) : (⟨#[b]⟩ : ByteArray) ++ S = ⟨(b :: l).toArray⟩ := by
  subst h
  apply ByteArray.ext
  rw [ByteArray.data_append]
  simp

set_option maxHeartbeats 800000 in
theorem bytesOf_any (N : Nat) (w : World) (hN : N < 18446744073709551616) :
    Calls Try.prog 29 #[.int .u64 N] w (Gives (.string ⟨(Nm.big N (Nm.wid N)).toArray⟩) w) := by
  have HN := Lib.hid hN; clear hN
  go_enter Try.func29, Try.ntmps29
  go_wp2_with fail
  go_loopw [0, 3] (fun n s wr => ∃ (j m : Nat) (S : ByteArray), n = .int .u64 m ∧ s = .string S ∧ m = N / 256 ^ j ∧ S = ⟨(Nm.big N j).toArray⟩ ∧ j ≤ Nm.wid N ∧ Below w.heap.size w wr) (fun n _ _ => (intOf n).toNat)
  case atStart => exact ⟨0, N, _, rfl, rfl, by simp, rfl, Nat.zero_le _, Below.refl _ _⟩
  case round =>
    obtain ⟨j, m, S, rfl, rfl, hm, hS, hj, hbel⟩ := hrel
    have HM := Lib.hid hm; have HS := Lib.hid hS; have HJ := Lib.hid hj; have HB := Lib.hid hbel
    clear hm hS hj hbel
    have hj8 : j ≤ 8 := Nat.le_trans HJ.out (Nm.wid_le8 N)
    have hSs : S.size ≤ 8 := by rw [HS.out]; show (Nm.big N j).length ≤ 8; rw [Nm.big_length]; exact hj8
    by_cases h0 : m = 0
    · subst h0
      have hw : Nm.wid N = j := by
        have h1 : N < 256 ^ j := by
          rcases Nat.lt_or_ge N (256 ^ j) with h | h
          · exact h
          · have := (Nat.one_le_div_iff (Nat.pow_pos (n := j) (show 0 < 256 by omega))).2 h
            have h2 := HM.out
            omega
        have h2 := (Nm.wid_le HN.out hj8).2 h1
        have h3 := HJ.out
        omega
      have HW := Lib.hid hw; clear hw
      go_wp2_with fail
      go_ret
      rw [HW.out, HS.out]
      exact ⟨rfl, HB.out⟩
    · have hpos : 0 < m := by omega
      have hc := fun W : World => convert_one W ((m : Int) % 256) (UInt8.ofNat m) (byteOf_mod m)
      have hadd : ¬ 9223372036854775807 < 1 + S.size := by omega
      have hlt : j < Nm.wid N := by
        rcases Nat.lt_or_ge j (Nm.wid N) with h | h
        · exact h
        · have h1 := (Nm.wid_le HN.out hj8).1 h
          have h2 := HM.out
          rw [Nat.div_eq_of_lt h1] at h2
          omega
      have HLT := Lib.hid hlt; clear hlt
      have HQ : Hid (IntKind.u64.wrap ((m : Int) / 256) = ((m / 256 : Nat) : Int)) := by
        have h1 : m ≤ N := by rw [HM.out]; exact Nat.div_le_self _ _
        have h2 := HN.out
        show IntKind.u64.wrap ((m : Int) / 256) = ((m / 256 : Nat) : Int)
        rw [IntKind.wrap_u64]; omega
      clear h0
      go_wp2_with fail
      go_roundw
      case rel =>
        refine ⟨j + 1, m / 256, _, ?_, rfl, ?_, ?_, HLT.out, HB.out.alloc HB.out.size _⟩
        · rw [HQ.out]
        · rw [HM.out, Nat.div_div_eq_div_mul, Nat.pow_succ]
        · rw [big_cons, ← HM.out]
          exact mk_cons _ _ _ (by rw [HS.out])
      case measure => simp only [intOf]; rw [HQ.out]; omega

set_option maxHeartbeats 800000 in
theorem refRow_any (x : Int) (w : World) (h0 : 0 ≤ x) (h1 : x ≤ 18446744073709551615) :
    Calls Try.prog 30 #[.int .u64 x] w (Gives (.string ⟨(Nm.row x.toNat).toArray⟩) w) := by
  have HN := Lib.hid h1; clear h1
  by_cases h : x < 248
  · have hc := fun W : World => convert_one W x (UInt8.ofNat x.toNat) (by rw [Nm.toNat_ofNat]; omega)
    have HR := Lib.hid (Nm.row_short (n := x.toNat) (by omega))
    generalize Nm.row x.toNat = L at *
    go_enter Try.func30, Try.ntmps30
    go_wp2_with fail
    go_ret
    rw [HR.out]
    exact ⟨rfl, (Below.refl _ _).alloc (Nat.le_refl _) _⟩
  · have HR := Lib.hid (Nm.row_long (n := x.toNat) (by omega))
    have h8 := Nm.wid_le8 x.toNat
    have hlb := Nm.big_length (Nm.wid x.toNat) x.toNat
    have hN2 : 248 ≤ x := by omega
    have HNN : Hid (x.toNat < 18446744073709551616) := by have := HN.out; show x.toNat < 18446744073709551616; omega
    have HX : Hid ((x.toNat : Int) = x) := Int.toNat_of_nonneg h0
    generalize hX : x.toNat = N at *
    generalize Nm.row N = L at *
    generalize hWd : Nm.wid N = W at *
    have HWD := Lib.hid hWd; clear hWd
    generalize hB : Nm.big N W = B at *
    have HBB := Lib.hid hB; clear hB h hX
    have hl1 : B.length ≤ W := by omega
    have hl2 : W ≤ B.length := by omega
    have hbt : (UInt8.ofNat (247 + W)).toNat = 247 + W := by rw [Nm.toNat_ofNat]; omega
    generalize UInt8.ofNat (247 + W) = bb at *
    have hc := fun Wd : World => convert_one Wd (247 + (B.length : Int)) bb (by rw [hbt]; omega)
    clear hbt
    have hadd : ¬ 9223372036854775807 < 1 + B.length := by omega
    clear hlb
    go_enter Try.func30, Try.ntmps30
    go_wp2_with fail
    rw [← HX.out]
    refine (bytesOf_any _ _ HNN.out).mono ?_
    rintro e w1 ⟨rfl, hb1⟩
    rw [HWD.out, HBB.out]
    go_wp2_with fail
    go_ret
    rw [HR.out]
    refine ⟨?_, Below.next_alloc hb1 _⟩
    exact congrArg (fun z => Ending.returned (Value.string z)) (mk_cons _ _ _ rfl)

/-- What the document's ReadBig reads: as readBig_yes, readBig_no. -/
theorem mul_byte (A b : Nat) (h : 256 * A + b < 18446744073709551616) :
    IntKind.u64.wrap (IntKind.u64.wrap (256 * (A : Int)) + (b : Int)) = ((256 * A + b : Nat) : Int) := by
  rw [IntKind.wrap_u64, IntKind.wrap_u64]; omega

set_option maxHeartbeats 400000 in
theorem refReadBig_no (s : ByteArray) (x : Int) (w : World) (h : x < 1 ∨ 8 < x ∨ s.size < x) (_hs : s.size ≤ 9223372036854775807) :
    Calls Try.prog 22 #[.string s, .int .i64 x] w fun e w' => e = .returned (.tuple #[.int .u64 0, .bool false]) ∧ w = w' := by
  by_cases h1 : x < 1
  · clear h
    go_enter Try.func22, Try.ntmps22
    go_wp2_with fail
    go_ret2
    exact ⟨rfl, rfl⟩
  · have h1' : 1 ≤ x := by omega
    clear h1
    by_cases h2 : 8 < x
    · clear h
      go_enter Try.func22, Try.ntmps22
      go_wp2_with fail
      go_ret2
      exact ⟨rfl, rfl⟩
    · have h2' : x ≤ 8 := by omega
      have h3 : (s.size : Int) < x := by omega
      clear h h2
      go_enter Try.func22, Try.ntmps22
      go_wp2_with fail
      go_ret2
      exact ⟨rfl, rfl⟩

set_option maxHeartbeats 400000 in
theorem refReadBig_yes (s : ByteArray) (x : Int) (w : World) (h1 : 1 ≤ x) (h2 : x ≤ 8) (h3 : x ≤ s.size) (_hs : s.size ≤ 9223372036854775807) :
    Calls Try.prog 22 #[.string s, .int .i64 x] w fun e w' => e = .returned (.tuple #[.int .u64 (Nm.val (s.data.toList.take x.toNat)), .bool true]) ∧ w = w' := by
  obtain ⟨m, rfl⟩ := Int.eq_ofNat_of_zero_le (show 0 ≤ x by omega)
  rw [Int.toNat_natCast]
  have h3' : decide (s.size < m) = false := by simp; omega
  have hd1 : decide ((m : Int) < 1) = false := by simp; omega
  have hd2 : decide ((8 : Int) < (m : Int)) = false := by simp; omega
  go_enter Try.func22, Try.ntmps22
  go_wp2_with fail
  go_loop [6, 7] (fun n i => ∃ k : Nat, k ≤ m ∧ i = .int .i64 k ∧ n = .int .u64 (Nm.val (s.data.toList.take k))) (fun _ i => m - (intOf i).toNat)
  case atStart => exact ⟨0, Nat.zero_le _, rfl, rfl⟩
  case round =>
    obtain ⟨k, hk, rfl, rfl⟩ := hrel
    by_cases hlt : k < m
    · have hks : k < s.size := by omega
      have hb := (s[k]'hks).toNat_lt
      have hv := Nm.val_lt (s.data.toList.take k)
      have hl : (s.data.toList.take k).length = k := by rw [List.length_take, length_list]; omega
      have hp : 256 ^ (s.data.toList.take k).length ≤ 256 ^ 7 := Nat.pow_le_pow_right (by omega) (by omega)
      have hi := index_byte s k hks
      have HS : Hid (Nm.val (s.data.toList.take (k + 1)) = 256 * Nm.val (s.data.toList.take k) + (s[k]'hks).toNat) := by rw [take_snoc s k hks, Nm.val_snoc]; exact rfl
      have hA : 256 * Nm.val (s.data.toList.take k) + (s[k]'hks).toNat < 18446744073709551616 := by simp only [Nat.reducePow] at hp; omega
      generalize (s[k]'hks).toNat = z at *
      generalize Nm.val (s.data.toList.take k) = A at *
      have HM := Lib.hid (mul_byte A z hA)
      clear hp hv hl hA
      go_wp2_with fail
      go_round
      case rel => exact ⟨k + 1, by omega, by go_num, by rw [HS.out]; exact congrArg (Value.int .u64) HM.out⟩
      case measure => simp [intOf]; omega
    · go_wp2_with fail
      go_ret2
      have : k = m := by omega
      subst this
      exact ⟨rfl, rfl⟩

/-- As many noughts ahead as are wanting. -/
theorem big_pad : ∀ (d w n : Nat), n < 256 ^ w → Nm.big n (w + d) = List.replicate d 0 ++ Nm.big n w
  | 0, w, n, _ => by simp
  | d + 1, w, n, h => by
    have h2 : n < 256 ^ (w + d) := Nat.lt_of_lt_of_le h (Nat.pow_le_pow_right (by omega) (by omega))
    rw [← Nat.add_assoc, big_cons, Nat.div_eq_of_lt h2, big_pad d w n h, List.replicate_succ, List.cons_append]
    rfl

set_option maxHeartbeats 400000 in
theorem refBig_arg (n x : Int) (w : World) (h : x < 1 ∨ 8 < x) :
    Calls Try.prog 17 #[.int .u64 n, .int .i64 x] w (Told [] 1 w) := by
  by_cases h1 : x < 1
  · clear h
    go_enter Try.func17, Try.ntmps17
    go_wp2_with fail
    go_ret2
    exact ⟨rfl, Below.refl _ _⟩
  · have h1' : 1 ≤ x := by omega
    have h2 : 8 < x := by omega
    clear h h1
    go_enter Try.func17, Try.ntmps17
    go_wp2_with fail
    go_ret2
    exact ⟨rfl, Below.refl _ _⟩

set_option maxHeartbeats 400000 in
theorem refBig_long (n : Nat) (x : Int) (w : World) (hn : n < 18446744073709551616) (h1 : 1 ≤ x) (h2 : x ≤ 8) (h : x < Nm.wid n) :
    Calls Try.prog 17 #[.int .u64 n, .int .i64 x] w (Told [] 3 w) := by
  have HN := Lib.hid hn; clear hn
  have hl := Nm.big_length (Nm.wid n) n
  generalize hB : Nm.big n (Nm.wid n) = B at *
  have hBx : x < (B.length : Int) := by omega
  have HB := Lib.hid hB; clear hB hl h
  go_enter Try.func17, Try.ntmps17
  go_wp2_with fail
  refine (bytesOf_any _ _ HN.out).mono ?_
  rintro e w1 ⟨rfl, hb1⟩
  rw [HB.out]
  go_wp2_with fail
  go_ret2
  exact ⟨rfl, hb1⟩

set_option maxHeartbeats 800000 in
theorem refBig_ok (n m : Nat) (w : World) (hn : n < 18446744073709551616) (h1 : (1 : Int) ≤ m) (h2 : (m : Int) ≤ 8) (h : Nm.wid n ≤ m) :
    Calls Try.prog 17 #[.int .u64 n, .int .i64 m] w (Told (Nm.big n m) 0 w) := by
  have hl := Nm.big_length (Nm.wid n) n
  have hpad : ∀ d, Nm.wid n + d ≤ m → Nm.big n (Nm.wid n + d) = List.replicate d 0 ++ Nm.big n (Nm.wid n) := fun d _ => big_pad d (Nm.wid n) n (Nm.lt_wid hn)
  have HN := Lib.hid hn; clear hn
  have hd1 : decide ((m : Int) < 1) = false := by simp; omega
  have hd2 : decide ((8 : Int) < (m : Int)) = false := by simp; omega
  generalize hB : Nm.big n (Nm.wid n) = B at *
  generalize hW : Nm.wid n = W at *
  have HW := Lib.hid hW; clear hW
  have hBm : B.length ≤ m := by omega
  have hd3 : decide (m < B.length) = false := by simp; omega
  have HP := Lib.hid hpad; have HBB := Lib.hid hB; have HL := Lib.hid hl
  clear hpad hB hl h
  go_enter Try.func17, Try.ntmps17
  go_wp2_with fail
  refine (bytesOf_any _ _ HN.out).mono ?_
  rintro e w1 ⟨rfl, hb1⟩
  rw [HW.out, HBB.out]
  go_wp2_with fail
  have HB1 := Lib.hid hb1; clear hb1
  go_loop [6] (fun s => ∃ (k : Nat) (S : ByteArray), k ≤ m ∧ s = .string S ∧ S.size = k ∧ W ≤ k ∧ S = ⟨(Nm.big n k).toArray⟩) (fun s => m - (match s with | .string S => S.size | _ => 0))
  case atStart => exact ⟨B.length, _, by omega, rfl, rfl, by rw [HL.out]; exact Nat.le_refl _, by rw [HL.out, HBB.out]⟩
  case round =>
    obtain ⟨k, S, hk, rfl, hSk, hWk, hS⟩ := hrel
    have hk1 : S.size ≤ k := by omega
    have hk2 : k ≤ S.size := by omega
    have HS := Lib.hid hS; have HSK := Lib.hid hSk; clear hS hSk
    by_cases hlt : k < m
    · have HNX : Hid ((⟨#[0]⟩ : ByteArray) ++ S = ⟨(Nm.big n (k + 1)).toArray⟩) := by
        have e : Nm.big n (k + 1) = 0 :: Nm.big n k := by
          have h1 := HP.out (k - W) (by omega)
          have h2 := HP.out (k + 1 - W) (by omega)
          rw [show W + (k - W) = k by omega] at h1
          rw [show W + (k + 1 - W) = k + 1 by omega] at h2
          rw [h1, h2, show k + 1 - W = (k - W) + 1 by omega, List.replicate_succ, List.cons_append]
        rw [e]
        exact mk_cons 0 S _ (by rw [HS.out])
      have hadd : ¬ 9223372036854775807 < 1 + S.size := by omega
      go_wp2_with fail
      go_round
      case rel => exact ⟨k + 1, _, by omega, rfl, by rw [ByteArray.size_append]; have := HSK.out; show 1 + S.size = k + 1; omega, by omega, HNX.out⟩
      case measure => simp only [ByteArray.size_append]; have := HSK.out; show m - (1 + S.size) < m - S.size; omega
    · have hkm : k = m := by omega
      subst hkm
      go_wp2_with fail
      go_ret2
      rw [HS.out]
      exact ⟨rfl, HB1.out⟩

theorem refBig_any (n x : Int) (w : World) (h0 : 0 ≤ n) (h1 : n ≤ 18446744073709551615) :
    Calls Try.prog 17 #[.int .u64 n, .int .i64 x] w (Told (bigL n x) (bigE n x) w) := by
  obtain ⟨N, rfl⟩ := Int.eq_ofNat_of_zero_le h0
  unfold bigL bigE
  rw [Int.toNat_natCast]
  by_cases hx : x < 1 ∨ 8 < x
  · rw [if_pos hx, if_pos hx]
    exact refBig_arg _ _ _ hx
  · rw [if_neg hx, if_neg hx]
    by_cases hw : x < Nm.wid N
    · rw [if_pos hw, if_pos hw]
      exact refBig_long _ _ _ (by omega) (by omega) (by omega) hw
    · rw [if_neg hw, if_neg hw]
      obtain ⟨m, rfl⟩ := Int.eq_ofNat_of_zero_le (show 0 ≤ x by omega)
      rw [Int.toNat_natCast]
      exact refBig_ok _ _ _ (by omega) (by omega) (by omega) (by omega)

end Go.Proofs.Ytledehjgaencmaa

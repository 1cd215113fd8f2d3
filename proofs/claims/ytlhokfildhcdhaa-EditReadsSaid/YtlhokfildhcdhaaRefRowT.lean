/- Walks of the document's Row and ReadVar of layer 1 (no other function of layer 1's statements is named). -/
import Derived.Test.YtlhokfildhcdhaaNumText
import Derived.Test.YtlhokfildhcdhaaNumVar
import Derived.Deep.RegionHeld3
import Derived.Test.YtlhokfildhcdhaaBelow
namespace Go.Proofs.Ytlhokfildhcdhaa
open Go.RowKit

theorem big_cons : ∀ (w n : Nat), Nm.big n (w + 1) = UInt8.ofNat (n / 256 ^ w) :: Nm.big n w
  | 0, n => by simp [Nm.big]
  | w + 1, n => by
    rw [Nm.big, big_cons w (n / 256), Nat.div_div_eq_div_mul, ← Nat.pow_succ', List.cons_append]
    rfl

/-- 'string([]byte of one byte)'. -/
theorem convert_one (W : World) (c : Int) (b : UInt8) (h : c = b.toNat) :
    (convert 42 9 (.slice (some ⟨W.heap.size, 0, none⟩) 1 1)).run Try.prog (W.alloc (.cells #[.int .u8 c] 5)) = .ok (.string ⟨#[b]⟩) (W.alloc (.cells #[.int .u8 c] 5)) := by
  subst h
  refine run_convert_bytes_back (l := [b]) _ _ _ _ _ _ Try.underlying42 Try.underlying5 Try.underlying9 ?_
  intro j hj
  match j, hj with
  | 0, _ => simp [Addr.add]

theorem byteOf_mod (m : Nat) : ((m : Int) % 256) = (UInt8.ofNat m).toNat := by rw [Nm.toNat_ofNat]; omega
theorem mk_cons (b : UInt8) (S : ByteArray) (l : List UInt8) (h : S.data.toList = l) : (⟨#[b]⟩ : ByteArray) ++ S = ⟨(b :: l).toArray⟩ := by
  subst h
  apply ByteArray.ext
  rw [ByteArray.data_append]
  simp

set_option maxHeartbeats 800000 in
theorem bytesOf_any (N : Nat) (w : World) (hN : N < 18446744073709551616) :
    Calls Try.prog 54 #[.int .u64 N] w (Gives (.string ⟨(Nm.big N (Nm.wid N)).toArray⟩) w) := by
  have HN := Lib.hid hN; clear hN
  go_enter Try.func54, Try.ntmps54
  go_wp2_with fail
  go_loopw [0, 3] (fun n s wr => ∃ (j m : Nat) (S : ByteArray), n = .int .u64 m ∧ s = .string S ∧ m = N / 256 ^ j ∧ S = ⟨(Nm.big N j).toArray⟩ ∧ j ≤ Nm.wid N ∧ Below w.heap.size w wr) (fun n _ _ => (intOf n).toNat)
  case atStart => exact ⟨0, N, _, rfl, rfl, by simp, rfl, Nat.zero_le _, Below.refl _ _⟩
  case round =>
    obtain ⟨j, m, S, rfl, rfl, hm, hS, hj, hbel⟩ := hrel
    have HM := Lib.hid hm; have HS := Lib.hid hS; have HJ := Lib.hid hj; have HB := Lib.hid hbel
    clear hm hS hj hbel
    have hj8 : j ≤ 8 := Nat.le_trans HJ.out (Nm.wid_le8 N)
    have hSs : S.size ≤ 8 := by rw [HS.out]; show (Nm.big N j).length ≤ 8; rw [Nm.big_length]; exact hj8
    by_cases h0 : m = 0
    · subst h0
      have hw : Nm.wid N = j := by
        have h1 : N < 256 ^ j := by
          rcases Nat.lt_or_ge N (256 ^ j) with h | h
          · exact h
          · have := (Nat.one_le_div_iff (Nat.pow_pos (n := j) (show 0 < 256 by omega))).2 h
            have h2 := HM.out
            omega
        have h2 := (Nm.wid_le HN.out hj8).2 h1
        have h3 := HJ.out
        omega
      have HW := Lib.hid hw; clear hw
      go_wp2_with fail
      go_ret
      rw [HW.out, HS.out]
      exact ⟨rfl, HB.out⟩
    · have hpos : 0 < m := by omega
      have hc := fun W : World => convert_one W ((m : Int) % 256) (UInt8.ofNat m) (byteOf_mod m)
      have hadd : ¬ 9223372036854775807 < 1 + S.size := by omega
      have hlt : j < Nm.wid N := by
        rcases Nat.lt_or_ge j (Nm.wid N) with h | h
        · exact h
        · have h1 := (Nm.wid_le HN.out hj8).1 h
          have h2 := HM.out
          rw [Nat.div_eq_of_lt h1] at h2
          omega
      have HLT := Lib.hid hlt; clear hlt
      have HQ : Hid (IntKind.u64.wrap ((m : Int) / 256) = ((m / 256 : Nat) : Int)) := by
        have h1 : m ≤ N := by rw [HM.out]; exact Nat.div_le_self _ _
        have h2 := HN.out
        show IntKind.u64.wrap ((m : Int) / 256) = ((m / 256 : Nat) : Int)
        rw [IntKind.wrap_u64]; omega
      clear h0
      go_wp2_with fail
      go_roundw
      case rel =>
        refine ⟨j + 1, m / 256, _, ?_, rfl, ?_, ?_, HLT.out, HB.out.alloc HB.out.size _⟩
        · rw [HQ.out]
        · rw [HM.out, Nat.div_div_eq_div_mul, Nat.pow_succ]
        · rw [big_cons, ← HM.out]
          exact mk_cons _ _ _ (by rw [HS.out])
      case measure => simp only [intOf]; rw [HQ.out]; omega

set_option maxHeartbeats 800000 in
theorem refRow_any (x : Int) (w : World) (h0 : 0 ≤ x) (h1 : x ≤ 18446744073709551615) :
    Calls Try.prog 39 #[.int .u64 x] w (Gives (.string ⟨(Nm.row x.toNat).toArray⟩) w) := by
  have HN := Lib.hid h1; clear h1
  by_cases h : x < 248
  · have hc := fun W : World => convert_one W x (UInt8.ofNat x.toNat) (by rw [Nm.toNat_ofNat]; omega)
    have HR := Lib.hid (Nm.row_short (n := x.toNat) (by omega))
    generalize Nm.row x.toNat = L at *
    go_enter Try.func39, Try.ntmps39
    go_wp2_with fail
    go_ret
    rw [HR.out]
    exact ⟨rfl, (Below.refl _ _).alloc (Nat.le_refl _) _⟩
  · have HR := Lib.hid (Nm.row_long (n := x.toNat) (by omega))
    have h8 := Nm.wid_le8 x.toNat
    have hlb := Nm.big_length (Nm.wid x.toNat) x.toNat
    have hN2 : 248 ≤ x := by omega
    have HNN : Hid (x.toNat < 18446744073709551616) := by have := HN.out; show x.toNat < 18446744073709551616; omega
    have HX : Hid ((x.toNat : Int) = x) := Int.toNat_of_nonneg h0
    generalize hX : x.toNat = N at *
    generalize Nm.row N = L at *
    generalize hWd : Nm.wid N = W at *
    have HWD := Lib.hid hWd; clear hWd
    generalize hB : Nm.big N W = B at *
    have HBB := Lib.hid hB; clear hB h hX
    have hl1 : B.length ≤ W := by omega
    have hl2 : W ≤ B.length := by omega
    have hbt : (UInt8.ofNat (247 + W)).toNat = 247 + W := by rw [Nm.toNat_ofNat]; omega
    generalize UInt8.ofNat (247 + W) = bb at *
    have hc := fun Wd : World => convert_one Wd (247 + (B.length : Int)) bb (by rw [hbt]; omega)
    clear hbt
    have hadd : ¬ 9223372036854775807 < 1 + B.length := by omega
    clear hlb
    go_enter Try.func39, Try.ntmps39
    go_wp2_with fail
    rw [← HX.out]
    refine (bytesOf_any _ _ HNN.out).mono ?_
    rintro e w1 ⟨rfl, hb1⟩
    rw [HWD.out, HBB.out]
    go_wp2_with fail
    go_ret
    rw [HR.out]
    refine ⟨?_, Below.next_alloc hb1 _⟩
    exact congrArg (fun z => Ending.returned (Value.string z)) (mk_cons _ _ _ rfl)

/-- What the document's ReadBig reads: as readBig_yes, readBig_no. -/
theorem mul_byte (A b : Nat) (h : 256 * A + b < 18446744073709551616) :
    IntKind.u64.wrap (IntKind.u64.wrap (256 * (A : Int)) + (b : Int)) = ((256 * A + b : Nat) : Int) := by
  rw [IntKind.wrap_u64, IntKind.wrap_u64]; omega

theorem mk_app (x y : List UInt8) : (⟨x.toArray⟩ : ByteArray) ++ ⟨y.toArray⟩ = ⟨(x ++ y).toArray⟩ := by
  apply ByteArray.ext
  rw [ByteArray.data_append]
  simp


set_option maxHeartbeats 400000 in
theorem refReadVar_empty (w : World) :
    Calls Try.prog 42 #[.string ByteArray.empty] w (Gives (.tuple #[.int .u64 0, .int .i64 0, .bool false]) w) := by
  go_enter Try.func42, Try.ntmps42
  go_wp2_with fail
  go_ret3
  exact ⟨rfl, Below.refl _ _⟩

set_option maxHeartbeats 400000 in
theorem refReadVar_short (s : ByteArray) (c : Int) (w : World) (hi : ∀ w : World, (Instr.index 9 (.string s) (.int .i64 0)).run Try.prog w = .ok (.int .u8 c) w) (h1 : 1 ≤ s.size) (h0 : 0 ≤ c) (hb : c < 248) :
    Calls Try.prog 42 #[.string s] w (Gives (.tuple #[.int .u64 c, .int .i64 1, .bool true]) w) := by
  have hz : ((s.size : Int) == 0) = false := by rw [beq_eq_false_iff_ne]; omega
  go_enter Try.func42, Try.ntmps42
  go_wp2_with fail
  go_ret3
  exact ⟨rfl, Below.refl _ _⟩

set_option maxHeartbeats 400000 in
theorem refReadVar_cut (s : ByteArray) (c : Int) (w : World) (hi : ∀ w : World, (Instr.index 9 (.string s) (.int .i64 0)).run Try.prog w = .ok (.int .u8 c) w) (h1 : 1 ≤ s.size) (hb : 248 ≤ c) (hc : c ≤ 255) (hl : (s.size : Int) < c - 246) :
    Calls Try.prog 42 #[.string s] w (Gives (.tuple #[.int .u64 0, .int .i64 0, .bool false]) w) := by
  have hz : ((s.size : Int) == 0) = false := by rw [beq_eq_false_iff_ne]; omega
  go_enter Try.func42, Try.ntmps42
  go_wp2_with fail
  go_ret3
  exact ⟨rfl, Below.refl _ _⟩

/-- The number of the bytes from the second one on. -/
theorem take_drop_snoc (s : ByteArray) (k : Nat) (h : 1 + k < s.size) : (s.data.toList.drop 1).take (k + 1) = (s.data.toList.drop 1).take k ++ [s[1 + k]] := by
  rw [List.take_succ_eq_append_getElem (by rw [List.length_drop, length_list]; omega)]
  congr 2
  rw [List.getElem_drop]
  rfl

/-- What ReadVar answers where a row might stand. -/
def rvG (G : Bool) (V t : Nat) : Value := if G = true then .tuple #[.int .u64 0, .int .i64 0, .bool false] else .tuple #[.int .u64 V, .int .i64 ((t : Int) + 1), .bool true]

set_option maxRecDepth 100000 in
set_option maxHeartbeats 2000000 in
theorem refReadVar_long (s : ByteArray) (t : Nat) (V : Nat) (w : World) (hi : ∀ w : World, (Instr.index 9 (.string s) (.int .i64 0)).run Try.prog w = .ok (.int .u8 ((t : Int) + 247)) w) (h1 : (1 : Int) ≤ s.size) (ht1 : (1 : Int) ≤ t) (ht8 : (t : Int) ≤ 8) (hl : (t : Int) + 1 ≤ s.size) (hs : s.size ≤ 9223372036854775807)
    (hV : Nm.val ((s.data.toList.drop 1).take t) = V) (hV64 : V < 18446744073709551616) (G : Bool) (hG : (!(Nm.row V == (s.extract 0 (t + 1)).toList)) = G) :
    Calls Try.prog 42 #[.string s] w (Gives (rvG G V t) w) := by
  have hz : ((s.size : Int) == 0) = false := by rw [beq_eq_false_iff_ne]; omega
  have hlt : decide ((t : Int) + 247 < 248) = false := by rw [decide_eq_false_iff_not]; omega
  have hld : decide ((s.size : Int) < (t : Int) + 1) = false := by rw [decide_eq_false_iff_not]; omega
  have h246 : (t : Int) + 247 - 246 = (t : Int) + 1 := by omega
  have HV := Lib.hid hV; have HV64 := Lib.hid hV64; have HG := Lib.hid hG; clear hV hV64 hG
  go_enter Try.func42, Try.ntmps42
  go_wp2_with fail
  clear h246 hlt hld hz
  go_loop [6, 7] (fun n i => ∃ k A : Nat, k ≤ t ∧ i = .int .i64 ((k : Int) + 1) ∧ n = .int .u64 A ∧ A = Nm.val ((s.data.toList.drop 1).take k)) (fun _ i => t + 1 - (intOf i).toNat)
  case atStart => exact ⟨0, 0, Nat.zero_le _, rfl, rfl, rfl⟩
  case round =>
    obtain ⟨k, A, hk, rfl, rfl, hA⟩ := hrel
    have HA := Lib.hid hA; clear hA
    by_cases hkt : k < t
    · have hks : 1 + k < s.size := by omega
      have hks2 : k + 1 < s.size := by omega
      have hb := (s[1 + k]'hks).toNat_lt
      have hv := Nm.val_lt ((s.data.toList.drop 1).take k)
      have hlk : ((s.data.toList.drop 1).take k).length = k := by rw [List.length_take, List.length_drop, length_list]; omega
      have hp : 256 ^ ((s.data.toList.drop 1).take k).length ≤ 256 ^ 7 := Nat.pow_le_pow_right (by omega) (by omega)
      have hi2 := index_byte s (1 + k) hks
      have ek : ((1 + k : Nat) : Int) = (k : Int) + 1 := by omega
      rw [ek] at hi2
      have HS : Hid (Nm.val ((s.data.toList.drop 1).take (k + 1)) = 256 * A + (s[1 + k]'hks).toNat) := by rw [take_drop_snoc s k hks, Nm.val_snoc, HA.out]; exact rfl
      have hA64 : 256 * A + (s[1 + k]'hks).toNat < 18446744073709551616 := by rw [HA.out]; simp only [Nat.reducePow] at hp; omega
      generalize (s[1 + k]'hks).toNat = z at *
      have HM := Lib.hid (mul_byte A z hA64)
      clear hp hv hlk hA64 ek hks
      go_wp2_with fail
      go_round
      case rel => exact ⟨k + 1, 256 * A + z, by omega, by go_num, congrArg (Value.int .u64) HM.out, HS.out.symm⟩
      case measure => simp [intOf]; omega
    · have hkt2 : k = t := by omega
      subst hkt2
      obtain rfl : A = V := HA.out.trans HV.out
      have hlk : (k : Int) + 1 ≤ s.size := hl
      have hl0 : (0 : Int) ≤ (k : Int) + 1 := by omega
      have hen : ((k : Int) + 1).toNat = k + 1 := by omega
      go_wp2_with fail
      go_region_held3 (fun _ => True) (trivial) (first | (go_at_call 39; refine (refRow_any _ _ (by omega) (by have := HV64.out; omega)).mono ?_; rintro e w1 ⟨rfl, hb1⟩; rw [Int.toNat_natCast]))
      clear hen
      cases G with
      | true =>
        have hg : (Nm.row A == (s.extract 0 (k + 1)).toList) = false := by have := HG.out; simpa using this
        go_wp2
        · go_ret3
          exact ⟨rfl, Below.next (Below.refl _ _).drew hb1⟩
        · exfalso
          have h : (!(Nm.row A == (s.extract 0 (k + 1)).toList)) = false := by assumption
          rw [hg] at h
          cases h
      | false =>
        have hg : (Nm.row A == (s.extract 0 (k + 1)).toList) = true := by have := HG.out; simpa using this
        go_wp2
        · exfalso
          have h : (!(Nm.row A == (s.extract 0 (k + 1)).toList)) = true := by assumption
          rw [hg] at h
          cases h
        · go_ret3
          exact ⟨rfl, Below.next (Below.refl _ _).drew hb1⟩

/-- The document's ReadVar, of every text. -/
theorem refReadVar_any (s : ByteArray) (w : World) (hs : s.size ≤ 9223372036854775807) :
    Calls Try.prog 42 #[.string s] w (Gives (rvV s.data.toList) w) := by
  by_cases h0 : s.size = 0
  · obtain rfl := empty_of_size h0
    exact refReadVar_empty w
  · have h1 : 1 ≤ s.size := by omega
    have h2 : 0 < s.size := h1
    have hi := index_byte s 0 h2
    have hlen : (s.extract 1 s.size).data.toList.length = s.size - 1 := by rw [length_list, extract_size s h1]
    have hv : rvV s.data.toList = rvV (s[0] :: (s.extract 1 s.size).data.toList) := congrArg rvV (head_tail s h2)
    have hht := head_tail s h2
    rw [hv]
    clear hv
    have hdr : s.data.toList.drop 1 = (s.extract 1 s.size).data.toList := (Lib.extract_to_end s 1).symm
    generalize s[0] = b at *
    generalize hr : (s.extract 1 s.size).data.toList = r at *
    have hlt := b.toNat_lt
    by_cases hb : b.toNat < 248
    · have e : rvV (b :: r) = .tuple #[.int .u64 (b.toNat : Nat), .int .i64 1, .bool true] := by
        unfold rvV; rw [Nm.rv, if_pos hb]; rfl
      rw [e]
      exact refReadVar_short s _ w hi h1 (by omega) (by omega)
    · by_cases hl : r.length < b.toNat - 247
      · have e : rvV (b :: r) = .tuple #[.int .u64 0, .int .i64 0, .bool false] := by
          unfold rvV; rw [Nm.rv, if_neg hb, if_pos hl]
        rw [e]
        exact refReadVar_cut s _ w hi h1 (by omega) (by omega) (by omega)
      · obtain ⟨t, ht⟩ : ∃ t, t = b.toNat - 247 := ⟨_, rfl⟩
        have hbt : b.toNat = t + 247 := by omega
        have hv1 := Nm.val_lt (r.take t)
        have hlt2 : (r.take t).length = t := by rw [List.length_take]; omega
        have hv2 : 256 ^ (r.take t).length ≤ 256 ^ 8 := Nat.pow_le_pow_right (by omega) (by omega)
        have hv3 : Nm.val (r.take t) < 18446744073709551616 := by simp only [Nat.reducePow] at hv2; omega
        have hi' : ∀ w : World, (Instr.index 9 (.string s) (.int .i64 0)).run Try.prog w = .ok (.int .u8 ((t : Int) + 247)) w := by
          intro w
          rw [show ((t : Int) + 247) = (b.toNat : Int) by omega]
          exact hi w
        have hex : (s.extract 0 (t + 1)).toList = b :: r.take t := by
          rw [ByteArray.toList_eq, Lib.extract_data, List.drop_zero, Nat.sub_zero, hht, List.take_succ_cons]
        have hfin := refReadVar_long s t (Nm.val (r.take t)) w hi' (by omega) (by omega) (by omega) (by omega) hs (by rw [hdr]) hv3 _ rfl
        have e : rvV (b :: r) = rvG (!(Nm.row (Nm.val (r.take t)) == (s.extract 0 (t + 1)).toList)) (Nm.val (r.take t)) t := by
          unfold rvG
          by_cases hrow : Nm.row (Nm.val (r.take t)) = (s.extract 0 (t + 1)).toList
          · have h3 : Nm.rv (b :: r) = some (Nm.val (r.take t), (Nm.row (Nm.val (r.take t))).length) := by
              have e1 : b :: r = Nm.row (Nm.val (r.take t)) ++ r.drop t := by rw [hrow, hex, List.cons_append, List.take_append_drop]
              conv => lhs; rw [e1]
              exact Nm.rv_row hv3 _
            rw [rvV_some h3, hrow, hex, List.length_cons, hlt2]
            simp
          · have h3 : Nm.rv (b :: r) = none := by
              rw [Nm.rv, if_neg hb, ← ht, if_neg (by omega)]
              by_cases hc : Nm.val (r.take t) < 248 ∨ Nm.wid (Nm.val (r.take t)) ≠ t
              · rw [if_pos hc]
              · exfalso
                apply hrow
                have hge : ¬ Nm.val (r.take t) < 248 := fun h => hc (Or.inl h)
                have hw : Nm.wid (Nm.val (r.take t)) = t := Classical.byContradiction fun h => hc (Or.inr h)
                rw [Nm.row_long hge, hw, hex, Nm.big_val _ _ hlt2, Nat.add_comm, ← hbt]
                simp
            rw [rvV_none h3]
            simp [hrow]
        rw [e]
        exact hfin

end Go.Proofs.Ytlhokfildhcdhaa

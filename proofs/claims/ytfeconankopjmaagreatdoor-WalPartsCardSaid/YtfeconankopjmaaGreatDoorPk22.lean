/- Texts on the program's own functions, several in one: BnRefRowT, BnRefTextT, BnBtB. -/
import Derived.Test.YtfeconankopjmaaGreatDoorPk5
import Derived.Deep.RegionHeld3
import Derived.Test.YtfeconankopjmaaGreatDoorPk4

/- Walks of the document's Row and ReadVar of layer 1 (no other function of layer 1's statements is named). -/
namespace Go.Proofs.YtfeconankopjmaaGreatDoor.Bn
set_option maxRecDepth 100000
open Go.RowKit

theorem big_cons : ∀ (w n : Nat), Nm.big n (w + 1) = UInt8.ofNat (n / 256 ^ w) :: Nm.big n w
  | 0, n => by simp [Nm.big]
  | w + 1, n => by
    rw [Nm.big, big_cons w (n / 256), Nat.div_div_eq_div_mul, ← Nat.pow_succ', List.cons_append]
    rfl

/-- 'string([]byte of one byte)'. -/
theorem convert_one (W : World) (c : Int) (b : UInt8) (h : c = b.toNat) :
    (convert 128 9 (.slice (some ⟨W.heap.size, 0, none⟩) 1 1)).run Tryz.prog (W.alloc (.cells #[.int .u8 c] 5)) = .ok (.string ⟨#[b]⟩) (W.alloc (.cells #[.int .u8 c] 5)) := by
  subst h
  refine run_convert_bytes_back (l := [b]) _ _ _ _ _ _ Tryz.underlying128 Tryz.underlying5 Tryz.underlying9 ?_
  intro j hj
  match j, hj with
  | 0, _ => simp [Addr.add]

theorem byteOf_mod (m : Nat) : ((m : Int) % 256) = (UInt8.ofNat m).toNat := by rw [Nm.toNat_ofNat]; omega
theorem mk_cons (b : UInt8) (S : ByteArray) (l : List UInt8) (h : S.data.toList = l) : (⟨#[b]⟩ : ByteArray) ++ S = ⟨(b :: l).toArray⟩ := by
  subst h
  apply ByteArray.ext
  rw [ByteArray.data_append]
  simp

set_option maxHeartbeats 800000 in
theorem bytesOf_any (N : Nat) (w : World) (hN : N < 18446744073709551616) :
    Calls Tryz.prog 187 #[.int .u64 N] w (Gives (.string ⟨(Nm.big N (Nm.wid N)).toArray⟩) w) := by
  have HN := Lib.hid hN; clear hN
  go_enter Tryz.func187, Tryz.ntmps187
  go_wp2_with fail
  go_loopw [0, 3] (fun n s wr => ∃ (j m : Nat) (S : ByteArray), n = .int .u64 m ∧ s = .string S ∧ m = N / 256 ^ j ∧ S = ⟨(Nm.big N j).toArray⟩ ∧ j ≤ Nm.wid N ∧ Below w.heap.size w wr) (fun n _ _ => (intOf n).toNat)
  case atStart => exact ⟨0, N, _, rfl, rfl, by simp, rfl, Nat.zero_le _, Below.refl _ _⟩
  case round =>
    obtain ⟨j, m, S, rfl, rfl, hm, hS, hj, hbel⟩ := hrel
    have HM := Lib.hid hm; have HS := Lib.hid hS; have HJ := Lib.hid hj; have HB := Lib.hid hbel
    clear hm hS hj hbel
    have hj8 : j ≤ 8 := Nat.le_trans HJ.out (Nm.wid_le8 N)
    have hSs : S.size ≤ 8 := by rw [HS.out]; show (Nm.big N j).length ≤ 8; rw [Nm.big_length]; exact hj8
    by_cases h0 : m = 0
    · subst h0
      have hw : Nm.wid N = j := by
        have h1 : N < 256 ^ j := by
          rcases Nat.lt_or_ge N (256 ^ j) with h | h
          · exact h
          · have := (Nat.one_le_div_iff (Nat.pow_pos (n := j) (show 0 < 256 by omega))).2 h
            have h2 := HM.out
            omega
        have h2 := (Nm.wid_le HN.out hj8).2 h1
        have h3 := HJ.out
        omega
      have HW := Lib.hid hw; clear hw
      go_wp2_with fail
      go_ret
      rw [HW.out, HS.out]
      exact ⟨rfl, HB.out⟩
    · have hpos : 0 < m := by omega
      have hc := fun W : World => convert_one W ((m : Int) % 256) (UInt8.ofNat m) (byteOf_mod m)
      have hadd : ¬ 9223372036854775807 < 1 + S.size := by omega
      have hlt : j < Nm.wid N := by
        rcases Nat.lt_or_ge j (Nm.wid N) with h | h
        · exact h
        · have h1 := (Nm.wid_le HN.out hj8).1 h
          have h2 := HM.out
          rw [Nat.div_eq_of_lt h1] at h2
          omega
      have HLT := Lib.hid hlt; clear hlt
      have HQ : Hid (IntKind.u64.wrap ((m : Int) / 256) = ((m / 256 : Nat) : Int)) := by
        have h1 : m ≤ N := by rw [HM.out]; exact Nat.div_le_self _ _
        have h2 := HN.out
        show IntKind.u64.wrap ((m : Int) / 256) = ((m / 256 : Nat) : Int)
        rw [IntKind.wrap_u64]; omega
      clear h0
      go_wp2_with fail
      go_roundw
      case rel =>
        refine ⟨j + 1, m / 256, _, ?_, rfl, ?_, ?_, HLT.out, HB.out.alloc HB.out.size _⟩
        · rw [HQ.out]
        · rw [HM.out, Nat.div_div_eq_div_mul, Nat.pow_succ]
        · rw [big_cons, ← HM.out]
          exact mk_cons _ _ _ (by rw [HS.out])
      case measure => simp only [intOf]; rw [HQ.out]; omega

set_option maxHeartbeats 800000 in
theorem refRow_any (x : Int) (w : World) (h0 : 0 ≤ x) (h1 : x ≤ 18446744073709551615) :
    Calls Tryz.prog 150 #[.int .u64 x] w (Gives (.string ⟨(Nm.row x.toNat).toArray⟩) w) := by
  have HN := Lib.hid h1; clear h1
  by_cases h : x < 248
  · have hc := fun W : World => convert_one W x (UInt8.ofNat x.toNat) (by rw [Nm.toNat_ofNat]; omega)
    have HR := Lib.hid (Nm.row_short (n := x.toNat) (by omega))
    generalize Nm.row x.toNat = L at *
    go_enter Tryz.func150, Tryz.ntmps150
    go_wp2_with fail
    go_ret
    rw [HR.out]
    exact ⟨rfl, (Below.refl _ _).alloc (Nat.le_refl _) _⟩
  · have HR := Lib.hid (Nm.row_long (n := x.toNat) (by omega))
    have h8 := Nm.wid_le8 x.toNat
    have hlb := Nm.big_length (Nm.wid x.toNat) x.toNat
    have hN2 : 248 ≤ x := by omega
    have HNN : Hid (x.toNat < 18446744073709551616) := by have := HN.out; show x.toNat < 18446744073709551616; omega
    have HX : Hid ((x.toNat : Int) = x) := Int.toNat_of_nonneg h0
    generalize hX : x.toNat = N at *
    generalize Nm.row N = L at *
    generalize hWd : Nm.wid N = W at *
    have HWD := Lib.hid hWd; clear hWd
    generalize hB : Nm.big N W = B at *
    have HBB := Lib.hid hB; clear hB h hX
    have hl1 : B.length ≤ W := by omega
    have hl2 : W ≤ B.length := by omega
    have hbt : (UInt8.ofNat (247 + W)).toNat = 247 + W := by rw [Nm.toNat_ofNat]; omega
    generalize UInt8.ofNat (247 + W) = bb at *
    have hc := fun Wd : World => convert_one Wd (247 + (B.length : Int)) bb (by rw [hbt]; omega)
    clear hbt
    have hadd : ¬ 9223372036854775807 < 1 + B.length := by omega
    clear hlb
    go_enter Tryz.func150, Tryz.ntmps150
    go_wp2_with fail
    rw [← HX.out]
    refine (bytesOf_any _ _ HNN.out).mono ?_
    rintro e w1 ⟨rfl, hb1⟩
    rw [HWD.out, HBB.out]
    go_wp2_with fail
    go_ret
    rw [HR.out]
    refine ⟨?_, Below.next_alloc hb1 _⟩
    exact congrArg (fun z => Ending.returned (Value.string z)) (mk_cons _ _ _ rfl)

/-- What the document's ReadBig reads: as readBig_yes, readBig_no. -/
theorem mul_byte (A b : Nat) (h : 256 * A + b < 18446744073709551616) :
    IntKind.u64.wrap (IntKind.u64.wrap (256 * (A : Int)) + (b : Int)) = ((256 * A + b : Nat) : Int) := by
  rw [IntKind.wrap_u64, IntKind.wrap_u64]; omega

theorem mk_app (x y : List UInt8) : (⟨x.toArray⟩ : ByteArray) ++ ⟨y.toArray⟩ = ⟨(x ++ y).toArray⟩ := by
  apply ByteArray.ext
  rw [ByteArray.data_append]
  simp


set_option maxHeartbeats 400000 in
theorem refReadVar_empty (w : World) :
    Calls Tryz.prog 191 #[.string ByteArray.empty] w (Gives (.tuple #[.int .u64 0, .int .i64 0, .bool false]) w) := by
  go_enter Tryz.func191, Tryz.ntmps191
  go_wp2_with fail
  go_ret3
  exact ⟨rfl, Below.refl _ _⟩

set_option maxHeartbeats 400000 in
theorem refReadVar_short (s : ByteArray) (c : Int) (w : World) (hi : ∀ w : World, (Instr.index 9 (.string s) (.int .i64 0)).run Tryz.prog w = .ok (.int .u8 c) w) (h1 : 1 ≤ s.size) (h0 : 0 ≤ c) (hb : c < 248) :
    Calls Tryz.prog 191 #[.string s] w (Gives (.tuple #[.int .u64 c, .int .i64 1, .bool true]) w) := by
  have hz : ((s.size : Int) == 0) = false := by rw [beq_eq_false_iff_ne]; omega
  go_enter Tryz.func191, Tryz.ntmps191
  go_wp2_with fail
  go_ret3
  exact ⟨rfl, Below.refl _ _⟩

set_option maxHeartbeats 400000 in
theorem refReadVar_cut (s : ByteArray) (c : Int) (w : World) (hi : ∀ w : World, (Instr.index 9 (.string s) (.int .i64 0)).run Tryz.prog w = .ok (.int .u8 c) w) (h1 : 1 ≤ s.size) (hb : 248 ≤ c) (hc : c ≤ 255) (hl : (s.size : Int) < c - 246) :
    Calls Tryz.prog 191 #[.string s] w (Gives (.tuple #[.int .u64 0, .int .i64 0, .bool false]) w) := by
  have hz : ((s.size : Int) == 0) = false := by rw [beq_eq_false_iff_ne]; omega
  go_enter Tryz.func191, Tryz.ntmps191
  go_wp2_with fail
  go_ret3
  exact ⟨rfl, Below.refl _ _⟩

/-- The number of the bytes from the second one on. -/
theorem take_drop_snoc (s : ByteArray) (k : Nat) (h : 1 + k < s.size) : (s.data.toList.drop 1).take (k + 1) = (s.data.toList.drop 1).take k ++ [s[1 + k]] := by
  rw [List.take_succ_eq_append_getElem (by rw [List.length_drop, length_list]; omega)]
  congr 2
  rw [List.getElem_drop]
  rfl

/-- What ReadVar answers where a row might stand. -/
def rvG (G : Bool) (V t : Nat) : Value := if G = true then .tuple #[.int .u64 0, .int .i64 0, .bool false] else .tuple #[.int .u64 V, .int .i64 ((t : Int) + 1), .bool true]

set_option maxRecDepth 100000 in
set_option maxHeartbeats 2000000 in
theorem refReadVar_long (s : ByteArray) (t : Nat) (V : Nat) (w : World) (hi : ∀ w : World, (Instr.index 9 (.string s) (.int .i64 0)).run Tryz.prog w = .ok (.int .u8 ((t : Int) + 247)) w) (h1 : (1 : Int) ≤ s.size) (ht1 : (1 : Int) ≤ t) (ht8 : (t : Int) ≤ 8) (hl : (t : Int) + 1 ≤ s.size) (hs : s.size ≤ 9223372036854775807)
    (hV : Nm.val ((s.data.toList.drop 1).take t) = V) (hV64 : V < 18446744073709551616) (G : Bool) (hG : (!(Nm.row V == (s.extract 0 (t + 1)).toList)) = G) :
    Calls Tryz.prog 191 #[.string s] w (Gives (rvG G V t) w) := by
  have hz : ((s.size : Int) == 0) = false := by rw [beq_eq_false_iff_ne]; omega
  have hlt : decide ((t : Int) + 247 < 248) = false := by rw [decide_eq_false_iff_not]; omega
  have hld : decide ((s.size : Int) < (t : Int) + 1) = false := by rw [decide_eq_false_iff_not]; omega
  have h246 : (t : Int) + 247 - 246 = (t : Int) + 1 := by omega
  have HV := Lib.hid hV; have HV64 := Lib.hid hV64; have HG := Lib.hid hG; clear hV hV64 hG
  go_enter Tryz.func191, Tryz.ntmps191
  go_wp2_with fail
  clear h246 hlt hld hz
  go_loop [6, 7] (fun n i => ∃ k A : Nat, k ≤ t ∧ i = .int .i64 ((k : Int) + 1) ∧ n = .int .u64 A ∧ A = Nm.val ((s.data.toList.drop 1).take k)) (fun _ i => t + 1 - (intOf i).toNat)
  case atStart => exact ⟨0, 0, Nat.zero_le _, rfl, rfl, rfl⟩
  case round =>
    obtain ⟨k, A, hk, rfl, rfl, hA⟩ := hrel
    have HA := Lib.hid hA; clear hA
    by_cases hkt : k < t
    · have hks : 1 + k < s.size := by omega
      have hks2 : k + 1 < s.size := by omega
      have hb := (s[1 + k]'hks).toNat_lt
      have hv := Nm.val_lt ((s.data.toList.drop 1).take k)
      have hlk : ((s.data.toList.drop 1).take k).length = k := by rw [List.length_take, List.length_drop, length_list]; omega
      have hp : 256 ^ ((s.data.toList.drop 1).take k).length ≤ 256 ^ 7 := Nat.pow_le_pow_right (by omega) (by omega)
      have hi2 := index_byte s (1 + k) hks
      have ek : ((1 + k : Nat) : Int) = (k : Int) + 1 := by omega
      rw [ek] at hi2
      have HS : Hid (Nm.val ((s.data.toList.drop 1).take (k + 1)) = 256 * A + (s[1 + k]'hks).toNat) := by rw [take_drop_snoc s k hks, Nm.val_snoc, HA.out]; exact rfl
      have hA64 : 256 * A + (s[1 + k]'hks).toNat < 18446744073709551616 := by rw [HA.out]; simp only [Nat.reducePow] at hp; omega
      generalize (s[1 + k]'hks).toNat = z at *
      have HM := Lib.hid (mul_byte A z hA64)
      clear hp hv hlk hA64 ek hks
      go_wp2_with fail
      go_round
      case rel => exact ⟨k + 1, 256 * A + z, by omega, by go_num, congrArg (Value.int .u64) HM.out, HS.out.symm⟩
      case measure => simp [intOf]; omega
    · have hkt2 : k = t := by omega
      subst hkt2
      obtain rfl : A = V := HA.out.trans HV.out
      have hlk : (k : Int) + 1 ≤ s.size := hl
      have hl0 : (0 : Int) ≤ (k : Int) + 1 := by omega
      have hen : ((k : Int) + 1).toNat = k + 1 := by omega
      go_wp2_with fail
      go_region_held3 (fun _ => True) (trivial) (first | (go_at_call 150; refine (refRow_any _ _ (by omega) (by have := HV64.out; omega)).mono ?_; rintro e w1 ⟨rfl, hb1⟩; rw [Int.toNat_natCast]))
      clear hen
      cases G with
      | true =>
        have hg : (Nm.row A == (s.extract 0 (k + 1)).toList) = false := by have := HG.out; simpa using this
        go_wp2
        · go_ret3
          exact ⟨rfl, Below.next (Below.refl _ _).drew hb1⟩
        · exfalso
          have h : (!(Nm.row A == (s.extract 0 (k + 1)).toList)) = false := by assumption
          rw [hg] at h
          cases h
      | false =>
        have hg : (Nm.row A == (s.extract 0 (k + 1)).toList) = true := by have := HG.out; simpa using this
        go_wp2
        · exfalso
          have h : (!(Nm.row A == (s.extract 0 (k + 1)).toList)) = true := by assumption
          rw [hg] at h
          cases h
        · go_ret3
          exact ⟨rfl, Below.next (Below.refl _ _).drew hb1⟩

/-- The document's ReadVar, of every text. -/
theorem refReadVar_any (s : ByteArray) (w : World) (hs : s.size ≤ 9223372036854775807) :
    Calls Tryz.prog 191 #[.string s] w (Gives (rvV s.data.toList) w) := by
  by_cases h0 : s.size = 0
  · obtain rfl := empty_of_size h0
    exact refReadVar_empty w
  · have h1 : 1 ≤ s.size := by omega
    have h2 : 0 < s.size := h1
    have hi := index_byte s 0 h2
    have hlen : (s.extract 1 s.size).data.toList.length = s.size - 1 := by rw [length_list, extract_size s h1]
    have hv : rvV s.data.toList = rvV (s[0] :: (s.extract 1 s.size).data.toList) := congrArg rvV (head_tail s h2)
    have hht := head_tail s h2
    rw [hv]
    clear hv
    have hdr : s.data.toList.drop 1 = (s.extract 1 s.size).data.toList := (Lib.extract_to_end s 1).symm
    generalize s[0] = b at *
    generalize hr : (s.extract 1 s.size).data.toList = r at *
    have hlt := b.toNat_lt
    by_cases hb : b.toNat < 248
    · have e : rvV (b :: r) = .tuple #[.int .u64 (b.toNat : Nat), .int .i64 1, .bool true] := by
        unfold rvV; rw [Nm.rv, if_pos hb]; rfl
      rw [e]
      exact refReadVar_short s _ w hi h1 (by omega) (by omega)
    · by_cases hl : r.length < b.toNat - 247
      · have e : rvV (b :: r) = .tuple #[.int .u64 0, .int .i64 0, .bool false] := by
          unfold rvV; rw [Nm.rv, if_neg hb, if_pos hl]
        rw [e]
        exact refReadVar_cut s _ w hi h1 (by omega) (by omega) (by omega)
      · obtain ⟨t, ht⟩ : ∃ t, t = b.toNat - 247 := ⟨_, rfl⟩
        have hbt : b.toNat = t + 247 := by omega
        have hv1 := Nm.val_lt (r.take t)
        have hlt2 : (r.take t).length = t := by rw [List.length_take]; omega
        have hv2 : 256 ^ (r.take t).length ≤ 256 ^ 8 := Nat.pow_le_pow_right (by omega) (by omega)
        have hv3 : Nm.val (r.take t) < 18446744073709551616 := by simp only [Nat.reducePow] at hv2; omega
        have hi' : ∀ w : World, (Instr.index 9 (.string s) (.int .i64 0)).run Tryz.prog w = .ok (.int .u8 ((t : Int) + 247)) w := by
          intro w
          rw [show ((t : Int) + 247) = (b.toNat : Int) by omega]
          exact hi w
        have hex : (s.extract 0 (t + 1)).toList = b :: r.take t := by
          rw [ByteArray.toList_eq, Lib.extract_data, List.drop_zero, Nat.sub_zero, hht, List.take_succ_cons]
        have hfin := refReadVar_long s t (Nm.val (r.take t)) w hi' (by omega) (by omega) (by omega) (by omega) hs (by rw [hdr]) hv3 _ rfl
        have e : rvV (b :: r) = rvG (!(Nm.row (Nm.val (r.take t)) == (s.extract 0 (t + 1)).toList)) (Nm.val (r.take t)) t := by
          unfold rvG
          by_cases hrow : Nm.row (Nm.val (r.take t)) = (s.extract 0 (t + 1)).toList
          · have h3 : Nm.rv (b :: r) = some (Nm.val (r.take t), (Nm.row (Nm.val (r.take t))).length) := by
              have e1 : b :: r = Nm.row (Nm.val (r.take t)) ++ r.drop t := by rw [hrow, hex, List.cons_append, List.take_append_drop]
              conv => lhs; rw [e1]
              exact Nm.rv_row hv3 _
            rw [rvV_some h3, hrow, hex, List.length_cons, hlt2]
            simp
          · have h3 : Nm.rv (b :: r) = none := by
              rw [Nm.rv, if_neg hb, ← ht, if_neg (by omega)]
              by_cases hc : Nm.val (r.take t) < 248 ∨ Nm.wid (Nm.val (r.take t)) ≠ t
              · rw [if_pos hc]
              · exfalso
                apply hrow
                have hge : ¬ Nm.val (r.take t) < 248 := fun h => hc (Or.inl h)
                have hw : Nm.wid (Nm.val (r.take t)) = t := Classical.byContradiction fun h => hc (Or.inr h)
                rw [Nm.row_long hge, hw, hex, Nm.big_val _ _ hlt2, Nat.add_comm, ← hbt]
                simp
            rw [rvV_none h3]
            simp [hrow]
        rw [e]
        exact hfin

end Go.Proofs.YtfeconankopjmaaGreatDoor.Bn

/- The walks of the document's Text and ReadText, for seats without layer 1's statements. -/
namespace Go.Proofs.YtfeconankopjmaaGreatDoor.Bn
set_option maxRecDepth 100000
open Go.RowKit

theorem mk_of {l : List UInt8} {S : ByteArray} (h : l = S.data.toList) : (⟨l.toArray⟩ : ByteArray) = S := by rw [h]

theorem SeesS.get {w : World} {ao : Option Addr} {len cap : Nat} {ss : List ByteArray} (h : SeesS w (.slice ao len cap) ss) :
    ss.length = len ∧ ∃ b off, ∀ i, i < len → ao = some ⟨b, off, none⟩ ∧ b < w.heap.size ∧ w.cell? ⟨b, off + i, none⟩ = some (.string (ss.getD i ByteArray.empty)) := by
  rcases h with ⟨rfl, a, c, h⟩ | ⟨b, off, c, h, hb, hc⟩
  · simp only [Value.slice.injEq] at h
    obtain ⟨rfl, rfl, rfl⟩ := h
    exact ⟨rfl, 0, 0, fun i hi => by omega⟩
  · simp only [Value.slice.injEq] at h
    obtain ⟨rfl, rfl, rfl⟩ := h
    exact ⟨rfl, b, off, fun i hi => ⟨rfl, hb, hc i hi⟩⟩

set_option maxRecDepth 100000 in
set_option maxHeartbeats 2000000 in
theorem refText_any (ao : Option Addr) (len cap : Nat) (ss : List ByteArray) (w : World) (hV : SeesS w (.slice ao len cap) ss) (hl : len ≤ 100000000) (hsum : suml ss ≤ 100000000) :
    Calls Tryz.prog 151 #[.slice ao len cap] w (Gives (.string ⟨(textl ss).toArray⟩) w) := by
  obtain ⟨hlen, b, off, hcell⟩ := hV.get
  have HC := Lib.hid hcell; have HLEN := Lib.hid hlen; have HSUM := Lib.hid hsum; clear hcell hlen hV hsum
  have HL := Lib.hid hl
  go_enter Tryz.func151, Tryz.ntmps151
  go_wp2_with fail
  go_loopw [3, 4] (fun u i wr => ∃ (k : Nat) (S : ByteArray), k ≤ len ∧ i = .int .i64 k ∧ u = .string S ∧ S = ⟨(textl (ss.take k)).toArray⟩ ∧ Below w.heap.size w wr) (fun _ i _ => len - (intOf i).toNat)
  case atStart => exact ⟨0, _, Nat.zero_le _, rfl, rfl, by simp [textl], Below.refl _ _⟩
  case round =>
    obtain ⟨k, S, hk, rfl, rfl, hS, hbel⟩ := hrel
    have hSs : S.size ≤ 1000000000 := by
      have h1 := textl_length (ss.take k)
      have h2 : (ss.take k).length ≤ k := List.length_take_le ..
      have h3 := HL.out
      have h4 := suml_take ss k
      have h5 := HSUM.out
      rw [hS]
      show (textl (ss.take k)).length ≤ _
      omega
    have HS := Lib.hid hS; have HB := Lib.hid hbel; clear hS hbel
    by_cases hlt : k < len
    · obtain ⟨rfl, hbl, hcl⟩ := HC.out k hlt
      have hcell : wr.cell? ⟨b, off + k, none⟩ = some (.string (ss.getD k ByteArray.empty)) := (HB.out.cell (p := ⟨b, off + k, none⟩) hbl).trans hcl
      have hk' : k < ss.length := by rw [HLEN.out]; exact hlt
      have HV : Hid (textl (ss.take (k + 1)) = textl (ss.take k) ++ Nm.row (ss.getD k ByteArray.empty).size ++ (ss.getD k ByteArray.empty).data.toList) := textl_snoc ss k hk'
      have hxs : (ss.getD k ByteArray.empty).size ≤ 100000000 := by
        have h1 := suml_snoc ss k hk'
        have h2 := suml_take ss (k + 1)
        have h3 := HSUM.out
        omega
      clear hcl hk'
      generalize ss.getD k ByteArray.empty = x at *
      have hr := (Nm.row_length x.size).2
      have hblr : b < wr.heap.size := Nat.lt_of_lt_of_le hbl HB.out.size
      have hk0 : (0 : Int) ≤ (k : Int) := by omega
      have hk1 : (k : Int) < (len : Int) := by omega
      have hadd : ¬ 9223372036854775807 < S.size + (Nm.row x.size).length := by omega
      have hadd2 : ¬ 9223372036854775807 < S.size + (Nm.row x.size).length + x.size := by omega
      go_wp2_with fail
      have hwr : IntKind.u64.wrap (x.size : Int) = (x.size : Int) := by rw [IntKind.wrap_u64]; omega
      go_region_held3 (fun w' => w'.cell? ⟨b, off + k, none⟩ = some (.string x)) (first | go_keep | (refine (hb1.cell (p := ⟨b, off + k, none⟩) (by simpa using hblr)).trans ?_; simpa using hcell)) (first | (go_at_call 150; refine (refRow_any _ _ (by omega) (by clear hwr; omega)).mono ?_; rintro e w1 ⟨rfl, hb1⟩; rw [Int.toNat_natCast]))
      clear hwr
      go_wp2
      go_roundw
      case rel =>
        refine ⟨k + 1, _, by omega, by go_num, rfl, ?_, Below.next HB.out.drew hb1⟩
        have e : x = ⟨x.data.toList.toArray⟩ := (mk_of rfl).symm
        rw [HV.out, HS.out, mk_app]
        conv => lhs; rw [e]
        exact mk_app _ _
      case measure => simp [intOf]; omega
    · go_wp2_with fail
      go_ret
      have : ss.take k = ss := List.take_of_length_le (by rw [HLEN.out]; omega)
      rw [HS.out, this]
      exact ⟨rfl, HB.out⟩


set_option maxHeartbeats 400000 in
theorem refReadText_none (s : ByteArray) (most : Int) (w : World) (hs : s.size ≤ 9223372036854775807) (hv : rvV s.data.toList = .tuple #[.int .u64 0, .int .i64 0, .bool false]) :
    Calls Tryz.prog 192 #[.string s, .int .i64 most] w (Gives noText w) := by
  have HV := Lib.hid hv; clear hv
  have HS := Lib.hid hs; clear hs
  go_enter Tryz.func192, Tryz.ntmps192
  go_wp2_with fail
  refine (refReadVar_any _ _ HS.out).mono ?_
  rintro e w1 ⟨rfl, hb1⟩
  rw [HV.out]
  go_wp2_with fail
  go_ret3
  exact ⟨rfl, hb1⟩

set_option maxHeartbeats 400000 in
theorem refReadText_over (s : ByteArray) (most n k : Int) (w : World) (hs : s.size ≤ 281474976710656) (hv : rvV s.data.toList = .tuple #[.int .u64 n, .int .i64 k, .bool true]) (h1 : (s.size : Int) < n) :
    Calls Tryz.prog 192 #[.string s, .int .i64 most] w (Gives noText w) := by
  have HV := Lib.hid hv; clear hv
  go_enter Tryz.func192, Tryz.ntmps192
  go_wp2_with fail
  refine (refReadVar_any _ _ (by omega)).mono ?_
  rintro e w1 ⟨rfl, hb1⟩
  rw [HV.out]
  go_wp2_with fail
  go_ret3
  exact ⟨rfl, hb1⟩

set_option maxHeartbeats 400000 in
theorem refReadText_cut (s : ByteArray) (most n k : Int) (w : World) (hs : s.size ≤ 281474976710656) (hv : rvV s.data.toList = .tuple #[.int .u64 n, .int .i64 k, .bool true]) (h0 : 0 ≤ n) (h1 : n ≤ s.size) (hk0 : 1 ≤ k) (hk : k ≤ s.size)
    (hn : s.size < k + n) :
    Calls Tryz.prog 192 #[.string s, .int .i64 most] w (Gives noText w) := by
  have HV := Lib.hid hv; clear hv
  go_enter Tryz.func192, Tryz.ntmps192
  go_wp2_with fail
  refine (refReadVar_any _ _ (by omega)).mono ?_
  rintro e w1 ⟨rfl, hb1⟩
  rw [HV.out]
  go_wp2_with fail
  go_ret3
  exact ⟨rfl, hb1⟩

set_option maxHeartbeats 400000 in
theorem refReadText_most (s : ByteArray) (most n k : Int) (w : World) (hs : s.size ≤ 281474976710656) (hv : rvV s.data.toList = .tuple #[.int .u64 n, .int .i64 k, .bool true]) (h0 : 0 ≤ n) (h1 : n ≤ s.size) (hk0 : 1 ≤ k)
    (hn : k + n ≤ s.size) (hm : most < n) :
    Calls Tryz.prog 192 #[.string s, .int .i64 most] w (Gives noText w) := by
  have HV := Lib.hid hv; clear hv
  go_enter Tryz.func192, Tryz.ntmps192
  go_wp2_with fail
  refine (refReadVar_any _ _ (by omega)).mono ?_
  rintro e w1 ⟨rfl, hb1⟩
  rw [HV.out]
  go_wp2_with fail
  go_ret3
  exact ⟨rfl, hb1⟩

set_option maxHeartbeats 400000 in
theorem refReadText_yes (s : ByteArray) (most : Int) (n k : Nat) (w : World) (hs : s.size ≤ 281474976710656) (hv : rvV s.data.toList = .tuple #[.int .u64 n, .int .i64 k, .bool true]) (hk0 : 1 ≤ k)
    (hn : k + n ≤ s.size) (hm : n ≤ most) :
    Calls Tryz.prog 192 #[.string s, .int .i64 most] w (Gives (.tuple #[.string (s.extract k (k + n)), .int .i64 ((k : Int) + n), .bool true]) w) := by
  have HV := Lib.hid hv; clear hv
  have hn1 : (n : Int) ≤ s.size := by omega
  have hn2 : (k : Int) + n ≤ s.size := by omega
  go_enter Tryz.func192, Tryz.ntmps192
  go_wp2_with fail
  refine (refReadVar_any _ _ (by omega)).mono ?_
  rintro e w1 ⟨rfl, hb1⟩
  rw [HV.out]
  go_wp2_with fail
  go_ret3
  exact ⟨rfl, hb1⟩

/-- The document's ReadText, of every text of at most 2^48 bytes. -/
theorem refReadText_any (s : ByteArray) (most : Int) (w : World) (hs : s.size ≤ 281474976710656) :
    Calls Tryz.prog 192 #[.string s, .int .i64 most] w (Gives (rtV s.data.toList most) w) := by
  cases h : Nm.rv s.data.toList with
  | none =>
    have e : rtV s.data.toList most = noText := by unfold rtV rt; rw [h]
    rw [e]
    exact refReadText_none s most w (by omega) (rvV_none h)
  | some p =>
    obtain ⟨n, k⟩ := p
    have hv := rvV_some h
    obtain ⟨hk0, hk, -, -⟩ := Nm.row_rv h
    rw [length_list] at hk
    by_cases hc : most < n ∨ s.data.toList.length < k + n
    · have e : rtV s.data.toList most = noText := by unfold rtV rt; rw [h]; simp only [if_pos hc]
      rw [e]
      rw [length_list] at hc
      by_cases h1 : s.size < n
      · exact refReadText_over s most n k w hs hv (by omega)
      · by_cases h2 : s.size < k + n
        · exact refReadText_cut s most n k w hs hv (by omega) (by omega) (by omega) (by omega) (by omega)
        · exact refReadText_most s most n k w hs hv (by omega) (by omega) (by omega) (by omega) (by omega)
    · have e : rtV s.data.toList most = .tuple #[.string (s.extract k (k + n)), .int .i64 ((k : Int) + n), .bool true] := by
        unfold rtV rt
        rw [h]
        simp only [if_neg hc]
        rw [Lib.extract_eq, Nat.add_sub_cancel_left, Int.natCast_add]
      rw [e]
      rw [length_list] at hc
      exact refReadText_yes s most n k w hs hv hk0 (by omega) (by omega)

end Go.Proofs.YtfeconankopjmaaGreatDoor.Bn

/- Walks of batch.rowOf and Encode. -/
namespace Go.Proofs.YtfeconankopjmaaGreatDoor.Bn
set_option maxRecDepth 100000
open Go.RowKit

/-- An operation, as a value. -/
def obV (o : Ob) : Value := .agg #[.string o.key, .string o.val, .bool o.gone]

theorem sees_heap1 {w : World} {B : Nat} {s : ByteArray} {t : TypeId} (h : w.heap[B]? = some (.cells #[.string s] t (0, 0))) : SeesS w (.slice (some ⟨B, 0, none⟩) 1 1) [s] := by
  have hc : w.cell? ⟨B, 0, none⟩ = some (.string s) := by simp [World.cell?, h]
  refine Or.inr ⟨B, 0, 1, rfl, World.block_lt_of_cell? w _ hc, fun i hi => ?_⟩
  match i, hi with
  | 0, _ => exact hc
theorem sees_heap2 {w : World} {B : Nat} {s u : ByteArray} {t : TypeId} (h : w.heap[B]? = some (.cells #[.string s, .string u] t (0, 0))) : SeesS w (.slice (some ⟨B, 0, none⟩) 2 2) [s, u] := by
  have hc : w.cell? ⟨B, 0, none⟩ = some (.string s) := by simp [World.cell?, h]
  have hd : w.cell? ⟨B, 0 + 1, none⟩ = some (.string u) := by simp [World.cell?, h]
  refine Or.inr ⟨B, 0, 2, rfl, World.block_lt_of_cell? w _ hc, fun i hi => ?_⟩
  match i, hi with
  | 0, _ => exact hc
  | 1, _ => exact hd
theorem seesU_heap1 {w : World} {B n : Nat} {m : Int} {t : TypeId} (h : w.heap[B]? = some (.cells #[.int .u64 m] t (0, 0))) (hm : m = n) : SeesU w (.slice (some ⟨B, 0, none⟩) 1 1) [n] := by
  subst hm
  have hc : w.cell? ⟨B, 0, none⟩ = some (.int .u64 n) := by simp [World.cell?, h]
  refine Or.inr ⟨B, 0, 1, rfl, World.block_lt_of_cell? w _ hc, fun i hi => ?_⟩
  match i, hi with
  | 0, _ => exact hc
theorem h1n (w : World) (A : Obj) : (w.alloc A).drew.heap[w.heap.size]? = some A := heap_alloc_new w A
theorem h2o (w : World) (A B : Obj) : ((w.alloc A).alloc B).drew.heap[w.heap.size]? = some A := heap_alloc2_old w A B
theorem h2n (w : World) (A B : Obj) : ((w.alloc A).alloc B).drew.heap[w.heap.size + 1]? = some B := heap_alloc2_new w A B
theorem kept_block {w w1 : World} {k : Nat} {o : Obj} (h : w.heap[k]? = some o) (hb : Below w.heap.size w w1) : w1.heap[k]? = some o := by
  have hk : k < w.heap.size := by
    rcases Nat.lt_or_ge k w.heap.size with h' | h'
    · exact h'
    · rw [Array.getElem?_eq_none h'] at h; cases h
  rw [hb.block k hk]; exact h
theorem size_mk (l : List UInt8) : (⟨l.toArray⟩ : ByteArray).size = l.length := by show l.toArray.size = _; simp
theorem textl_one (s : ByteArray) : textl [s] = Bt.txt s := by simp [textl, Bt.txt]
theorem textl_two (s u : ByteArray) : textl [s, u] = Bt.txt s ++ Bt.txt u := by simp [textl, Bt.txt]

theorem below_one {w W w1 w2 : World} {A B : Obj} (h : Below w.heap.size w W) (h1 : Below (W.alloc A).drew.heap.size (W.alloc A).drew w1) (h2 : Below (w1.alloc B).heap.size (w1.alloc B) w2) : Below w.heap.size w w2 :=
  Below.next (Below.next_alloc (Below.next (Below.next_alloc h A).drew h1) B) h2
theorem below_two {w W w1 w2 : World} {A B : Obj} (h : Below w.heap.size w W) (h1 : Below ((W.alloc A).alloc B).drew.heap.size ((W.alloc A).alloc B).drew w1) (h2 : Below w1.heap.size w1 w2) : Below w.heap.size w w2 :=
  Below.next (Below.next (Below.next_alloc (Below.next_alloc h A) B).drew h1) h2

set_option maxHeartbeats 8000000 in
theorem rowOf_any (o : Ob) (w : World) (hk : o.key.size ≤ 64) (hv : o.val.size ≤ 512) :
    Calls Tryz.prog 90 #[obV o] w (Gives (.string ⟨(Bt.obRow o).toArray⟩) w) := by
  obtain ⟨key, val, gone⟩ := o
  unfold obV
  simp only at hk hv ⊢
  cases gone with
  | true =>
    obtain ⟨V, hV⟩ : ∃ V : ByteArray, V = ⟨(varl [1]).toArray⟩ := ⟨_, rfl⟩
    obtain ⟨T, hT⟩ : ∃ T : ByteArray, T = ⟨(textl [key]).toArray⟩ := ⟨_, rfl⟩
    have hVar : ∀ v W, SeesU W v [1] → Calls Tryz.prog 89 #[v] W (Gives (.string V) W) := fun v W h => by
      rw [hV]; exact var_any v [1] W h (fun i => by match i with
                                                    | 0 => simp
                                                    | i + 1 => simp) (by simp)
    have hText : ∀ v W, SeesS W v [key] → Calls Tryz.prog 124 #[v] W (Gives (.string T) W) := fun v W h => by
      rw [hT]; exact text_any v [key] W h (by simp) (by simp [suml]; omega)
    have HV1 : Hid (∀ W : World, Calls Tryz.prog 89 #[.slice (some ⟨W.heap.size, 0, none⟩) 1 1] (W.alloc (.cells #[.int .u64 1] 28)).drew (Gives (.string V) (W.alloc (.cells #[.int .u64 1] 28)).drew)) := Lib.hid fun W => hVar _ _ (seesU_heap1 (h1n _ _) rfl)
    have HV2 : Hid (∀ (W : World) (B : Obj), Calls Tryz.prog 89 #[.slice (some ⟨W.heap.size, 0, none⟩) 1 1] ((W.alloc (.cells #[.int .u64 1] 28)).alloc B).drew (Gives (.string V) ((W.alloc (.cells #[.int .u64 1] 28)).alloc B).drew)) := Lib.hid fun W B => hVar _ _ (seesU_heap1 (h2o _ _ _) rfl)
    have HV3 : Hid (∀ (W : World) (B : Obj), Calls Tryz.prog 89 #[.slice (some ⟨W.heap.size + 1, 0, none⟩) 1 1] ((W.alloc B).alloc (.cells #[.int .u64 1] 28)).drew (Gives (.string V) ((W.alloc B).alloc (.cells #[.int .u64 1] 28)).drew)) := Lib.hid fun W B => hVar _ _ (seesU_heap1 (h2n _ _ _) rfl)
    have HT1 : Hid (∀ W : World, Calls Tryz.prog 124 #[.slice (some ⟨W.heap.size, 0, none⟩) 1 1] (W.alloc (.cells #[.string key] 9)) (Gives (.string T) (W.alloc (.cells #[.string key] 9)))) := Lib.hid fun W => hText _ _ (sees_heap1 (heap_alloc_new _ _))
    have HT2 : Hid (∀ (W : World) (B : Obj) (w1 : World), Below ((W.alloc B).alloc (.cells #[.string key] 9)).drew.heap.size ((W.alloc B).alloc (.cells #[.string key] 9)).drew w1 → Calls Tryz.prog 124 #[.slice (some ⟨W.heap.size + 1, 0, none⟩) 1 1] w1 (Gives (.string T) w1)) := Lib.hid fun W B w1 hb => hText _ _ (sees_heap1 (kept_block (h2n _ _ _) hb))
    have HT3 : Hid (∀ (W : World) (B : Obj) (w1 : World), Below ((W.alloc (.cells #[.string key] 9)).alloc B).drew.heap.size ((W.alloc (.cells #[.string key] 9)).alloc B).drew w1 → Calls Tryz.prog 124 #[.slice (some ⟨W.heap.size, 0, none⟩) 1 1] w1 (Gives (.string T) w1)) := Lib.hid fun W B w1 hb => hText _ _ (sees_heap1 (kept_block (h2o _ _ _) hb))
    clear hVar hText
    have HE : Hid ((⟨(Bt.obRow ⟨key, val, true⟩).toArray⟩ : ByteArray) = V ++ T) := by rw [hV, hT, mk_app, textl_one]; exact Lib.hid rfl
    have hVs : V.size = 1 := by rw [hV, size_mk]; rfl
    have hTs : T.size ≤ 200 := by rw [hT, size_mk, textl_one]; have := (Bt.txt_length key).2; omega
    have HADD : Hid (¬ 9223372036854775807 < V.size + T.size) := Lib.hid (by omega)
    clear hV hT hVs hTs hk hv
    go_enter Tryz.func90, Tryz.ntmps90
    go_wp2_with fail
    have HB0 : Hid (Below w.heap.size w (w.alloc (Obj.cells #[Value.string key, Value.string val, Value.bool true] 42))) := Lib.hid ((Below.refl _ _).alloc (Nat.le_refl _) _)
    have hc : (w.alloc (Obj.cells #[Value.string key, Value.string val, Value.bool true] 42)).cell? ⟨w.heap.size, 0, none⟩ = some (.string key) := by unfold World.cell?; rw [heap_alloc_new]; rfl
    have hsz : w.heap.size < (w.alloc (Obj.cells #[Value.string key, Value.string val, Value.bool true] 42)).heap.size := by simp
    generalize w.alloc (Obj.cells #[Value.string key, Value.string val, Value.bool true] 42) = W at *
    have HK1 : Hid (∀ A, (W.alloc A).drew.cell? ⟨w.heap.size, 0, none⟩ = some (.string key)) := Lib.hid (fun A =>
      (((Below.refl W.heap.size W).alloc (Nat.le_refl _) _).drew.cell (p := ⟨w.heap.size, 0, none⟩) hsz).trans hc)
    have HK2 : Hid (∀ A B, ((W.alloc A).alloc B).drew.cell? ⟨w.heap.size, 0, none⟩ = some (.string key)) := Lib.hid (fun A B =>
      ((Below.next_alloc ((Below.refl W.heap.size W).alloc (Nat.le_refl _) _) _).drew.cell (p := ⟨w.heap.size, 0, none⟩) hsz).trans hc)
    have hadd := HADD.out
    go_region_held3 (fun w' => w'.cell? ⟨w.heap.size, 0, none⟩ = some (.string key))
      (first
        | go_keep
        | (refine (hb1.cell (p := ⟨w.heap.size, 0, none⟩) (by simp; omega)).trans ?_; first | exact HK1.out _ | exact HK2.out _ _)
        | (refine (hb2.cell (p := ⟨w.heap.size, 0, none⟩) (by have := hb1.size; simp at this; simp; omega)).trans ?_; assumption))
      (first
        | (go_at_call 89; (with_reducible refine (HV1.out _).mono ?_); rintro e w1 ⟨rfl, hb1⟩)
        | (go_at_call 89; (with_reducible refine (HV2.out _ _).mono ?_); rintro e w1 ⟨rfl, hb1⟩)
        | (go_at_call 89; (with_reducible refine (HV3.out _ _).mono ?_); rintro e w1 ⟨rfl, hb1⟩)
        | (go_at_call 124; (with_reducible refine (HT1.out _).mono ?_); rintro e w2 ⟨rfl, hb2⟩)
        | (go_at_call 124; (with_reducible refine (HT2.out _ _ _ hb1).mono ?_); rintro e w2 ⟨rfl, hb2⟩)
        | (go_at_call 124; (with_reducible refine (HT3.out _ _ _ hb1).mono ?_); rintro e w2 ⟨rfl, hb2⟩))
    all_goals
      have HF : Hid (Below w.heap.size w w2) := by
        first
          | exact Lib.hid (below_one HB0.out hb1 hb2)
          | exact Lib.hid (below_two HB0.out hb1 hb2)
      clear hb1 hb2
      go_wp2_with fail
      go_ret
      rw [HE.out]
      exact ⟨rfl, HF.out⟩
  | false =>
    obtain ⟨V, hV⟩ : ∃ V : ByteArray, V = ⟨(varl [0]).toArray⟩ := ⟨_, rfl⟩
    obtain ⟨T, hT⟩ : ∃ T : ByteArray, T = ⟨(textl [key, val]).toArray⟩ := ⟨_, rfl⟩
    have hVar : ∀ v W, SeesU W v [0] → Calls Tryz.prog 89 #[v] W (Gives (.string V) W) := fun v W h => by
      rw [hV]; exact var_any v [0] W h (fun i => by match i with
                                                    | 0 => simp
                                                    | i + 1 => simp) (by simp)
    have hText : ∀ v W, SeesS W v [key, val] → Calls Tryz.prog 124 #[v] W (Gives (.string T) W) := fun v W h => by
      rw [hT]; exact text_any v [key, val] W h (by simp) (by simp [suml]; omega)
    have HV1 : Hid (∀ W : World, Calls Tryz.prog 89 #[.slice (some ⟨W.heap.size, 0, none⟩) 1 1] (W.alloc (.cells #[.int .u64 0] 28)).drew (Gives (.string V) (W.alloc (.cells #[.int .u64 0] 28)).drew)) := Lib.hid fun W => hVar _ _ (seesU_heap1 (h1n _ _) rfl)
    have HV2 : Hid (∀ (W : World) (B : Obj), Calls Tryz.prog 89 #[.slice (some ⟨W.heap.size, 0, none⟩) 1 1] ((W.alloc (.cells #[.int .u64 0] 28)).alloc B).drew (Gives (.string V) ((W.alloc (.cells #[.int .u64 0] 28)).alloc B).drew)) := Lib.hid fun W B => hVar _ _ (seesU_heap1 (h2o _ _ _) rfl)
    have HV3 : Hid (∀ (W : World) (B : Obj), Calls Tryz.prog 89 #[.slice (some ⟨W.heap.size + 1, 0, none⟩) 1 1] ((W.alloc B).alloc (.cells #[.int .u64 0] 28)).drew (Gives (.string V) ((W.alloc B).alloc (.cells #[.int .u64 0] 28)).drew)) := Lib.hid fun W B => hVar _ _ (seesU_heap1 (h2n _ _ _) rfl)
    have HT1 : Hid (∀ W : World, Calls Tryz.prog 124 #[.slice (some ⟨W.heap.size, 0, none⟩) 2 2] (W.alloc (.cells #[.string key, .string val] 9)) (Gives (.string T) (W.alloc (.cells #[.string key, .string val] 9)))) := Lib.hid fun W => hText _ _ (sees_heap2 (heap_alloc_new _ _))
    have HT2 : Hid (∀ (W : World) (B : Obj) (w1 : World), Below ((W.alloc B).alloc (.cells #[.string key, .string val] 9)).drew.heap.size ((W.alloc B).alloc (.cells #[.string key, .string val] 9)).drew w1 → Calls Tryz.prog 124 #[.slice (some ⟨W.heap.size + 1, 0, none⟩) 2 2] w1 (Gives (.string T) w1)) := Lib.hid fun W B w1 hb => hText _ _ (sees_heap2 (kept_block (h2n _ _ _) hb))
    have HT3 : Hid (∀ (W : World) (B : Obj) (w1 : World), Below ((W.alloc (.cells #[.string key, .string val] 9)).alloc B).drew.heap.size ((W.alloc (.cells #[.string key, .string val] 9)).alloc B).drew w1 → Calls Tryz.prog 124 #[.slice (some ⟨W.heap.size, 0, none⟩) 2 2] w1 (Gives (.string T) w1)) := Lib.hid fun W B w1 hb => hText _ _ (sees_heap2 (kept_block (h2o _ _ _) hb))
    clear hVar hText
    have HE : Hid ((⟨(Bt.obRow ⟨key, val, false⟩).toArray⟩ : ByteArray) = V ++ T) := by rw [hV, hT, mk_app, textl_two]; exact Lib.hid rfl
    have hVs : V.size = 1 := by rw [hV, size_mk]; rfl
    have hTs : T.size ≤ 800 := by rw [hT, size_mk, textl_two, List.length_append]; have := (Bt.txt_length key).2; have := (Bt.txt_length val).2; omega
    have HADD : Hid (¬ 9223372036854775807 < V.size + T.size) := Lib.hid (by omega)
    clear hV hT hVs hTs hk hv
    go_enter Tryz.func90, Tryz.ntmps90
    go_wp2_with fail
    have HB0 : Hid (Below w.heap.size w (w.alloc (Obj.cells #[Value.string key, Value.string val, Value.bool false] 42))) := Lib.hid ((Below.refl _ _).alloc (Nat.le_refl _) _)
    have hc : (w.alloc (Obj.cells #[Value.string key, Value.string val, Value.bool false] 42)).cell? ⟨w.heap.size, 0, none⟩ = some (.string key) := by unfold World.cell?; rw [heap_alloc_new]; rfl
    have hd : (w.alloc (Obj.cells #[Value.string key, Value.string val, Value.bool false] 42)).cell? ⟨w.heap.size, 1, none⟩ = some (.string val) := by unfold World.cell?; rw [heap_alloc_new]; rfl
    have hsz : w.heap.size < (w.alloc (Obj.cells #[Value.string key, Value.string val, Value.bool false] 42)).heap.size := by simp
    generalize w.alloc (Obj.cells #[Value.string key, Value.string val, Value.bool false] 42) = W at *
    have HK1 : Hid (∀ A, (W.alloc A).drew.cell? ⟨w.heap.size, 0, none⟩ = some (.string key)) := Lib.hid (fun A =>
      (((Below.refl W.heap.size W).alloc (Nat.le_refl _) _).drew.cell (p := ⟨w.heap.size, 0, none⟩) hsz).trans hc)
    have HK2 : Hid (∀ A B, ((W.alloc A).alloc B).drew.cell? ⟨w.heap.size, 0, none⟩ = some (.string key)) := Lib.hid (fun A B =>
      ((Below.next_alloc ((Below.refl W.heap.size W).alloc (Nat.le_refl _) _) _).drew.cell (p := ⟨w.heap.size, 0, none⟩) hsz).trans hc)
    have HJ1 : Hid (∀ A, (W.alloc A).drew.cell? ⟨w.heap.size, 1, none⟩ = some (.string val)) := Lib.hid (fun A =>
      (((Below.refl W.heap.size W).alloc (Nat.le_refl _) _).drew.cell (p := ⟨w.heap.size, 1, none⟩) hsz).trans hd)
    have HJ2 : Hid (∀ A B, ((W.alloc A).alloc B).drew.cell? ⟨w.heap.size, 1, none⟩ = some (.string val)) := Lib.hid (fun A B =>
      ((Below.next_alloc ((Below.refl W.heap.size W).alloc (Nat.le_refl _) _) _).drew.cell (p := ⟨w.heap.size, 1, none⟩) hsz).trans hd)
    have hadd := HADD.out
    go_region_held3 (fun w' => w'.cell? ⟨w.heap.size, 0, none⟩ = some (.string key) ∧ w'.cell? ⟨w.heap.size, 1, none⟩ = some (.string val))
      (first
        | go_keep
        | (go_split_ands
           refine ⟨?_, ?_⟩
           · (refine (hb1.cell (p := ⟨w.heap.size, 0, none⟩) (by simp; omega)).trans ?_; first | exact HK1.out _ | exact HK2.out _ _)
           · (refine (hb1.cell (p := ⟨w.heap.size, 1, none⟩) (by simp; omega)).trans ?_; first | exact HJ1.out _ | exact HJ2.out _ _))
        | (go_split_ands
           refine ⟨?_, ?_⟩
           · (refine (hb2.cell (p := ⟨w.heap.size, 0, none⟩) (by have := hb1.size; simp at this; simp; omega)).trans ?_; first | assumption | go_keep)
           · (refine (hb2.cell (p := ⟨w.heap.size, 1, none⟩) (by have := hb1.size; simp at this; simp; omega)).trans ?_; first | assumption | go_keep)))
      (first
        | (go_at_call 89; (with_reducible refine (HV1.out _).mono ?_); rintro e w1 ⟨rfl, hb1⟩)
        | (go_at_call 89; (with_reducible refine (HV2.out _ _).mono ?_); rintro e w1 ⟨rfl, hb1⟩)
        | (go_at_call 89; (with_reducible refine (HV3.out _ _).mono ?_); rintro e w1 ⟨rfl, hb1⟩)
        | (go_at_call 124; (with_reducible refine (HT1.out _).mono ?_); rintro e w2 ⟨rfl, hb2⟩)
        | (go_at_call 124; (with_reducible refine (HT2.out _ _ _ hb1).mono ?_); rintro e w2 ⟨rfl, hb2⟩)
        | (go_at_call 124; (with_reducible refine (HT3.out _ _ _ hb1).mono ?_); rintro e w2 ⟨rfl, hb2⟩))
    all_goals
      have HF : Hid (Below w.heap.size w w2) := by
        first
          | exact Lib.hid (below_one HB0.out hb1 hb2)
          | exact Lib.hid (below_two HB0.out hb1 hb2)
      clear hb1 hb2
      go_wp2_with fail
      go_ret
      rw [HE.out]
      exact ⟨rfl, HF.out⟩

end Go.Proofs.YtfeconankopjmaaGreatDoor.Bn

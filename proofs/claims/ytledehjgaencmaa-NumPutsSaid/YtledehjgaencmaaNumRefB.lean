/- Walks of the document's own answers for layer 1: Var, Text, ReadVar, ReadText. -/
import Derived.Test.YtledehjgaencmaaNumRefA
namespace Go.Proofs.Ytledehjgaencmaa
open Go.RowKit

theorem mk_app (x y : List UInt8) : (⟨x.toArray⟩ : ByteArray) ++ ⟨y.toArray⟩ = ⟨(x ++ y).toArray⟩ := by
  apply ByteArray.ext
  rw [ByteArray.data_append]
  simp

set_option maxHeartbeats 800000 in
theorem refVar_any (ao : Option Addr) (len cap : Nat) (ns : List Nat) (w : World) (hV : SeesU w (.slice ao len cap) ns) (hn : ∀ i, ns.getD i 0 < 18446744073709551616) (hl : len ≤ 100000000) :
    Calls Try.prog 18 #[.slice ao len cap] w (Gives (.string ⟨(varl ns).toArray⟩) w) := by
  obtain ⟨hlen, b, off, hcell⟩ := hV.get
  have HC := Lib.hid hcell; have HN := Lib.hid hn; have HLEN := Lib.hid hlen; clear hcell hn hlen hV
  have HL := Lib.hid hl
  go_enter Try.func18, Try.ntmps18
  go_wp2_with fail
  go_loopw [3, 4] (fun u i wr => ∃ (k : Nat) (S : ByteArray), k ≤ len ∧ i = .int .i64 k ∧ u = .string S ∧ S = ⟨(varl (ns.take k)).toArray⟩ ∧ Below w.heap.size w wr) (fun _ i _ => len - (intOf i).toNat)
  case atStart => exact ⟨0, _, Nat.zero_le _, rfl, rfl, by simp [varl], Below.refl _ _⟩
  case round =>
    obtain ⟨k, S, hk, rfl, rfl, hS, hbel⟩ := hrel
    have hSs : S.size ≤ 900000000 := by
      have h1 := varl_length (ns.take k)
      have h2 : (ns.take k).length ≤ k := List.length_take_le ..
      have h3 := HL.out
      rw [hS]
      show (varl (ns.take k)).length ≤ _
      omega
    have HS := Lib.hid hS; have HB := Lib.hid hbel; clear hS hbel
    by_cases hlt : k < len
    · obtain ⟨rfl, hbl, hcl⟩ := HC.out k hlt
      have hcell : wr.cell? ⟨b, off + k, none⟩ = some (.int .u64 (ns.getD k 0 : Nat)) := (HB.out.cell (p := ⟨b, off + k, none⟩) hbl).trans hcl
      have HV : Hid (varl (ns.take (k + 1)) = varl (ns.take k) ++ Nm.row (ns.getD k 0)) := varl_snoc ns k (by rw [HLEN.out]; exact hlt)
      have HX : Hid (ns.getD k 0 < 18446744073709551616) := HN.out k
      clear hcl
      generalize ns.getD k 0 = x at *
      have hr := (Nm.row_length x).2
      go_wp2_with fail
      refine (refRow_any _ _ (by omega) (by have := HX.out; omega)).mono ?_
      rintro e w1 ⟨rfl, hb1⟩
      rw [Int.toNat_natCast]
      have hadd : ¬ 9223372036854775807 < S.size + (Nm.row x).length := by omega
      go_wp2_with fail
      go_roundw
      case rel => exact ⟨k + 1, _, by omega, by go_num, rfl, by rw [HV.out, HS.out]; exact mk_app _ _, Below.next HB.out hb1⟩
      case measure => simp [intOf]; omega
    · go_wp2_with fail
      go_ret
      have : ns.take k = ns := List.take_of_length_le (by rw [HLEN.out]; omega)
      rw [HS.out, this]
      exact ⟨rfl, HB.out⟩

set_option maxRecDepth 100000 in
set_option maxHeartbeats 2000000 in
theorem refText_any (ao : Option Addr) (len cap : Nat) (ss : List ByteArray) (w : World) (hV : SeesS w (.slice ao len cap) ss) (hl : len ≤ 100000000) (hsum : suml ss ≤ 100000000) :
    Calls Try.prog 19 #[.slice ao len cap] w (Gives (.string ⟨(textl ss).toArray⟩) w) := by
  obtain ⟨hlen, b, off, hcell⟩ := hV.get
  have HC := Lib.hid hcell; have HLEN := Lib.hid hlen; have HSUM := Lib.hid hsum; clear hcell hlen hV hsum
  have HL := Lib.hid hl
  go_enter Try.func19, Try.ntmps19
  go_wp2_with fail
  go_loopw [3, 4] (fun u i wr => ∃ (k : Nat) (S : ByteArray), k ≤ len ∧ i = .int .i64 k ∧ u = .string S ∧ S = ⟨(textl (ss.take k)).toArray⟩ ∧ Below w.heap.size w wr) (fun _ i _ => len - (intOf i).toNat)
  case atStart => exact ⟨0, _, Nat.zero_le _, rfl, rfl, by simp [textl], Below.refl _ _⟩
  case round =>
    obtain ⟨k, S, hk, rfl, rfl, hS, hbel⟩ := hrel
    have hSs : S.size ≤ 1000000000 := by
      have h1 := textl_length (ss.take k)
      have h2 : (ss.take k).length ≤ k := List.length_take_le ..
      have h3 := HL.out
      have h4 := suml_take ss k
      have h5 := HSUM.out
      rw [hS]
      show (textl (ss.take k)).length ≤ _
      omega
    have HS := Lib.hid hS; have HB := Lib.hid hbel; clear hS hbel
    by_cases hlt : k < len
    · obtain ⟨rfl, hbl, hcl⟩ := HC.out k hlt
      have hcell : wr.cell? ⟨b, off + k, none⟩ = some (.string (ss.getD k ByteArray.empty)) := (HB.out.cell (p := ⟨b, off + k, none⟩) hbl).trans hcl
      have hk' : k < ss.length := by rw [HLEN.out]; exact hlt
      have HV : Hid (textl (ss.take (k + 1)) = textl (ss.take k) ++ Nm.row (ss.getD k ByteArray.empty).size ++ (ss.getD k ByteArray.empty).data.toList) := textl_snoc ss k hk'
      have hxs : (ss.getD k ByteArray.empty).size ≤ 100000000 := by
        have h1 := suml_snoc ss k hk'
        have h2 := suml_take ss (k + 1)
        have h3 := HSUM.out
        omega
      clear hcl hk'
      generalize ss.getD k ByteArray.empty = x at *
      have hr := (Nm.row_length x.size).2
      have hblr : b < wr.heap.size := Nat.lt_of_lt_of_le hbl HB.out.size
      have hk0 : (0 : Int) ≤ (k : Int) := by omega
      have hk1 : (k : Int) < (len : Int) := by omega
      have hadd : ¬ 9223372036854775807 < S.size + (Nm.row x.size).length := by omega
      have hadd2 : ¬ 9223372036854775807 < S.size + (Nm.row x.size).length + x.size := by omega
      go_wp2_with fail
      have hwr : IntKind.u64.wrap (x.size : Int) = (x.size : Int) := by rw [IntKind.wrap_u64]; omega
      go_region_held3 (fun w' => w'.cell? ⟨b, off + k, none⟩ = some (.string x)) (first | go_keep | (refine (hb1.cell (p := ⟨b, off + k, none⟩) (by simpa using hblr)).trans ?_; simpa using hcell)) (first | (go_at_call 30; refine (refRow_any _ _ (by omega) (by clear hwr; omega)).mono ?_; rintro e w1 ⟨rfl, hb1⟩; rw [Int.toNat_natCast]))
      clear hwr
      go_wp2
      go_roundw
      case rel =>
        refine ⟨k + 1, _, by omega, by go_num, rfl, ?_, Below.next HB.out.drew hb1⟩
        have e : x = ⟨x.data.toList.toArray⟩ := (mk_of rfl).symm
        rw [HV.out, HS.out, mk_app]
        conv => lhs; rw [e]
        exact mk_app _ _
      case measure => simp [intOf]; omega
    · go_wp2_with fail
      go_ret
      have : ss.take k = ss := List.take_of_length_le (by rw [HLEN.out]; omega)
      rw [HS.out, this]
      exact ⟨rfl, HB.out⟩

set_option maxHeartbeats 400000 in
theorem refReadVar_empty (w : World) :
    Calls Try.prog 20 #[.string ByteArray.empty] w (Gives (.tuple #[.int .u64 0, .int .i64 0, .bool false]) w) := by
  go_enter Try.func20, Try.ntmps20
  go_wp2_with fail
  go_ret3
  exact ⟨rfl, Below.refl _ _⟩

set_option maxHeartbeats 400000 in
theorem refReadVar_short (s : ByteArray) (c : Int) (w : World) (hi : ∀ w : World, (Instr.index 9 (.string s) (.int .i64 0)).run Try.prog w = .ok (.int .u8 c) w) (h1 : 1 ≤ s.size) (h0 : 0 ≤ c) (hb : c < 248) :
    Calls Try.prog 20 #[.string s] w (Gives (.tuple #[.int .u64 c, .int .i64 1, .bool true]) w) := by
  have hz : ((s.size : Int) == 0) = false := by rw [beq_eq_false_iff_ne]; omega
  go_enter Try.func20, Try.ntmps20
  go_wp2_with fail
  go_ret3
  exact ⟨rfl, Below.refl _ _⟩

set_option maxHeartbeats 400000 in
theorem refReadVar_cut (s : ByteArray) (c : Int) (w : World) (hi : ∀ w : World, (Instr.index 9 (.string s) (.int .i64 0)).run Try.prog w = .ok (.int .u8 c) w) (h1 : 1 ≤ s.size) (hb : 248 ≤ c) (hc : c ≤ 255) (hl : (s.size : Int) < c - 246) :
    Calls Try.prog 20 #[.string s] w (Gives (.tuple #[.int .u64 0, .int .i64 0, .bool false]) w) := by
  have hz : ((s.size : Int) == 0) = false := by rw [beq_eq_false_iff_ne]; omega
  go_enter Try.func20, Try.ntmps20
  go_wp2_with fail
  go_ret3
  exact ⟨rfl, Below.refl _ _⟩

/-- The number of the bytes from the second one on. -/
theorem take_drop_snoc (s : ByteArray) (k : Nat) (h : 1 + k < s.size) : (s.data.toList.drop 1).take (k + 1) = (s.data.toList.drop 1).take k ++ [s[1 + k]] := by
  rw [List.take_succ_eq_append_getElem (by rw [List.length_drop, length_list]; omega)]
  congr 2
  rw [List.getElem_drop]
  rfl

/-- What ReadVar answers where a row might stand. -/
def rvG (G : Bool) (V t : Nat) : Value := if G = true then .tuple #[.int .u64 0, .int .i64 0, .bool false] else .tuple #[.int .u64 V, .int .i64 ((t : Int) + 1), .bool true]

set_option maxRecDepth 100000 in
set_option maxHeartbeats 2000000 in
theorem refReadVar_long (s : ByteArray) (t : Nat) (V : Nat) (w : World) (hi : ∀ w : World, (Instr.index 9 (.string s) (.int .i64 0)).run Try.prog w = .ok (.int .u8 ((t : Int) + 247)) w) (h1 : (1 : Int) ≤ s.size) (ht1 : (1 : Int) ≤ t) (ht8 : (t : Int) ≤ 8) (hl : (t : Int) + 1 ≤ s.size) (hs : s.size ≤ 9223372036854775807)
    (hV : Nm.val ((s.data.toList.drop 1).take t) = V) (hV64 : V < 18446744073709551616) (G : Bool) (hG : (!(Nm.row V == (s.extract 0 (t + 1)).toList)) = G) :
    Calls Try.prog 20 #[.string s] w (Gives (rvG G V t) w) := by
  have hz : ((s.size : Int) == 0) = false := by rw [beq_eq_false_iff_ne]; omega
  have hlt : decide ((t : Int) + 247 < 248) = false := by rw [decide_eq_false_iff_not]; omega
  have hld : decide ((s.size : Int) < (t : Int) + 1) = false := by rw [decide_eq_false_iff_not]; omega
  have h246 : (t : Int) + 247 - 246 = (t : Int) + 1 := by omega
  have HV := Lib.hid hV; have HV64 := Lib.hid hV64; have HG := Lib.hid hG; clear hV hV64 hG
  go_enter Try.func20, Try.ntmps20
  go_wp2_with fail
  clear h246 hlt hld hz
  go_loop [6, 7] (fun n i => ∃ k A : Nat, k ≤ t ∧ i = .int .i64 ((k : Int) + 1) ∧ n = .int .u64 A ∧ A = Nm.val ((s.data.toList.drop 1).take k)) (fun _ i => t + 1 - (intOf i).toNat)
  case atStart => exact ⟨0, 0, Nat.zero_le _, rfl, rfl, rfl⟩
  case round =>
    obtain ⟨k, A, hk, rfl, rfl, hA⟩ := hrel
    have HA := Lib.hid hA; clear hA
    by_cases hkt : k < t
    · have hks : 1 + k < s.size := by omega
      have hks2 : k + 1 < s.size := by omega
      have hb := (s[1 + k]'hks).toNat_lt
      have hv := Nm.val_lt ((s.data.toList.drop 1).take k)
      have hlk : ((s.data.toList.drop 1).take k).length = k := by rw [List.length_take, List.length_drop, length_list]; omega
      have hp : 256 ^ ((s.data.toList.drop 1).take k).length ≤ 256 ^ 7 := Nat.pow_le_pow_right (by omega) (by omega)
      have hi2 := index_byte s (1 + k) hks
      have ek : ((1 + k : Nat) : Int) = (k : Int) + 1 := by omega
      rw [ek] at hi2
      have HS : Hid (Nm.val ((s.data.toList.drop 1).take (k + 1)) = 256 * A + (s[1 + k]'hks).toNat) := by rw [take_drop_snoc s k hks, Nm.val_snoc, HA.out]; exact rfl
      have hA64 : 256 * A + (s[1 + k]'hks).toNat < 18446744073709551616 := by rw [HA.out]; simp only [Nat.reducePow] at hp; omega
      generalize (s[1 + k]'hks).toNat = z at *
      have HM := Lib.hid (mul_byte A z hA64)
      clear hp hv hlk hA64 ek hks
      go_wp2_with fail
      go_round
      case rel => exact ⟨k + 1, 256 * A + z, by omega, by go_num, congrArg (Value.int .u64) HM.out, HS.out.symm⟩
      case measure => simp [intOf]; omega
    · have hkt2 : k = t := by omega
      subst hkt2
      obtain rfl : A = V := HA.out.trans HV.out
      have hlk : (k : Int) + 1 ≤ s.size := hl
      have hl0 : (0 : Int) ≤ (k : Int) + 1 := by omega
      have hen : ((k : Int) + 1).toNat = k + 1 := by omega
      go_wp2_with fail
      go_region_held3 (fun _ => True) (trivial) (first | (go_at_call 30; refine (refRow_any _ _ (by omega) (by have := HV64.out; omega)).mono ?_; rintro e w1 ⟨rfl, hb1⟩; rw [Int.toNat_natCast]))
      clear hen
      cases G with
      | true =>
        have hg : (Nm.row A == (s.extract 0 (k + 1)).toList) = false := by have := HG.out; simpa using this
        go_wp2
        · go_ret3
          exact ⟨rfl, Below.next (Below.refl _ _).drew hb1⟩
        · exfalso
          have h : (!(Nm.row A == (s.extract 0 (k + 1)).toList)) = false := by assumption
          rw [hg] at h
          cases h
      | false =>
        have hg : (Nm.row A == (s.extract 0 (k + 1)).toList) = true := by have := HG.out; simpa using this
        go_wp2
        · exfalso
          have h : (!(Nm.row A == (s.extract 0 (k + 1)).toList)) = true := by assumption
          rw [hg] at h
          cases h
        · go_ret3
          exact ⟨rfl, Below.next (Below.refl _ _).drew hb1⟩

/-- The document's ReadVar, of every text. -/
theorem refReadVar_any (s : ByteArray) (w : World) (hs : s.size ≤ 9223372036854775807) :
    Calls Try.prog 20 #[.string s] w (Gives (rvV s.data.toList) w) := by
  by_cases h0 : s.size = 0
  · obtain rfl := empty_of_size h0
    exact refReadVar_empty w
  · have h1 : 1 ≤ s.size := by omega
    have h2 : 0 < s.size := h1
    have hi := index_byte s 0 h2
    have hlen : (s.extract 1 s.size).data.toList.length = s.size - 1 := by rw [length_list, extract_size s h1]
    have hv : rvV s.data.toList = rvV (s[0] :: (s.extract 1 s.size).data.toList) := congrArg rvV (head_tail s h2)
    have hht := head_tail s h2
    rw [hv]
    clear hv
    have hdr : s.data.toList.drop 1 = (s.extract 1 s.size).data.toList := (Lib.extract_to_end s 1).symm
    generalize s[0] = b at *
    generalize hr : (s.extract 1 s.size).data.toList = r at *
    have hlt := b.toNat_lt
    by_cases hb : b.toNat < 248
    · have e : rvV (b :: r) = .tuple #[.int .u64 (b.toNat : Nat), .int .i64 1, .bool true] := by
        unfold rvV; rw [Nm.rv, if_pos hb]; rfl
      rw [e]
      exact refReadVar_short s _ w hi h1 (by omega) (by omega)
    · by_cases hl : r.length < b.toNat - 247
      · have e : rvV (b :: r) = .tuple #[.int .u64 0, .int .i64 0, .bool false] := by
          unfold rvV; rw [Nm.rv, if_neg hb, if_pos hl]
        rw [e]
        exact refReadVar_cut s _ w hi h1 (by omega) (by omega) (by omega)
      · obtain ⟨t, ht⟩ : ∃ t, t = b.toNat - 247 := ⟨_, rfl⟩
        have hbt : b.toNat = t + 247 := by omega
        have hv1 := Nm.val_lt (r.take t)
        have hlt2 : (r.take t).length = t := by rw [List.length_take]; omega
        have hv2 : 256 ^ (r.take t).length ≤ 256 ^ 8 := Nat.pow_le_pow_right (by omega) (by omega)
        have hv3 : Nm.val (r.take t) < 18446744073709551616 := by simp only [Nat.reducePow] at hv2; omega
        have hi' : ∀ w : World, (Instr.index 9 (.string s) (.int .i64 0)).run Try.prog w = .ok (.int .u8 ((t : Int) + 247)) w := by
          intro w
          rw [show ((t : Int) + 247) = (b.toNat : Int) by omega]
          exact hi w
        have hex : (s.extract 0 (t + 1)).toList = b :: r.take t := by
          rw [ByteArray.toList_eq, Lib.extract_data, List.drop_zero, Nat.sub_zero, hht, List.take_succ_cons]
        have hfin := refReadVar_long s t (Nm.val (r.take t)) w hi' (by omega) (by omega) (by omega) (by omega) hs (by rw [hdr]) hv3 _ rfl
        have e : rvV (b :: r) = rvG (!(Nm.row (Nm.val (r.take t)) == (s.extract 0 (t + 1)).toList)) (Nm.val (r.take t)) t := by
          unfold rvG
          by_cases hrow : Nm.row (Nm.val (r.take t)) = (s.extract 0 (t + 1)).toList
          · have h3 : Nm.rv (b :: r) = some (Nm.val (r.take t), (Nm.row (Nm.val (r.take t))).length) := by
              have e1 : b :: r = Nm.row (Nm.val (r.take t)) ++ r.drop t := by rw [hrow, hex, List.cons_append, List.take_append_drop]
              conv => lhs; rw [e1]
              exact Nm.rv_row hv3 _
            rw [rvV_some h3, hrow, hex, List.length_cons, hlt2]
            simp
          · have h3 : Nm.rv (b :: r) = none := by
              rw [Nm.rv, if_neg hb, ← ht, if_neg (by omega)]
              by_cases hc : Nm.val (r.take t) < 248 ∨ Nm.wid (Nm.val (r.take t)) ≠ t
              · rw [if_pos hc]
              · exfalso
                apply hrow
                have hge : ¬ Nm.val (r.take t) < 248 := fun h => hc (Or.inl h)
                have hw : Nm.wid (Nm.val (r.take t)) = t := Classical.byContradiction fun h => hc (Or.inr h)
                rw [Nm.row_long hge, hw, hex, Nm.big_val _ _ hlt2, Nat.add_comm, ← hbt]
                simp
            rw [rvV_none h3]
            simp [hrow]
        rw [e]
        exact hfin

end Go.Proofs.Ytledehjgaencmaa

/- Walks of num.ReadVar. -/
import Derived.Test.YtbdoekogoiijeaaNumWalkB
import Derived.Lib.IndexBytes
namespace Go.Proofs.Ytbdoekogoiijeaa
open Go.RowKit

/-- What ReadVar answers of a text's bytes. -/
def rvV (l : List UInt8) : Value :=
  match Nm.rv l with
  | some (n, k) => .tuple #[.int .u64 n, .int .i64 k, .bool true]
  | none => .tuple #[.int .u64 0, .int .i64 0, .bool false]

set_option maxHeartbeats 400000 in
theorem readVar_empty (w : World) :
    Calls Try.prog 90 #[.string ByteArray.empty] w fun e w' => e = .returned (.tuple #[.int .u64 0, .int .i64 0, .bool false]) ∧ w = w' := by
  go_enter Try.func90, Try.ntmps90
  go_wp2_with fail
  go_ret3
  exact ⟨rfl, rfl⟩

theorem index_byte (s : ByteArray) (i : Nat) (h : i < s.size) : ∀ w : World, (Instr.index 9 (.string s) (.int .i64 i)).run Try.prog w = .ok (.int .u8 (s[i]'h).toNat) w := by
  intro w
  rw [run_index_string _ _ _ _ _ Try.underlying9]
  simp [h]

set_option maxHeartbeats 400000 in
theorem readVar_short (s : ByteArray) (c : Int) (w : World) (hi : ∀ w : World, (Instr.index 9 (.string s) (.int .i64 0)).run Try.prog w = .ok (.int .u8 c) w) (he : s.toList.isEmpty = false) (h0 : 0 ≤ c) (hb : c < 248) :
    Calls Try.prog 90 #[.string s] w fun e w' => e = .returned (.tuple #[.int .u64 c, .int .i64 1, .bool true]) ∧ w = w' := by
  go_enter Try.func90, Try.ntmps90
  go_wp2_with fail
  go_ret3
  exact ⟨rfl, rfl⟩

theorem extract_size (s : ByteArray) (_h : 1 ≤ s.size) : (s.extract 1 s.size).size = s.size - 1 := by simp [ByteArray.size_extract]

set_option maxHeartbeats 400000 in
theorem readVar_cut (s : ByteArray) (c : Int) (w : World) (hi : ∀ w : World, (Instr.index 9 (.string s) (.int .i64 0)).run Try.prog w = .ok (.int .u8 c) w) (he : s.toList.isEmpty = false) (h1 : 1 ≤ s.size) (hb : 248 ≤ c) (hc : c ≤ 255) (hl : (s.size : Int) - 1 < c - 247) :
    Calls Try.prog 90 #[.string s] w fun e w' => e = .returned (.tuple #[.int .u64 0, .int .i64 0, .bool false]) ∧ w = w' := by
  have hz := extract_size s h1
  go_enter Try.func90, Try.ntmps90
  go_wp2_with fail
  refine (readBig_no _ _ _ (by omega) (by omega)).mono ?_
  rintro e w' ⟨rfl, rfl⟩
  go_wp2_with fail
  go_ret3
  exact ⟨rfl, rfl⟩

set_option maxHeartbeats 400000 in
theorem readVar_low (s : ByteArray) (c n : Int) (w : World) (hi : ∀ w : World, (Instr.index 9 (.string s) (.int .i64 0)).run Try.prog w = .ok (.int .u8 c) w) (he : s.toList.isEmpty = false) (h1 : 1 ≤ s.size) (hb : 248 ≤ c) (hc : c ≤ 255) (hl : c - 247 ≤ (s.size : Int) - 1) (hs : s.size ≤ 9223372036854775807)
    (hn : Nm.val ((s.extract 1 s.size).data.toList.take (c - 247).toNat) = n) (hlo : n < 248) :
    Calls Try.prog 90 #[.string s] w fun e w' => e = .returned (.tuple #[.int .u64 0, .int .i64 0, .bool false]) ∧ w = w' := by
  have hz := extract_size s h1
  have HN := Lib.hid hn; clear hn
  go_enter Try.func90, Try.ntmps90
  go_wp2_with fail
  refine (readBig_yes _ _ _ (by omega) (by omega) (by omega) (by omega)).mono ?_
  rintro e w' ⟨rfl, rfl⟩
  rw [HN.out]
  go_wp2_with fail
  go_ret3
  exact ⟨rfl, rfl⟩

set_option maxHeartbeats 400000 in
theorem readVar_wide (s : ByteArray) (c n : Int) (w : World) (hi : ∀ w : World, (Instr.index 9 (.string s) (.int .i64 0)).run Try.prog w = .ok (.int .u8 c) w) (he : s.toList.isEmpty = false) (h1 : 1 ≤ s.size) (hb : 248 ≤ c) (hc : c ≤ 255) (hl : c - 247 ≤ (s.size : Int) - 1) (hs : s.size ≤ 9223372036854775807)
    (hn : Nm.val ((s.extract 1 s.size).data.toList.take (c - 247).toNat) = n) (hlo : 248 ≤ n) (hhi : n ≤ 18446744073709551615) (hw : (((Nm.wid n.toNat : Nat) : Int) != c - 247) = true) :
    Calls Try.prog 90 #[.string s] w fun e w' => e = .returned (.tuple #[.int .u64 0, .int .i64 0, .bool false]) ∧ w = w' := by
  have hz := extract_size s h1
  have HN := Lib.hid hn; clear hn
  have HH := Lib.hid hhi; clear hhi
  go_enter Try.func90, Try.ntmps90
  go_wp2_with fail
  refine (readBig_yes _ _ _ (by omega) (by omega) (by omega) (by omega)).mono ?_
  rintro e w' ⟨rfl, rfl⟩
  rw [HN.out]
  go_wp2_with fail
  refine (widthOf_any _ _ (by omega) HH.out).mono ?_
  rintro e w' ⟨rfl, rfl⟩
  go_wp2_with fail
  go_ret3
  exact ⟨rfl, rfl⟩

set_option maxHeartbeats 400000 in
theorem readVar_long (s : ByteArray) (c n : Int) (w : World) (hi : ∀ w : World, (Instr.index 9 (.string s) (.int .i64 0)).run Try.prog w = .ok (.int .u8 c) w) (he : s.toList.isEmpty = false) (h1 : 1 ≤ s.size) (hb : 248 ≤ c) (hc : c ≤ 255) (hl : c - 247 ≤ (s.size : Int) - 1) (hs : s.size ≤ 9223372036854775807)
    (hn : Nm.val ((s.extract 1 s.size).data.toList.take (c - 247).toNat) = n) (hlo : 248 ≤ n) (hhi : n ≤ 18446744073709551615) (hw : (((Nm.wid n.toNat : Nat) : Int) != c - 247) = false) :
    Calls Try.prog 90 #[.string s] w fun e w' => e = .returned (.tuple #[.int .u64 n, .int .i64 (1 + (c - 247)), .bool true]) ∧ w = w' := by
  have hz := extract_size s h1
  have HN := Lib.hid hn; clear hn
  have HH := Lib.hid hhi; clear hhi
  go_enter Try.func90, Try.ntmps90
  go_wp2_with fail
  refine (readBig_yes _ _ _ (by omega) (by omega) (by omega) (by omega)).mono ?_
  rintro e w' ⟨rfl, rfl⟩
  rw [HN.out]
  go_wp2_with fail
  refine (widthOf_any _ _ (by omega) HH.out).mono ?_
  rintro e w' ⟨rfl, rfl⟩
  go_wp2_with fail
  go_ret3
  exact ⟨rfl, rfl⟩

theorem empty_of_size {s : ByteArray} (h : s.size = 0) : s = ByteArray.empty := by
  have h2 : s.data.size = 0 := h
  cases s with
  | mk d => exact congrArg ByteArray.mk (Array.eq_empty_of_size_eq_zero h2)

theorem isEmpty_of_size {s : ByteArray} (h : 1 ≤ s.size) : s.toList.isEmpty = false := by
  rw [ByteArray.toList_eq]
  cases e : s.data.toList with
  | nil => have := length_list s; rw [e] at this; simp at this; omega
  | cons => rfl

theorem head_tail (s : ByteArray) (h : 0 < s.size) : s.data.toList = s[0] :: (s.extract 1 s.size).data.toList := by
  rw [Lib.extract_to_end]
  have := List.drop_eq_getElem_cons (l := s.data.toList) (i := 0) (by rw [length_list]; omega)
  rw [List.drop_zero] at this
  exact this

/-- ReadVar, of every text. -/
theorem readVar_any (s : ByteArray) (w : World) (hs : s.size ≤ 9223372036854775807) :
    Calls Try.prog 90 #[.string s] w fun e w' => e = .returned (rvV s.data.toList) ∧ w = w' := by
  by_cases h0 : s.size = 0
  · obtain rfl := empty_of_size h0
    exact readVar_empty w
  · have h1 : 1 ≤ s.size := by omega
    have h2 : 0 < s.size := h1
    have he := isEmpty_of_size h1
    have hi := index_byte s 0 h2
    have hlen : (s.extract 1 s.size).data.toList.length = s.size - 1 := by rw [length_list, extract_size s h1]
    have hv : rvV s.data.toList = rvV (s[0] :: (s.extract 1 s.size).data.toList) := congrArg rvV (head_tail s h2)
    rw [hv]
    clear hv
    generalize s[0] = b at *
    generalize hr : (s.extract 1 s.size).data.toList = r at *
    have hlt := b.toNat_lt
    by_cases hb : b.toNat < 248
    · have e : rvV (b :: r) = .tuple #[.int .u64 (b.toNat : Nat), .int .i64 1, .bool true] := by
        unfold rvV; rw [Nm.rv, if_pos hb]; rfl
      rw [e]
      exact readVar_short s _ w hi he (by omega) (by omega)
    · by_cases hl : r.length < b.toNat - 247
      · have e : rvV (b :: r) = .tuple #[.int .u64 0, .int .i64 0, .bool false] := by
          unfold rvV; rw [Nm.rv, if_neg hb, if_pos hl]
        rw [e]
        exact readVar_cut s _ w hi he h1 (by omega) (by omega) (by omega)
      · have hw : ((b.toNat : Int) - 247).toNat = b.toNat - 247 := by omega
        have hv1 := Nm.val_lt (r.take (b.toNat - 247))
        have hv2 : 256 ^ (r.take (b.toNat - 247)).length ≤ 256 ^ 8 := Nat.pow_le_pow_right (by omega) (by rw [List.length_take]; omega)
        have hv3 : Nm.val (r.take (b.toNat - 247)) < 18446744073709551616 := by simp only [Nat.reducePow] at hv2; omega
        clear hv1 hv2
        have hn : ((Nm.val ((s.extract 1 s.size).data.toList.take ((b.toNat : Int) - 247).toNat) : Nat) : Int) = (Nm.val (r.take (b.toNat - 247)) : Nat) := by rw [hw, hr]
        by_cases hlo : Nm.val (r.take (b.toNat - 247)) < 248
        · have e : rvV (b :: r) = .tuple #[.int .u64 0, .int .i64 0, .bool false] := by
            unfold rvV; rw [Nm.rv, if_neg hb, if_neg hl, if_pos (Or.inl hlo)]
          rw [e]
          exact readVar_low s _ _ w hi he h1 (by omega) (by omega) (by omega) hs hn (by omega)
        · by_cases hwd : Nm.wid (Nm.val (r.take (b.toNat - 247))) = b.toNat - 247
          · have e : rvV (b :: r) = .tuple #[.int .u64 (Nm.val (r.take (b.toNat - 247)) : Nat), .int .i64 (1 + ((b.toNat : Int) - 247)), .bool true] := by
              unfold rvV
              rw [Nm.rv, if_neg hb, if_neg hl, if_neg (by omega)]
              have : ((1 + (b.toNat - 247) : Nat) : Int) = 1 + ((b.toNat : Int) - 247) := by omega
              simp only [this]
            rw [e]
            exact readVar_long s _ _ w hi he h1 (by omega) (by omega) (by omega) hs hn (by omega) (by omega) (by rw [Int.toNat_natCast, hwd]; simp; omega)
          · have e : rvV (b :: r) = .tuple #[.int .u64 0, .int .i64 0, .bool false] := by
              unfold rvV; rw [Nm.rv, if_neg hb, if_neg hl, if_pos (Or.inr hwd)]
            rw [e]
            exact readVar_wide s _ _ w hi he h1 (by omega) (by omega) (by omega) hs hn (by omega) (by omega) (by rw [Int.toNat_natCast, bne_iff_ne]; omega)

end Go.Proofs.Ytbdoekogoiijeaa

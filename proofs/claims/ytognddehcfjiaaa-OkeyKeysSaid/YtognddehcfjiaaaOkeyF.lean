/- Walks of okey.readText, readPart. -/
import Derived.Test.YtognddehcfjiaaaOkeyE
namespace Go.Proofs.Ytognddehcfjiaaa
open Go.RowKit

/-- The text that stands behind a text's mark, and how many bytes that takes. -/
def rtx : List UInt8 → Option (List UInt8 × Nat)
  | [] => none
  | b :: r => if b = 0 then (match r with
      | [] => none
      | c :: r' => if c = 1 then some ([], 2) else if c = 255 then (rtx r').map fun x => (0 :: x.1, x.2 + 2) else none)
    else (rtx r).map fun x => (b :: x.1, x.2 + 1)
/-- With what was read ahead of it. -/
def ahead (L : List UInt8) (k : Nat) (o : Option (List UInt8 × Nat)) : Option (List UInt8 × Nat) := o.map fun x => (L ++ x.1, k + x.2)
/-- What readText answers. -/
def rtxV : Option (List UInt8 × Nat) → Value
  | none => .tuple #[.string ByteArray.empty, .int .i64 0, .bool false]
  | some x => .tuple #[.string ⟨x.1.toArray⟩, .int .i64 (x.2 : Nat), .bool true]

theorem drop_cons (s : ByteArray) (k : Nat) (h : k < s.size) : s.data.toList.drop k = s[k] :: s.data.toList.drop (k + 1) := by
  have := List.drop_eq_getElem_cons (l := s.data.toList) (i := k) (by rw [length_list]; exact h)
  rw [this]; rfl
theorem ahead_char (L : List UInt8) (k : Nat) (b : UInt8) (r : List UInt8) (hb : b ≠ 0) : ahead L k (rtx (b :: r)) = ahead (L ++ [b]) (k + 1) (rtx r) := by
  have e : rtx (b :: r) = (rtx r).map fun x => (b :: x.1, x.2 + 1) := by rw [rtx.eq_def]; simp only; rw [if_neg hb]
  rw [e]
  cases rtx r with
  | none => rfl
  | some x => simp [ahead]; omega
theorem ahead_zero (L : List UInt8) (k : Nat) (r : List UInt8) : ahead L k (rtx (0 :: 255 :: r)) = ahead (L ++ [0]) (k + 2) (rtx r) := by
  have e : rtx (0 :: 255 :: r) = (rtx r).map fun x => (0 :: x.1, x.2 + 2) := by rw [rtx.eq_def]; simp
  rw [e]
  cases rtx r with
  | none => rfl
  | some x => simp [ahead]; omega
theorem ahead_end (L : List UInt8) (k : Nat) (r : List UInt8) : ahead L k (rtx (0 :: 1 :: r)) = some (L, k + 2) := by
  have e : rtx (0 :: 1 :: r) = some ([], 2) := by rw [rtx.eq_def]; simp
  rw [e]
  simp [ahead]
theorem ahead_bad (L : List UInt8) (k : Nat) (c : UInt8) (r : List UInt8) (h1 : c ≠ 1) (h2 : c ≠ 255) : ahead L k (rtx (0 :: c :: r)) = none := by
  have e : rtx (0 :: c :: r) = none := by rw [rtx.eq_def]; simp [h1, h2]
  rw [e]; rfl
theorem ahead_cut (L : List UInt8) (k : Nat) : ahead L k (rtx [0]) = none := rfl
theorem ahead_nil (L : List UInt8) (k : Nat) : ahead L k (rtx []) = none := rfl
theorem ahead_zero' (o : Option (List UInt8 × Nat)) : ahead [] 0 o = o := by cases o <;> simp [ahead]

theorem byte_ne {B : UInt8} {c : Int} (m : UInt8) (hc : c = B.toNat) (h : c ≠ m.toNat) : B ≠ m := fun e => h (by rw [hc, e])
theorem byte_eq {B : UInt8} (m : UInt8) {c : Int} (hc : c = B.toNat) (h : c = m.toNat) : B = m := UInt8.toNat.inj (by omega)

set_option maxHeartbeats 2000000 in
theorem readTextK_any (s : ByteArray) (w : World) (hs : s.size ≤ 1099511627776) :
    Calls Try.prog 33 #[.string s] w (Gives (rtxV (rtx s.data.toList)) w) := by
  obtain ⟨i0, hi, hz0, hz1, hz2⟩ := info_parts info_u8
  have H0 : Hid (rtx s.data.toList = ahead [] 0 (rtx (s.data.toList.drop 0))) := by rw [ahead_zero']; exact rfl
  generalize rtx s.data.toList = R at *
  go_enter Try.func33, Try.ntmps33
  go_wp2_with fail
  go_loopw [5, 6] (fun u i wr => ∃ (k : Nat) (L : List UInt8), k ≤ s.size ∧ L.length ≤ k ∧ i = .int .i64 k ∧ R = ahead L k (rtx (s.data.toList.drop k)) ∧ Owns wr w.heap.size u L ∧ Below w.heap.size w wr) (fun _ i _ => s.size - (intOf i).toNat)
  case atStart => exact ⟨0, [], Nat.zero_le _, Nat.le_refl _, rfl, H0.out, Owns.nil _ _, Below.refl _ _⟩
  case round =>
    obtain ⟨k, L, hk, hLk, rfl, hR, hown, hbel⟩ := hrel
    have HR := Lib.hid hR; clear hR H0
    have hsz := hbel.size
    have HLK := Lib.hid hLk; clear hLk
    have hraw : wr.ownsRow w.heap.size 5 1 u5 L.length (L.map cellOf) := hown
    by_cases hlt : k < s.size
    · have hx := index_byte s k hlt
      have HD := Lib.hid (drop_cons s k hlt)
      generalize s[k]'hlt = B at *
      obtain ⟨c, hc⟩ : ∃ c : Int, c = B.toNat := ⟨_, rfl⟩
      rw [← hc] at hx
      have HC := Lib.hid hc; clear hc
      by_cases hz : c = 0
      · obtain rfl : B = 0 := byte_eq 0 HC.out (by rw [hz]; rfl)
        subst hz
        clear HC
        by_cases hlt2 : k + 1 < s.size
        · have he : ((k : Int) + 1 == (s.size : Int)) = false := by rw [beq_eq_false_iff_ne]; omega
          have hx2 := index_byte s (k + 1) hlt2
          have HD2 := Lib.hid (drop_cons s (k + 1) hlt2)
          generalize s[k + 1]'hlt2 = B2 at *
          obtain ⟨c2, hc2⟩ : ∃ c : Int, c = B2.toNat := ⟨_, rfl⟩
          rw [← hc2] at hx2
          have ek : ((k + 1 : Nat) : Int) = (k : Int) + 1 := by omega
          rw [ek] at hx2
          clear ek
          have HC2 := Lib.hid hc2; clear hc2
          have HQ : Hid (R = ahead L k (rtx (0 :: B2 :: s.data.toList.drop (k + 1 + 1)))) := by rw [HR.out, HD.out, HD2.out]; exact rfl
          clear HR HD HD2
          by_cases h1 : c2 = 1
          · obtain rfl : B2 = 1 := byte_eq 1 HC2.out (by rw [h1]; rfl)
            subst h1
            have hcv := hown.convert
            have HE : Hid (rtxV R = .tuple #[.string ⟨L.toArray⟩, .int .i64 ((k : Int) + 1 + 1), .bool true]) := by
              rw [HQ.out, ahead_end]; exact Lib.hid (by unfold rtxV; simp only; congr 3)
            go_wp2_with fail
            go_ret3
            rw [HE.out]
            exact ⟨rfl, hbel⟩
          · by_cases h2 : c2 = 255
            · obtain rfl : B2 = 255 := byte_eq 255 HC2.out (by rw [h2]; rfl)
              subst h2
              go_wp2_with (at_builtin; go_must (refine wpList_append_own _ rfl _ _ 50 rfl w.heap.size 5 i0 (.int .u8 0) 1 1 Try.underlying50 hi hz0 hz1 hz2 rfl (by decide) _ _ _ rfl (hraw.alloc _) ⟨wr.heap.size, 0, none⟩ 1 1 [_] rfl rfl (cell_one_new _ _ _) ?c2 ?c3 ?c4 ?c5 ?_))
              case c2 => intro u hu; simp at hu; subst hu; rfl
              case c3 => have := HLK.out; unfold maxLen; omega
              case c4 => have := HLK.out; omega
              case c5 => simp; omega
              intro v1 w1 hown1 hgrow1 _
              have R1 : Owns w1 w.heap.size v1 (L ++ [0]) ∧ Below w.heap.size w w1 :=
                ⟨Owns.snoc hown1, (hbel.alloc (by omega) _).grown hgrow1 (by simp; omega) (fun j hj => (hraw.lt j hj).1)⟩
              clear hown1 hgrow1 hraw hown
              go_wp2_with fail
              go_roundw
              case rel => exact ⟨k + 2, L ++ [0], by omega, by have := HLK.out; rw [List.length_append, List.length_singleton]; omega, by go_num, by rw [HQ.out, ahead_zero], R1.1, R1.2⟩
              case measure => simp [intOf]; omega
            · have HE : Hid (R = none) := by rw [HQ.out]; exact ahead_bad L k B2 _ (byte_ne 1 HC2.out h1) (byte_ne 255 HC2.out h2)
              go_wp2_with fail
              go_ret3
              rw [HE.out]
              exact ⟨rfl, hbel⟩
        · have he : ((k : Int) + 1 == (s.size : Int)) = true := by rw [beq_iff_eq]; omega
          have HE : Hid (R = none) := by
            rw [HR.out, HD.out, List.drop_of_length_le (by rw [length_list]; omega)]
            exact ahead_cut L k
          go_wp2_with fail
          go_ret3
          rw [HE.out]
          exact ⟨rfl, hbel⟩
      · have HB : Hid (B ≠ 0) := byte_ne 0 HC.out hz
        go_wp2_with (at_builtin; go_must (refine wpList_append_own _ rfl _ _ 50 rfl w.heap.size 5 i0 (.int .u8 0) 1 1 Try.underlying50 hi hz0 hz1 hz2 rfl (by decide) _ _ _ rfl (hraw.alloc _) ⟨wr.heap.size, 0, none⟩ 1 1 [_] rfl rfl (cell_one_new _ _ _) ?c2 ?c3 ?c4 ?c5 ?_))
        case c2 => intro u hu; simp at hu; subst hu; rfl
        case c3 => have := HLK.out; unfold maxLen; omega
        case c4 => have := HLK.out; omega
        case c5 => simp; omega
        intro v1 w1 hown1 hgrow1 _
        have R1 : Owns w1 w.heap.size v1 (L ++ [B]) ∧ Below w.heap.size w w1 := by
          refine ⟨Owns.snoc ?_, (hbel.alloc (by omega) _).grown hgrow1 (by simp; omega) (fun j hj => (hraw.lt j hj).1)⟩
          rw [HC.out] at hown1
          exact hown1
        clear hown1 hgrow1 hraw hown
        go_wp2_with fail
        go_roundw
        case rel => exact ⟨k + 1, L ++ [B], by omega, by have := HLK.out; rw [List.length_append, List.length_singleton]; omega, by go_num, by rw [HR.out, HD.out, ahead_char _ _ _ _ HB.out], R1.1, R1.2⟩
        case measure => simp [intOf]; omega
    · have HE : Hid (R = none) := by
        rw [HR.out, List.drop_of_length_le (by rw [length_list]; omega)]
        exact ahead_nil L k
      go_wp2_with fail
      go_ret3
      rw [HE.out]
      exact ⟨rfl, hbel⟩

end Go.Proofs.Ytognddehcfjiaaa

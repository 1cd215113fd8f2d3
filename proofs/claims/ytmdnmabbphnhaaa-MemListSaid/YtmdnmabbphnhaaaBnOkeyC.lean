/- Walks of okey.appendText. -/
import Derived.Test.YtmdnmabbphnhaaaBnOkeyB
import Derived.Test.YtmdnmabbphnhaaaBnGrow
namespace Go.Proofs.Ytmdnmabbphnhaaa.Bn
set_option maxRecDepth 100000
open Go.RowKit

/-- A byte of a text, as it stands in a key. -/
def esc1 (b : UInt8) : List UInt8 := if b = 0 then [0, 255] else [b]
/-- A text's bytes, as they stand in a key. -/
def esc (l : List UInt8) : List UInt8 := l.flatMap esc1
theorem esc_length (l : List UInt8) : (esc l).length ≤ 2 * l.length := by
  induction l with
  | nil => simp [esc]
  | cons b l ih =>
    have : (esc1 b).length ≤ 2 := by unfold esc1; split <;> simp
    simp only [esc, List.flatMap_cons, List.length_append, List.length_cons] at ih ⊢
    omega
theorem esc_snoc (s : ByteArray) (k : Nat) (h : k < s.size) : esc (s.data.toList.take (k + 1)) = esc (s.data.toList.take k) ++ esc1 s[k] := by
  unfold esc
  rw [take_snoc s k h, List.flatMap_append, List.flatMap_singleton]

theorem Owns.snoc2 {w' : World} {base : Nat} {v' : Value} {l : List UInt8} {b c : UInt8} (h : w'.ownsRow base 5 1 v' (l.length + 2) (l.map cellOf ++ [cellOf b, cellOf c])) : Owns w' base v' (l ++ [b, c]) := by
  unfold Owns
  rw [List.length_append, List.map_append]
  exact h

set_option maxHeartbeats 1000000 in
theorem appendText_any (base : Nat) (v : Value) (l : List UInt8) (s : ByteArray) (w : World) (hown : Owns w base v l) (hb : base ≤ w.heap.size) (hl : l.length + 2 * s.size ≤ 1099511627776) :
    Calls Try.prog 46 #[v, .string s] w (GrewAt base (l ++ (esc s.data.toList ++ [0, 1])) v w) := by
  obtain ⟨i0, hi, hz0, hz1, hz2⟩ := info_parts info_u8
  have hs : s.size ≤ 1099511627776 := by omega
  have HLN := Lib.hid hl; clear hl
  have HOW := Lib.hid hown; clear hown
  go_enter Try.func46, Try.ntmps46
  go_wp2_with fail
  go_loopw [0, 8] (fun u i wr => ∃ (k : Nat), k ≤ s.size ∧ i = .int .i64 k ∧ Owns wr base u (l ++ esc (s.data.toList.take k)) ∧ Grows w wr v u) (fun _ i _ => s.size - (intOf i).toNat)
  case atStart => exact ⟨0, Nat.zero_le _, rfl, by simpa [esc] using HOW.out, Grows.refl _ _⟩
  case round =>
    obtain ⟨k, hk, rfl, hown, hbel⟩ := hrel
    have hlen : (l ++ esc (s.data.toList.take k)).length ≤ 1099511627776 := by
      have h1 := esc_length (s.data.toList.take k)
      have h2 : (s.data.toList.take k).length ≤ k := List.length_take_le ..
      have h3 := HLN.out
      rw [List.length_append]; omega
    have HLL := Lib.hid hlen; clear hlen
    have hsz := hbel.size
    have hraw : wr.ownsRow base 5 1 u0 (l ++ esc (s.data.toList.take k)).length ((l ++ esc (s.data.toList.take k)).map cellOf) := hown
    clear hown
    by_cases hlt : k < s.size
    · have HS : Hid (esc (s.data.toList.take (k + 1)) = esc (s.data.toList.take k) ++ esc1 s[k]) := esc_snoc s k hlt
      have hx := index_byte s k hlt
      generalize hB : s[k]'hlt = B at *
      clear hB
      generalize hL : l ++ esc (s.data.toList.take k) = L at *
      have HL := Lib.hid hL; clear hL
      obtain ⟨c, hc⟩ : ∃ c : Int, c = B.toNat := ⟨_, rfl⟩
      rw [← hc] at hx
      have HC := Lib.hid hc; clear hc
      by_cases hz : c = 0
      · have HB : Hid (B = 0) := UInt8.toNat.inj (by have := HC.out; rw [hz] at this; simp; omega)
        have HE : Hid (l ++ esc (s.data.toList.take (k + 1)) = (L ++ [0]) ++ [255]) := by rw [HS.out, HB.out, ← List.append_assoc, HL.out, List.append_assoc]; exact rfl
        subst hz
        go_wp2_with (at_builtin; go_must (refine wpList_append_own_at _ rfl _ _ 82 rfl base 5 i0 (.int .u8 0) 1 1 Try.underlying82 hi hz0 hz1 hz2 rfl (by decide) _ _ _ rfl (hraw.alloc _) ⟨wr.heap.size, 0, none⟩ 1 1 [_] rfl rfl (cell_one_new _ _ _) ?c2 ?c3 ?c4 ?c5 ?_))
        case c2 => intro u hu; simp at hu; subst hu; rfl
        case c3 => have hlen := HLL.out; unfold maxLen; omega
        case c4 => have hlen := HLL.out; omega
        case c5 => simp; omega
        intro v1 w1 hown1 hgrow1 _ hat1
        have hb1 : Grows w w1 v v1 := (hbel.alloc _).app hgrow1 hat1 (by simp)
        have hraw1 : w1.ownsRow base 5 1 v1 (L ++ [0]).length ((L ++ [(0 : UInt8)]).map cellOf) := Owns.snoc hown1
        have hsz1 := hb1.size
        clear hown1 hgrow1 hraw hat1
        have HLL1 : Hid ((L ++ [(0 : UInt8)]).length ≤ 1099511627777) := by have := HLL.out; rw [List.length_append, List.length_singleton]; exact Lib.hid (by omega)
        generalize hL1 : L ++ [(0 : UInt8)] = L1 at *
        clear hL1
        go_wp2_with (at_builtin; go_must (refine wpList_append_own_at _ rfl _ _ 82 rfl base 5 i0 (.int .u8 0) 1 1 Try.underlying82 hi hz0 hz1 hz2 rfl (by decide) _ _ _ rfl (hraw1.alloc _) ⟨w1.heap.size, 0, none⟩ 1 1 [_] rfl rfl (cell_one_new _ _ _) ?c2 ?c3 ?c4 ?c5 ?_))
        case c2 => intro u hu; simp at hu; subst hu; rfl
        case c3 => have hlen := HLL1.out; unfold maxLen; omega
        case c4 => have hlen := HLL1.out; omega
        case c5 => simp; omega
        intro v2 w2 hown2 hgrow2 _ hat2
        have R : Owns w2 base v2 (l ++ esc (s.data.toList.take (k + 1))) ∧ Grows w w2 v v2 := by
          rw [HE.out]
          exact ⟨Owns.snoc hown2, (hb1.alloc _).app hgrow2 hat2 (by simp)⟩
        clear hown2 hgrow2 hraw1 hat2
        go_wp2_with fail
        go_roundw
        case rel => exact ⟨k + 1, by omega, by go_num, R.1, R.2⟩
        case measure => simp [intOf]; omega
      · have HB : Hid (B ≠ 0) := fun e => hz (by rw [HC.out, e]; rfl)
        have HE : Hid (l ++ esc (s.data.toList.take (k + 1)) = L ++ [B]) := by rw [HS.out, ← List.append_assoc, HL.out, esc1, if_neg HB.out]; exact rfl
        go_wp2_with (at_builtin; go_must (refine wpList_append_own_at _ rfl _ _ 82 rfl base 5 i0 (.int .u8 0) 1 1 Try.underlying82 hi hz0 hz1 hz2 rfl (by decide) _ _ _ rfl (hraw.alloc _) ⟨wr.heap.size, 0, none⟩ 1 1 [_] rfl rfl (cell_one_new _ _ _) ?c2 ?c3 ?c4 ?c5 ?_))
        case c2 => intro u hu; simp at hu; subst hu; rfl
        case c3 => have hlen := HLL.out; unfold maxLen; omega
        case c4 => have hlen := HLL.out; omega
        case c5 => simp; omega
        intro v1 w1 hown1 hgrow1 _ hat1
        have R : Owns w1 base v1 (l ++ esc (s.data.toList.take (k + 1))) ∧ Grows w w1 v v1 := by
          rw [HE.out]
          refine ⟨Owns.snoc ?_, (hbel.alloc _).app hgrow1 hat1 (by simp)⟩
          rw [HC.out] at hown1
          exact hown1
        clear hown1 hgrow1 hraw hat1
        go_wp2_with fail
        go_roundw
        case rel => exact ⟨k + 1, by omega, by go_num, R.1, R.2⟩
        case measure => simp [intOf]; omega
    · have e : s.data.toList.take k = s.data.toList := List.take_of_length_le (by rw [length_list]; omega)
      rw [e] at hraw HLL
      clear e
      have HA : Hid (l ++ (esc s.data.toList ++ [0, 1]) = l ++ esc s.data.toList ++ [0, 1]) := by rw [List.append_assoc]; exact rfl
      generalize hL : l ++ esc s.data.toList = L at *
      go_wp2_with (at_builtin; go_must (refine wpList_append_own_at _ rfl _ _ 82 rfl base 5 i0 (.int .u8 0) 1 1 Try.underlying82 hi hz0 hz1 hz2 rfl (by decide) _ _ _ rfl (hraw.alloc _) ⟨wr.heap.size, 0, none⟩ 2 2 [_, _] rfl rfl (cell_two_new _ _ _ _) ?c2 ?c3 ?c4 ?c5 ?_))
      case c2 => intro u hu; simp at hu; rcases hu with hu | hu <;> subst hu <;> rfl
      case c3 => have hlen := HLL.out; unfold maxLen; omega
      case c4 => have hlen := HLL.out; omega
      case c5 => simp; omega
      intro v1 w1 hown1 hgrow1 _ hat1
      go_wp2_with fail
      go_ret
      rw [HA.out]
      exact ⟨_, rfl, Owns.snoc2 hown1, (hbel.alloc _).app hgrow1 hat1 (by simp)⟩

end Go.Proofs.Ytmdnmabbphnhaaa.Bn

/- The walk of num.Text. -/
import Derived.Test.YtbdoekogoiijeaaNumVar
import Derived.Test.YtbdoekogoiijeaaNumText
namespace Go.Proofs.Ytbdoekogoiijeaa
open Go.RowKit

/-- Texts' rows, one behind the other. -/
def textl (ss : List ByteArray) : List UInt8 := ss.flatMap fun s => Nm.row s.size ++ s.data.toList

theorem textl_snoc (ss : List ByteArray) (k : Nat) (h : k < ss.length) : textl (ss.take (k + 1)) = textl (ss.take k) ++ Nm.row (ss.getD k ByteArray.empty).size ++ (ss.getD k ByteArray.empty).data.toList := by
  have e : ss.getD k ByteArray.empty = ss[k] := by simp [h]
  unfold textl
  rw [List.take_succ_eq_append_getElem h, List.flatMap_append, e, List.flatMap_singleton, List.append_assoc]
/-- How many bytes texts have in all. -/
def suml : List ByteArray → Nat
  | [] => 0
  | s :: ss => s.size + suml ss
theorem suml_take : ∀ (ss : List ByteArray) (k : Nat), suml (ss.take k) ≤ suml ss
  | [], k => by simp [suml]
  | s :: ss, 0 => by simp [suml]
  | s :: ss, k + 1 => by have := suml_take ss k; simp only [List.take_succ_cons, suml]; omega
theorem suml_snoc : ∀ (ss : List ByteArray) (k : Nat), k < ss.length → suml (ss.take (k + 1)) = suml (ss.take k) + (ss.getD k ByteArray.empty).size
  | [], k, h => by simp at h
  | s :: ss, 0, _ => by simp [suml]
  | s :: ss, k + 1, h => by
    have := suml_snoc ss k (by simpa using h)
    rw [List.take_succ_cons, List.take_succ_cons, suml, suml, this, List.getD_cons_succ]
    omega
theorem textl_length (ss : List ByteArray) : (textl ss).length ≤ 9 * ss.length + suml ss := by
  induction ss with
  | nil => simp [textl]
  | cons s ss ih =>
    have := (Nm.row_length s.size).2
    simp only [textl, List.flatMap_cons, List.length_append, List.length_cons, suml, length_list] at ih ⊢
    omega

/-- A slice of texts that lies in memory. -/
def SeesS (w : World) (v : Value) (ss : List ByteArray) : Prop :=
  (ss = [] ∧ ∃ a cap, v = .slice a 0 cap) ∨
  ∃ b off cap, v = .slice (some ⟨b, off, none⟩) ss.length cap ∧ b < w.heap.size ∧ ∀ i, i < ss.length → w.cell? ⟨b, off + i, none⟩ = some (.string (ss.getD i ByteArray.empty))

theorem SeesS.below {w w' : World} {v : Value} {ss : List ByteArray} (h : SeesS w v ss) (hb : Below w.heap.size w w') : SeesS w' v ss := by
  rcases h with h | ⟨b, off, cap, rfl, hlt, hc⟩
  · exact Or.inl h
  · exact Or.inr ⟨b, off, cap, rfl, Nat.lt_of_lt_of_le hlt hb.size, fun i hi => (hb.cell (p := ⟨b, off + i, none⟩) hlt).trans (hc i hi)⟩

theorem strCells_eq (s : ByteArray) : Lib.strCells s = s.data.toList.map cellOf := rfl

set_option maxHeartbeats 400000 in
theorem text_nil (a : Option Addr) (cap : Nat) (w : World) :
    Calls Try.prog 88 #[.slice a 0 cap] w (Gives (.string ByteArray.empty) w) := by
  have hc := (Owns.nil w w.heap.size).convert
  go_enter Try.func88, Try.ntmps88
  go_wp2_with fail
  refine wp_loop_rounds 1 ?_
  rw [rounds_succ]
  go_wp2_with fail
  go_ret
  exact ⟨rfl, Below.refl _ _⟩

set_option maxHeartbeats 800000 in
theorem text_some (b off cap : Nat) (ss : List ByteArray) (w : World) (hb : b < w.heap.size) (hc : ∀ i, i < ss.length → w.cell? ⟨b, off + i, none⟩ = some (.string (ss.getD i ByteArray.empty)))
    (hl : ss.length ≤ 100000000) (hsum : suml ss ≤ 100000000) :
    Calls Try.prog 88 #[.slice (some ⟨b, off, none⟩) ss.length cap] w (Gives (.string ⟨(textl ss).toArray⟩) w) := by
  obtain ⟨i0, hi, hz0, hz1, hz2⟩ := info_parts info_u8
  have HC := Lib.hid hc; clear hc
  generalize hlen : ss.length = len at *
  have HLEN := Lib.hid hlen; clear hlen
  have HL := Lib.hid hl
  have HSUM := Lib.hid hsum; clear hsum
  go_enter Try.func88, Try.ntmps88
  go_wp2_with fail
  go_loopw [3, 8] (fun u i wr => ∃ k : Nat, k ≤ len ∧ i = .int .i64 k ∧ Owns wr w.heap.size u (textl (ss.take k)) ∧ Below w.heap.size w wr) (fun _ i _ => len - (intOf i).toNat)
  case atStart => exact ⟨0, Nat.zero_le _, rfl, by simpa [textl] using Owns.nil w w.heap.size, Below.refl _ _⟩
  case round =>
    obtain ⟨k, hk, rfl, hown, hbel⟩ := hrel
    have hsz := hbel.size
    have HO := Lib.hid hown; clear hown
    by_cases hlt : k < len
    · have hcell : wr.cell? ⟨b, off + k, none⟩ = some (.string (ss.getD k ByteArray.empty)) := (hbel.cell (p := ⟨b, off + k, none⟩) hb).trans (HC.out k hlt)
      have hk' : k < ss.length := by rw [HLEN.out]; exact hlt
      have HS : Hid (textl (ss.take (k + 1)) = textl (ss.take k) ++ Nm.row (ss.getD k ByteArray.empty).size ++ (ss.getD k ByteArray.empty).data.toList) := textl_snoc ss k hk'
      have hx1 : suml (ss.take k) + (ss.getD k ByteArray.empty).size ≤ 100000000 := by rw [← suml_snoc ss k hk']; exact Nat.le_trans (suml_take _ _) HSUM.out
      have hx2 : (textl (ss.take k)).length ≤ 900000000 + suml (ss.take k) := by
        have h1 := textl_length (ss.take k)
        have h2 : (ss.take k).length ≤ k := List.length_take_le ..
        have h3 := HL.out
        omega
      clear hk'
      generalize ss.getD k ByteArray.empty = x at *
      generalize textl (ss.take k) = T at *
      generalize suml (ss.take k) = S at *
      have hxs : x.size ≤ 100000000 := by omega
      have hT : T.length ≤ 1000000000 := by omega
      have HXS := Lib.hid hT; clear hx1 hx2 hT
      go_wp2_with fail
      refine (appendRow_any w.heap.size _ _ _ _ HO.out hsz (by have := HXS.out; omega) (by omega) (by omega)).mono ?_
      rintro e w1 ⟨v1, rfl, ho1, hb1⟩
      rw [Int.toNat_natCast] at ho1
      have hraw : w1.ownsRow w.heap.size 5 1 v1 (T ++ Nm.row x.size).length ((T ++ Nm.row x.size).map cellOf) := ho1
      have hrl := (Nm.row_length x.size).2
      have hTl : (T ++ Nm.row x.size).length ≤ 1000000009 := by rw [List.length_append]; have := HXS.out; omega
      have hsz1 := hb1.size
      clear ho1 hrl
      generalize hTR : T ++ Nm.row x.size = TR at *
      clear hTR
      have HTL := Lib.hid hTl; clear hTl
      go_wp2_with (at_builtin; go_must (refine Lib.wpList_append_own_string _ rfl _ _ 112 9 rfl w.heap.size 5 i0 Try.underlying112 Try.underlying9 hi hz0 hz1 hz2 _ _ _ rfl hraw x rfl ?c3 ?c4 ?c5 ?_))
      case c3 => have := HTL.out; unfold maxLen; omega
      case c4 => have := HTL.out; omega
      case c5 => omega
      intro v2 w2 hown2 hgrow _
      have R : Owns w2 w.heap.size v2 (textl (ss.take (k + 1))) ∧ Below w.heap.size w w2 := by
        rw [HS.out]
        refine ⟨?_, (hbel.trans hb1).grown hgrow (by omega) (fun j hj => (hraw.lt j hj).1)⟩
        unfold Owns
        rw [List.length_append, List.map_append, length_list, ← strCells_eq]
        exact hown2
      clear hown2 hgrow hraw
      go_wp2_with fail
      go_roundw
      case rel => exact ⟨k + 1, by omega, by go_num, R.1, R.2⟩
      case measure => simp [intOf]; omega
    · have hc := HO.out.convert
      go_wp2_with fail
      go_ret
      have : ss.take k = ss := List.take_of_length_le (by rw [HLEN.out]; omega)
      rw [this]
      exact ⟨rfl, hbel⟩

/-- Text, of texts wherever they lie. -/
theorem text_any (v : Value) (ss : List ByteArray) (w : World) (hs : SeesS w v ss) (hl : ss.length ≤ 100000000) (hsum : suml ss ≤ 100000000) :
    Calls Try.prog 88 #[v] w (Gives (.string ⟨(textl ss).toArray⟩) w) := by
  rcases hs with ⟨rfl, a, cap, rfl⟩ | ⟨b, off, cap, rfl, hb, hc⟩
  · exact text_nil a cap w
  · exact text_some b off cap ss w hb hc hl hsum

end Go.Proofs.Ytbdoekogoiijeaa

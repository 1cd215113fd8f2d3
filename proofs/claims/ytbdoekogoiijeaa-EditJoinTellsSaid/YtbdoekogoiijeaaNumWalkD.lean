/- Walks of num.appendBig, appendRow. -/
import Derived.Test.YtbdoekogoiijeaaNumWalkC
namespace Go.Proofs.Ytbdoekogoiijeaa
open Go.RowKit

theorem info_u8 : (Try.prog.info? 5).map (fun i => (i.zero, i.size, i.bytes)) = some (some (.int .u8 0), 1, 1) := by kernel_rfl

/-- A byte as a cell. -/
def cellOf (b : UInt8) : Value := .int .u8 b.toNat

/-- A slice of bytes that is the call's own, from a block on. -/
def Owns (w : World) (base : Nat) (v : Value) (l : List UInt8) : Prop := w.ownsRow base 5 1 v l.length (l.map cellOf)

/-- A slice comes back that owns these bytes; what was below 'base' is as it was. -/
def Grew (base : Nat) (l : List UInt8) (w : World) (e : Ending) (w' : World) : Prop := ∃ v, e = .returned v ∧ Owns w' base v l ∧ Below base w w'

theorem Owns.nil (w : World) (base : Nat) : Owns w base (.slice none 0 0) [] := World.ownsRow_nil ..

theorem Owns.snoc {w' : World} {base : Nat} {v' : Value} {l : List UInt8} {b : UInt8} (h : w'.ownsRow base 5 1 v' (l.length + 1) (l.map cellOf ++ [cellOf b])) : Owns w' base v' (l ++ [b]) := by
  unfold Owns
  rw [List.length_append, List.map_append]
  exact h

theorem cell_shr (c t : Nat) : Value.int .u8 ((c : Int) / 2 ^ (8 * t) % 256) = cellOf (UInt8.ofNat (c / 256 ^ t)) := by
  unfold cellOf
  rw [Nm.toNat_ofNat, Int.natCast_emod, Int.natCast_ediv]
  have : ((256 ^ t : Nat) : Int) = 2 ^ (8 * t) := by rw [Int.pow_mul]; simp
  rw [← this]
  rfl

set_option maxHeartbeats 400000 in
theorem appendBig_any (base : Nat) (v : Value) (l : List UInt8) (n x : Int) (w : World) (hown : Owns w base v l) (hb : base ≤ w.heap.size) (hl : l.length ≤ 1099511627776) (h0 : 0 ≤ n) (h1 : 0 ≤ x) (h2 : x ≤ 8) :
    Calls Try.prog 99 #[v, .int .u64 n, .int .i64 x] w (Grew base (l ++ Nm.big n.toNat x.toNat) w) := by
  obtain ⟨i0, hi, hz0, hz1, hz2⟩ := info_parts info_u8
  obtain ⟨m, rfl⟩ := Int.eq_ofNat_of_zero_le h1
  obtain ⟨c, rfl⟩ := Int.eq_ofNat_of_zero_le h0
  rw [Int.toNat_natCast, Int.toNat_natCast]
  have HLN := Lib.hid hl; clear hl
  go_enter Try.func99, Try.ntmps99
  go_wp2
  go_loopw [0, 7] (fun u i wr => ∃ (j : Nat) (q : Int), j ≤ m ∧ i = .int .i64 q ∧ q = (j : Int) - 1 ∧ Owns wr base u (l ++ Nm.big (c / 256 ^ j) (m - j)) ∧ Below base w wr) (fun _ i _ => (intOf i + 1).toNat)
  case atStart => exact ⟨m, _, Nat.le_refl _, rfl, rfl, by simpa [Nm.big] using hown, Below.refl _ _⟩
  case round =>
    obtain ⟨j, q, hj, rfl, hq, hown, hbel⟩ := hrel
    by_cases hlt : j = 0
    · obtain rfl : q = -1 := by omega
      subst hlt
      clear hq hj
      rw [Nat.pow_zero, Nat.div_one, Nat.sub_zero] at hown
      have HO := Lib.hid hown; clear hown
      go_wp2_with fail
      go_ret
      exact ⟨_, rfl, HO.out, hbel⟩
    · obtain ⟨t, rfl⟩ : ∃ t, j = t + 1 := ⟨j - 1, by omega⟩
      obtain rfl : q = (t : Int) := by omega
      clear hq hlt
      have hlen : (l ++ Nm.big (c / 256 ^ (t + 1)) (m - (t + 1))).length ≤ 1099511627784 := by have hl := HLN.out; rw [List.length_append, Nm.big_length]; omega
      have HLL := Lib.hid hlen; clear hlen
      generalize hL : l ++ Nm.big (c / 256 ^ (t + 1)) (m - (t + 1)) = L at *
      have HL := Lib.hid hL; clear hL
      have hsz := hbel.size
      have hraw : wr.ownsRow base 5 1 u0 L.length (L.map cellOf) := hown
      clear hown
      go_wp2_with (at_builtin; go_must (refine wpList_append_own _ rfl _ _ 112 rfl base 5 i0 (.int .u8 0) 1 1 Try.underlying112 hi hz0 hz1 hz2 rfl (by decide) _ _ _ rfl (hraw.alloc _) ⟨wr.heap.size, 0, none⟩ 1 1 [_] rfl rfl (cell_one_new _ _ _) ?c2 ?c3 ?c4 ?c5 ?_))
      case c2 => intro u hu; simp at hu; subst hu; rfl
      case c3 => have hlen := HLL.out; unfold maxLen; omega
      case c4 => have hlen := HLL.out; omega
      case c5 => simp; omega
      intro v' w1 hown' hgrow _
      have R : Owns w1 base v' (l ++ Nm.big (c / 256 ^ t) (m - t)) ∧ Below base w w1 := by
        have e1 : m - t = (m - (t + 1)) + 1 := by omega
        have e2 : c / 256 ^ t / 256 = c / 256 ^ (t + 1) := by rw [Nat.div_div_eq_div_mul, Nat.pow_succ]
        rw [e1, Nm.big, e2, ← List.append_assoc, HL.out]
        refine ⟨Owns.snoc ?_, ?_⟩
        · rw [cell_shr] at hown'
          exact hown'
        · exact (hbel.alloc (by omega) _).grown hgrow (by simp; omega) (fun k hk => (hraw.lt k hk).1)
      clear hown' hgrow hraw
      go_wp2
      go_roundw
      case rel => exact ⟨t, _, by omega, rfl, rfl, R.1, R.2⟩
      case measure => simp [intOf]

/-- 'string(b)' of a slice that is the call's own. -/
theorem Owns.convert {w : World} {base : Nat} {v : Value} {l : List UInt8} (h : Owns w base v l) : (convert 112 9 v).run Try.prog w = .ok (.string ⟨l.toArray⟩) w := by
  have h' : w.ownsRow base 5 1 v l.length (l.map cellOf) := h
  rcases h'.2 with ⟨rfl, h0⟩ | ⟨g, cap, cur, rfl, _, _, _⟩
  · have : l = [] := List.eq_nil_of_length_eq_zero h0
    subst this
    rw [run_convert_bytes_string w _ _ _ _ _ _ Try.underlying112 Try.underlying5 Try.underlying9]
    simp [Conv.bytesToString]
    rfl
  · refine run_convert_bytes_back w _ _ _ _ _ _ Try.underlying112 Try.underlying5 Try.underlying9 ?_
    intro j hj
    refine h'.cells (g := g) rfl j _ ?_
    simp [List.getElem?_eq_getElem hj, cellOf]

set_option maxHeartbeats 400000 in
set_option maxRecDepth 20000 in
theorem appendRow_any (base : Nat) (v : Value) (l : List UInt8) (n : Int) (w : World) (hown : Owns w base v l) (hb : base ≤ w.heap.size) (hl : l.length ≤ 1099511627700) (h0 : 0 ≤ n) (h1 : n ≤ 18446744073709551615) :
    Calls Try.prog 87 #[v, .int .u64 n] w (Grew base (l ++ Nm.row n.toNat) w) := by
  obtain ⟨i0, hi, hz0, hz1, hz2⟩ := info_parts info_u8
  have HLN := Lib.hid hl; clear hl
  have hraw : w.ownsRow base 5 1 v l.length (l.map cellOf) := hown
  clear hown
  by_cases hs : n < 248
  · have HR : Hid (Nm.row n.toNat = [UInt8.ofNat n.toNat]) := Nm.row_short (by omega)
    clear h1
    generalize Nm.row n.toNat = R at *
    go_enter Try.func87, Try.ntmps87
    go_wp2_with (at_builtin; go_must (refine wpList_append_own _ rfl _ _ 112 rfl base 5 i0 (.int .u8 0) 1 1 Try.underlying112 hi hz0 hz1 hz2 rfl (by decide) _ _ _ rfl (hraw.alloc _) ⟨w.heap.size, 0, none⟩ 1 1 [_] rfl rfl (cell_one_new _ _ _) ?c2 ?c3 ?c4 ?c5 ?_))
    case c2 => intro u hu; simp at hu; subst hu; rfl
    case c3 => have hlen := HLN.out; unfold maxLen; omega
    case c4 => have hlen := HLN.out; omega
    case c5 => simp; omega
    intro v' w1 hown' hgrow _
    go_wp2
    go_ret
    rw [HR.out]
    refine ⟨_, rfl, Owns.snoc ?_, ((Below.refl _ _).alloc hb _).grown hgrow (by simp; omega) (fun k hk => (hraw.lt k hk).1)⟩
    have e : Value.int .u8 n = cellOf (UInt8.ofNat n.toNat) := by unfold cellOf; rw [Nm.toNat_ofNat]; congr 1; omega
    rw [e] at hown'
    exact hown'
  · have HR : Hid (Nm.row n.toNat = UInt8.ofNat (247 + Nm.wid n.toNat) :: Nm.big n.toNat (Nm.wid n.toNat)) := Nm.row_long (by omega)
    have hw := Nm.wid_le8 n.toNat
    have HH := Lib.hid h1; clear h1
    have hs' : 248 ≤ n := by omega
    clear hs
    generalize hR : Nm.row n.toNat = R at *
    clear hR
    generalize hW : Nm.wid n.toNat = W at *
    have HW := Lib.hid hW; clear hW
    go_enter Try.func87, Try.ntmps87
    go_wp2_with fail
    refine (widthOf_any _ _ h0 HH.out).mono ?_
    rintro e w' ⟨rfl, rfl⟩
    rw [HW.out]
    go_wp2_with (at_builtin; go_must (refine wpList_append_own _ rfl _ _ 112 rfl base 5 i0 (.int .u8 0) 1 1 Try.underlying112 hi hz0 hz1 hz2 rfl (by decide) _ _ _ rfl (hraw.alloc _) ⟨w.heap.size, 0, none⟩ 1 1 [_] rfl rfl (cell_one_new _ _ _) ?c2 ?c3 ?c4 ?c5 ?_))
    case c2 => intro u hu; simp at hu; subst hu; rfl
    case c3 => have hlen := HLN.out; unfold maxLen; omega
    case c4 => have hlen := HLN.out; omega
    case c5 => simp; omega
    intro v' w1 hown' hgrow _
    have hb1 : Below base w w1 := ((Below.refl _ _).alloc hb _).grown hgrow (by simp; omega) (fun k hk => (hraw.lt k hk).1)
    have hsz := hb1.size
    have e : Value.int .u8 (247 + (W : Int)) = cellOf (UInt8.ofNat (247 + W)) := by unfold cellOf; rw [Nm.toNat_ofNat]; congr 1; omega
    rw [e] at hown'
    have HO := Lib.hid (Owns.snoc hown')
    clear hown' hgrow hraw e
    go_wp2_with fail
    refine (appendBig_any base v' _ n W w1 HO.out (by omega) (by have := HLN.out; rw [List.length_append, List.length_singleton]; omega) h0 (by omega) (by omega)).mono ?_
    rintro e w2 ⟨v2, rfl, ho2, hb2⟩
    go_wp2_with fail
    go_ret
    rw [HR.out]
    refine ⟨_, rfl, ?_, hb1.trans hb2⟩
    rw [List.append_assoc, Int.toNat_natCast] at ho2
    exact ho2

theorem below_next {B : Nat} {w w1 : World} (h : Below B w w1) (hB : B ≤ w.heap.size) : B ≤ w1.heap.size := Nat.le_trans hB h.size

/-- A value comes back; what was there is as it was. -/
def Gives (v : Value) (w : World) (x : Ending) (w' : World) : Prop := x = .returned v ∧ Below w.heap.size w w'

end Go.Proofs.Ytbdoekogoiijeaa

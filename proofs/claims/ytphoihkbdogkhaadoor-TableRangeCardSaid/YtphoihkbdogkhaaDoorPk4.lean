/- Texts on the program's own functions, several in one: BnNumWalkC, BnNumWalkD, BnBelow, BnGrow, BnNumBig. -/
import Derived.Test.YtphoihkbdogkhaaDoorPk3
import Derived.Lib.IndexBytes
import Derived.Maps.AppendAt
import Derived.Lib.AppendStr
import Derived.RegionTactic
import Derived.ArgAppend

/- Walks of num.ReadVar. -/
namespace Go.Proofs.YtphoihkbdogkhaaDoor.Bn
set_option maxRecDepth 100000
open Go.RowKit

/-- What ReadVar answers of a text's bytes. -/
def rvV (l : List UInt8) : Value :=
  match Nm.rv l with
  | some (n, k) => .tuple #[.int .u64 n, .int .i64 k, .bool true]
  | none => .tuple #[.int .u64 0, .int .i64 0, .bool false]

set_option maxHeartbeats 400000 in
theorem readVar_empty (w : World) :
    Calls Tryd.prog 89 #[.string ByteArray.empty] w fun e w' => e = .returned (.tuple #[.int .u64 0, .int .i64 0, .bool false]) ∧ w = w' := by
  go_enter Tryd.func89, Tryd.ntmps89
  go_wp2_with fail
  go_ret3
  exact ⟨rfl, rfl⟩

theorem index_byte (s : ByteArray) (i : Nat) (h : i < s.size) : ∀ w : World, (Instr.index 9 (.string s) (.int .i64 i)).run Tryd.prog w = .ok (.int .u8 (s[i]'h).toNat) w := by
  intro w
  rw [run_index_string _ _ _ _ _ Tryd.underlying9]
  simp [h]

set_option maxHeartbeats 400000 in
theorem readVar_short (s : ByteArray) (c : Int) (w : World) (hi : ∀ w : World, (Instr.index 9 (.string s) (.int .i64 0)).run Tryd.prog w = .ok (.int .u8 c) w) (he : s.toList.isEmpty = false) (h0 : 0 ≤ c) (hb : c < 248) :
    Calls Tryd.prog 89 #[.string s] w fun e w' => e = .returned (.tuple #[.int .u64 c, .int .i64 1, .bool true]) ∧ w = w' := by
  go_enter Tryd.func89, Tryd.ntmps89
  go_wp2_with fail
  go_ret3
  exact ⟨rfl, rfl⟩

theorem extract_size (s : ByteArray) (_h : 1 ≤ s.size) : (s.extract 1 s.size).size = s.size - 1 := by simp [ByteArray.size_extract]

set_option maxHeartbeats 400000 in
theorem readVar_cut (s : ByteArray) (c : Int) (w : World) (hi : ∀ w : World, (Instr.index 9 (.string s) (.int .i64 0)).run Tryd.prog w = .ok (.int .u8 c) w) (he : s.toList.isEmpty = false) (h1 : 1 ≤ s.size) (hb : 248 ≤ c) (hc : c ≤ 255) (hl : (s.size : Int) - 1 < c - 247) :
    Calls Tryd.prog 89 #[.string s] w fun e w' => e = .returned (.tuple #[.int .u64 0, .int .i64 0, .bool false]) ∧ w = w' := by
  have hz := extract_size s h1
  go_enter Tryd.func89, Tryd.ntmps89
  go_wp2_with fail
  refine (readBig_no _ _ _ (by omega) (by omega)).mono ?_
  rintro e w' ⟨rfl, rfl⟩
  go_wp2_with fail
  go_ret3
  exact ⟨rfl, rfl⟩

set_option maxHeartbeats 400000 in
theorem readVar_low (s : ByteArray) (c n : Int) (w : World) (hi : ∀ w : World, (Instr.index 9 (.string s) (.int .i64 0)).run Tryd.prog w = .ok (.int .u8 c) w) (he : s.toList.isEmpty = false) (h1 : 1 ≤ s.size) (hb : 248 ≤ c) (hc : c ≤ 255) (hl : c - 247 ≤ (s.size : Int) - 1) (hs : s.size ≤ 9223372036854775807)
    (hn : Nm.val ((s.extract 1 s.size).data.toList.take (c - 247).toNat) = n) (hlo : n < 248) :
    Calls Tryd.prog 89 #[.string s] w fun e w' => e = .returned (.tuple #[.int .u64 0, .int .i64 0, .bool false]) ∧ w = w' := by
  have hz := extract_size s h1
  have HN := Lib.hid hn; clear hn
  go_enter Tryd.func89, Tryd.ntmps89
  go_wp2_with fail
  refine (readBig_yes _ _ _ (by omega) (by omega) (by omega) (by omega)).mono ?_
  rintro e w' ⟨rfl, rfl⟩
  rw [HN.out]
  go_wp2_with fail
  go_ret3
  exact ⟨rfl, rfl⟩

set_option maxHeartbeats 400000 in
theorem readVar_wide (s : ByteArray) (c n : Int) (w : World) (hi : ∀ w : World, (Instr.index 9 (.string s) (.int .i64 0)).run Tryd.prog w = .ok (.int .u8 c) w) (he : s.toList.isEmpty = false) (h1 : 1 ≤ s.size) (hb : 248 ≤ c) (hc : c ≤ 255) (hl : c - 247 ≤ (s.size : Int) - 1) (hs : s.size ≤ 9223372036854775807)
    (hn : Nm.val ((s.extract 1 s.size).data.toList.take (c - 247).toNat) = n) (hlo : 248 ≤ n) (hhi : n ≤ 18446744073709551615) (hw : (((Nm.wid n.toNat : Nat) : Int) != c - 247) = true) :
    Calls Tryd.prog 89 #[.string s] w fun e w' => e = .returned (.tuple #[.int .u64 0, .int .i64 0, .bool false]) ∧ w = w' := by
  have hz := extract_size s h1
  have HN := Lib.hid hn; clear hn
  have HH := Lib.hid hhi; clear hhi
  go_enter Tryd.func89, Tryd.ntmps89
  go_wp2_with fail
  refine (readBig_yes _ _ _ (by omega) (by omega) (by omega) (by omega)).mono ?_
  rintro e w' ⟨rfl, rfl⟩
  rw [HN.out]
  go_wp2_with fail
  refine (widthOf_any _ _ (by omega) HH.out).mono ?_
  rintro e w' ⟨rfl, rfl⟩
  go_wp2_with fail
  go_ret3
  exact ⟨rfl, rfl⟩

set_option maxHeartbeats 400000 in
theorem readVar_long (s : ByteArray) (c n : Int) (w : World) (hi : ∀ w : World, (Instr.index 9 (.string s) (.int .i64 0)).run Tryd.prog w = .ok (.int .u8 c) w) (he : s.toList.isEmpty = false) (h1 : 1 ≤ s.size) (hb : 248 ≤ c) (hc : c ≤ 255) (hl : c - 247 ≤ (s.size : Int) - 1) (hs : s.size ≤ 9223372036854775807)
    (hn : Nm.val ((s.extract 1 s.size).data.toList.take (c - 247).toNat) = n) (hlo : 248 ≤ n) (hhi : n ≤ 18446744073709551615) (hw : (((Nm.wid n.toNat : Nat) : Int) != c - 247) = false) :
    Calls Tryd.prog 89 #[.string s] w fun e w' => e = .returned (.tuple #[.int .u64 n, .int .i64 (1 + (c - 247)), .bool true]) ∧ w = w' := by
  have hz := extract_size s h1
  have HN := Lib.hid hn; clear hn
  have HH := Lib.hid hhi; clear hhi
  go_enter Tryd.func89, Tryd.ntmps89
  go_wp2_with fail
  refine (readBig_yes _ _ _ (by omega) (by omega) (by omega) (by omega)).mono ?_
  rintro e w' ⟨rfl, rfl⟩
  rw [HN.out]
  go_wp2_with fail
  refine (widthOf_any _ _ (by omega) HH.out).mono ?_
  rintro e w' ⟨rfl, rfl⟩
  go_wp2_with fail
  go_ret3
  exact ⟨rfl, rfl⟩

theorem empty_of_size {s : ByteArray} (h : s.size = 0) : s = ByteArray.empty := by
  have h2 : s.data.size = 0 := h
  cases s with
  | mk d => exact congrArg ByteArray.mk (Array.eq_empty_of_size_eq_zero h2)

theorem isEmpty_of_size {s : ByteArray} (h : 1 ≤ s.size) : s.toList.isEmpty = false := by
  rw [ByteArray.toList_eq]
  cases e : s.data.toList with
  | nil => have := length_list s; rw [e] at this; simp at this; omega
  | cons => rfl

theorem head_tail (s : ByteArray) (h : 0 < s.size) : s.data.toList = s[0] :: (s.extract 1 s.size).data.toList := by
  rw [Lib.extract_to_end]
  have := List.drop_eq_getElem_cons (l := s.data.toList) (i := 0) (by rw [length_list]; omega)
  rw [List.drop_zero] at this
  exact this

/-- ReadVar, of every text. -/
theorem readVar_any (s : ByteArray) (w : World) (hs : s.size ≤ 9223372036854775807) :
    Calls Tryd.prog 89 #[.string s] w fun e w' => e = .returned (rvV s.data.toList) ∧ w = w' := by
  by_cases h0 : s.size = 0
  · obtain rfl := empty_of_size h0
    exact readVar_empty w
  · have h1 : 1 ≤ s.size := by omega
    have h2 : 0 < s.size := h1
    have he := isEmpty_of_size h1
    have hi := index_byte s 0 h2
    have hlen : (s.extract 1 s.size).data.toList.length = s.size - 1 := by rw [length_list, extract_size s h1]
    have hv : rvV s.data.toList = rvV (s[0] :: (s.extract 1 s.size).data.toList) := congrArg rvV (head_tail s h2)
    rw [hv]
    clear hv
    generalize s[0] = b at *
    generalize hr : (s.extract 1 s.size).data.toList = r at *
    have hlt := b.toNat_lt
    by_cases hb : b.toNat < 248
    · have e : rvV (b :: r) = .tuple #[.int .u64 (b.toNat : Nat), .int .i64 1, .bool true] := by
        unfold rvV; rw [Nm.rv, if_pos hb]; rfl
      rw [e]
      exact readVar_short s _ w hi he (by omega) (by omega)
    · by_cases hl : r.length < b.toNat - 247
      · have e : rvV (b :: r) = .tuple #[.int .u64 0, .int .i64 0, .bool false] := by
          unfold rvV; rw [Nm.rv, if_neg hb, if_pos hl]
        rw [e]
        exact readVar_cut s _ w hi he h1 (by omega) (by omega) (by omega)
      · have hw : ((b.toNat : Int) - 247).toNat = b.toNat - 247 := by omega
        have hv1 := Nm.val_lt (r.take (b.toNat - 247))
        have hv2 : 256 ^ (r.take (b.toNat - 247)).length ≤ 256 ^ 8 := Nat.pow_le_pow_right (by omega) (by rw [List.length_take]; omega)
        have hv3 : Nm.val (r.take (b.toNat - 247)) < 18446744073709551616 := by simp only [Nat.reducePow] at hv2; omega
        clear hv1 hv2
        have hn : ((Nm.val ((s.extract 1 s.size).data.toList.take ((b.toNat : Int) - 247).toNat) : Nat) : Int) = (Nm.val (r.take (b.toNat - 247)) : Nat) := by rw [hw, hr]
        by_cases hlo : Nm.val (r.take (b.toNat - 247)) < 248
        · have e : rvV (b :: r) = .tuple #[.int .u64 0, .int .i64 0, .bool false] := by
            unfold rvV; rw [Nm.rv, if_neg hb, if_neg hl, if_pos (Or.inl hlo)]
          rw [e]
          exact readVar_low s _ _ w hi he h1 (by omega) (by omega) (by omega) hs hn (by omega)
        · by_cases hwd : Nm.wid (Nm.val (r.take (b.toNat - 247))) = b.toNat - 247
          · have e : rvV (b :: r) = .tuple #[.int .u64 (Nm.val (r.take (b.toNat - 247)) : Nat), .int .i64 (1 + ((b.toNat : Int) - 247)), .bool true] := by
              unfold rvV
              rw [Nm.rv, if_neg hb, if_neg hl, if_neg (by omega)]
              have : ((1 + (b.toNat - 247) : Nat) : Int) = 1 + ((b.toNat : Int) - 247) := by omega
              simp only [this]
            rw [e]
            exact readVar_long s _ _ w hi he h1 (by omega) (by omega) (by omega) hs hn (by omega) (by omega) (by rw [Int.toNat_natCast, hwd]; simp; omega)
          · have e : rvV (b :: r) = .tuple #[.int .u64 0, .int .i64 0, .bool false] := by
              unfold rvV; rw [Nm.rv, if_neg hb, if_neg hl, if_pos (Or.inr hwd)]
            rw [e]
            exact readVar_wide s _ _ w hi he h1 (by omega) (by omega) (by omega) hs hn (by omega) (by omega) (by rw [Int.toNat_natCast, bne_iff_ne]; omega)

end Go.Proofs.YtphoihkbdogkhaaDoor.Bn

/- Walks of num.appendBig, appendRow. -/
namespace Go.Proofs.YtphoihkbdogkhaaDoor.Bn
set_option maxRecDepth 100000
open Go.RowKit

theorem info_u8 : (Tryd.prog.info? 5).map (fun i => (i.zero, i.size, i.bytes)) = some (some (.int .u8 0), 1, 1) := by kernel_rfl

/-- A byte as a cell. -/
def cellOf (b : UInt8) : Value := .int .u8 b.toNat

/-- A slice of bytes that is the call's own, from a block on. -/
def Owns (w : World) (base : Nat) (v : Value) (l : List UInt8) : Prop := w.ownsRow base 5 1 v l.length (l.map cellOf)

/-- A slice comes back that owns these bytes; what was below 'base' is as it was. -/
def Grew (base : Nat) (l : List UInt8) (w : World) (e : Ending) (w' : World) : Prop := ∃ v, e = .returned v ∧ Owns w' base v l ∧ Below base w w'

theorem Owns.nil (w : World) (base : Nat) : Owns w base (.slice none 0 0) [] := World.ownsRow_nil ..

theorem Owns.snoc {w' : World} {base : Nat} {v' : Value} {l : List UInt8} {b : UInt8} (h : w'.ownsRow base 5 1 v' (l.length + 1) (l.map cellOf ++ [cellOf b])) : Owns w' base v' (l ++ [b]) := by
  unfold Owns
  rw [List.length_append, List.map_append]
  exact h

theorem cell_shr (c t : Nat) : Value.int .u8 ((c : Int) / 2 ^ (8 * t) % 256) = cellOf (UInt8.ofNat (c / 256 ^ t)) := by
  unfold cellOf
  rw [Nm.toNat_ofNat, Int.natCast_emod, Int.natCast_ediv]
  have : ((256 ^ t : Nat) : Int) = 2 ^ (8 * t) := by rw [Int.pow_mul]; simp
  rw [← this]
  rfl

set_option maxHeartbeats 400000 in
theorem appendBig_any (base : Nat) (v : Value) (l : List UInt8) (n x : Int) (w : World) (hown : Owns w base v l) (hb : base ≤ w.heap.size) (hl : l.length ≤ 1099511627776) (h0 : 0 ≤ n) (h1 : 0 ≤ x) (h2 : x ≤ 8) :
    Calls Tryd.prog 70 #[v, .int .u64 n, .int .i64 x] w (Grew base (l ++ Nm.big n.toNat x.toNat) w) := by
  obtain ⟨i0, hi, hz0, hz1, hz2⟩ := info_parts info_u8
  obtain ⟨m, rfl⟩ := Int.eq_ofNat_of_zero_le h1
  obtain ⟨c, rfl⟩ := Int.eq_ofNat_of_zero_le h0
  rw [Int.toNat_natCast, Int.toNat_natCast]
  have HLN := Lib.hid hl; clear hl
  go_enter Tryd.func70, Tryd.ntmps70
  go_wp2
  go_loopw [0, 7] (fun u i wr => ∃ (j : Nat) (q : Int), j ≤ m ∧ i = .int .i64 q ∧ q = (j : Int) - 1 ∧ Owns wr base u (l ++ Nm.big (c / 256 ^ j) (m - j)) ∧ Below base w wr) (fun _ i _ => (intOf i + 1).toNat)
  case atStart => exact ⟨m, _, Nat.le_refl _, rfl, rfl, by simpa [Nm.big] using hown, Below.refl _ _⟩
  case round =>
    obtain ⟨j, q, hj, rfl, hq, hown, hbel⟩ := hrel
    by_cases hlt : j = 0
    · obtain rfl : q = -1 := by omega
      subst hlt
      clear hq hj
      rw [Nat.pow_zero, Nat.div_one, Nat.sub_zero] at hown
      have HO := Lib.hid hown; clear hown
      go_wp2_with fail
      go_ret
      exact ⟨_, rfl, HO.out, hbel⟩
    · obtain ⟨t, rfl⟩ : ∃ t, j = t + 1 := ⟨j - 1, by omega⟩
      obtain rfl : q = (t : Int) := by omega
      clear hq hlt
      have hlen : (l ++ Nm.big (c / 256 ^ (t + 1)) (m - (t + 1))).length ≤ 1099511627784 := by have hl := HLN.out; rw [List.length_append, Nm.big_length]; omega
      have HLL := Lib.hid hlen; clear hlen
      generalize hL : l ++ Nm.big (c / 256 ^ (t + 1)) (m - (t + 1)) = L at *
      have HL := Lib.hid hL; clear hL
      have hsz := hbel.size
      have hraw : wr.ownsRow base 5 1 u0 L.length (L.map cellOf) := hown
      clear hown
      go_wp2_with (at_builtin; go_must (refine wpList_append_own _ rfl _ _ 34 rfl base 5 i0 (.int .u8 0) 1 1 Tryd.underlying34 hi hz0 hz1 hz2 rfl (by decide) _ _ _ rfl (hraw.alloc _) ⟨wr.heap.size, 0, none⟩ 1 1 [_] rfl rfl (cell_one_new _ _ _) ?c2 ?c3 ?c4 ?c5 ?_))
      case c2 => intro u hu; simp at hu; subst hu; rfl
      case c3 => have hlen := HLL.out; unfold maxLen; omega
      case c4 => have hlen := HLL.out; omega
      case c5 => simp; omega
      intro v' w1 hown' hgrow _
      have R : Owns w1 base v' (l ++ Nm.big (c / 256 ^ t) (m - t)) ∧ Below base w w1 := by
        have e1 : m - t = (m - (t + 1)) + 1 := by omega
        have e2 : c / 256 ^ t / 256 = c / 256 ^ (t + 1) := by rw [Nat.div_div_eq_div_mul, Nat.pow_succ]
        rw [e1, Nm.big, e2, ← List.append_assoc, HL.out]
        refine ⟨Owns.snoc ?_, ?_⟩
        · rw [cell_shr] at hown'
          exact hown'
        · exact (hbel.alloc (by omega) _).grown hgrow (by simp; omega) (fun k hk => (hraw.lt k hk).1)
      clear hown' hgrow hraw
      go_wp2
      go_roundw
      case rel => exact ⟨t, _, by omega, rfl, rfl, R.1, R.2⟩
      case measure => simp [intOf]

/-- 'string(b)' of a slice that is the call's own. -/
theorem Owns.convert {w : World} {base : Nat} {v : Value} {l : List UInt8} (h : Owns w base v l) : (convert 34 9 v).run Tryd.prog w = .ok (.string ⟨l.toArray⟩) w := by
  have h' : w.ownsRow base 5 1 v l.length (l.map cellOf) := h
  rcases h'.2 with ⟨rfl, h0⟩ | ⟨g, cap, cur, rfl, _, _, _⟩
  · have : l = [] := List.eq_nil_of_length_eq_zero h0
    subst this
    rw [run_convert_bytes_string w _ _ _ _ _ _ Tryd.underlying34 Tryd.underlying5 Tryd.underlying9]
    simp [Conv.bytesToString]
    rfl
  · refine run_convert_bytes_back w _ _ _ _ _ _ Tryd.underlying34 Tryd.underlying5 Tryd.underlying9 ?_
    intro j hj
    refine h'.cells (g := g) rfl j _ ?_
    simp [List.getElem?_eq_getElem hj, cellOf]

set_option maxHeartbeats 400000 in
set_option maxRecDepth 20000 in
theorem appendRow_any (base : Nat) (v : Value) (l : List UInt8) (n : Int) (w : World) (hown : Owns w base v l) (hb : base ≤ w.heap.size) (hl : l.length ≤ 1099511627700) (h0 : 0 ≤ n) (h1 : n ≤ 18446744073709551615) :
    Calls Tryd.prog 82 #[v, .int .u64 n] w (Grew base (l ++ Nm.row n.toNat) w) := by
  obtain ⟨i0, hi, hz0, hz1, hz2⟩ := info_parts info_u8
  have HLN := Lib.hid hl; clear hl
  have hraw : w.ownsRow base 5 1 v l.length (l.map cellOf) := hown
  clear hown
  by_cases hs : n < 248
  · have HR : Hid (Nm.row n.toNat = [UInt8.ofNat n.toNat]) := Nm.row_short (by omega)
    clear h1
    generalize Nm.row n.toNat = R at *
    go_enter Tryd.func82, Tryd.ntmps82
    go_wp2_with (at_builtin; go_must (refine wpList_append_own _ rfl _ _ 34 rfl base 5 i0 (.int .u8 0) 1 1 Tryd.underlying34 hi hz0 hz1 hz2 rfl (by decide) _ _ _ rfl (hraw.alloc _) ⟨w.heap.size, 0, none⟩ 1 1 [_] rfl rfl (cell_one_new _ _ _) ?c2 ?c3 ?c4 ?c5 ?_))
    case c2 => intro u hu; simp at hu; subst hu; rfl
    case c3 => have hlen := HLN.out; unfold maxLen; omega
    case c4 => have hlen := HLN.out; omega
    case c5 => simp; omega
    intro v' w1 hown' hgrow _
    go_wp2
    go_ret
    rw [HR.out]
    refine ⟨_, rfl, Owns.snoc ?_, ((Below.refl _ _).alloc hb _).grown hgrow (by simp; omega) (fun k hk => (hraw.lt k hk).1)⟩
    have e : Value.int .u8 n = cellOf (UInt8.ofNat n.toNat) := by unfold cellOf; rw [Nm.toNat_ofNat]; congr 1; omega
    rw [e] at hown'
    exact hown'
  · have HR : Hid (Nm.row n.toNat = UInt8.ofNat (247 + Nm.wid n.toNat) :: Nm.big n.toNat (Nm.wid n.toNat)) := Nm.row_long (by omega)
    have hw := Nm.wid_le8 n.toNat
    have HH := Lib.hid h1; clear h1
    have hs' : 248 ≤ n := by omega
    clear hs
    generalize hR : Nm.row n.toNat = R at *
    clear hR
    generalize hW : Nm.wid n.toNat = W at *
    have HW := Lib.hid hW; clear hW
    go_enter Tryd.func82, Tryd.ntmps82
    go_wp2_with fail
    refine (widthOf_any _ _ h0 HH.out).mono ?_
    rintro e w' ⟨rfl, rfl⟩
    rw [HW.out]
    go_wp2_with (at_builtin; go_must (refine wpList_append_own _ rfl _ _ 34 rfl base 5 i0 (.int .u8 0) 1 1 Tryd.underlying34 hi hz0 hz1 hz2 rfl (by decide) _ _ _ rfl (hraw.alloc _) ⟨w.heap.size, 0, none⟩ 1 1 [_] rfl rfl (cell_one_new _ _ _) ?c2 ?c3 ?c4 ?c5 ?_))
    case c2 => intro u hu; simp at hu; subst hu; rfl
    case c3 => have hlen := HLN.out; unfold maxLen; omega
    case c4 => have hlen := HLN.out; omega
    case c5 => simp; omega
    intro v' w1 hown' hgrow _
    have hb1 : Below base w w1 := ((Below.refl _ _).alloc hb _).grown hgrow (by simp; omega) (fun k hk => (hraw.lt k hk).1)
    have hsz := hb1.size
    have e : Value.int .u8 (247 + (W : Int)) = cellOf (UInt8.ofNat (247 + W)) := by unfold cellOf; rw [Nm.toNat_ofNat]; congr 1; omega
    rw [e] at hown'
    have HO := Lib.hid (Owns.snoc hown')
    clear hown' hgrow hraw e
    go_wp2_with fail
    refine (appendBig_any base v' _ n W w1 HO.out (by omega) (by have := HLN.out; rw [List.length_append, List.length_singleton]; omega) h0 (by omega) (by omega)).mono ?_
    rintro e w2 ⟨v2, rfl, ho2, hb2⟩
    go_wp2_with fail
    go_ret
    rw [HR.out]
    refine ⟨_, rfl, ?_, hb1.trans hb2⟩
    rw [List.append_assoc, Int.toNat_natCast] at ho2
    exact ho2

theorem below_next {B : Nat} {w w1 : World} (h : Below B w w1) (hB : B ≤ w.heap.size) : B ≤ w1.heap.size := Nat.le_trans hB h.size

/-- A value comes back; what was there is as it was. -/
def Gives (v : Value) (w : World) (x : Ending) (w' : World) : Prop := x = .returned v ∧ Below w.heap.size w w'

end Go.Proofs.YtphoihkbdogkhaaDoor.Bn

/- Steps that keep all that they found. -/
namespace Go.Proofs.YtphoihkbdogkhaaDoor.Bn
set_option maxRecDepth 100000
open Go.RowKit

/-- Two steps, each of which keeps all that it found. -/
theorem Below.next {w w1 w2 : World} (h1 : Below w.heap.size w w1) (h2 : Below w1.heap.size w1 w2) : Below w.heap.size w w2 := h1.trans (h2.mono h1.size)
theorem Below.next_alloc {w w1 : World} (h1 : Below w.heap.size w w1) (o : Obj) : Below w.heap.size w (w1.alloc o) := h1.alloc h1.size o

end Go.Proofs.YtphoihkbdogkhaaDoor.Bn

/- Slices that a call owns, grown step by step: what else was there is as it was. -/
namespace Go.Proofs.YtphoihkbdogkhaaDoor.Bn
set_option maxRecDepth 100000
open Go.RowKit

/-- From w to w' a slice v has grown into v': all old blocks but v's own are as they were. -/
structure Grows (w w' : World) (v v' : Value) : Prop where
  by' : w.grownBy w' v.ownBlock
  at' : v'.ownBlock = v.ownBlock ∨ ∃ g, v'.ownBlock = some g ∧ w.heap.size ≤ g

theorem Grows.refl (w : World) (v : Value) : Grows w w v v := ⟨⟨rfl, rfl, rfl, Nat.le_refl _, fun _ _ _ => rfl⟩, Or.inl rfl⟩
theorem Grows.size {w w' : World} {v v' : Value} (h : Grows w w' v v') : w.heap.size ≤ w'.heap.size := h.by'.size
theorem Grows.then' {w w1 w2 : World} {v v1 v2 : Value} (h : Grows w w1 v v1) (k : Grows w1 w2 v1 v2) : Grows w w2 v v2 := by
  refine ⟨⟨k.by'.os.trans h.by'.os, k.by'.tape.trans h.by'.tape, k.by'.output.trans h.by'.output, Nat.le_trans h.size k.size, fun i hi hne => ?_⟩, ?_⟩
  · refine (k.by'.block i (Nat.lt_of_lt_of_le hi h.size) ?_).trans (h.by'.block i hi hne)
    intro e
    rcases h.at' with ha | ⟨g, ha, hg⟩
    · exact hne (e.trans ha)
    · rw [ha] at e
      simp only [Option.some.injEq] at e
      omega
  · rcases k.at' with hk | ⟨g, hk, hg⟩
    · rcases h.at' with ha | ⟨g, ha, hg⟩
      · exact Or.inl (hk.trans ha)
      · exact Or.inr ⟨g, hk.trans ha, hg⟩
    · exact Or.inr ⟨g, hk, Nat.le_trans h.size hg⟩
theorem Grows.of_alloc (w : World) (v : Value) (o : Obj) : Grows w (w.alloc o) v v :=
  ⟨⟨rfl, rfl, rfl, by simp, fun k hk _ => Below.heap_alloc w o k hk⟩, Or.inl rfl⟩
theorem Grows.alloc {w w1 : World} {v v1 : Value} (h : Grows w w1 v v1) (o : Obj) : Grows w (w1.alloc o) v v1 := h.then' (Grows.of_alloc w1 v1 o)
theorem Grows.drew {w w1 : World} {v v1 : Value} (h : Grows w w1 v v1) : Grows w w1.drew v v1 := ⟨⟨h.by'.os, h.by'.tape, h.by'.output, h.by'.size, h.by'.block⟩, h.at'⟩
theorem Grows.app {w w1 w2 : World} {v v1 v2 : Value} (h : Grows w w1 v v1) (hg : w1.grownBy w2 v1.ownBlock) {g : Nat} (ha : v2.ownBlock = v1.ownBlock ∨ v2.ownBlock = some g) (hge : w1.heap.size ≤ g) : Grows w w2 v v2 :=
  h.then' ⟨hg, ha.imp id fun e => ⟨_, e, hge⟩⟩
theorem Grows.below {w w1 w2 : World} {v : Value} (h : Grows w w1 v v) (hb : Below w1.heap.size w1 w2) : Grows w w2 v v :=
  h.then' ⟨⟨hb.os, hb.tape, hb.output, hb.size, fun k hk _ => hb.block k hk⟩, Or.inl rfl⟩
theorem Grows.kept {w w1 w2 : World} {v v1 : Value} (h : Grows w w1 v v1) (hb : Below w1.heap.size w1 w2) : Grows w w2 v v1 :=
  h.then' ⟨⟨hb.os, hb.tape, hb.output, hb.size, fun k hk _ => hb.block k hk⟩, Or.inl rfl⟩
/-- A cell of another block is as it was. -/
theorem Grows.cell {w w' : World} {v v' : Value} (h : Grows w w' v v') {p : Addr} (hp : p.block < w.heap.size) (hne : v.ownBlock ≠ some p.block) : w'.cell? p = w.cell? p :=
  World.cell?_of_block (h.by'.block p.block hp (Ne.symm hne))
theorem Grows.toBelow {w w' : World} {v v' : Value} {base : Nat} {e : TypeId} {z n : Nat} {xs : List Value} (h : Grows w w' v v') (hown : w.ownsRow base e z v n xs) (hb : base ≤ w.heap.size) : Below base w w' :=
  (Below.refl base w).grown h.by' hb (fun k hk => (hown.lt k hk).1)

/-- A slice comes back that owns these bytes, grown out of v. -/
def GrewAt (base : Nat) (l : List UInt8) (v : Value) (w : World) (e : Ending) (w' : World) : Prop := ∃ v', e = .returned v' ∧ Owns w' base v' l ∧ Grows w w' v v'

/-- append(b, s...) at a step of a region that draws its order. -/
theorem step_append_own_string {P : Program} {w : World} {ops : Array Oper} {o : Oper} {a : Act} {K : Act → World → Prop} {Q : Exit → Act → World → Prop} {E : Prop} (hgd : o.guard = none) (sl x : Operand) (t u : TypeId)
    (ho : o.op = .call { callee := .builtin .append, args := #[sl, x], argTypes := #[t, u] })
    (base : Nat) (e : TypeId) (i : TypeInfo) (ht : P.underlying t = some (.slice e)) (hu : P.underlying u = some .string) (hi : P.info? e = some i) (hz : i.zero = some (.int .u8 0))
    (hsize : i.size = 1) (hby : i.bytes = 1)
    (v : Value) (n : Nat) (xs : List Value) (hs : a.eval sl = v) (hown : w.ownsRow base e 1 v n xs) (s : ByteArray) (hx : a.eval x = .string s)
    (h63 : n + s.size ≤ maxLen) (hbytes : n + s.size ≤ 140737488355328) (hbase : base ≤ w.heap.size)
    (h : ∀ v' w', w'.ownsRow base e 1 v' (n + s.size) (xs ++ Lib.strCells s) → w.grownBy w' v.ownBlock → K (a.put o.dst v') w') :
    if Region.wanted o (yielded ops a.tmps) = true then Oper.wp P o a w K Q else E := by
  have hw : Region.wanted o (yielded ops a.tmps) = true := by simp [Region.wanted, hgd]
  rw [if_pos hw]
  obtain ⟨v', w', hr, h2, h3, _⟩ := Lib.run_append_own_string (P := P) w base t u o.type e i ht hu hi hz hsize hby v n xs hown s h63 hbytes hbase
  unfold Oper.wp execOp
  simp only [ho, resolve, invoke, builtin, Sem.run_bind, Sem.run_pure, Result.andThen_ok, List.map_toArray, List.map_cons, List.map_nil, hs, hx, hr]
  exact h v' w' h2 h3

/-- append onto a slice that is the call's own: the old slice still reads as it did. -/
theorem run_append_keeps {P : Program} (w : World) (base : Nat) (t ty e : TypeId) (i : TypeInfo) (z : Value) (size bytes : Nat) (ht : P.underlying t = some (.slice e)) (hi : P.info? e = some i) (hz : i.zero = some z)
    (hsize : i.size = size) (hby : i.bytes = bytes) (hzs : z.cells.size = size) (hsz : 0 < size)
    (v : Value) (n : Nat) (xs : List Value) (hown : w.ownsRow base e size v n xs)
    (a : Addr) (m c : Nat) (news : List Value) (hl : news.length = m * size) (hnews : ∀ j u, news[j]? = some u → w.cell? (a.add j) = some u) (h1 : ∀ u ∈ news, u.oneCell' = true)
    (h63 : n + m ≤ maxLen) (hbytes : (n + m) * bytes ≤ 140737488355328) (hbase : base ≤ w.heap.size) :
    ∃ v' w', (Builtin.append_ #[t, t] ty #[v, .slice (some a) m c]).run P w = .ok v' w' ∧ w'.ownsRow base e size v' (n + m) (xs ++ news) ∧ w.grownBy w' v.ownBlock ∧
      (v'.ownBlock = v.ownBlock ∨ v'.ownBlock = some w.heap.size) ∧ w'.ownsRow base e size v n xs := by
  obtain ⟨v', w', hr, h2, h3, _, h5⟩ := run_append_own_at (P := P) w base t ty e i z size bytes ht hi hz hsize hby hzs hsz v n xs hown a m c news hl hnews h1 h63 hbytes hbase
  refine ⟨v', w', hr, h2, h3, h5, ?_⟩
  rcases hown.2 with ⟨rfl, rfl⟩ | ⟨g, cap, cur, rfl, hbg, hg, hnc, hcm, hcs, htake⟩
  · obtain rfl : xs = [] := List.eq_nil_of_length_eq_zero (by simpa using hown.1)
    exact World.ownsRow_nil ..
  · by_cases hroom : n + m ≤ cap
    · have hfit : n * i.size + news.length ≤ cur.size := by rw [hsize, hl, hcs, ← Nat.add_mul]; exact Nat.mul_le_mul_right _ hroom
      have hr2 := run_append_room (P := P) w t ty e i ht hi g n cap cur hg a m c news (by rw [hsize]; exact hl) hnews h1 hroom hfit
      have he := hr.symm.trans hr2
      simp only [Result.ok.injEq] at he
      obtain ⟨rfl, -⟩ := he
      rcases h2.2 with ⟨hv, _⟩ | ⟨g', cap', cur', hv, hbg', hg', hnc', hcm', hcs', htake'⟩
      · simp at hv
      · simp only [Value.slice.injEq, Option.some.injEq, Addr.mk.injEq, true_and, and_true] at hv
        obtain ⟨rfl, rfl⟩ := hv
        refine ⟨hown.1, Or.inr ⟨g, cap, cur', rfl, hbg, hg', hnc, hcm, hcs', ?_⟩⟩
        have := congrArg (List.take (n * size)) htake'
        rw [List.take_take, Nat.min_eq_left (Nat.mul_le_mul_right _ (by omega)), ← hown.1, List.take_left] at this
        rw [← hown.1]
        exact this
    · obtain ⟨v2, w2, hr2, _, hg2⟩ := run_append_arg_grows (P := P) w t ty e i z size bytes ht hi hz hsize hby hzs hsz ⟨g, 0, none⟩ n cap xs hown.1 (hown.cells (g := g) rfl) a m c news hl hnews (by omega) h63 hbytes
      have he := hr.symm.trans hr2
      simp only [Result.ok.injEq] at he
      obtain ⟨-, rfl⟩ := he
      exact hown.kept hg2 (Or.inr (by simp [Value.ownBlock]))

/-- The same, at a step of a region that draws its order. -/
theorem step_append_keeps {P : Program} (w : World) {ops : Array Oper} {o : Oper} {a : Act} {K : Act → World → Prop} {Q : Exit → Act → World → Prop} {E : Prop} (hgd : o.guard = none) (s x : Operand) (t : TypeId)
    (ho : o.op = .call { callee := .builtin .append, args := #[s, x], argTypes := #[t, t] })
    (base : Nat) (e : TypeId) (i : TypeInfo) (z : Value) (size bytes : Nat) (ht : P.underlying t = some (.slice e)) (hi : P.info? e = some i) (hz : i.zero = some z)
    (hsize : i.size = size) (hby : i.bytes = bytes) (hzs : z.cells.size = size) (hsz : 0 < size)
    (v : Value) (n : Nat) (xs : List Value) (hs : a.eval s = v) (hown : w.ownsRow base e size v n xs)
    (ad : Addr) (m c : Nat) (news : List Value) (hx : a.eval x = .slice (some ad) m c) (hl : news.length = m * size) (hnews : ∀ j u, news[j]? = some u → w.cell? (ad.add j) = some u) (h1 : ∀ u ∈ news, u.oneCell' = true)
    (h63 : n + m ≤ maxLen) (hbytes : (n + m) * bytes ≤ 140737488355328) (hbase : base ≤ w.heap.size)
    (h : ∀ v' w', w'.ownsRow base e size v' (n + m) (xs ++ news) → w.grownBy w' v.ownBlock → w'.ownsRow base e size v n xs → K (a.put o.dst v') w') :
    if Region.wanted o (yielded ops a.tmps) = true then Oper.wp P o a w K Q else E := by
  have hw : Region.wanted o (yielded ops a.tmps) = true := by simp [Region.wanted, hgd]
  rw [if_pos hw]
  obtain ⟨v', w', hr, h2, h3, _, h5⟩ := run_append_keeps (P := P) w base t o.type e i z size bytes ht hi hz hsize hby hzs hsz v n xs hown ad m c news hl hnews h1 h63 hbytes hbase
  unfold Oper.wp execOp
  simp only [ho, resolve, invoke, builtin, Sem.run_bind, Sem.run_pure, Result.andThen_ok, List.map_toArray, List.map_cons, List.map_nil, hs, hx, hr]
  exact h v' w' h2 h3 h5

end Go.Proofs.YtphoihkbdogkhaaDoor.Bn

/- The walk of num.Big. -/
namespace Go.Proofs.YtphoihkbdogkhaaDoor.Bn
set_option maxRecDepth 100000
open Go.RowKit

/-- A string and an error come back; what was there is as it was. -/
def Told (l : List UInt8) (e : Int) (w : World) (x : Ending) (w' : World) : Prop := x = .returned (.tuple #[.string ⟨l.toArray⟩, .int .i64 e]) ∧ Below w.heap.size w w'

/-- What Big answers: the bytes, and the error's number. -/
def bigL (n x : Int) : List UInt8 := if x < 1 ∨ 8 < x then [] else if x < Nm.wid n.toNat then [] else Nm.big n.toNat x.toNat
def bigE (n x : Int) : Int := if x < 1 ∨ 8 < x then 1 else if x < Nm.wid n.toNat then 3 else 0

set_option maxHeartbeats 400000 in
theorem big_any (n x : Int) (w : World) (h0 : 0 ≤ n) (h1 : n ≤ 18446744073709551615) :
    Calls Tryd.prog 39 #[.int .u64 n, .int .i64 x] w (Told (bigL n x) (bigE n x) w) := by
  have HH := Lib.hid h1; clear h1
  by_cases hx : x < 1 ∨ 8 < x
  · have HX := Lib.hid hx
    have HL : Hid (bigL n x = []) := by unfold bigL; rw [if_pos hx]; exact rfl
    have HE : Hid (bigE n x = 1) := by unfold bigE; rw [if_pos hx]; exact rfl
    clear hx
    go_enter Tryd.func39, Tryd.ntmps39
    go_wp2_with fail
    refine (isWidth_no _ _ HX.out).mono ?_
    rintro e w' ⟨rfl, rfl⟩
    go_wp2_with fail
    go_ret2
    rw [HL.out, HE.out]
    exact ⟨rfl, Below.refl _ _⟩
  · have hx1 : 1 ≤ x := by omega
    have hx2 : x ≤ 8 := by omega
    by_cases hw : x < Nm.wid n.toNat
    · have HL : Hid (bigL n x = []) := by unfold bigL; rw [if_neg hx, if_pos hw]; exact rfl
      have HE : Hid (bigE n x = 3) := by unfold bigE; rw [if_neg hx, if_pos hw]; exact rfl
      clear hx
      go_enter Tryd.func39, Tryd.ntmps39
      go_wp2_with fail
      refine (isWidth_yes _ _ hx1 hx2).mono ?_
      rintro e w' ⟨rfl, rfl⟩
      go_wp2_with fail
      refine (widthOf_any _ _ h0 HH.out).mono ?_
      rintro e w' ⟨rfl, rfl⟩
      go_wp2_with fail
      go_ret2
      rw [HL.out, HE.out]
      exact ⟨rfl, Below.refl _ _⟩
    · have HL : Hid (bigL n x = Nm.big n.toNat x.toNat) := by unfold bigL; rw [if_neg hx, if_neg hw]; exact rfl
      have HE : Hid (bigE n x = 0) := by unfold bigE; rw [if_neg hx, if_neg hw]; exact rfl
      clear hx
      go_enter Tryd.func39, Tryd.ntmps39
      go_wp2_with fail
      refine (isWidth_yes _ _ hx1 hx2).mono ?_
      rintro e w' ⟨rfl, rfl⟩
      go_wp2_with fail
      refine (widthOf_any _ _ h0 HH.out).mono ?_
      rintro e w' ⟨rfl, rfl⟩
      go_wp2_with fail
      refine (appendBig_any w.heap.size _ [] _ _ _ (Owns.nil _ _) (Nat.le_refl _) (by simp) h0 (by omega) (by omega)).mono ?_
      rintro e w1 ⟨v1, rfl, ho1, hb1⟩
      rw [List.nil_append] at ho1
      have hc := ho1.convert
      clear ho1
      go_wp2_with fail
      go_ret2
      rw [HL.out, HE.out]
      exact ⟨rfl, hb1⟩

end Go.Proofs.YtphoihkbdogkhaaDoor.Bn

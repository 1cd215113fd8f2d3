/- The walk of frame.Read. -/
import Derived.Test.YtalmkgjinabceaaDoorFrC
namespace Go.Proofs.YtalmkgjinabceaaDoor
open Go.RowKit

theorem drop_list (s : ByteArray) (a : Nat) : (s.extract a s.size).data.toList = s.data.toList.drop a := by
  rw [Cr.extract_list, List.take_of_length_le (by rw [List.length_drop, Cr.size_list]; exact Nat.le_refl _)]

/-- Records were read. -/
def RecsRead (p : List ByteArray × Nat) (w : World) (e : Ending) (w' : World) : Prop := ∃ v, e = .returned (.tuple #[v, .int .i64 (p.2 : Nat)]) ∧ OwnsS w' w.heap.size v p.1 ∧ Below w.heap.size w w'

set_option maxHeartbeats 1000000 in
theorem fread_any (s : ByteArray) (w : World) (hT : Tab w) (hs : s.size ≤ 1000000000) :
    Calls Tryd.prog 11 #[.string s] w (RecsRead (Cr.rda s.data.toList) w) := by
  obtain ⟨i0, hi, hz0, hz1, hz2⟩ := info_parts info_string
  have h0 := hT.lt
  have HT := Lib.hid hT; clear hT
  obtain ⟨P, hP⟩ : ∃ P, P = Cr.rda s.data.toList := ⟨_, rfl⟩
  rw [← hP]
  have HP0 : Hid (P = ([] ++ (Cr.rda (s.data.toList.drop 0)).1, 0 + (Cr.rda (s.data.toList.drop 0)).2)) := by rw [hP, List.drop_zero, Nat.zero_add]; exact Lib.hid rfl
  clear hP
  go_enter Tryd.func11, Tryd.ntmps11
  go_wp2_with fail
  go_loopw [2, 3] (fun u z wr => ∃ (W : Nat) (rs : List ByteArray), W ≤ s.size ∧ z = .int .i64 W ∧ Hid (OwnsS wr w.heap.size u rs) ∧ rs.length ≤ W ∧ Hid (P = (rs ++ (Cr.rda (s.data.toList.drop W)).1, W + (Cr.rda (s.data.toList.drop W)).2)) ∧ Hid (Below w.heap.size w wr)) (fun _ z _ => s.size - (intOf z).toNat)
  case atStart => exact ⟨0, [], Nat.zero_le _, rfl, Lib.hid (OwnsS.nil _ _), Nat.le_refl _, HP0, Lib.hid (Below.refl _ _)⟩
  case round =>
    obtain ⟨W, rs, hW, rfl, HO, hrs, HP, HB⟩ := hrel
    clear HP0
    have HBS : Hid (w.heap.size ≤ wr.heap.size) := HB.out.size
    have hT2 : Tab wr := HT.out.belowB h0 HB.out
    have hfr := firstRecord_any (s.extract W s.size) wr hT2 (by rw [Cr.size_extract']; omega)
    rw [drop_list] at hfr
    have HFR := Lib.hid hfr; clear hfr hT2
    go_wp2_with fail
    refine HFR.out.mono ?_
    rintro e w1 ⟨rfl, hb1⟩
    clear HFR
    have HO1 : Hid (OwnsS w1 w.heap.size u2 rs) := HO.out.kept hb1
    have HB1 : Hid (Below w.heap.size w w1) := Lib.hid (HB.out.trans (hb1.mono HBS.out))
    clear hb1 HO HB
    cases hf : Cr.frl (s.data.toList.drop W) with
    | none =>
      have HE : Hid (P = (rs, W)) := by rw [HP.out, Cr.rda_none hf, List.append_nil]; exact Lib.hid rfl
      unfold frV
      clear hf HP
      go_wp2_with fail
      go_ret2
      rw [HE.out]
      exact ⟨_, rfl, HO1.out, HB1.out⟩
    | some x =>
      obtain ⟨r, k⟩ := x
      have hk := Cr.frl_pos hf
      have hk2 := (Cr.frl_some hf).2.2.1
      rw [List.length_drop, Cr.size_list] at hk2
      have HE : Hid (P = ((rs ++ [r]) ++ (Cr.rda (s.data.toList.drop (W + 32 * k))).1, (W + 32 * k) + (Cr.rda (s.data.toList.drop (W + 32 * k))).2)) := by
        rw [HP.out, Cr.rda_some hf, List.drop_drop, List.append_assoc, Nat.add_assoc]; exact Lib.hid rfl
      unfold frV
      clear hf HP
      have hraw : w1.ownsRow w.heap.size 9 1 u2 rs.length (rs.map .string) := HO1.out
      have HBW : Hid (w.heap.size ≤ w1.heap.size) := HB1.out.size
      have HRS : Hid (rs.length ≤ 1000000000) := Lib.hid (by omega)
      go_wp2_with (at_builtin; go_must (refine wpList_append_own _ rfl _ _ 25 rfl w.heap.size 9 i0 _ 1 16 Tryd.underlying25 hi hz0 hz1 hz2 rfl (by decide) _ _ _ rfl (hraw.alloc _) ⟨w1.heap.size, 0, none⟩ 1 1 [_] rfl rfl (cell_one_new _ _ _) ?c2 ?c3 ?c4 ?c5 ?_))
      case c2 => intro u hu; simp at hu; subst hu; rfl
      case c3 => have := HRS.out; unfold maxLen; omega
      case c4 => have := HRS.out; omega
      case c5 => have := HBW.out; simp; omega
      intro v2 w2 hown2 hgrow2 _
      have HW : Hid (OwnsS w2 w.heap.size v2 (rs ++ [r]) ∧ Below w.heap.size w w2) :=
        ⟨OwnsS.snoc hown2, ((Below.next_alloc HB1.out _)).grown hgrow2 (by have := HBW.out; simp; omega) (fun q hq => (hraw.lt q hq).1)⟩
      clear hown2 hgrow2 hraw HB1 HO1
      go_wp2_with fail
      go_roundw
      case rel => exact ⟨W + 32 * k, rs ++ [r], by omega, by go_num, Lib.hid HW.out.1, by rw [List.length_append, List.length_singleton]; omega, HE, Lib.hid HW.out.2⟩
      case measure => simp [intOf]; omega

end Go.Proofs.YtalmkgjinabceaaDoor

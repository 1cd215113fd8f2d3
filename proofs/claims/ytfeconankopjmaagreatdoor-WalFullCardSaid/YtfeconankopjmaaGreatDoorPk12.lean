/- Texts on the program's own functions, several in one: NnQ. -/
import Derived.Test.YtfeconankopjmaaGreatDoorPk10
import Derived.Test.YtfeconankopjmaaGreatDoorPk11
import Derived.Lib.AppendIntMem

/- The walk of disk's Number. -/
namespace Go.Proofs.YtfeconankopjmaaGreatDoor
open Go.RowKit Go.Sort
set_option linter.unusedVariables false

def numC (wd s : List UInt8) (u : Nat) : Option Nat := if Nn.name wd u = s then some u else none

set_option maxRecDepth 100000 in
set_option maxHeartbeats 800000 in
theorem number_ok (wd s : ByteArray) (u : Nat) (w : World) (hw : wd.size ≤ 1000) (hs : s.size ≤ 1000) (htab : Lib.TabBelow Tryz.prog w.heap.size w "internal/strconv.uint64pow10" .u64 Lib.pow10Tab)
    (hp : Lib.hasPrefix s.data.toList (wd ++ ⟨#[46]⟩).data.toList = true) (hu : Lib.parseUintB 64 (Lib.trimPrefix s.data.toList (wd ++ ⟨#[46]⟩).data.toList) = .ok u) :
    Calls Tryz.prog 46 #[.string wd, .string s] w (Gives (numV (numC wd.data.toList s.data.toList u)) w) := by
  have HC := Lib.hid (Tryz.strings_CutPrefix s (wd ++ ⟨#[46]⟩))
  rw [hp] at HC
  have hu64 : u < 18446744073709551616 := by have := Lib.parseUintB_le hu; omega
  obtain ⟨D, hD⟩ : ∃ D : ByteArray, D = ⟨(Lib.trimPrefix s.data.toList (wd ++ ⟨#[46]⟩).data.toList).toArray⟩ := ⟨_, rfl⟩
  rw [← hD] at HC
  have hds : D.size ≤ 1000 := by
    rw [hD]
    show (Lib.trimPrefix s.data.toList _).length ≤ 1000
    unfold Lib.trimPrefix
    split <;> first | exact hs | (rw [List.length_drop]; exact Nat.le_trans (Nat.sub_le _ _) hs)
  have HP := Lib.hid (fun W => Tryz.strconv_ParseUint_10_at64_ok D (by omega) u (by rw [hD]; exact hu) W)
  have HNM := Lib.hid (fun W (h : Below w.heap.size w W) => name_any wd u W hw hu64 (htab W h))
  obtain ⟨L, hL⟩ : ∃ L : ByteArray, L = ⟨(Nn.name wd.data.toList u).toArray⟩ := ⟨_, rfl⟩
  rw [← hL] at HNM
  have HO : Hid (numC wd.data.toList s.data.toList u = if L = s then some u else none) := Lib.hid (by
    unfold numC
    have : (Nn.name wd.data.toList u = s.data.toList) ↔ L = s := by
      rw [hL]
      constructor
      · intro h; rw [h]
      · intro h; rw [← h]
    simp only [this])
  obtain ⟨o, ho⟩ : ∃ o, o = numC wd.data.toList s.data.toList u := ⟨_, rfl⟩
  rw [← ho] at HO ⊢
  have a1 : ¬ 9223372036854775807 < wd.size + 1 := by omega
  clear hp hu hD hL ho htab hu64
  go_enter Tryz.func46, Tryz.ntmps46
  go_wp2_with fail
  refine (HC.out _).mono ?_
  rintro e w1 ⟨rfl, rfl⟩
  go_wp2_with fail
  refine (HP.out _).mono ?_
  rintro e w2 ⟨rfl, hb2⟩
  have HB2 : Hid (Below w1.heap.size w1 w2) := Lib.hid (by
    rcases hb2 with rfl | rfl
    · exact Below.refl _ _
    · unfold Lib.bytesWorld; exact Lib.below_freeze ((Below.refl _ _).drew.alloc (Nat.le_refl _) _) (Nat.le_refl _) _)
  clear hb2
  go_wp2_with fail
  refine (HNM.out _ HB2.out).mono ?_
  rintro e w3 ⟨rfl, hb3⟩
  have HB3 := Lib.hid (Below.next HB2.out hb3)
  clear hb3
  by_cases he : L = s
  · subst he
    have HO' := Lib.hid (HO.out.trans (if_pos rfl))
    clear HO HNM HP HC
    go_wp2_with fail
    refine bodyPost_ret (v := .tuple #[.int .u64 u, .bool true]) (by simp [results, Tryz.results46, go_sem]) rfl ⟨?_, HB3.out⟩
    rw [HO'.out]; rfl
  · have HO' := Lib.hid (HO.out.trans (if_neg he))
    have he1 : (L.toList == s.toList) = false := by rw [beq_eq_false_iff_ne]; exact fun h => he (str_eq h)
    clear HO HNM HP HC
    go_wp2_with fail
    refine bodyPost_ret (v := .tuple #[.int .u64 (0 : Nat), .bool false]) (by simp [results, Tryz.results46, go_sem]) rfl ⟨?_, HB3.out⟩
    rw [HO'.out]; rfl

set_option maxRecDepth 100000 in
theorem number_other (wd s : ByteArray) (w : World) (hw : wd.size ≤ 1000) (hp : Lib.hasPrefix s.data.toList (wd ++ ⟨#[46]⟩).data.toList = false) :
    Calls Tryz.prog 46 #[.string wd, .string s] w (Gives (numV none) w) := by
  have HC := Lib.hid (Tryz.strings_CutPrefix s (wd ++ ⟨#[46]⟩) w)
  rw [hp] at HC
  have a1 : ¬ 9223372036854775807 < wd.size + 1 := by omega
  clear hp
  go_enter Tryz.func46, Tryz.ntmps46
  go_wp2_with fail
  refine HC.out.mono ?_
  rintro e w1 ⟨rfl, rfl⟩
  go_wp2_with fail
  refine bodyPost_ret (v := .tuple #[.int .u64 (0 : Nat), .bool false]) (by simp [results, Tryz.results46, go_sem]) rfl ⟨rfl, Below.refl _ _⟩

set_option maxRecDepth 100000 in
theorem number_wrong (wd s : ByteArray) (w : World) (hw : wd.size ≤ 1000) (hs : s.size ≤ 1000) (ev : Value) (hv : w.cell? ⟨0, 0, none⟩ = some ev) (hev : ev = .nilIface ∨ ∃ te pe, ev = .iface te pe)
    (hp : Lib.hasPrefix s.data.toList (wd ++ ⟨#[46]⟩).data.toList = true) (hu : Lib.parseUintB 64 (Lib.trimPrefix s.data.toList (wd ++ ⟨#[46]⟩).data.toList) = Lib.NumEnd.syntax) :
    Calls Tryz.prog 46 #[.string wd, .string s] w (Gives (numV none) w) := by
  have HC := Lib.hid (Tryz.strings_CutPrefix s (wd ++ ⟨#[46]⟩) w)
  rw [hp] at HC
  obtain ⟨D, hD⟩ : ∃ D : ByteArray, D = ⟨(Lib.trimPrefix s.data.toList (wd ++ ⟨#[46]⟩).data.toList).toArray⟩ := ⟨_, rfl⟩
  rw [← hD] at HC
  have hds : D.size ≤ 1000 := by
    rw [hD]
    show (Lib.trimPrefix s.data.toList _).length ≤ 1000
    unfold Lib.trimPrefix
    split <;> first | exact hs | (rw [List.length_drop]; exact Nat.le_trans (Nat.sub_le _ _) hs)
  have HP := Lib.hid (Tryz.strconv_ParseUint_10_at64_syntax D (by omega) (by rw [hD]; exact hu) ev w hv hev)
  have a1 : ¬ 9223372036854775807 < wd.size + 1 := by omega
  clear hp hu hD hv hev
  go_enter Tryz.func46, Tryz.ntmps46
  go_wp2_with fail
  refine HC.out.mono ?_
  rintro e w1 ⟨rfl, rfl⟩
  go_wp2_with fail
  refine HP.out.mono ?_
  rintro e w2 ⟨A, rfl, _, _, hb2⟩
  have HB2 := Lib.hid hb2
  clear hb2
  go_wp2_with fail
  refine bodyPost_ret (v := .tuple #[.int .u64 (0 : Nat), .bool false]) (by simp [results, Tryz.results46, go_sem]) rfl ⟨rfl, HB2.out⟩

set_option maxRecDepth 100000 in
theorem number_range (wd s : ByteArray) (w : World) (hw : wd.size ≤ 1000) (hs : s.size ≤ 1000) (ev : Value) (hv : w.cell? ⟨1, 0, none⟩ = some ev) (hev : ev = .nilIface ∨ ∃ te pe, ev = .iface te pe)
    (hp : Lib.hasPrefix s.data.toList (wd ++ ⟨#[46]⟩).data.toList = true) (hu : Lib.parseUintB 64 (Lib.trimPrefix s.data.toList (wd ++ ⟨#[46]⟩).data.toList) = .range) :
    Calls Tryz.prog 46 #[.string wd, .string s] w (Gives (numV none) w) := by
  have HC := Lib.hid (Tryz.strings_CutPrefix s (wd ++ ⟨#[46]⟩) w)
  rw [hp] at HC
  obtain ⟨D, hD⟩ : ∃ D : ByteArray, D = ⟨(Lib.trimPrefix s.data.toList (wd ++ ⟨#[46]⟩).data.toList).toArray⟩ := ⟨_, rfl⟩
  rw [← hD] at HC
  have hds : D.size ≤ 1000 := by
    rw [hD]
    show (Lib.trimPrefix s.data.toList _).length ≤ 1000
    unfold Lib.trimPrefix
    split <;> first | exact hs | (rw [List.length_drop]; exact Nat.le_trans (Nat.sub_le _ _) hs)
  have HP := Lib.hid (Tryz.strconv_ParseUint_10_at64_range D (by omega) (by rw [hD]; exact hu) ev w hv hev)
  have a1 : ¬ 9223372036854775807 < wd.size + 1 := by omega
  clear hp hu hD hv hev
  go_enter Tryz.func46, Tryz.ntmps46
  go_wp2_with fail
  refine HC.out.mono ?_
  rintro e w1 ⟨rfl, rfl⟩
  go_wp2_with fail
  refine HP.out.mono ?_
  rintro e w2 ⟨A, rfl, _, _, hb2⟩
  have HB2 := Lib.hid hb2
  clear hb2
  go_wp2_with fail
  refine bodyPost_ret (v := .tuple #[.int .u64 (0 : Nat), .bool false]) (by simp [results, Tryz.results46, go_sem]) rfl ⟨rfl, HB2.out⟩

theorem word_dot (wd : ByteArray) : (wd ++ ⟨#[46]⟩ : ByteArray).data.toList = wd.data.toList ++ [46] := by rw [ByteArray.data_append, Array.toList_append]
theorem number_any (wd s : ByteArray) (w : World) (hw : wd.size ≤ 1000) (hs : s.size ≤ 1000) (htab : Lib.TabBelow Tryz.prog w.heap.size w "internal/strconv.uint64pow10" .u64 Lib.pow10Tab)
    (e0 e1 : Value) (hv0 : w.cell? ⟨0, 0, none⟩ = some e0) (hv1 : w.cell? ⟨1, 0, none⟩ = some e1) (he0 : e0 = .nilIface ∨ ∃ te pe, e0 = .iface te pe) (he1 : e1 = .nilIface ∨ ∃ te pe, e1 = .iface te pe) :
    Calls Tryz.prog 46 #[.string wd, .string s] w (Gives (numV (Nn.num wd.data.toList s.data.toList)) w) := by
  cases hp : Lib.hasPrefix s.data.toList (wd ++ ⟨#[46]⟩).data.toList with
  | false =>
    have e : Nn.num wd.data.toList s.data.toList = none := by
      unfold Nn.num Nn.cut
      rw [if_neg]
      intro h
      unfold Lib.hasPrefix at hp
      rw [word_dot, List.isPrefixOf_iff_prefix.2 h] at hp
      cases hp
    rw [e]
    exact number_other wd s w hw hp
  | true =>
    have hc : Nn.cut wd.data.toList s.data.toList = some (Lib.trimPrefix s.data.toList (wd ++ ⟨#[46]⟩).data.toList) := by
      unfold Nn.cut Lib.trimPrefix
      have h : wd.data.toList ++ [46] <+: s.data.toList := by
        unfold Lib.hasPrefix at hp
        rw [word_dot] at hp
        exact List.isPrefixOf_iff_prefix.1 hp
      rw [if_pos h, if_pos hp, word_dot, List.length_append]
      rfl
    cases hu : Lib.parseUintB 64 (Lib.trimPrefix s.data.toList (wd ++ ⟨#[46]⟩).data.toList) with
    | ok u =>
      have e : Nn.num wd.data.toList s.data.toList = numC wd.data.toList s.data.toList u := by
        unfold Nn.num
        rw [hc]
        simp only [hu]
        rfl
      rw [e]
      exact number_ok wd s u w hw hs htab hp hu
    | range =>
      have e : Nn.num wd.data.toList s.data.toList = none := by
        unfold Nn.num
        rw [hc]
        simp only [hu]
      rw [e]
      exact number_range wd s w hw hs e1 hv1 he1 hp hu
    | _ =>
      have e : Nn.num wd.data.toList s.data.toList = none := by
        unfold Nn.num
        rw [hc]
        simp only [hu]
      rw [e]
      exact number_wrong wd s w hw hs e0 hv0 he0 hp hu

end Go.Proofs.YtfeconankopjmaaGreatDoor

/- The walk of NumTexts. -/
import Derived.Test.YtledehjgaencmaaNumGreat
namespace Go.Proofs.Ytledehjgaencmaa
open Go.RowKit

theorem textl_cons (s : ByteArray) (ss : List ByteArray) : textl (s :: ss) = Nm.row s.size ++ s.data.toList ++ textl ss := by simp [textl]
theorem dropS_cons (ss : List ByteArray) (k : Nat) (h : k < ss.length) : ss.drop k = ss.getD k ByteArray.empty :: ss.drop (k + 1) := by
  rw [List.drop_eq_getElem_cons h]
  simp [h]
/-- What is left to be read behind k texts. -/
def restS (ss : List ByteArray) (s : ByteArray) (k : Nat) : ByteArray := ⟨(textl (ss.drop k) ++ s.data.toList).toArray⟩
theorem restS_list (ss : List ByteArray) (s : ByteArray) (k : Nat) : (restS ss s k).data.toList = textl (ss.drop k) ++ s.data.toList := rfl
theorem restS_list2 (ss : List ByteArray) (s : ByteArray) (k : Nat) (h : k < ss.length) :
    (restS ss s k).data.toList = Nm.row (ss.getD k ByteArray.empty).data.toList.length ++ (ss.getD k ByteArray.empty).data.toList ++ (restS ss s (k + 1)).data.toList := by
  rw [restS_list, restS_list, dropS_cons ss k h, textl_cons, length_list, List.append_assoc]
theorem suml_drop : ∀ (ss : List ByteArray) (k : Nat), suml (ss.drop k) ≤ suml ss
  | [], k => by simp [suml]
  | s :: ss, 0 => by simp
  | s :: ss, k + 1 => by have := suml_drop ss k; simp only [List.drop_succ_cons, suml]; omega
theorem restS_size (ss : List ByteArray) (s : ByteArray) (k : Nat) : (restS ss s k).size ≤ 9 * ss.length + suml ss + s.size := by
  have h1 := textl_length (ss.drop k)
  have h2 : (ss.drop k).length ≤ ss.length := by rw [List.length_drop]; omega
  have h4 := suml_drop ss k
  have h3 : (restS ss s k).size = (textl (ss.drop k) ++ s.data.toList).length := rfl
  rw [h3, List.length_append, length_list]
  omega
theorem restS_end (ss : List ByteArray) (s : ByteArray) : restS ss s ss.length = s := by
  unfold restS
  rw [List.drop_length]
  exact mk_of (by simp [textl])

/-- What one round reads. -/
structure OneText (R x N : ByteArray) (r : Nat) : Prop where
  yes : rtV R.data.toList x.size = .tuple #[.string x, .int .i64 ((r + x.size : Nat) : Int), .bool true]
  less : rtV R.data.toList ((x.size : Int) - 1) = noText
  cut : rtV (R.extract 0 (r + x.size - 1)).data.toList x.size = noText
  next : R.extract (r + x.size) R.size = N
  one : 1 ≤ r
  nine : r ≤ 9
  size : r + x.size ≤ R.size

theorem oneText {R x N : ByteArray} (hx : x.size ≤ 20000) (h : R.data.toList = Nm.row x.data.toList.length ++ x.data.toList ++ N.data.toList) : OneText R x N (Nm.row x.data.toList.length).length := by
  have hr := Nm.row_length x.data.toList.length
  have hxl := length_list x
  have hb : x.data.toList.length < 18446744073709551616 := by omega
  have hRs : R.size = (Nm.row x.data.toList.length).length + x.size + N.size := by rw [← length_list, h, List.length_append, List.length_append, length_list, length_list]
  refine ⟨?_, ?_, ?_, ?_, hr.1, hr.2, by omega⟩
  · have h1 := rt_row x.data.toList N.data.toList hb
    unfold rtV
    rw [h]
    rw [hxl] at h1 ⊢
    rw [h1]
  · have h1 := rt_less x.data.toList N.data.toList hb
    unfold rtV
    rw [h]
    rw [hxl] at h1 ⊢
    rw [h1]
  · have h1 := rt_cut x.data.toList N.data.toList hb
    unfold rtV
    rw [Lib.extract_data, List.drop_zero, Nat.sub_zero, h]
    rw [hxl] at h1 ⊢
    rw [h1]
  · have e : (Nm.row x.data.toList.length ++ x.data.toList ++ N.data.toList).drop ((Nm.row x.data.toList.length).length + x.size) = N.data.toList := by
      rw [List.drop_left' (by rw [List.length_append, hxl])]
    rw [Lib.extract_eq, h, e, List.take_of_length_le (by rw [length_list]; omega)]

set_option maxHeartbeats 400000 in
theorem texts_great (ao : Option Addr) (len cap : Nat) (ss : List ByteArray) (s : ByteArray) (w : World) (hV : SeesS w (.slice ao len cap) ss) (h : greatB ss = true ∨ 2000 < s.size) :
    Calls Try.prog 8 #[.slice ao len cap, .string s] w (Gives (.bool true) w) := by
  have HV := Lib.hid hV; clear hV
  cases hg : greatB ss with
  | true =>
    have HG := Lib.hid hg; clear hg h
    go_enter Try.func8, Try.ntmps8
    go_wp2_with fail
    refine (great_any _ _ _ _ _ HV.out).mono ?_
    rintro e w' ⟨rfl, rfl⟩
    rw [HG.out]
    go_wp2_with fail
    refine (awake_any _).mono ?_
    rintro e w1 ⟨rfl, hb1⟩
    go_wp2_with fail
    go_ret
    exact ⟨rfl, hb1⟩
  | false =>
    have hs : 2000 < s.size := by
      rcases h with h | h
      · rw [hg] at h; cases h
      · exact h
    have HG := Lib.hid hg; clear hg h
    go_enter Try.func8, Try.ntmps8
    go_wp2_with fail
    refine (great_any _ _ _ _ _ HV.out).mono ?_
    rintro e w' ⟨rfl, rfl⟩
    rw [HG.out]
    go_wp2_with fail
    refine (awake_any _).mono ?_
    rintro e w1 ⟨rfl, hb1⟩
    go_wp2_with fail
    go_ret
    exact ⟨rfl, hb1⟩

set_option maxRecDepth 100000 in
set_option maxHeartbeats 4000000 in
theorem texts_small (ao : Option Addr) (len cap : Nat) (ss : List ByteArray) (s : ByteArray) (w : World) (hV : SeesS w (.slice ao len cap) ss) (hg : greatB ss = false) (hs : s.size ≤ 2000) :
    Calls Try.prog 8 #[.slice ao len cap, .string s] w (Gives (.bool true) w) := by
  obtain ⟨hlen, b, off, hcell⟩ := hV.get
  obtain ⟨hl, hx20, hsum⟩ := greatB_no hg
  have htl := textl_length ss
  have htl2 : (textl ss).length ≤ 21800 := by omega
  have hE := restS_end ss s
  have HR0 : Hid ((⟨(textl ss).toArray⟩ : ByteArray) ++ s = restS ss s 0) := by
    apply ByteArray.ext
    rw [ByteArray.data_append]
    unfold restS
    simp
  have HRS : Hid (∀ k, (restS ss s k).size ≤ 23800) := fun k => by have := restS_size ss s k; omega
  rw [hlen] at hE hl
  have HV := Lib.hid hV; have HC := Lib.hid hcell; have HX := Lib.hid hx20; have HG := Lib.hid hg; have HE := Lib.hid hE; have HLEN := Lib.hid hlen; have HSUM := Lib.hid hsum
  clear hV hcell hx20 hg hE hlen htl hsum
  go_enter Try.func8, Try.ntmps8
  go_wp2_with fail
  refine (great_any _ _ _ _ _ HV.out).mono ?_
  rintro e w' ⟨rfl, rfl⟩
  rw [HG.out]
  go_wp2_with fail
  refine (text_any _ ss _ HV.out (by rw [HLEN.out]; omega) (by have := HSUM.out; omega)).mono ?_
  rintro e w1 ⟨rfl, hb1⟩
  have hA1 : ¬ 9223372036854775807 < (textl ss).length + s.size := by omega
  go_wp2_with fail
  have HB1 := Lib.hid hb1; clear hb1
  clear hA1 htl2
  go_loopw [6, 7] (fun r i wr => ∃ (k : Nat) (R : ByteArray), k ≤ len ∧ i = .int .i64 k ∧ r = .string R ∧ R = restS ss s k ∧ Below w.heap.size w wr) (fun _ i _ => len - (intOf i).toNat)
  case atStart => exact ⟨0, _, Nat.zero_le _, rfl, rfl, HR0.out, HB1.out⟩
  case round =>
    obtain ⟨k, R, hk, rfl, rfl, hR, hbel⟩ := hrel
    have HBEL := Lib.hid hbel; clear hbel
    by_cases hlt : k < len
    · obtain ⟨rfl, hbl, hcl⟩ := HC.out k hlt
      have hcell : wr.cell? ⟨b, off + k, none⟩ = some (.string (ss.getD k ByteArray.empty)) := (HBEL.out.cell (p := ⟨b, off + k, none⟩) hbl).trans hcl
      have hk' : k < ss.length := by rw [HLEN.out]; exact hlt
      have hone := oneText (R := R) (x := ss.getD k ByteArray.empty) (N := restS ss s (k + 1)) (HX.out k) (by rw [hR]; exact restS_list2 ss s k hk')
      have hRs : R.size ≤ 23800 := by rw [hR]; exact HRS.out k
      have hxs := HX.out k
      clear hR hk' hcl
      generalize ss.getD k ByteArray.empty = x at *
      generalize (Nm.row x.data.toList.length).length = r at *
      have hr1 := hone.one; have hr9 := hone.nine; have hrs := hone.size
      have HY := Lib.hid hone.yes; have HLS := Lib.hid hone.less; have HCT := Lib.hid hone.cut; have HNX := Lib.hid hone.next
      clear hone
      go_wp2_with fail
      refine (readText_any _ _ _ (by omega) (by omega)).mono ?_
      rintro e w2 ⟨rfl, hb2⟩
      rw [HY.out]
      have hcell2 : w2.cell? ⟨b, off + k, none⟩ = some (.string x) := (hb2.cell (p := ⟨b, off + k, none⟩) (Nat.lt_of_lt_of_le hbl HBEL.out.size)).trans hcell
      clear hcell
      have HB2 : Hid (Below w.heap.size w w2) := Below.next HBEL.out hb2
      clear hb2
      go_wp2_with fail
      refine (readText_any _ _ _ (by omega) (by omega)).mono ?_
      rintro e w3 ⟨rfl, hb3⟩
      rw [HLS.out]
      have hcell3 : w3.cell? ⟨b, off + k, none⟩ = some (.string x) := (hb3.cell (p := ⟨b, off + k, none⟩) (Nat.lt_of_lt_of_le hbl HB2.out.size)).trans hcell2
      clear hcell2
      have HB3 : Hid (Below w.heap.size w w3) := Below.next HB2.out hb3
      clear hb3
      unfold noText
      go_wp2_with fail
      refine (readText_any _ _ _ (by rw [ByteArray.size_extract]; omega) (by omega)).mono ?_
      rintro e w4 ⟨rfl, hb4⟩
      rw [HCT.out]
      have HB4 : Hid (Below w.heap.size w w4) := Below.next HB3.out hb4
      clear hb4
      unfold noText
      go_wp2_with fail
      go_roundw
      case rel => exact ⟨k + 1, _, by omega, by go_num, rfl, HNX.out, HB4.out⟩
      case measure => simp [intOf]; omega
    · obtain rfl : k = len := by omega
      obtain rfl : R = s := hR.trans HE.out
      clear hR
      go_wp2_with fail
      refine (awake_any _).mono ?_
      rintro e w9 ⟨rfl, hb9⟩
      go_wp2_with fail
      go_ret
      exact ⟨rfl, Below.next HBEL.out hb9⟩

theorem texts_walk (ao : Option Addr) (len cap : Nat) (ss : List ByteArray) (s : ByteArray) (w : World) (hV : SeesS w (.slice ao len cap) ss) (_he : ss.length = len) (_hz : ∀ s ∈ ss, s.size ≤ 9223372036854775807) (_hs : s.size ≤ 9223372036854775807) :
    Calls Try.prog 8 #[.slice ao len cap, .string s] w (Gives (.bool true) w) := by
  cases hg : greatB ss with
  | true => exact texts_great ao len cap ss s w hV (Or.inl hg)
  | false =>
    by_cases hs : 2000 < s.size
    · exact texts_great ao len cap ss s w hV (Or.inr hs)
    · exact texts_small ao len cap ss s w hV hg (by omega)

end Go.Proofs.Ytledehjgaencmaa

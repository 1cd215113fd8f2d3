/- The walks of the document's Encode and Entries. -/
import Derived.Test.YtohfjibhfbcanaaBtR
import Derived.Test.YtohfjibhfbcanaaBtD
namespace Go.Proofs.Ytohfjibhfbcanaa
open Go.RowKit
set_option linter.unusedVariables false
set_option linter.unusedSimpArgs false

set_option maxHeartbeats 4000000 in
theorem refEncode_no (seq : Nat) (ao : Option Addr) (len cap : Nat) (ops : List Ob) (w : World) (hS : SeesO w (.slice ao len cap) ops) (hs : seq < 18446744073709551616) (hk : Bt.chk seq ops ≠ 0) :
    Calls Try.prog 17 #[.agg #[.int .u64 seq, .slice ao len cap]] w (Told [] (Bt.chk seq ops) w) := by
  have HC := Lib.hid (fun W h => refCheck_any seq ao len cap ops W h hs)
  have HS := Lib.hid hS
  have HB : Hid (Below w.heap.size w (w.alloc (.cells #[.int .u64 seq, .slice ao len cap] 43))) := Lib.hid ((Below.refl _ _).alloc (Nat.le_refl _) _)
  clear hS
  generalize Bt.chk seq ops = c at *
  have hk' : ¬ ((c : Int) = 0) := by omega
  clear hk
  go_enter Try.func17, Try.ntmps17
  go_wp2_with fail
  refine (HC.out _ (HS.out.below HB.out)).mono ?_
  rintro e w1 ⟨rfl, hb1⟩
  have HB1 := Lib.hid (Below.next HB.out hb1)
  clear hb1
  go_wp2_with fail
  go_ret2
  exact ⟨rfl, HB1.out⟩

set_option maxHeartbeats 8000000 in
theorem refEncode_yes (seq : Nat) (ao : Option Addr) (len cap : Nat) (ops : List Ob) (w : World) (hS : SeesO w (.slice ao len cap) ops) (hs : seq < 18446744073709551616) (hk : Bt.chk seq ops = 0) :
    Calls Try.prog 17 #[.agg #[.int .u64 seq, .slice ao len cap]] w (Told (Bt.encl seq ops) 0 w) := by
  have HC := Lib.hid (fun W h => refCheck_any seq ao len cap ops W h hs)
  have HS := Lib.hid hS
  have HB : Hid (Below w.heap.size w (w.alloc (.cells #[.int .u64 seq, .slice ao len cap] 43))) := Lib.hid ((Below.refl _ _).alloc (Nat.le_refl _) _)
  obtain ⟨hlen, b, off, hc⟩ := hS.get
  rw [hk] at HC
  obtain ⟨h16, hob, _, _, _⟩ := Bt.chk_ok hk
  have HOB := Lib.hid hob
  have HLEN := Lib.hid hlen
  have HCC := Lib.hid hc
  rw [hlen] at h16
  have HE : Hid (Bt.encl seq ops = (Nm.row seq ++ Nm.row len) ++ (ops.take len).flatMap Bt.obRow) := by
    refine Lib.hid ?_
    rw [← hlen, List.take_length, Bt.encl, List.append_assoc]
  clear hS hc hlen hob hk
  go_enter Try.func17, Try.ntmps17
  go_wp2_with fail
  refine (HC.out _ (HS.out.below HB.out)).mono ?_
  rintro e w1 ⟨rfl, hb1⟩
  have HB1 := Lib.hid (Below.next HB.out hb1)
  have hz : w.heap.size < w1.heap.size := by have := hb1.size; simp at this; omega
  have hcc : ∀ o, w1.cell? ⟨w.heap.size, o, none⟩ = (w.alloc (.cells #[.int .u64 seq, .slice ao len cap] 43)).cell? ⟨w.heap.size, o, none⟩ := fun o => hb1.cell (p := ⟨w.heap.size, o, none⟩) (by simp)
  have k0 : w1.cell? ⟨w.heap.size, 0, none⟩ = some (.int .u64 seq) := (hcc 0).trans (by rw [World.cell?_alloc_new]; rfl)
  have k1 : w1.cell? ⟨w.heap.size, 1, none⟩ = some (.slice ao len cap) := (hcc 1).trans (by rw [World.cell?_alloc_new]; rfl)
  clear hb1 hcc
  have HR1 : Hid (∀ W, Calls Try.prog 33 #[.int .u64 seq] W (Gives (.string ⟨(Nm.row seq).toArray⟩) W)) := Lib.hid (fun W => by
    have h := refRow_any (seq : Int) W (by omega) (by omega)
    rw [Int.toNat_natCast] at h
    exact h)
  have HR2 : Hid (∀ W, Calls Try.prog 33 #[.int .u64 len] W (Gives (.string ⟨(Nm.row len).toArray⟩) W)) := Lib.hid (fun W => by
    have h := refRow_any (len : Int) W (by omega) (by omega)
    rw [Int.toNat_natCast] at h
    exact h)
  obtain ⟨A1, hA1⟩ : ∃ A : ByteArray, A = ⟨(Nm.row seq).toArray⟩ := ⟨_, rfl⟩
  obtain ⟨A2, hA2⟩ : ∃ A : ByteArray, A = ⟨(Nm.row len).toArray⟩ := ⟨_, rfl⟩
  have h1s : A1.size ≤ 9 := by rw [hA1, size_mk]; exact (Nm.row_length seq).2
  have h2s : A2.size ≤ 9 := by rw [hA2, size_mk]; exact (Nm.row_length len).2
  rw [← hA1] at HR1
  rw [← hA2] at HR2
  have HA : Hid (A1 ++ A2 = ⟨(Nm.row seq ++ Nm.row len).toArray⟩) := by rw [hA1, hA2, mk_app]; exact Lib.hid rfl
  clear hA1 hA2
  have hwk : IntKind.u64.wrap (len : Int) = (len : Int) := by rw [IntKind.wrap_u64]; omega
  have HADD : Hid (¬ 9223372036854775807 < A1.size + A2.size) := Lib.hid (by omega)
  go_wp2_with fail
  have hadd := HADD.out
  go_region_held3 (fun w' => w'.cell? ⟨w.heap.size, 0, none⟩ = some (.int .u64 seq) ∧ w'.cell? ⟨w.heap.size, 1, none⟩ = some (.slice ao len cap))
    (first
      | go_keep
      | (go_split_ands
         have hy : w1.heap.size ≤ w2.heap.size := hb2.size
         refine ⟨?_, ?_⟩
         · (refine (hb3.cell (p := ⟨w.heap.size, 0, none⟩) (by show w.heap.size < w2.heap.size; omega)).trans ?_; assumption)
         · (refine (hb3.cell (p := ⟨w.heap.size, 1, none⟩) (by show w.heap.size < w2.heap.size; omega)).trans ?_; assumption))
      | (go_split_ands
         refine ⟨?_, ?_⟩
         · exact (hb2.cell (p := ⟨w.heap.size, 0, none⟩) hz).trans k0
         · exact (hb2.cell (p := ⟨w.heap.size, 1, none⟩) hz).trans k1))
    (first
      | (go_at_call 33; (with_reducible refine (HR1.out _).mono ?_); rintro e w2 ⟨rfl, hb2⟩)
      | (go_at_call 33; (with_reducible refine (HR2.out _).mono ?_); rintro e w3 ⟨rfl, hb3⟩))
  have hzz2 : w1.heap.size ≤ w2.heap.size := hb2.size
  have hzz3 : w2.heap.size ≤ w3.heap.size := hb3.size
  have q1 : w3.cell? ⟨w.heap.size, 1, none⟩ = some (.slice ao len cap) := (hb3.cell (p := ⟨w.heap.size, 1, none⟩) (by show w.heap.size < w2.heap.size; omega)).trans ((hb2.cell (p := ⟨w.heap.size, 1, none⟩) hz).trans k1)
  have HB3 := Lib.hid (Below.next (Below.next HB1.out.drew hb2) hb3)
  clear hb2 hb3 k0 k1 hadd hwk
  rw [HA.out]
  generalize hPRE : Nm.row seq ++ Nm.row len = PRE at *
  have HPL : Hid (PRE.length ≤ 18) := by
    have h1 := (Nm.row_length seq).2
    have h2 := (Nm.row_length len).2
    rw [← hPRE, List.length_append]
    exact Lib.hid (by omega)
  clear hPRE HA
  go_wp2_with fail
  go_loopw [5, 6] (fun u i wr => ∃ (k : Nat) (P : ByteArray), k ≤ len ∧ i = .int .i64 k ∧ u = .string P ∧ P.data.toList = PRE ++ (ops.take k).flatMap Bt.obRow ∧ wr.cell? ⟨w.heap.size, 1, none⟩ = some (.slice ao len cap) ∧ Below w.heap.size w wr ∧ w.heap.size < wr.heap.size) (fun _ i _ => len - (intOf i).toNat)
  case atStart => exact ⟨0, _, Nat.zero_le _, rfl, rfl, by simp, q1, HB3.out, by omega⟩
  case round =>
    obtain ⟨k, P, hk, rfl, rfl, hP, hq, hbel, hzr⟩ := hrel
    have HP := Lib.hid hP; clear hP q1
    by_cases hlt : k < len
    · obtain ⟨rfl, hbl, hobk⟩ := HCC.out k hlt
      obtain ⟨c0, c1, c2⟩ := hobk.below hbel hbl
      have hbr : b < wr.heap.size := by omega
      have hkl : k < ops.length := by rw [HLEN.out]; exact hlt
      have HR : Hid ((ops.take (k + 1)).flatMap Bt.obRow = (ops.take k).flatMap Bt.obRow ++ Bt.obRow (ops.getD k obd)) := Lib.hid (rows_snoc ops k hkl)
      have HLO : Hid (Bt.longOb (ops.getD k obd) = false) := Lib.hid (HOB.out _ (getD_mem hkl)).1
      have hPs : P.size ≤ 10000 := by
        have h1 := rows_length (ops := ops.take k) (fun o ho => (HOB.out o (List.mem_of_mem_take ho)).1)
        have h2 : (ops.take k).length ≤ k := List.length_take_le ..
        have h3 := HPL.out
        rw [← length_list, HP.out, List.length_append]
        omega
      clear hobk hkl
      generalize ops.getD k obd = x at *
      obtain ⟨key, val, gone⟩ := x
      dsimp only at c0 c1 c2
      have hsz : key.size ≤ 64 ∧ val.size ≤ 512 := by
        have h := HLO.out
        simp only [Bt.longOb, Bool.or_eq_false_iff, decide_eq_false_iff_not] at h
        omega
      have HB4 : Hid (∀ o1 o2, Below w.heap.size w ((wr.alloc o1).alloc o2)) := Lib.hid (fun o1 o2 => Below.next_alloc (Below.next_alloc hbel _) _)
      have HQ4 : Hid (∀ o1 o2, ((wr.alloc o1).alloc o2).cell? ⟨w.heap.size, 1, none⟩ = some (.slice (some ⟨b, off, none⟩) len cap)) := Lib.hid (fun o1 o2 => (World.cell?_alloc_past _ _ _ (by simp; omega)).trans ((World.cell?_alloc_past _ _ _ hzr).trans hq))
      cases gone with
      | true =>
        go_wp2_with fail
        refine (refText_any _ _ _ [key] _ (sees_heap1 (heap_alloc2_new wr _ _)) (by omega) (by simp [suml]; omega)).mono ?_
        rintro e w4 ⟨rfl, hb4⟩
        obtain ⟨T, hT⟩ : ∃ T : ByteArray, T = ⟨(textl [key]).toArray⟩ := ⟨_, rfl⟩
        have hTs : T.size ≤ 100 := by rw [hT, size_mk, textl_one]; have := (Bt.txt_length key).2; omega
        rw [← hT]
        have HTT : Hid (T.data.toList = Bt.txt key) := by rw [hT]; exact Lib.hid (textl_one key)
        clear hT
        go_wp2_with fail
        have hzz : wr.heap.size + 2 ≤ w4.heap.size := by have := hb4.size; simp at this; omega
        refine ⟨⟨k + 1, _, by omega, by go_num, rfl, ?_, (hb4.cell (p := ⟨w.heap.size, 1, none⟩) (by simp; omega)).trans (HQ4.out _ _), Below.next (HB4.out _ _) hb4, by omega⟩, by simp [intOf]; omega⟩
        rw [HR.out, ← List.append_assoc, ← HP.out]
        simp [HTT.out, Bt.obRow]
      | false =>
        go_wp2_with fail
        refine (refText_any _ _ _ [key, val] _ (sees_heap2 (heap_alloc2_new wr _ _)) (by omega) (by simp [suml]; omega)).mono ?_
        rintro e w4 ⟨rfl, hb4⟩
        obtain ⟨T, hT⟩ : ∃ T : ByteArray, T = ⟨(textl [key, val]).toArray⟩ := ⟨_, rfl⟩
        have hTs : T.size ≤ 700 := by rw [hT, size_mk, textl_two, List.length_append]; have := (Bt.txt_length key).2; have := (Bt.txt_length val).2; omega
        rw [← hT]
        have HTT : Hid (T.data.toList = Bt.txt key ++ Bt.txt val) := by rw [hT]; exact Lib.hid (textl_two key val)
        clear hT
        go_wp2_with fail
        have hzz : wr.heap.size + 2 ≤ w4.heap.size := by have := hb4.size; simp at this; omega
        refine ⟨⟨k + 1, _, by omega, by go_num, rfl, ?_, (hb4.cell (p := ⟨w.heap.size, 1, none⟩) (by simp; omega)).trans (HQ4.out _ _), Below.next (HB4.out _ _) hb4, by omega⟩, by simp [intOf]; omega⟩
        rw [HR.out, ← List.append_assoc, ← HP.out]
        simp [HTT.out, Bt.obRow]
    · obtain rfl : k = len := by omega
      go_wp2_with fail
      go_ret2
      rw [HE.out, ← HP.out]
      exact ⟨rfl, hbel⟩

theorem refEncode_any (seq : Nat) (ao : Option Addr) (len cap : Nat) (ops : List Ob) (w : World) (hS : SeesO w (.slice ao len cap) ops) (hs : seq < 18446744073709551616) :
    Calls Try.prog 17 #[.agg #[.int .u64 seq, .slice ao len cap]] w (Told (if Bt.chk seq ops = 0 then Bt.encl seq ops else []) (Bt.chk seq ops) w) := by
  by_cases h : Bt.chk seq ops = 0
  · rw [if_pos h, h]; exact refEncode_yes seq ao len cap ops w hS hs h
  · rw [if_neg h]; exact refEncode_no seq ao len cap ops w hS hs h

end Go.Proofs.Ytohfjibhfbcanaa

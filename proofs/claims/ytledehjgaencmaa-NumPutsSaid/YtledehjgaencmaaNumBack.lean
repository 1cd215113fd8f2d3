/- The walk of NumBack. -/
import Derived.Test.YtledehjgaencmaaNumOrder
namespace Go.Proofs.Ytledehjgaencmaa
open Go.RowKit

set_option maxHeartbeats 400000 in
theorem back_great (a : Option Addr) (len cap : Nat) (s : ByteArray) (w : World) (h : 200 < len) :
    Calls Try.prog 7 #[.slice a len cap, .string s] w (Gives (.bool true) w) := by
  go_enter Try.func7, Try.ntmps7
  go_wp2_with fail
  refine (awake_any _).mono ?_
  rintro e w1 ⟨rfl, hb1⟩
  go_wp2_with fail
  go_ret
  exact ⟨rfl, hb1⟩

theorem varl_cons (n : Nat) (ns : List Nat) : varl (n :: ns) = Nm.row n ++ varl ns := by simp [varl]
theorem drop_cons_getD (ns : List Nat) (k : Nat) (h : k < ns.length) : ns.drop k = ns.getD k 0 :: ns.drop (k + 1) := by
  rw [List.drop_eq_getElem_cons h]
  simp [h]

/-- What is left to be read behind k numbers. -/
def restB (ns : List Nat) (s : ByteArray) (k : Nat) : ByteArray := ⟨(varl (ns.drop k) ++ s.data.toList).toArray⟩

theorem restB_size (ns : List Nat) (s : ByteArray) (k : Nat) : (restB ns s k).size ≤ 9 * ns.length + s.size := by
  have h1 := varl_length (ns.drop k)
  have h2 : (ns.drop k).length ≤ ns.length := by rw [List.length_drop]; omega
  have h3 : (restB ns s k).size = (varl (ns.drop k) ++ s.data.toList).length := rfl
  rw [h3, List.length_append, length_list]
  omega
theorem restB_end (ns : List Nat) (s : ByteArray) : restB ns s ns.length = s := by
  unfold restB
  rw [List.drop_length]
  exact mk_of (by simp [varl])
theorem restB_rv (ns : List Nat) (s : ByteArray) (k : Nat) (h : k < ns.length) (hn : ns.getD k 0 < 18446744073709551616) :
    rvV (restB ns s k).data.toList = .tuple #[.int .u64 (ns.getD k 0 : Nat), .int .i64 (Nm.row (ns.getD k 0)).length, .bool true] := by
  unfold restB
  rw [drop_cons_getD ns k h, varl_cons, List.append_assoc]
  exact rvV_some (Nm.rv_row hn _)
theorem restB_next (ns : List Nat) (s : ByteArray) (k : Nat) (h : k < ns.length) :
    (restB ns s k).extract (Nm.row (ns.getD k 0)).length (restB ns s k).size = restB ns s (k + 1) := by
  have e : (restB ns s (k + 1)).data.toList = (restB ns s k).data.toList.drop (Nm.row (ns.getD k 0)).length := by
    unfold restB
    rw [drop_cons_getD ns k h, varl_cons, List.append_assoc]
    simp
  rw [Lib.extract_eq, List.take_of_length_le (by rw [List.length_drop, length_list]; omega), ← e]
theorem restB_len (ns : List Nat) (s : ByteArray) (k : Nat) (h : k < ns.length) : (Nm.row (ns.getD k 0)).length ≤ (restB ns s k).size := by
  have h3 : (restB ns s k).size = (varl (ns.drop k) ++ s.data.toList).length := rfl
  rw [h3, drop_cons_getD ns k h, varl_cons, List.append_assoc, List.length_append]
  exact Nat.le_add_right _ _

/-- A slice of numbers that lies in memory, for a walk whose rounds ask for its cells. -/
theorem SeesU.get {w : World} {ao : Option Addr} {len cap : Nat} {ns : List Nat} (h : SeesU w (.slice ao len cap) ns) :
    ns.length = len ∧ ∃ b off, ∀ i, i < len → ao = some ⟨b, off, none⟩ ∧ b < w.heap.size ∧ w.cell? ⟨b, off + i, none⟩ = some (.int .u64 (ns.getD i 0 : Nat)) := by
  rcases h with ⟨rfl, a, c, h⟩ | ⟨b, off, c, h, hb, hc⟩
  · simp only [Value.slice.injEq] at h
    obtain ⟨rfl, rfl, rfl⟩ := h
    exact ⟨rfl, 0, 0, fun i hi => by omega⟩
  · simp only [Value.slice.injEq] at h
    obtain ⟨rfl, rfl, rfl⟩ := h
    exact ⟨rfl, b, off, fun i hi => ⟨rfl, hb, hc i hi⟩⟩

set_option maxRecDepth 100000 in
set_option maxHeartbeats 4000000 in
theorem back_none (ao : Option Addr) (len cap : Nat) (ns : List Nat) (s : ByteArray) (w : World) (hV : SeesU w (.slice ao len cap) ns)
    (hn : ∀ i, ns.getD i 0 < 18446744073709551616) (hl : len ≤ 200) (hs : s.size ≤ 20000) (hrv : Nm.rv s.data.toList = none) :
    Calls Try.prog 7 #[.slice ao len cap, .string s] w (Gives (.bool true) w) := by
  obtain ⟨hlen, b, off, hcell⟩ := hV.get
  have HV := Lib.hid hV; have HC := Lib.hid hcell; have HN := Lib.hid hn; clear hV hcell hn
  have hvl := varl_length ns
  have hvl2 : (varl ns).length ≤ 1800 := by omega
  have hE := restB_end ns s
  have HR0 : Hid ((⟨(varl ns).toArray⟩ : ByteArray) ++ s = restB ns s 0) := by
    apply ByteArray.ext
    rw [ByteArray.data_append]
    unfold restB
    simp
  rw [hlen] at hE
  have HE := Lib.hid hE; clear hE
  have HLEN := Lib.hid hlen; clear hlen hvl
  have HRVS := Lib.hid (rvV_none hrv); clear hrv
  go_enter Try.func7, Try.ntmps7
  go_wp2_with fail
  refine (var_any _ ns _ HV.out HN.out (by rw [HLEN.out]; omega)).mono ?_
  rintro e w1 ⟨rfl, hb1⟩
  have hA1 : ¬ 9223372036854775807 < (varl ns).length + s.size := by omega
  go_wp2_with fail
  have HB1 := Lib.hid hb1; clear hb1
  clear hA1 hvl2
  go_loop [5, 6] (fun r i => ∃ (k : Nat) (R : ByteArray), k ≤ len ∧ i = .int .i64 k ∧ r = .string R ∧ R = restB ns s k) (fun _ i => len - (intOf i).toNat)
  case atStart => exact ⟨0, _, Nat.zero_le _, rfl, rfl, HR0.out⟩
  case round =>
    obtain ⟨k, R, hk, rfl, rfl, hR⟩ := hrel
    by_cases hlt : k < len
    · obtain ⟨rfl, hbl, hcl⟩ := HC.out k hlt
      have hcell : w1.cell? ⟨b, off + k, none⟩ = some (.int .u64 (ns.getD k 0 : Nat)) := (HB1.out.cell (p := ⟨b, off + k, none⟩) hbl).trans hcl
      have hk' : k < ns.length := by rw [HLEN.out]; exact hlt
      have HRV : Hid (rvV R.data.toList = .tuple #[.int .u64 (ns.getD k 0 : Nat), .int .i64 (Nm.row (ns.getD k 0)).length, .bool true]) := by rw [hR]; exact restB_rv ns s k hk' (HN.out k)
      have HNX : Hid (R.extract (Nm.row (ns.getD k 0)).length R.size = restB ns s (k + 1)) := by rw [hR]; exact restB_next ns s k hk'
      have hr1 := (Nm.row_length (ns.getD k 0)).1
      have hr2 : (Nm.row (ns.getD k 0)).length ≤ R.size := by rw [hR]; exact restB_len ns s k hk'
      have hRs : R.size ≤ 30000 := by have h1 := restB_size ns s k; have h2 := HLEN.out; rw [hR]; omega
      clear hR hk' hcl
      generalize ns.getD k 0 = x at *
      generalize (Nm.row x).length = r at *
      go_wp2_with fail
      refine (readVar_any _ _ (by omega)).mono ?_
      rintro e w' ⟨rfl, rfl⟩
      rw [HRV.out]
      go_wp2_with fail
      go_round
      case rel => exact ⟨k + 1, _, by omega, by go_num, rfl, HNX.out⟩
      case measure => simp [intOf]; omega
    · obtain rfl : k = len := by omega
      obtain rfl : R = s := hR.trans HE.out
      clear hR
      go_wp2_with fail
      refine (readVar_any _ _ (by omega)).mono ?_
      rintro e w' ⟨rfl, rfl⟩
      rw [HRVS.out]
      go_wp2_with fail
      refine (awake_any _).mono ?_
      rintro e w2 ⟨rfl, hb2⟩
      go_wp2_with fail
      go_ret
      exact ⟨rfl, Below.next HB1.out hb2⟩

set_option maxRecDepth 100000 in
set_option maxHeartbeats 4000000 in
theorem back_none_cut (ao : Option Addr) (len cap : Nat) (ns : List Nat) (S0 : ByteArray) (w : World) (hV : SeesU w (.slice ao len cap) ns)
    (hn : ∀ i, ns.getD i 0 < 18446744073709551616) (hl : len ≤ 200) (hS : 20000 < S0.size) (hrv : Nm.rv (S0.extract 0 20000).data.toList = none) :
    Calls Try.prog 7 #[.slice ao len cap, .string S0] w (Gives (.bool true) w) := by
  obtain ⟨hlen, b, off, hcell⟩ := hV.get
  have HV := Lib.hid hV; have HC := Lib.hid hcell; have HN := Lib.hid hn; clear hV hcell hn
  have hvl := varl_length ns
  have hvl2 : (varl ns).length ≤ 1800 := by omega
  have hs : (S0.extract 0 20000).size ≤ 20000 := by rw [ByteArray.size_extract]; omega
  have hE := restB_end ns (S0.extract 0 20000)
  have HR0 : Hid ((⟨(varl ns).toArray⟩ : ByteArray) ++ (S0.extract 0 20000) = restB ns (S0.extract 0 20000) 0) := by
    apply ByteArray.ext
    rw [ByteArray.data_append]
    unfold restB
    simp
  rw [hlen] at hE
  have HE := Lib.hid hE; clear hE
  have HLEN := Lib.hid hlen; clear hlen hvl
  have HRVS := Lib.hid (rvV_none hrv); clear hrv
  go_enter Try.func7, Try.ntmps7
  go_wp2_with fail
  generalize S0.extract 0 20000 = s at *
  refine (var_any _ ns _ HV.out HN.out (by rw [HLEN.out]; omega)).mono ?_
  rintro e w1 ⟨rfl, hb1⟩
  have hA1 : ¬ 9223372036854775807 < (varl ns).length + s.size := by omega
  go_wp2_with fail
  have HB1 := Lib.hid hb1; clear hb1
  clear hA1 hvl2
  go_loop [5, 6] (fun r i => ∃ (k : Nat) (R : ByteArray), k ≤ len ∧ i = .int .i64 k ∧ r = .string R ∧ R = restB ns s k) (fun _ i => len - (intOf i).toNat)
  case atStart => exact ⟨0, _, Nat.zero_le _, rfl, rfl, HR0.out⟩
  case round =>
    obtain ⟨k, R, hk, rfl, rfl, hR⟩ := hrel
    by_cases hlt : k < len
    · obtain ⟨rfl, hbl, hcl⟩ := HC.out k hlt
      have hcell : w1.cell? ⟨b, off + k, none⟩ = some (.int .u64 (ns.getD k 0 : Nat)) := (HB1.out.cell (p := ⟨b, off + k, none⟩) hbl).trans hcl
      have hk' : k < ns.length := by rw [HLEN.out]; exact hlt
      have HRV : Hid (rvV R.data.toList = .tuple #[.int .u64 (ns.getD k 0 : Nat), .int .i64 (Nm.row (ns.getD k 0)).length, .bool true]) := by rw [hR]; exact restB_rv ns s k hk' (HN.out k)
      have HNX : Hid (R.extract (Nm.row (ns.getD k 0)).length R.size = restB ns s (k + 1)) := by rw [hR]; exact restB_next ns s k hk'
      have hr1 := (Nm.row_length (ns.getD k 0)).1
      have hr2 : (Nm.row (ns.getD k 0)).length ≤ R.size := by rw [hR]; exact restB_len ns s k hk'
      have hRs : R.size ≤ 30000 := by have h1 := restB_size ns s k; have h2 := HLEN.out; rw [hR]; omega
      clear hR hk' hcl
      generalize ns.getD k 0 = x at *
      generalize (Nm.row x).length = r at *
      go_wp2_with fail
      refine (readVar_any _ _ (by omega)).mono ?_
      rintro e w' ⟨rfl, rfl⟩
      rw [HRV.out]
      go_wp2_with fail
      go_round
      case rel => exact ⟨k + 1, _, by omega, by go_num, rfl, HNX.out⟩
      case measure => simp [intOf]; omega
    · obtain rfl : k = len := by omega
      obtain rfl : R = s := hR.trans HE.out
      clear hR
      go_wp2_with fail
      refine (readVar_any _ _ (by omega)).mono ?_
      rintro e w' ⟨rfl, rfl⟩
      rw [HRVS.out]
      go_wp2_with fail
      refine (awake_any _).mono ?_
      rintro e w2 ⟨rfl, hb2⟩
      go_wp2_with fail
      go_ret
      exact ⟨rfl, Below.next HB1.out hb2⟩

end Go.Proofs.Ytledehjgaencmaa

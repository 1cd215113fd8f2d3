/- The walk of NumBack where the text begins with a row; and the whole. -/
import Derived.Test.YtledehjgaencmaaNumBack
import Derived.Deep.RegionHeld3
namespace Go.Proofs.Ytledehjgaencmaa
open Go.RowKit

theorem SeesU.drew {w : World} {v : Value} {ns : List Nat} (h : SeesU w v ns) : SeesU w.drew v ns := h

set_option maxRecDepth 100000 in
set_option maxHeartbeats 4000000 in
theorem back_some (ao : Option Addr) (len cap : Nat) (ns : List Nat) (s : ByteArray) (w : World) (hV : SeesU w (.slice ao len cap) ns)
    (hn : ∀ i, ns.getD i 0 < 18446744073709551616) (hl : len ≤ 200) (hs : s.size ≤ 20000) (n q : Nat) (hrv : Nm.rv s.data.toList = some (n, q)) :
    Calls Try.prog 7 #[.slice ao len cap, .string s] w (Gives (.bool true) w) := by
  obtain ⟨hlen, b, off, hcell⟩ := hV.get
  have HV := Lib.hid hV; have HC := Lib.hid hcell; have HN := Lib.hid hn; clear hV hcell hn
  have hvl := varl_length ns
  have hvl2 : (varl ns).length ≤ 1800 := by omega
  have hE := restB_end ns s
  have HR0 : Hid ((⟨(varl ns).toArray⟩ : ByteArray) ++ s = restB ns s 0) := by
    apply ByteArray.ext
    rw [ByteArray.data_append]
    unfold restB
    simp
  rw [hlen] at hE
  have HE := Lib.hid hE; clear hE
  have HLEN := Lib.hid hlen; clear hlen hvl
  have HRVS := Lib.hid (rvV_some hrv)
  obtain ⟨hq1, hq2, hrow, hn64⟩ := Nm.row_rv hrv
  rw [length_list] at hq2
  have HROW := Lib.hid hrow; have HG := Lib.hid (getD_one hn64); clear hrv hrow hn64
  go_enter Try.func7, Try.ntmps7
  go_wp2_with fail
  refine (var_any _ ns _ HV.out HN.out (by rw [HLEN.out]; omega)).mono ?_
  rintro e w1 ⟨rfl, hb1⟩
  have hA1 : ¬ 9223372036854775807 < (varl ns).length + s.size := by omega
  go_wp2_with fail
  have HB1 := Lib.hid hb1; clear hb1
  clear hA1 hvl2
  go_loop [5, 6] (fun r i => ∃ (k : Nat) (R : ByteArray), k ≤ len ∧ i = .int .i64 k ∧ r = .string R ∧ R = restB ns s k) (fun _ i => len - (intOf i).toNat)
  case atStart => exact ⟨0, _, Nat.zero_le _, rfl, rfl, HR0.out⟩
  case round =>
    obtain ⟨k, R, hk, rfl, rfl, hR⟩ := hrel
    by_cases hlt : k < len
    · obtain ⟨rfl, hbl, hcl⟩ := HC.out k hlt
      have hcell : w1.cell? ⟨b, off + k, none⟩ = some (.int .u64 (ns.getD k 0 : Nat)) := (HB1.out.cell (p := ⟨b, off + k, none⟩) hbl).trans hcl
      have hk' : k < ns.length := by rw [HLEN.out]; exact hlt
      have HRV : Hid (rvV R.data.toList = .tuple #[.int .u64 (ns.getD k 0 : Nat), .int .i64 (Nm.row (ns.getD k 0)).length, .bool true]) := by rw [hR]; exact restB_rv ns s k hk' (HN.out k)
      have HNX : Hid (R.extract (Nm.row (ns.getD k 0)).length R.size = restB ns s (k + 1)) := by rw [hR]; exact restB_next ns s k hk'
      have hr1 := (Nm.row_length (ns.getD k 0)).1
      have hr2 : (Nm.row (ns.getD k 0)).length ≤ R.size := by rw [hR]; exact restB_len ns s k hk'
      have hRs : R.size ≤ 30000 := by have h1 := restB_size ns s k; have h2 := HLEN.out; rw [hR]; omega
      clear hR hk' hcl
      generalize ns.getD k 0 = x at *
      generalize (Nm.row x).length = r at *
      go_wp2_with fail
      refine (readVar_any _ _ (by omega)).mono ?_
      rintro e w' ⟨rfl, rfl⟩
      rw [HRV.out]
      go_wp2_with fail
      go_round
      case rel => exact ⟨k + 1, _, by omega, by go_num, rfl, HNX.out⟩
      case measure => simp [intOf]; omega
    · obtain rfl : k = len := by omega
      obtain rfl : R = s := hR.trans HE.out
      clear hR
      go_wp2_with fail
      refine (readVar_any _ _ (by omega)).mono ?_
      rintro e w' ⟨rfl, rfl⟩
      rw [HRVS.out]
      go_wp2_with fail
      have HX : Hid ((⟨(varl [n]).toArray⟩ : ByteArray) = R.extract 0 q) := by
        rw [Lib.extract_eq, varl_one, HROW.out]; rfl
      have hi0 : (0 : Int) ≤ (q : Int) := by omega
      have hi1 : (1 : Int) ≤ (q : Int) := by omega
      have hi2 : (q : Int) ≤ (R.size : Int) := by omega
      have hd1 : decide ((1 : Int) ≤ (q : Int)) = true := by simp; omega
      have hd2 : decide (q ≤ R.size) = true := by simp; omega
      have hd3 : decide ((q : Int) ≤ (R.size : Int)) = true := by simp; omega
      go_region_held3 (fun _ => True) (trivial) (first | (go_at_call 10; refine (var_any _ [n] _ (SeesU.drew (sees_one _ n _)) HG.out (by simp)).mono ?_; rintro e w5 ⟨rfl, hb5⟩; rw [HX.out]) | (go_at_call 15; refine (awake_any _).mono ?_; rintro e w6 ⟨rfl, hb6⟩))
      go_wp2
      go_ret
      exact ⟨rfl, Below.next (Below.next (Below.next_alloc HB1.out _).drew hb5) hb6⟩

set_option maxRecDepth 100000 in
set_option maxHeartbeats 4000000 in
theorem back_some_cut (ao : Option Addr) (len cap : Nat) (ns : List Nat) (S0 : ByteArray) (w : World) (hV : SeesU w (.slice ao len cap) ns)
    (hn : ∀ i, ns.getD i 0 < 18446744073709551616) (hl : len ≤ 200) (hS : 20000 < S0.size) (n q : Nat) (hrv : Nm.rv (S0.extract 0 20000).data.toList = some (n, q)) :
    Calls Try.prog 7 #[.slice ao len cap, .string S0] w (Gives (.bool true) w) := by
  obtain ⟨hlen, b, off, hcell⟩ := hV.get
  have HV := Lib.hid hV; have HC := Lib.hid hcell; have HN := Lib.hid hn; clear hV hcell hn
  have hvl := varl_length ns
  have hvl2 : (varl ns).length ≤ 1800 := by omega
  have hs : (S0.extract 0 20000).size ≤ 20000 := by rw [ByteArray.size_extract]; omega
  have hE := restB_end ns (S0.extract 0 20000)
  have HR0 : Hid ((⟨(varl ns).toArray⟩ : ByteArray) ++ (S0.extract 0 20000) = restB ns (S0.extract 0 20000) 0) := by
    apply ByteArray.ext
    rw [ByteArray.data_append]
    unfold restB
    simp
  rw [hlen] at hE
  have HE := Lib.hid hE; clear hE
  have HLEN := Lib.hid hlen; clear hlen hvl
  have HRVS := Lib.hid (rvV_some hrv)
  obtain ⟨hq1, hq2, hrow, hn64⟩ := Nm.row_rv hrv
  rw [length_list] at hq2
  have HROW := Lib.hid hrow; have HG := Lib.hid (getD_one hn64); clear hrv hrow hn64
  go_enter Try.func7, Try.ntmps7
  go_wp2_with fail
  generalize S0.extract 0 20000 = s at *
  refine (var_any _ ns _ HV.out HN.out (by rw [HLEN.out]; omega)).mono ?_
  rintro e w1 ⟨rfl, hb1⟩
  have hA1 : ¬ 9223372036854775807 < (varl ns).length + s.size := by omega
  go_wp2_with fail
  have HB1 := Lib.hid hb1; clear hb1
  clear hA1 hvl2
  go_loop [5, 6] (fun r i => ∃ (k : Nat) (R : ByteArray), k ≤ len ∧ i = .int .i64 k ∧ r = .string R ∧ R = restB ns s k) (fun _ i => len - (intOf i).toNat)
  case atStart => exact ⟨0, _, Nat.zero_le _, rfl, rfl, HR0.out⟩
  case round =>
    obtain ⟨k, R, hk, rfl, rfl, hR⟩ := hrel
    by_cases hlt : k < len
    · obtain ⟨rfl, hbl, hcl⟩ := HC.out k hlt
      have hcell : w1.cell? ⟨b, off + k, none⟩ = some (.int .u64 (ns.getD k 0 : Nat)) := (HB1.out.cell (p := ⟨b, off + k, none⟩) hbl).trans hcl
      have hk' : k < ns.length := by rw [HLEN.out]; exact hlt
      have HRV : Hid (rvV R.data.toList = .tuple #[.int .u64 (ns.getD k 0 : Nat), .int .i64 (Nm.row (ns.getD k 0)).length, .bool true]) := by rw [hR]; exact restB_rv ns s k hk' (HN.out k)
      have HNX : Hid (R.extract (Nm.row (ns.getD k 0)).length R.size = restB ns s (k + 1)) := by rw [hR]; exact restB_next ns s k hk'
      have hr1 := (Nm.row_length (ns.getD k 0)).1
      have hr2 : (Nm.row (ns.getD k 0)).length ≤ R.size := by rw [hR]; exact restB_len ns s k hk'
      have hRs : R.size ≤ 30000 := by have h1 := restB_size ns s k; have h2 := HLEN.out; rw [hR]; omega
      clear hR hk' hcl
      generalize ns.getD k 0 = x at *
      generalize (Nm.row x).length = r at *
      go_wp2_with fail
      refine (readVar_any _ _ (by omega)).mono ?_
      rintro e w' ⟨rfl, rfl⟩
      rw [HRV.out]
      go_wp2_with fail
      go_round
      case rel => exact ⟨k + 1, _, by omega, by go_num, rfl, HNX.out⟩
      case measure => simp [intOf]; omega
    · obtain rfl : k = len := by omega
      obtain rfl : R = s := hR.trans HE.out
      clear hR
      go_wp2_with fail
      refine (readVar_any _ _ (by omega)).mono ?_
      rintro e w' ⟨rfl, rfl⟩
      rw [HRVS.out]
      go_wp2_with fail
      have HX : Hid ((⟨(varl [n]).toArray⟩ : ByteArray) = R.extract 0 q) := by
        rw [Lib.extract_eq, varl_one, HROW.out]; rfl
      have hi0 : (0 : Int) ≤ (q : Int) := by omega
      have hi1 : (1 : Int) ≤ (q : Int) := by omega
      have hi2 : (q : Int) ≤ (R.size : Int) := by omega
      have hd1 : decide ((1 : Int) ≤ (q : Int)) = true := by simp; omega
      have hd2 : decide (q ≤ R.size) = true := by simp; omega
      have hd3 : decide ((q : Int) ≤ (R.size : Int)) = true := by simp; omega
      go_region_held3 (fun _ => True) (trivial) (first | (go_at_call 10; refine (var_any _ [n] _ (SeesU.drew (sees_one _ n _)) HG.out (by simp)).mono ?_; rintro e w5 ⟨rfl, hb5⟩; rw [HX.out]) | (go_at_call 15; refine (awake_any _).mono ?_; rintro e w6 ⟨rfl, hb6⟩))
      go_wp2
      go_ret
      exact ⟨rfl, Below.next (Below.next (Below.next_alloc HB1.out _).drew hb5) hb6⟩

theorem back_walk (ao : Option Addr) (len cap : Nat) (ns : List Nat) (s : ByteArray) (w : World) (hV : SeesU w (.slice ao len cap) ns) (_he : ns.length = len) (hn : ∀ i, ns.getD i 0 < 18446744073709551616) (_hs : s.size ≤ 9223372036854775807) :
    Calls Try.prog 7 #[.slice ao len cap, .string s] w (Gives (.bool true) w) := by
  by_cases hl : 200 < len
  · exact back_great ao len cap s w hl
  · by_cases hs : 20000 < s.size
    · cases h : Nm.rv (s.extract 0 20000).data.toList with
      | none => exact back_none_cut ao len cap ns s w hV hn (by omega) hs h
      | some p => obtain ⟨n, q⟩ := p; exact back_some_cut ao len cap ns s w hV hn (by omega) hs n q h
    · cases h : Nm.rv s.data.toList with
      | none => exact back_none ao len cap ns s w hV hn (by omega) (by omega) h
      | some p => obtain ⟨n, q⟩ := p; exact back_some ao len cap ns s w hV hn (by omega) (by omega) n q h

end Go.Proofs.Ytledehjgaencmaa

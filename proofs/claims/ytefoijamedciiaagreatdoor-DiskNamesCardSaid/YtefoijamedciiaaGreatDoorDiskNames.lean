/- The walk of DiskNames. -/
import Derived.Test.YtefoijamedciiaaGreatDoorNnQ
import Derived.Test.YtefoijamedciiaaGreatDoorDkP
import Derived.Test.YtefoijamedciiaaGreatDoorNnLaid
namespace Go.Proofs.YtefoijamedciiaaGreatDoor
open Go.RowKit Go.Sort
set_option linter.unusedVariables false

theorem cut_string (s : ByteArray) (h : 200 < s.size) : ∃ t : ByteArray, t.size ≤ 200 ∧ ∀ w : World, (Instr.slice 9 (.string s) none (some (.int .i64 200)) none).run Tryz.prog w = .ok (.string t) w := by
  refine ⟨s.extract 0 200, by simp [ByteArray.size_extract]; omega, fun w => ?_⟩
  rw [run_slice_string_h w 9 s Tryz.underlying9 .i64 200 (by omega) (by omega)]
  rfl

set_option maxRecDepth 100000 in
set_option maxHeartbeats 2000000 in
theorem names_00 (wd s : ByteArray) (n : Nat) (w : World) (hn : n < 18446744073709551616) (hw : wd.size ≤ 200) (hs : s.size ≤ 200) (htab : Lib.TabBelow Tryz.prog w.heap.size w "internal/strconv.uint64pow10" .u64 Lib.pow10Tab)
    (e0 e1 : Value) (hv0 : w.cell? ⟨0, 0, none⟩ = some e0) (hv1 : w.cell? ⟨1, 0, none⟩ = some e1) (he0 : e0 = .nilIface ∨ ∃ te pe, e0 = .iface te pe) (he1 : e1 = .nilIface ∨ ∃ te pe, e1 = .iface te pe) :
    Calls Tryz.prog 4 #[.string wd, .string s, .int .u64 n] w (Gives (.bool true) w) := by
  have b0 : 0 < w.heap.size := World.block_lt_of_cell? w _ hv0
  have b1 : 1 < w.heap.size := World.block_lt_of_cell? w _ hv1
  have HNum := Lib.hid (fun (s : ByteArray) (hs : s.size ≤ 1000) W (hb : Below w.heap.size w W) => number_any wd s W (by omega) hs (fun W2 h2 => htab W2 (Below.next hb h2)) e0 e1 ((hb.cell (p := ⟨0, 0, none⟩) b0).trans hv0) ((hb.cell (p := ⟨1, 0, none⟩) b1).trans hv1) he0 he1)
  have HNam := Lib.hid (fun W (hb : Below w.heap.size w W) => name_any wd n W (by omega) hn (htab W hb))
  have HNR := Lib.hid (fun W => numberR_any wd s W (by omega) (by omega))
  obtain ⟨q, b, hqb⟩ : ∃ (q : Nat) (b : Bool), numV (Nn.num wd.data.toList s.data.toList) = .tuple #[.int .u64 q, .bool b] := by
    cases Nn.num wd.data.toList s.data.toList with
    | none => exact ⟨0, false, rfl⟩
    | some m => exact ⟨m, true, rfl⟩
  rw [Nn.numR_eq, hqb] at HNR
  have HN1 := Lib.hid (HNum.out s (by omega))
  rw [hqb] at HN1
  obtain ⟨T, hT⟩ : ∃ T : ByteArray, T = ⟨(Nn.name wd.data.toList n).toArray⟩ := ⟨_, rfl⟩
  have hTs : T.size ≤ 1000 := by
    rw [hT]
    show (Nn.name wd.data.toList n).length ≤ 1000
    have := (Nn.digs_length hn).2
    have e : wd.data.toList.length = wd.size := rfl
    rw [Nn.name, List.length_append, List.length_cons, e]
    omega
  have HN2 := Lib.hid (HNum.out T hTs)
  rw [show Nn.num wd.data.toList T.data.toList = some n from by rw [hT]; exact Nn.num_name _ hn] at HN2
  clear HNum hqb hTs
  have HMR := Lib.hid (fun W => nameR_any wd n W (by omega) hn)
  have g1 : ¬ (200 : Int) < wd.size := by omega
  have g2 : ¬ (200 : Int) < s.size := by omega
  rw [← hT] at HNam HMR
  clear hT
  clear htab hv0 hv1 he0 he1 b0 b1
  go_enter Tryz.func4, Tryz.ntmps4
  go_wp2_with fail
  refine (HN1.out _ (Below.refl _ _)).mono ?_
  rintro e w1 ⟨rfl, hb1⟩
  have HB1 := Lib.hid hb1
  clear hb1
  go_wp2_with fail
  refine (HNR.out _).mono ?_
  rintro e w2 ⟨rfl, hb2⟩
  have HB2 := Lib.hid (Below.next HB1.out hb2)
  clear hb2
  go_wp2_with fail
  refine (HNam.out _ HB2.out).mono ?_
  rintro e w3 ⟨rfl, hb3⟩
  have HB3 := Lib.hid (Below.next HB2.out hb3)
  clear hb3
  go_wp2_with fail
  refine (HN2.out _ HB3.out).mono ?_
  rintro e w4 ⟨rfl, hb4⟩
  have HB4 := Lib.hid (Below.next HB3.out hb4)
  clear hb4 HN1 HNR HNam HN2
  simp only [numV]
  go_wp2_with fail
  refine (HMR.out _).mono ?_
  rintro e w5 ⟨rfl, hb5⟩
  have HB5 := Lib.hid (Below.next HB4.out hb5)
  clear hb5 HMR
  go_wp2_with fail
  refine (awake_any _).mono ?_
  rintro e w6 ⟨rfl, hb6⟩
  have HB6 := Lib.hid (Below.next HB5.out hb6)
  clear hb6
  go_wp2_with fail
  go_ret
  exact ⟨rfl, HB6.out⟩

set_option maxRecDepth 100000 in
set_option maxHeartbeats 2000000 in
theorem names_01 (wd s : ByteArray) (SD : ByteArray) (gs : 200 < SD.size) (hcs : ∀ w : World, (Instr.slice 9 (.string SD) none (some (.int .i64 200)) none).run Tryz.prog w = .ok (.string s) w) (n : Nat) (w : World) (hn : n < 18446744073709551616) (hw : wd.size ≤ 200) (hs : s.size ≤ 200) (htab : Lib.TabBelow Tryz.prog w.heap.size w "internal/strconv.uint64pow10" .u64 Lib.pow10Tab)
    (e0 e1 : Value) (hv0 : w.cell? ⟨0, 0, none⟩ = some e0) (hv1 : w.cell? ⟨1, 0, none⟩ = some e1) (he0 : e0 = .nilIface ∨ ∃ te pe, e0 = .iface te pe) (he1 : e1 = .nilIface ∨ ∃ te pe, e1 = .iface te pe) :
    Calls Tryz.prog 4 #[.string wd, .string SD, .int .u64 n] w (Gives (.bool true) w) := by
  have b0 : 0 < w.heap.size := World.block_lt_of_cell? w _ hv0
  have b1 : 1 < w.heap.size := World.block_lt_of_cell? w _ hv1
  have HNum := Lib.hid (fun (s : ByteArray) (hs : s.size ≤ 1000) W (hb : Below w.heap.size w W) => number_any wd s W (by omega) hs (fun W2 h2 => htab W2 (Below.next hb h2)) e0 e1 ((hb.cell (p := ⟨0, 0, none⟩) b0).trans hv0) ((hb.cell (p := ⟨1, 0, none⟩) b1).trans hv1) he0 he1)
  have HNam := Lib.hid (fun W (hb : Below w.heap.size w W) => name_any wd n W (by omega) hn (htab W hb))
  have HNR := Lib.hid (fun W => numberR_any wd s W (by omega) (by omega))
  obtain ⟨q, b, hqb⟩ : ∃ (q : Nat) (b : Bool), numV (Nn.num wd.data.toList s.data.toList) = .tuple #[.int .u64 q, .bool b] := by
    cases Nn.num wd.data.toList s.data.toList with
    | none => exact ⟨0, false, rfl⟩
    | some m => exact ⟨m, true, rfl⟩
  rw [Nn.numR_eq, hqb] at HNR
  have HN1 := Lib.hid (HNum.out s (by omega))
  rw [hqb] at HN1
  obtain ⟨T, hT⟩ : ∃ T : ByteArray, T = ⟨(Nn.name wd.data.toList n).toArray⟩ := ⟨_, rfl⟩
  have hTs : T.size ≤ 1000 := by
    rw [hT]
    show (Nn.name wd.data.toList n).length ≤ 1000
    have := (Nn.digs_length hn).2
    have e : wd.data.toList.length = wd.size := rfl
    rw [Nn.name, List.length_append, List.length_cons, e]
    omega
  have HN2 := Lib.hid (HNum.out T hTs)
  rw [show Nn.num wd.data.toList T.data.toList = some n from by rw [hT]; exact Nn.num_name _ hn] at HN2
  clear HNum hqb hTs
  have HMR := Lib.hid (fun W => nameR_any wd n W (by omega) hn)
  have g1 : ¬ (200 : Int) < wd.size := by omega
  have g2 : (200 : Int) < SD.size := by omega
  rw [← hT] at HNam HMR
  clear hT
  clear htab hv0 hv1 he0 he1 b0 b1
  go_enter Tryz.func4, Tryz.ntmps4
  go_wp2_with fail
  refine (HN1.out _ (Below.refl _ _)).mono ?_
  rintro e w1 ⟨rfl, hb1⟩
  have HB1 := Lib.hid hb1
  clear hb1
  go_wp2_with fail
  refine (HNR.out _).mono ?_
  rintro e w2 ⟨rfl, hb2⟩
  have HB2 := Lib.hid (Below.next HB1.out hb2)
  clear hb2
  go_wp2_with fail
  refine (HNam.out _ HB2.out).mono ?_
  rintro e w3 ⟨rfl, hb3⟩
  have HB3 := Lib.hid (Below.next HB2.out hb3)
  clear hb3
  go_wp2_with fail
  refine (HN2.out _ HB3.out).mono ?_
  rintro e w4 ⟨rfl, hb4⟩
  have HB4 := Lib.hid (Below.next HB3.out hb4)
  clear hb4 HN1 HNR HNam HN2
  simp only [numV]
  go_wp2_with fail
  refine (HMR.out _).mono ?_
  rintro e w5 ⟨rfl, hb5⟩
  have HB5 := Lib.hid (Below.next HB4.out hb5)
  clear hb5 HMR
  go_wp2_with fail
  refine (awake_any _).mono ?_
  rintro e w6 ⟨rfl, hb6⟩
  have HB6 := Lib.hid (Below.next HB5.out hb6)
  clear hb6
  go_wp2_with fail
  go_ret
  exact ⟨rfl, HB6.out⟩

set_option maxRecDepth 100000 in
set_option maxHeartbeats 2000000 in
theorem names_10 (wd s : ByteArray) (WD : ByteArray) (gw : 200 < WD.size) (hcw : ∀ w : World, (Instr.slice 9 (.string WD) none (some (.int .i64 200)) none).run Tryz.prog w = .ok (.string wd) w) (n : Nat) (w : World) (hn : n < 18446744073709551616) (hw : wd.size ≤ 200) (hs : s.size ≤ 200) (htab : Lib.TabBelow Tryz.prog w.heap.size w "internal/strconv.uint64pow10" .u64 Lib.pow10Tab)
    (e0 e1 : Value) (hv0 : w.cell? ⟨0, 0, none⟩ = some e0) (hv1 : w.cell? ⟨1, 0, none⟩ = some e1) (he0 : e0 = .nilIface ∨ ∃ te pe, e0 = .iface te pe) (he1 : e1 = .nilIface ∨ ∃ te pe, e1 = .iface te pe) :
    Calls Tryz.prog 4 #[.string WD, .string s, .int .u64 n] w (Gives (.bool true) w) := by
  have b0 : 0 < w.heap.size := World.block_lt_of_cell? w _ hv0
  have b1 : 1 < w.heap.size := World.block_lt_of_cell? w _ hv1
  have HNum := Lib.hid (fun (s : ByteArray) (hs : s.size ≤ 1000) W (hb : Below w.heap.size w W) => number_any wd s W (by omega) hs (fun W2 h2 => htab W2 (Below.next hb h2)) e0 e1 ((hb.cell (p := ⟨0, 0, none⟩) b0).trans hv0) ((hb.cell (p := ⟨1, 0, none⟩) b1).trans hv1) he0 he1)
  have HNam := Lib.hid (fun W (hb : Below w.heap.size w W) => name_any wd n W (by omega) hn (htab W hb))
  have HNR := Lib.hid (fun W => numberR_any wd s W (by omega) (by omega))
  obtain ⟨q, b, hqb⟩ : ∃ (q : Nat) (b : Bool), numV (Nn.num wd.data.toList s.data.toList) = .tuple #[.int .u64 q, .bool b] := by
    cases Nn.num wd.data.toList s.data.toList with
    | none => exact ⟨0, false, rfl⟩
    | some m => exact ⟨m, true, rfl⟩
  rw [Nn.numR_eq, hqb] at HNR
  have HN1 := Lib.hid (HNum.out s (by omega))
  rw [hqb] at HN1
  obtain ⟨T, hT⟩ : ∃ T : ByteArray, T = ⟨(Nn.name wd.data.toList n).toArray⟩ := ⟨_, rfl⟩
  have hTs : T.size ≤ 1000 := by
    rw [hT]
    show (Nn.name wd.data.toList n).length ≤ 1000
    have := (Nn.digs_length hn).2
    have e : wd.data.toList.length = wd.size := rfl
    rw [Nn.name, List.length_append, List.length_cons, e]
    omega
  have HN2 := Lib.hid (HNum.out T hTs)
  rw [show Nn.num wd.data.toList T.data.toList = some n from by rw [hT]; exact Nn.num_name _ hn] at HN2
  clear HNum hqb hTs
  have HMR := Lib.hid (fun W => nameR_any wd n W (by omega) hn)
  have g1 : (200 : Int) < WD.size := by omega
  have g2 : ¬ (200 : Int) < s.size := by omega
  rw [← hT] at HNam HMR
  clear hT
  clear htab hv0 hv1 he0 he1 b0 b1
  go_enter Tryz.func4, Tryz.ntmps4
  go_wp2_with fail
  refine (HN1.out _ (Below.refl _ _)).mono ?_
  rintro e w1 ⟨rfl, hb1⟩
  have HB1 := Lib.hid hb1
  clear hb1
  go_wp2_with fail
  refine (HNR.out _).mono ?_
  rintro e w2 ⟨rfl, hb2⟩
  have HB2 := Lib.hid (Below.next HB1.out hb2)
  clear hb2
  go_wp2_with fail
  refine (HNam.out _ HB2.out).mono ?_
  rintro e w3 ⟨rfl, hb3⟩
  have HB3 := Lib.hid (Below.next HB2.out hb3)
  clear hb3
  go_wp2_with fail
  refine (HN2.out _ HB3.out).mono ?_
  rintro e w4 ⟨rfl, hb4⟩
  have HB4 := Lib.hid (Below.next HB3.out hb4)
  clear hb4 HN1 HNR HNam HN2
  simp only [numV]
  go_wp2_with fail
  refine (HMR.out _).mono ?_
  rintro e w5 ⟨rfl, hb5⟩
  have HB5 := Lib.hid (Below.next HB4.out hb5)
  clear hb5 HMR
  go_wp2_with fail
  refine (awake_any _).mono ?_
  rintro e w6 ⟨rfl, hb6⟩
  have HB6 := Lib.hid (Below.next HB5.out hb6)
  clear hb6
  go_wp2_with fail
  go_ret
  exact ⟨rfl, HB6.out⟩

set_option maxRecDepth 100000 in
set_option maxHeartbeats 2000000 in
theorem names_11 (wd s : ByteArray) (WD : ByteArray) (gw : 200 < WD.size) (hcw : ∀ w : World, (Instr.slice 9 (.string WD) none (some (.int .i64 200)) none).run Tryz.prog w = .ok (.string wd) w) (SD : ByteArray) (gs : 200 < SD.size) (hcs : ∀ w : World, (Instr.slice 9 (.string SD) none (some (.int .i64 200)) none).run Tryz.prog w = .ok (.string s) w) (n : Nat) (w : World) (hn : n < 18446744073709551616) (hw : wd.size ≤ 200) (hs : s.size ≤ 200) (htab : Lib.TabBelow Tryz.prog w.heap.size w "internal/strconv.uint64pow10" .u64 Lib.pow10Tab)
    (e0 e1 : Value) (hv0 : w.cell? ⟨0, 0, none⟩ = some e0) (hv1 : w.cell? ⟨1, 0, none⟩ = some e1) (he0 : e0 = .nilIface ∨ ∃ te pe, e0 = .iface te pe) (he1 : e1 = .nilIface ∨ ∃ te pe, e1 = .iface te pe) :
    Calls Tryz.prog 4 #[.string WD, .string SD, .int .u64 n] w (Gives (.bool true) w) := by
  have b0 : 0 < w.heap.size := World.block_lt_of_cell? w _ hv0
  have b1 : 1 < w.heap.size := World.block_lt_of_cell? w _ hv1
  have HNum := Lib.hid (fun (s : ByteArray) (hs : s.size ≤ 1000) W (hb : Below w.heap.size w W) => number_any wd s W (by omega) hs (fun W2 h2 => htab W2 (Below.next hb h2)) e0 e1 ((hb.cell (p := ⟨0, 0, none⟩) b0).trans hv0) ((hb.cell (p := ⟨1, 0, none⟩) b1).trans hv1) he0 he1)
  have HNam := Lib.hid (fun W (hb : Below w.heap.size w W) => name_any wd n W (by omega) hn (htab W hb))
  have HNR := Lib.hid (fun W => numberR_any wd s W (by omega) (by omega))
  obtain ⟨q, b, hqb⟩ : ∃ (q : Nat) (b : Bool), numV (Nn.num wd.data.toList s.data.toList) = .tuple #[.int .u64 q, .bool b] := by
    cases Nn.num wd.data.toList s.data.toList with
    | none => exact ⟨0, false, rfl⟩
    | some m => exact ⟨m, true, rfl⟩
  rw [Nn.numR_eq, hqb] at HNR
  have HN1 := Lib.hid (HNum.out s (by omega))
  rw [hqb] at HN1
  obtain ⟨T, hT⟩ : ∃ T : ByteArray, T = ⟨(Nn.name wd.data.toList n).toArray⟩ := ⟨_, rfl⟩
  have hTs : T.size ≤ 1000 := by
    rw [hT]
    show (Nn.name wd.data.toList n).length ≤ 1000
    have := (Nn.digs_length hn).2
    have e : wd.data.toList.length = wd.size := rfl
    rw [Nn.name, List.length_append, List.length_cons, e]
    omega
  have HN2 := Lib.hid (HNum.out T hTs)
  rw [show Nn.num wd.data.toList T.data.toList = some n from by rw [hT]; exact Nn.num_name _ hn] at HN2
  clear HNum hqb hTs
  have HMR := Lib.hid (fun W => nameR_any wd n W (by omega) hn)
  have g1 : (200 : Int) < WD.size := by omega
  have g2 : (200 : Int) < SD.size := by omega
  rw [← hT] at HNam HMR
  clear hT
  clear htab hv0 hv1 he0 he1 b0 b1
  go_enter Tryz.func4, Tryz.ntmps4
  go_wp2_with fail
  refine (HN1.out _ (Below.refl _ _)).mono ?_
  rintro e w1 ⟨rfl, hb1⟩
  have HB1 := Lib.hid hb1
  clear hb1
  go_wp2_with fail
  refine (HNR.out _).mono ?_
  rintro e w2 ⟨rfl, hb2⟩
  have HB2 := Lib.hid (Below.next HB1.out hb2)
  clear hb2
  go_wp2_with fail
  refine (HNam.out _ HB2.out).mono ?_
  rintro e w3 ⟨rfl, hb3⟩
  have HB3 := Lib.hid (Below.next HB2.out hb3)
  clear hb3
  go_wp2_with fail
  refine (HN2.out _ HB3.out).mono ?_
  rintro e w4 ⟨rfl, hb4⟩
  have HB4 := Lib.hid (Below.next HB3.out hb4)
  clear hb4 HN1 HNR HNam HN2
  simp only [numV]
  go_wp2_with fail
  refine (HMR.out _).mono ?_
  rintro e w5 ⟨rfl, hb5⟩
  have HB5 := Lib.hid (Below.next HB4.out hb5)
  clear hb5 HMR
  go_wp2_with fail
  refine (awake_any _).mono ?_
  rintro e w6 ⟨rfl, hb6⟩
  have HB6 := Lib.hid (Below.next HB5.out hb6)
  clear hb6
  go_wp2_with fail
  go_ret
  exact ⟨rfl, HB6.out⟩

theorem names_walk (WD SD : ByteArray) (n : Nat) (w : World) (hn : n < 18446744073709551616) (htab : Lib.TabBelow Tryz.prog w.heap.size w "internal/strconv.uint64pow10" .u64 Lib.pow10Tab)
    (e0 e1 : Value) (hv0 : w.cell? ⟨0, 0, none⟩ = some e0) (hv1 : w.cell? ⟨1, 0, none⟩ = some e1) (he0 : e0 = .nilIface ∨ ∃ te pe, e0 = .iface te pe) (he1 : e1 = .nilIface ∨ ∃ te pe, e1 = .iface te pe) :
    Calls Tryz.prog 4 #[.string WD, .string SD, .int .u64 n] w (Gives (.bool true) w) := by
  by_cases hw : WD.size ≤ 200
  · by_cases hs : SD.size ≤ 200
    · exact names_00 WD SD n w hn hw hs htab e0 e1 hv0 hv1 he0 he1
    · obtain ⟨s, h1, h2⟩ := cut_string SD (by omega)
      exact names_01 WD s SD (by omega) h2 n w hn hw h1 htab e0 e1 hv0 hv1 he0 he1
  · obtain ⟨wd, h3, h4⟩ := cut_string WD (by omega)
    by_cases hs : SD.size ≤ 200
    · exact names_10 wd SD WD (by omega) h4 n w hn h3 hs htab e0 e1 hv0 hv1 he0 he1
    · obtain ⟨s, h1, h2⟩ := cut_string SD (by omega)
      exact names_11 wd s WD (by omega) h4 SD (by omega) h2 n w hn h3 h1 htab e0 e1 hv0 hv1 he0 he1

/-- As the card's frame asks it. -/
theorem names_card (WD SD : ByteArray) (n : Int) (w : World) (h : Numbers w) (_ : WD.size ≤ 9223372036854775807) (_ : SD.size ≤ 9223372036854775807) (hn : 0 ≤ n ∧ n ≤ 18446744073709551615) :
    Calls Tryz.prog 4 #[.string WD, .string SD, .int .u64 n] w (Gives (.bool true) w) := by
  obtain ⟨h1, ⟨e0, v0, k0⟩, e1, v1, k1⟩ := h
  obtain ⟨k, rfl⟩ := Int.eq_ofNat_of_zero_le hn.1
  exact names_walk WD SD k w (by omega) h1 e0 e1 v0 v1 k0 k1

end Go.Proofs.YtefoijamedciiaaGreatDoor

/- The walk of BatchBack. -/
import Derived.Test.YtohfjibhfbcanaaBtCmp
import Derived.Test.YtohfjibhfbcanaaBtArgs
import Derived.Deep.RegionHeld3
namespace Go.Proofs.Ytohfjibhfbcanaa
open Go.RowKit
set_option linter.unusedVariables false
set_option linter.unusedSimpArgs false

set_option maxHeartbeats 1000000 in
theorem back_great (seq : Nat) (ao : Option Addr) (len cap : Nat) (ops : List Ob) (c : Int) (u : ByteArray) (w : World) (hS : SeesO w (.slice ao len cap) ops) (hg : greatO ops = true) :
    Calls Try.prog 6 #[batV seq ao len cap, .int .u16 c, .string u] w (Gives (.bool true) w) := by
  have HB : Hid (Below w.heap.size w (w.alloc (.cells #[Value.int IntKind.u64 ↑seq, Value.slice ao len cap] 27))) := Lib.hid ((Below.refl _ _).alloc (Nat.le_refl _) _)
  have HG : Hid (∀ W, Below w.heap.size w W → Calls Try.prog 16 #[.agg #[.int .u64 seq, .slice ao len cap]] W (Gives (.bool true) W)) := Lib.hid (fun W hb => by
    have h := great_any seq ao len cap ops W (hS.below hb)
    rw [hg] at h
    exact h)
  clear hS hg
  unfold batV
  go_enter Try.func6, Try.ntmps6
  go_wp2_with fail
  refine (HG.out _ HB.out).mono ?_
  rintro e w1 ⟨rfl, hb1⟩
  have HB1 := Lib.hid (Below.next HB.out hb1)
  clear hb1
  go_wp2_with fail
  refine (awake_any _).mono ?_
  rintro e w2 ⟨rfl, hb2⟩
  have HB2 := Lib.hid (Below.next HB1.out hb2)
  go_wp2_with fail
  go_ret
  exact ⟨rfl, HB2.out⟩

set_option maxHeartbeats 1000000 in
theorem back_long (seq : Nat) (ao : Option Addr) (len cap : Nat) (ops : List Ob) (c : Int) (u : ByteArray) (w : World) (hS : SeesO w (.slice ao len cap) ops) (hg : greatO ops = false) (hu : 100 < u.size) :
    Calls Try.prog 6 #[batV seq ao len cap, .int .u16 c, .string u] w (Gives (.bool true) w) := by
  have HB : Hid (Below w.heap.size w (w.alloc (.cells #[Value.int IntKind.u64 ↑seq, Value.slice ao len cap] 27))) := Lib.hid ((Below.refl _ _).alloc (Nat.le_refl _) _)
  have HG : Hid (∀ W, Below w.heap.size w W → Calls Try.prog 16 #[.agg #[.int .u64 seq, .slice ao len cap]] W (Gives (.bool false) W)) := Lib.hid (fun W hb => by
    have h := great_any seq ao len cap ops W (hS.below hb)
    rw [hg] at h
    exact h)
  clear hS hg
  unfold batV
  go_enter Try.func6, Try.ntmps6
  go_wp2_with fail
  refine (HG.out _ HB.out).mono ?_
  rintro e w1 ⟨rfl, hb1⟩
  have HB1 := Lib.hid (Below.next HB.out hb1)
  clear hb1
  go_wp2_with fail
  refine (awake_any _).mono ?_
  rintro e w2 ⟨rfl, hb2⟩
  have HB2 := Lib.hid (Below.next HB1.out hb2)
  go_wp2_with fail
  go_ret
  exact ⟨rfl, HB2.out⟩

set_option maxHeartbeats 4000000 in
theorem back_no (seq : Nat) (ao : Option Addr) (len cap : Nat) (ops : List Ob) (c : Int) (u : ByteArray) (w : World) (hS : SeesO w (.slice ao len cap) ops) (hs : seq < 18446744073709551616) (hg : greatO ops = false) (hu : u.size ≤ 100) (hk : Bt.chk seq ops ≠ 0) :
    Calls Try.prog 6 #[batV seq ao len cap, .int .u16 c, .string u] w (Gives (.bool true) w) := by
  have HB : Hid (Below w.heap.size w (w.alloc (.cells #[Value.int IntKind.u64 ↑seq, Value.slice ao len cap] 27))) := Lib.hid ((Below.refl _ _).alloc (Nat.le_refl _) _)
  have HG : Hid (∀ W, Below w.heap.size w W → Calls Try.prog 16 #[.agg #[.int .u64 seq, .slice ao len cap]] W (Gives (.bool false) W)) := Lib.hid (fun W hb => by
    have h := great_any seq ao len cap ops W (hS.below hb)
    rw [hg] at h
    exact h)
  obtain ⟨C, hC⟩ : ∃ C : Int, C = (Bt.chk seq ops : Nat) := ⟨_, rfl⟩
  have HE : Hid (∀ W, Below w.heap.size w W → Calls Try.prog 9 #[.agg #[.int .u64 seq, .slice ao len cap]] W (fun x W' => x = .returned (.tuple #[.string ⟨#[]⟩, .int .i64 C]) ∧ Below W.heap.size W W')) := Lib.hid (fun W hb => by
    have h := encode_no seq ao len cap ops W (hS.below hb) hs hk
    unfold Told at h
    rw [← hC] at h
    exact h)
  have HC : Hid (∀ W, Below w.heap.size w W → Calls Try.prog 10 #[.agg #[.int .u64 seq, .slice ao len cap]] W (Gives (.int .i64 C) W)) := Lib.hid (fun W hb => by
    have h := check_any seq ao len cap ops W (hS.below hb) hs
    rw [← hC] at h
    exact h)
  have HU : Hid (u.size ≤ 100) := Lib.hid hu
  have hkb : C ≠ 0 := by omega
  have hui : ¬ (100 : Int) < u.size := by omega
  have hkb2 : (C != 0) = true := by rw [bne_iff_ne]; exact hkb
  clear hS hg hk hC hkb
  unfold batV
  go_enter Try.func6, Try.ntmps6
  go_wp2_with fail
  refine (HG.out _ HB.out).mono ?_
  rintro e w1 ⟨rfl, hb1⟩
  have HB1 := Lib.hid (Below.next HB.out hb1)
  have hq1 : ∀ o, w1.cell? ⟨w.heap.size, o, none⟩ = (w.alloc (.cells #[Value.int IntKind.u64 ↑seq, Value.slice ao len cap] 27)).cell? ⟨w.heap.size, o, none⟩ := fun o => hb1.cell (p := ⟨w.heap.size, o, none⟩) (by simp)
  have hz1 : w.heap.size < w1.heap.size := by have := hb1.size; simp at this; omega
  clear hb1
  go_wp2_with fail
  refine (HE.out _ HB1.out).mono ?_
  rintro e w2 ⟨rfl, hb2⟩
  have HB2 := Lib.hid (Below.next HB1.out hb2)
  have hd0 : w2.cell? ⟨w.heap.size, 0, none⟩ = some (.int .u64 seq) := (hb2.cell (p := ⟨w.heap.size, 0, none⟩) hz1).trans ((hq1 0).trans (by rw [World.cell?_alloc_new]; rfl))
  have hd1 : w2.cell? ⟨w.heap.size, 1, none⟩ = some (.slice ao len cap) := (hb2.cell (p := ⟨w.heap.size, 1, none⟩) hz1).trans ((hq1 1).trans (by rw [World.cell?_alloc_new]; rfl))
  have hz2 : w.heap.size < w2.heap.size := by have := hb2.size; omega
  clear hb2 hq1
  go_wp2_with fail
  refine (HC.out _ HB2.out).mono ?_
  rintro e w3 ⟨rfl, hb3⟩
  have HB3 := Lib.hid (Below.next HB2.out hb3)
  clear hb3
  go_wp2_with fail
  refine (awake_any _).mono ?_
  rintro e w4 ⟨rfl, hb4⟩
  have HB4 := Lib.hid (Below.next HB3.out hb4)
  clear hb4
  go_wp2_with fail
  go_ret
  exact ⟨rfl, HB4.out⟩

set_option maxHeartbeats 4000000 in
theorem back_yes (seq : Nat) (ao : Option Addr) (len cap : Nat) (ops : List Ob) (c : Int) (u : ByteArray) (w : World) (hS : SeesO w (.slice ao len cap) ops) (hs : seq < 18446744073709551616) (hg : greatO ops = false) (hu : u.size ≤ 100) (hc0 : 0 ≤ c) (hc1 : c ≤ 65535) (hk : Bt.chk seq ops = 0) :
    Calls Try.prog 6 #[batV seq ao len cap, .int .u16 c, .string u] w (Gives (.bool true) w) := by
  have HB : Hid (Below w.heap.size w (w.alloc (.cells #[Value.int IntKind.u64 ↑seq, Value.slice ao len cap] 27))) := Lib.hid ((Below.refl _ _).alloc (Nat.le_refl _) _)
  have HG : Hid (∀ W, Below w.heap.size w W → Calls Try.prog 16 #[.agg #[.int .u64 seq, .slice ao len cap]] W (Gives (.bool false) W)) := Lib.hid (fun W hb => by
    have h := great_any seq ao len cap ops W (hS.below hb)
    rw [hg] at h
    exact h)
  obtain ⟨S, hSd⟩ : ∃ S : ByteArray, S.data.toList = Bt.encl seq ops := ⟨⟨(Bt.encl seq ops).toArray⟩, rfl⟩
  have hlen := hS.get.1
  have hS1 : 1 ≤ S.size := by
    rw [← length_list, hSd]
    have := (Nm.row_length seq).1
    unfold Bt.encl
    rw [List.length_append]
    omega
  have hS2 : S.size ≤ 20000 := by
    rw [← length_list, hSd]
    have h1 := (Nm.row_length seq).2
    have h2 := (Nm.row_length ops.length).2
    obtain ⟨k1, k2, _⟩ := Bt.chk_ok hk
    have h3 := rows_length (ops := ops) (fun o ho => (k2 o ho).1)
    unfold Bt.encl
    rw [List.length_append, List.length_append]
    omega
  have HE : Hid (∀ W, Below w.heap.size w W → Calls Try.prog 9 #[.agg #[.int .u64 seq, .slice ao len cap]] W (fun x W' => x = .returned (.tuple #[.string S, .int .i64 0]) ∧ Below W.heap.size W W')) := Lib.hid (fun W hb => by
    have h := encode_yes seq ao len cap ops W (hS.below hb) hs hk
    unfold Told at h
    rw [mk_of hSd.symm] at h
    exact h)
  have HD : Hid (∀ W, Calls Try.prog 12 #[.string S] W (DecRead (some (seq, ops)) W)) := Lib.hid (fun W => by
    have h := decode_any S W (by omega)
    rw [hSd, Bt.decl_encl hk] at h
    exact h)
  have hS0 : (S.size : Int) ≠ 0 := by omega
  obtain ⟨K, hKm⟩ : ∃ K : Nat, (c % (S.size : Int)) = (K : Int) := ⟨(c % (S.size : Int)).toNat, by rw [Int.toNat_of_nonneg (Int.emod_nonneg _ hS0)]⟩
  have hKs : K < S.size := by have := Int.emod_lt_of_pos c (show (0 : Int) < S.size by omega); omega
  have HD2 : Hid (∀ W, Calls Try.prog 12 #[.string (S.extract 0 K)] W (DecRead none W)) := Lib.hid (fun W => by
    have h := decode_any (S.extract 0 K) W (by rw [ByteArray.size_extract]; omega)
    rw [Lib.extract_data, List.drop_zero, Nat.sub_zero, hSd, Bt.decl_cut hk K (by rw [← hSd, length_list]; exact hKs)] at h
    exact h)
  obtain ⟨M, hM⟩ : ∃ M : Bool, u.toList.isEmpty = M := ⟨_, rfl⟩
  have HD3 : Hid (∀ W, Calls Try.prog 12 #[.string (S ++ u)] W (fun e W' => Below W.heap.size W W' ∧ ∃ (n2 : Nat) (a2 : Option Addr) (l2 k2 : Nat), e = .returned (.tuple #[.agg #[.int .u64 n2, .slice a2 l2 k2], .bool M]))) := Lib.hid (fun W => by
    by_cases hu0 : u.size = 0
    · obtain rfl := empty_of_size hu0
      have e : M = true := hM.symm.trans (empty_yes rfl)
      subst e
      have h := decode_any S W (by omega)
      rw [hSd, Bt.decl_encl hk] at h
      have e2 : S ++ ByteArray.empty = S := by
        apply ByteArray.ext
        apply Array.toList_inj.1
        simp
      rw [e2]
      refine h.mono ?_
      rintro e W' ⟨hb, ⟨h, _⟩ | ⟨seq', os, a3, c3, h, rfl, hown⟩⟩
      · exact absurd h (by simp)
      · exact ⟨hb, _, _, _, _, rfl⟩
    · have e : M = false := by rw [← hM]; exact isEmpty_of_size (by omega)
      subst e
      have h := decode_any (S ++ u) W (by rw [ByteArray.size_append]; omega)
      have e3 : (S ++ u).data.toList = Bt.encl seq ops ++ u.data.toList := by rw [← hSd]; simp
      rw [e3, Bt.decl_more hk _ (fun h => hu0 (by rw [← length_list, h]; rfl))] at h
      refine h.mono ?_
      rintro e W' ⟨hb, ⟨_, rfl⟩ | ⟨seq', os, a3, c3, h, rfl, hown⟩⟩
      · exact ⟨hb, _, _, _, _, rfl⟩
      · exact absurd h (by simp))
  have hK0 : (0 : Int) ≤ (K : Int) := by omega
  have hK1 : (K : Int) ≤ (S.size : Int) := by omega
  have HADD : Hid (¬ 9223372036854775807 < S.size + u.size) := Lib.hid (by omega)
  have HU : Hid (u.size ≤ 100) := Lib.hid hu
  have hui : ¬ (100 : Int) < u.size := by omega
  have HSS := Lib.hid hS
  have HSD := Lib.hid hSd
  have HK := Lib.hid hk
  clear hS hg hk hSd
  unfold batV
  go_enter Try.func6, Try.ntmps6
  go_wp2_with fail
  refine (HG.out _ HB.out).mono ?_
  rintro e w1 ⟨rfl, hb1⟩
  have HB1 := Lib.hid (Below.next HB.out hb1)
  have hq1 : ∀ o, w1.cell? ⟨w.heap.size, o, none⟩ = (w.alloc (.cells #[Value.int IntKind.u64 ↑seq, Value.slice ao len cap] 27)).cell? ⟨w.heap.size, o, none⟩ := fun o => hb1.cell (p := ⟨w.heap.size, o, none⟩) (by simp)
  have hz1 : w.heap.size < w1.heap.size := by have := hb1.size; simp at this; omega
  clear hb1
  go_wp2_with fail
  refine (HE.out _ HB1.out).mono ?_
  rintro e w2 ⟨rfl, hb2⟩
  have HB2 := Lib.hid (Below.next HB1.out hb2)
  have hd0 : w2.cell? ⟨w.heap.size, 0, none⟩ = some (.int .u64 seq) := (hb2.cell (p := ⟨w.heap.size, 0, none⟩) hz1).trans ((hq1 0).trans (by rw [World.cell?_alloc_new]; rfl))
  have hd1 : w2.cell? ⟨w.heap.size, 1, none⟩ = some (.slice ao len cap) := (hb2.cell (p := ⟨w.heap.size, 1, none⟩) hz1).trans ((hq1 1).trans (by rw [World.cell?_alloc_new]; rfl))
  have hz2 : w.heap.size < w2.heap.size := by have := hb2.size; omega
  clear hb2 hq1
  go_wp2_with fail
  refine (HD.out _).mono ?_
  rintro e w3 ⟨hb3, hcase⟩
  rcases hcase with ⟨h, _⟩ | ⟨seq', os, a3, c3, h, rfl, hown⟩
  · exact absurd h (by simp)
  · obtain ⟨rfl, rfl⟩ : seq = seq' ∧ ops = os := by simpa using h
    rw [hlen] at hown ⊢
    have HO := Lib.hid hown.sees
    have HB3 := Lib.hid (Below.next HB2.out hb3)
    have hz3 : w.heap.size < w3.heap.size := by have := hb3.size; omega
    have he0 : w3.cell? ⟨w.heap.size, 0, none⟩ = some (.int .u64 seq) := (hb3.cell (p := ⟨w.heap.size, 0, none⟩) hz2).trans hd0
    have he1 : w3.cell? ⟨w.heap.size, 1, none⟩ = some (.slice ao len cap) := (hb3.cell (p := ⟨w.heap.size, 1, none⟩) hz2).trans hd1
    have hb30 := hb3.size
    clear hown h hb3 hd0 hd1
    unfold batV
    go_wp2_with fail
    refine (HD2.out _).mono ?_
    rintro e w4 ⟨hb4, hcase⟩
    clear hKm
    rcases hcase with ⟨_, rfl⟩ | ⟨seq', os, a4, c4, h, _, _⟩
    · have HB4 := Lib.hid (Below.next (Below.next_alloc HB3.out (.cells #[.int .u64 seq, .slice a3 len c3] 27)) hb4)
      have HW3 : Hid (Below w3.heap.size w3 w4) := Lib.hid (Below.next (Below.next_alloc (Below.refl _ _) (.cells #[.int .u64 seq, .slice a3 len c3] 27)) hb4)
      have hz4 : w3.heap.size < w4.heap.size := by have := hb4.size; simp at this; omega
      have hf0 : w4.cell? ⟨w3.heap.size, 0, none⟩ = some (.int .u64 seq) := (hb4.cell (p := ⟨w3.heap.size, 0, none⟩) (by simp)).trans (by rw [World.cell?_alloc_new]; rfl)
      have hf1 : w4.cell? ⟨w3.heap.size, 1, none⟩ = some (.slice a3 len c3) := (hb4.cell (p := ⟨w3.heap.size, 1, none⟩) (by simp)).trans (by rw [World.cell?_alloc_new]; rfl)
      clear hb4
      unfold batV
      have hadd := HADD.out
      go_wp2_with fail
      refine (HD3.out _).mono ?_
      rintro e w5 ⟨hb5, n5, a5, l5, k5, rfl⟩
      have hz5 : w4.heap.size ≤ w5.heap.size := by have := hb5.size; simp at this; omega
      have HB5 := Lib.hid (Below.next (Below.next_alloc HB4.out _) hb5)
      have HW5 := Lib.hid (Below.next (Below.next_alloc HW3.out _) hb5)
      have g0 : w5.cell? ⟨w3.heap.size, 0, none⟩ = some (.int .u64 seq) := (hb5.cell (p := ⟨w3.heap.size, 0, none⟩) (by simp; omega)).trans ((World.cell?_alloc_past _ _ _ hz4).trans hf0)
      have g1 : w5.cell? ⟨w3.heap.size, 1, none⟩ = some (.slice a3 len c3) := (hb5.cell (p := ⟨w3.heap.size, 1, none⟩) (by simp; omega)).trans ((World.cell?_alloc_past _ _ _ hz4).trans hf1)
      have k0 : w5.cell? ⟨w.heap.size, 0, none⟩ = some (.int .u64 seq) := (HW5.out.cell (p := ⟨w.heap.size, 0, none⟩) hz3).trans he0
      have k1 : w5.cell? ⟨w.heap.size, 1, none⟩ = some (.slice ao len cap) := (HW5.out.cell (p := ⟨w.heap.size, 1, none⟩) hz3).trans he1
      clear hb5 hf0 hf1 he0 he1 hadd
      go_wp2_with fail
      have HW50 : Hid (∀ o, Below w3.heap.size w3 (w5.alloc o).drew) := Lib.hid (fun o => (Below.next_alloc HW5.out o).drew)
      have HB50 : Hid (∀ o, Below w.heap.size w (w5.alloc o).drew) := Lib.hid (fun o => (Below.next_alloc HB5.out o).drew)
      have hz53 : w3.heap.size < w5.heap.size := by omega
      have G0 : ∀ o, (w5.alloc o).cell? ⟨w3.heap.size, 0, none⟩ = some (.int .u64 seq) := fun o => (World.cell?_alloc_past _ _ _ hz53).trans g0
      have G1 : ∀ o, (w5.alloc o).cell? ⟨w3.heap.size, 1, none⟩ = some (.slice a3 len c3) := fun o => (World.cell?_alloc_past _ _ _ hz53).trans g1
      have K0 : ∀ o, (w5.alloc o).cell? ⟨w.heap.size, 0, none⟩ = some (.int .u64 seq) := fun o => (World.cell?_alloc_past _ _ _ (by omega)).trans k0
      have K1 : ∀ o, (w5.alloc o).cell? ⟨w.heap.size, 1, none⟩ = some (.slice ao len cap) := fun o => (World.cell?_alloc_past _ _ _ (by omega)).trans k1
      have HGW : Hid (∀ W, Calls Try.prog 18 #[.agg #[.int .u64 seq, .slice a3 len c3]] W (Gives (.agg #[.int .u64 seq, .slice a3 len c3]) W)) := Lib.hid (fun W => given_any seq a3 len c3 W)
      have HGB : Hid (∀ W, Calls Try.prog 18 #[.agg #[.int .u64 seq, .slice ao len cap]] W (Gives (.agg #[.int .u64 seq, .slice ao len cap]) W)) := Lib.hid (fun W => given_any seq ao len cap W)
      have HSM : Hid (∀ W, Below w3.heap.size w3 W → Below w.heap.size w W → Calls Try.prog 22 #[.agg #[.int .u64 seq, .slice a3 len c3], .agg #[.int .u64 seq, .slice ao len cap]] W (Gives (.bool true) W)) := Lib.hid (fun W h3 h => same_yes seq a3 len c3 ao cap ops W (HO.out.below h3) (HSS.out.below h) (by have := (Bt.chk_ok HK.out).1; omega))
      clear g0 g1 k0 k1 hS0 hKs hb30 HD HD2 HD3 HE HG HSD
      cases M
      all_goals
        have g0 := G0 (.cells #[.int .u64 n5, .slice a5 l5 k5] 27)
        have g1 := G1 (.cells #[.int .u64 n5, .slice a5 l5 k5] 27)
        have k0 := K0 (.cells #[.int .u64 n5, .slice a5 l5 k5] 27)
        have k1 := K1 (.cells #[.int .u64 n5, .slice a5 l5 k5] 27)
        have hW := HW50.out (.cells #[.int .u64 n5, .slice a5 l5 k5] 27)
        have hBW := HB50.out (.cells #[.int .u64 n5, .slice a5 l5 k5] 27)
        have hzz : w5.heap.size < (w5.alloc (.cells #[.int .u64 n5, .slice a5 l5 k5] 27)).heap.size := by simp
        clear G0 G1 K0 K1 HW50 HB50
        generalize w5.alloc (.cells #[.int .u64 n5, .slice a5 l5 k5] 27) = W5 at *
        have HWD := Lib.hid hW
        have HBD := Lib.hid hBW
        clear hW hBW
        go_region_held3 (fun w' => w'.cell? ⟨w3.heap.size, 0, none⟩ = some (.int .u64 seq) ∧ w'.cell? ⟨w3.heap.size, 1, none⟩ = some (.slice a3 len c3) ∧ w'.cell? ⟨w.heap.size, 0, none⟩ = some (.int .u64 seq) ∧ w'.cell? ⟨w.heap.size, 1, none⟩ = some (.slice ao len cap))
          (first
            | go_keep
            | (go_split_ands
               have hy6 : W5.heap.size ≤ w6.heap.size := hb6.size
               have hy7 : w6.heap.size ≤ w7.heap.size := hb7.size
               have hy8 : w7.heap.size ≤ w8.heap.size := hb8.size
               refine ⟨?_, ?_, ?_, ?_⟩
               · (refine (hb9.cell (p := ⟨w3.heap.size, 0, none⟩) (by show w3.heap.size < w8.heap.size; omega)).trans ?_; assumption)
               · (refine (hb9.cell (p := ⟨w3.heap.size, 1, none⟩) (by show w3.heap.size < w8.heap.size; omega)).trans ?_; assumption)
               · (refine (hb9.cell (p := ⟨w.heap.size, 0, none⟩) (by show w.heap.size < w8.heap.size; omega)).trans ?_; assumption)
               · (refine (hb9.cell (p := ⟨w.heap.size, 1, none⟩) (by show w.heap.size < w8.heap.size; omega)).trans ?_; assumption))
            | (go_split_ands
               have hy6 : W5.heap.size ≤ w6.heap.size := hb6.size
               have hy7 : w6.heap.size ≤ w7.heap.size := hb7.size
               refine ⟨?_, ?_, ?_, ?_⟩
               · (refine (hb8.cell (p := ⟨w3.heap.size, 0, none⟩) (by show w3.heap.size < w7.heap.size; omega)).trans ?_; assumption)
               · (refine (hb8.cell (p := ⟨w3.heap.size, 1, none⟩) (by show w3.heap.size < w7.heap.size; omega)).trans ?_; assumption)
               · (refine (hb8.cell (p := ⟨w.heap.size, 0, none⟩) (by show w.heap.size < w7.heap.size; omega)).trans ?_; assumption)
               · (refine (hb8.cell (p := ⟨w.heap.size, 1, none⟩) (by show w.heap.size < w7.heap.size; omega)).trans ?_; assumption))
            | (go_split_ands
               have hy6 : W5.heap.size ≤ w6.heap.size := hb6.size
               refine ⟨?_, ?_, ?_, ?_⟩
               · (refine (hb7.cell (p := ⟨w3.heap.size, 0, none⟩) (by show w3.heap.size < w6.heap.size; omega)).trans ?_; assumption)
               · (refine (hb7.cell (p := ⟨w3.heap.size, 1, none⟩) (by show w3.heap.size < w6.heap.size; omega)).trans ?_; assumption)
               · (refine (hb7.cell (p := ⟨w.heap.size, 0, none⟩) (by show w.heap.size < w6.heap.size; omega)).trans ?_; assumption)
               · (refine (hb7.cell (p := ⟨w.heap.size, 1, none⟩) (by show w.heap.size < w6.heap.size; omega)).trans ?_; assumption))
            | (go_split_ands
               refine ⟨?_, ?_, ?_, ?_⟩
               · exact (hb6.cell (p := ⟨w3.heap.size, 0, none⟩) (by show w3.heap.size < W5.heap.size; omega)).trans g0
               · exact (hb6.cell (p := ⟨w3.heap.size, 1, none⟩) (by show w3.heap.size < W5.heap.size; omega)).trans g1
               · exact (hb6.cell (p := ⟨w.heap.size, 0, none⟩) (by show w.heap.size < W5.heap.size; omega)).trans k0
               · exact (hb6.cell (p := ⟨w.heap.size, 1, none⟩) (by show w.heap.size < W5.heap.size; omega)).trans k1))
          (first
            | (go_at_call 18; (with_reducible refine (HGW.out _).mono ?_); rintro e w6 ⟨rfl, hb6⟩)
            | (go_at_call 18; (with_reducible refine (HGB.out _).mono ?_); rintro e w7 ⟨rfl, hb7⟩)
            | (go_at_call 22; refine (HSM.out _ (Below.next (Below.next HWD.out hb6) hb7) (Below.next (Below.next HBD.out hb6) hb7)).mono ?_; rintro e w8 ⟨rfl, hb8⟩)
            | (go_at_call 15; refine (awake_any _).mono ?_; rintro e w9 ⟨rfl, hb9⟩))
        have HF := Lib.hid (Below.next (Below.next (Below.next (Below.next HBD.out hb6) hb7) hb8) hb9)
        clear hb6 hb7 hb8 hb9
        go_wp2_with fail
        go_ret
        exact ⟨rfl, HF.out⟩
    · exact absurd h (by simp)

theorem back_walk (seq : Nat) (ao : Option Addr) (len cap : Nat) (ops : List Ob) (c : Int) (u : ByteArray) (w : World) (hS : SeesO w (.slice ao len cap) ops) (hs : seq < 18446744073709551616) (hc : 0 ≤ c ∧ c ≤ 65535) (_hu : u.size ≤ 9223372036854775807) :
    Calls Try.prog 6 #[batV seq ao len cap, .int .u16 c, .string u] w (Gives (.bool true) w) := by
  cases h : greatO ops with
  | true => exact back_great seq ao len cap ops c u w hS h
  | false =>
    by_cases hu : 100 < u.size
    · exact back_long seq ao len cap ops c u w hS h hu
    · by_cases hk : Bt.chk seq ops = 0
      · exact back_yes seq ao len cap ops c u w hS hs h (by omega) hc.1 hc.2 hk
      · exact back_no seq ao len cap ops c u w hS hs h (by omega) hk

end Go.Proofs.Ytohfjibhfbcanaa

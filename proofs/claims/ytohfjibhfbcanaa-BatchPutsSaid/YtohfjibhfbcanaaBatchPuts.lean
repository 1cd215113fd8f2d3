/- The walk of BatchPuts. -/
import Derived.Test.YtohfjibhfbcanaaBtCmp
import Derived.Test.YtohfjibhfbcanaaBtS
import Derived.Test.YtohfjibhfbcanaaBtU
import Derived.Test.YtohfjibhfbcanaaBtArgs
import Derived.BigQuiet
namespace Go.Proofs.Ytohfjibhfbcanaa
open Go.RowKit
set_option linter.unusedVariables false
set_option linter.unusedSimpArgs false

set_option maxHeartbeats 1000000 in
theorem puts_great (seq : Nat) (ao : Option Addr) (len cap : Nat) (ops : List Ob) (w : World) (hS : SeesO w (.slice ao len cap) ops) (hg : greatO ops = true) :
    Calls Try.prog 4 #[batV seq ao len cap] w (Gives (.bool true) w) := by
  have HB : Hid (Below w.heap.size w (w.alloc (.cells #[Value.int IntKind.u64 ↑seq, Value.slice ao len cap] 27))) := Lib.hid ((Below.refl _ _).alloc (Nat.le_refl _) _)
  have HG : Hid (∀ W, Below w.heap.size w W → Calls Try.prog 16 #[.agg #[.int .u64 seq, .slice ao len cap]] W (Gives (.bool true) W)) := Lib.hid (fun W hb => by
    have h := great_any seq ao len cap ops W (hS.below hb)
    rw [hg] at h
    exact h)
  clear hS hg
  unfold batV
  go_enter Try.func4, Try.ntmps4
  go_wp2_with fail
  refine (HG.out _ HB.out).mono ?_
  rintro e w1 ⟨rfl, hb1⟩
  have HB1 := Lib.hid (Below.next HB.out hb1)
  clear hb1
  go_wp2_with fail
  refine (awake_any _).mono ?_
  rintro e w2 ⟨rfl, hb2⟩
  have HB2 := Lib.hid (Below.next HB1.out hb2)
  go_wp2_with fail
  go_ret
  exact ⟨rfl, HB2.out⟩

set_option maxHeartbeats 8000000 in
theorem puts_small (seq : Nat) (ao : Option Addr) (len cap : Nat) (ops : List Ob) (w : World) (hS : SeesO w (.slice ao len cap) ops) (hs : seq < 18446744073709551616) (hg : greatO ops = false) :
    Calls Try.prog 4 #[batV seq ao len cap] w (Gives (.bool true) w) := by
  have HB : Hid (Below w.heap.size w (w.alloc (.cells #[Value.int IntKind.u64 ↑seq, Value.slice ao len cap] 27))) := Lib.hid ((Below.refl _ _).alloc (Nat.le_refl _) _)
  have HG : Hid (∀ W, Below w.heap.size w W → Calls Try.prog 16 #[.agg #[.int .u64 seq, .slice ao len cap]] W (Gives (.bool false) W)) := Lib.hid (fun W hb => by
    have h := great_any seq ao len cap ops W (hS.below hb)
    rw [hg] at h
    exact h)
  obtain ⟨hl60, hsz, _⟩ := greatO_no hg
  have hlen := hS.get.1
  rw [hlen] at hl60
  obtain ⟨C, hC⟩ : ∃ C : Int, C = (Bt.chk seq ops : Nat) := ⟨_, rfl⟩
  obtain ⟨S, hSS⟩ : ∃ S : ByteArray, S = ⟨(if Bt.chk seq ops = 0 then Bt.encl seq ops else []).toArray⟩ := ⟨_, rfl⟩
  have HE : Hid (∀ W, Below w.heap.size w W → Calls Try.prog 9 #[.agg #[.int .u64 seq, .slice ao len cap]] W (fun x W' => x = .returned (.tuple #[.string S, .int .i64 C]) ∧ Below W.heap.size W W')) := Lib.hid (fun W hb => by
    have h := encode_any seq ao len cap ops W (hS.below hb) hs
    unfold Told at h
    rw [← hC, ← hSS] at h
    exact h)
  have HF : Hid (∀ W, Below w.heap.size w W → Calls Try.prog 17 #[.agg #[.int .u64 seq, .slice ao len cap]] W (fun x W' => x = .returned (.tuple #[.string S, .int .i64 C]) ∧ Below W.heap.size W W')) := Lib.hid (fun W hb => by
    have h := refEncode_any seq ao len cap ops W (hS.below hb) hs
    unfold Told at h
    rw [← hC, ← hSS] at h
    exact h)
  have HCK : Hid (∀ W, Below w.heap.size w W → Calls Try.prog 10 #[.agg #[.int .u64 seq, .slice ao len cap]] W (Gives (.int .i64 C) W)) := Lib.hid (fun W hb => by
    have h := check_any seq ao len cap ops W (hS.below hb) hs
    rw [← hC] at h
    exact h)
  have HRC : Hid (∀ W, Below w.heap.size w W → Calls Try.prog 20 #[.agg #[.int .u64 seq, .slice ao len cap]] W (Gives (.int .i64 C) W)) := Lib.hid (fun W hb => by
    have h := refCheck_any seq ao len cap ops W (hS.below hb) hs
    rw [← hC] at h
    exact h)
  have HEN : Hid (∀ W, Below w.heap.size w W → Calls Try.prog 14 #[.agg #[.int .u64 seq, .slice ao len cap]] W fun e w' => (∃ v, e = .returned v ∧ OwnsE w' W.heap.size v (ents seq ops len)) ∧ Below W.heap.size W w') := Lib.hid (fun W hb =>
    entries_any seq ao len cap ops W (hS.below hb) hs (by omega) (fun o ho => by have := hsz o ho; omega))
  have HRE : Hid (∀ W, Below w.heap.size w W → Calls Try.prog 19 #[.agg #[.int .u64 seq, .slice ao len cap]] W fun e w' => (∃ v, e = .returned v ∧ OwnsE w' W.heap.size v (ents seq ops len)) ∧ Below W.heap.size W w') := Lib.hid (fun W hb =>
    refEntries_any seq ao len cap ops W (hS.below hb) hs (by omega))
  have HLA : Hid (∀ W, Calls Try.prog 13 #[.agg #[.int .u64 seq, .slice ao len cap]] W (Gives (.int .u64 (lastN seq len)) W)) := Lib.hid (fun W => last_any seq ao len cap W hs (by omega))
  have HGV : Hid (∀ W, Calls Try.prog 18 #[.agg #[.int .u64 seq, .slice ao len cap]] W (Gives (.agg #[.int .u64 seq, .slice ao len cap]) W)) := Lib.hid (fun W => given_any seq ao len cap W)
  clear hS hg hsz hlen hC hSS
  unfold batV
  go_enter Try.func4, Try.ntmps4
  go_wp2_with fail
  refine (HG.out _ HB.out).mono ?_
  rintro e w1 ⟨rfl, hb1⟩
  have HB1 := Lib.hid (Below.next HB.out hb1)
  have hz1 : w.heap.size < w1.heap.size := by have := hb1.size; simp at this; omega
  have a0 : w1.cell? ⟨w.heap.size, 0, none⟩ = some (.int .u64 seq) := (hb1.cell (p := ⟨w.heap.size, 0, none⟩) (by simp)).trans (by rw [World.cell?_alloc_new]; rfl)
  have a1 : w1.cell? ⟨w.heap.size, 1, none⟩ = some (.slice ao len cap) := (hb1.cell (p := ⟨w.heap.size, 1, none⟩) (by simp)).trans (by rw [World.cell?_alloc_new]; rfl)
  clear hb1
  go_wp2_with fail
  refine (HE.out _ HB1.out).mono ?_
  rintro e w2 ⟨rfl, hb2⟩
  have HB2 := Lib.hid (Below.next HB1.out hb2)
  have hz2 : w.heap.size < w2.heap.size := by have := hb2.size; omega
  have b0 := (hb2.cell (p := ⟨w.heap.size, 0, none⟩) hz1).trans a0
  have b1 := (hb2.cell (p := ⟨w.heap.size, 1, none⟩) hz1).trans a1
  clear hb2 a0 a1
  go_wp2_with fail
  refine (HGV.out _).mono ?_
  rintro e w3 ⟨rfl, hb3⟩
  have HB3 := Lib.hid (Below.next HB2.out hb3)
  have hz3 : w.heap.size < w3.heap.size := by have := hb3.size; omega
  have c0 := (hb3.cell (p := ⟨w.heap.size, 0, none⟩) hz2).trans b0
  have c1 := (hb3.cell (p := ⟨w.heap.size, 1, none⟩) hz2).trans b1
  clear hb3 b0 b1
  go_wp2_with fail
  refine (HF.out _ HB3.out).mono ?_
  rintro e w4 ⟨rfl, hb4⟩
  have HB4 := Lib.hid (Below.next HB3.out hb4)
  have hz4 : w.heap.size < w4.heap.size := by have := hb4.size; omega
  have d0 := (hb4.cell (p := ⟨w.heap.size, 0, none⟩) hz3).trans c0
  have d1 := (hb4.cell (p := ⟨w.heap.size, 1, none⟩) hz3).trans c1
  clear hb4 c0 c1
  go_wp2_with fail
  refine (HEN.out _ HB4.out).mono ?_
  rintro e w5 ⟨⟨v5, rfl, hown5⟩, hb5⟩
  have HB5 := Lib.hid (Below.next HB4.out hb5)
  have hz5 : w.heap.size < w5.heap.size := by have := hb5.size; omega
  have e0 := (hb5.cell (p := ⟨w.heap.size, 0, none⟩) hz4).trans d0
  have e1 := (hb5.cell (p := ⟨w.heap.size, 1, none⟩) hz4).trans d1
  obtain ⟨al, cl, rfl⟩ := hown5.sees.slice
  have hse := hown5.sees
  rw [ents_length] at hse ⊢
  have HL5 := Lib.hid hse
  clear hb5 d0 d1 hown5 hse
  go_wp2_with fail
  refine (HGV.out _).mono ?_
  rintro e w6 ⟨rfl, hb6⟩
  have HB6 := Lib.hid (Below.next HB5.out hb6)
  have HL6 := Lib.hid (HL5.out.below hb6)
  have hz6 : w.heap.size < w6.heap.size := by have := hb6.size; omega
  have f0 := (hb6.cell (p := ⟨w.heap.size, 0, none⟩) hz5).trans e0
  have f1 := (hb6.cell (p := ⟨w.heap.size, 1, none⟩) hz5).trans e1
  clear hb6 e0 e1
  go_wp2_with fail
  refine (HRE.out _ HB6.out).mono ?_
  rintro e w7 ⟨⟨v7, rfl, hown7⟩, hb7⟩
  have HB7 := Lib.hid (Below.next HB6.out hb7)
  have HL7 := Lib.hid (HL6.out.below hb7)
  have hz7 : w.heap.size < w7.heap.size := by have := hb7.size; omega
  have g0 := (hb7.cell (p := ⟨w.heap.size, 0, none⟩) hz6).trans f0
  have g1 := (hb7.cell (p := ⟨w.heap.size, 1, none⟩) hz6).trans f1
  obtain ⟨am, cm, rfl⟩ := hown7.sees.slice
  have hse := hown7.sees
  rw [ents_length] at hse ⊢
  have HM7 := Lib.hid hse
  clear hb7 f0 f1 hown7 hse
  have HB7d : Hid (Below w.heap.size w w7.drew) := Lib.hid HB7.out.drew
  go_wp2_with fail
  go_region_held3 (fun w' => w'.cell? ⟨w.heap.size, 0, none⟩ = some (.int .u64 seq) ∧ w'.cell? ⟨w.heap.size, 1, none⟩ = some (.slice ao len cap))
    (first
      | go_keep
      | (go_split_ands
         have hy8 : w7.heap.size ≤ w8.heap.size := hb8.size
         have hy9 : w8.heap.size ≤ w9.heap.size := hb9.size
         refine ⟨?_, ?_⟩
         · (refine (hb10.cell (p := ⟨w.heap.size, 0, none⟩) (by show w.heap.size < w9.heap.size; omega)).trans ?_; assumption)
         · (refine (hb10.cell (p := ⟨w.heap.size, 1, none⟩) (by show w.heap.size < w9.heap.size; omega)).trans ?_; assumption))
      | (go_split_ands
         have hy8 : w7.heap.size ≤ w8.heap.size := hb8.size
         refine ⟨?_, ?_⟩
         · (refine (hb9.cell (p := ⟨w.heap.size, 0, none⟩) (by show w.heap.size < w8.heap.size; omega)).trans ?_; assumption)
         · (refine (hb9.cell (p := ⟨w.heap.size, 1, none⟩) (by show w.heap.size < w8.heap.size; omega)).trans ?_; assumption))
      | (go_split_ands
         refine ⟨?_, ?_⟩
         · exact (hb8.cell (p := ⟨w.heap.size, 0, none⟩) hz7).trans g0
         · exact (hb8.cell (p := ⟨w.heap.size, 1, none⟩) hz7).trans g1))
    (first
      | (go_at_call 10; refine (HCK.out _ HB7d.out).mono ?_; rintro e w8 ⟨rfl, hb8⟩)
      | (go_at_call 18; refine (HGV.out _).mono ?_; rintro e w9 ⟨rfl, hb9⟩)
      | (go_at_call 20; refine (HRC.out _ (Below.next (Below.next HB7d.out hb8) hb9)).mono ?_; rintro e w10 ⟨rfl, hb10⟩))
  have HW10 : Hid (Below w7.heap.size w7 w10) := Lib.hid (Below.next (Below.next (Below.next (Below.refl _ _).drew hb8) hb9) hb10)
  have HBX := Lib.hid (Below.next HB7.out HW10.out)
  have hzx : w7.heap.size ≤ w10.heap.size := HW10.out.size
  have h0 : w10.cell? ⟨w.heap.size, 0, none⟩ = some (.int .u64 seq) := (HW10.out.cell (p := ⟨w.heap.size, 0, none⟩) hz7).trans g0
  have h1 : w10.cell? ⟨w.heap.size, 1, none⟩ = some (.slice ao len cap) := (HW10.out.cell (p := ⟨w.heap.size, 1, none⟩) hz7).trans g1
  have HLX := Lib.hid (HL7.out.below HW10.out)
  have HMX := Lib.hid (HM7.out.below HW10.out)
  clear hb8 hb9 hb10 g0 g1
  obtain ⟨-, b, off, hcl⟩ := HLX.out.get
  obtain ⟨-, b2, off2, hcm⟩ := HMX.out.get
  have HCL := Lib.hid hcl; have HCM := Lib.hid hcm
  clear hcl hcm
  go_wp2_with fail
  go_loopw [9] (fun i wr => ∃ k : Nat, k ≤ len ∧ i = .int .i64 k ∧ Below w10.heap.size w10 wr) (fun i _ => len - (intOf i).toNat)
  case atStart => exact ⟨0, Nat.zero_le _, rfl, Below.refl _ _⟩
  case round =>
    obtain ⟨k, hk, rfl, hbel⟩ := hrel
    have hszr := hbel.size
    by_cases hlt : k < len
    · obtain ⟨rfl, hbl, hel⟩ := HCL.out k hlt
      obtain ⟨rfl, hbm, hem⟩ := HCM.out k hlt
      obtain ⟨c0, c1, c2, c3⟩ := hel.below hbel hbl
      obtain ⟨d0, d1, d2, d3⟩ := hem.below hbel hbm
      have hbr : b < wr.heap.size := by omega
      have hbr2 : b2 < wr.heap.size := by omega
      clear hel hem h0 h1
      generalize (ents seq ops len).getD k end' = x at *
      obtain ⟨key, val, sq, gone⟩ := x
      dsimp only at c0 c1 c2 c3 d0 d1 d2 d3
      go_wp2_with fail
      go_quiet (fail)
      go_wp2_with fail
      exact ⟨⟨k + 1, by omega, by go_num, ⟨hbel.os, hbel.tape, hbel.output, hbel.size, hbel.block⟩⟩, by simp [intOf]; omega⟩
    · obtain rfl : k = len := by omega
      have HBR : Hid (Below w.heap.size w wr) := Lib.hid (Below.next HBX.out hbel)
      have k0 : wr.cell? ⟨w.heap.size, 0, none⟩ = some (.int .u64 seq) := (hbel.cell (p := ⟨w.heap.size, 0, none⟩) (by show w.heap.size < w10.heap.size; omega)).trans h0
      have k1 : wr.cell? ⟨w.heap.size, 1, none⟩ = some (.slice ao k cap) := (hbel.cell (p := ⟨w.heap.size, 1, none⟩) (by show w.heap.size < w10.heap.size; omega)).trans h1
      have hwz : w.heap.size < wr.heap.size := by omega
      clear h0 h1
      by_cases hk0 : k = 0
      · have hk0i : ((k : Int) == 0) = true := by rw [hk0]; rfl
        have hla : lastN seq k = seq := by unfold lastN; rw [if_pos hk0]
        rw [hla] at HLA
        clear hla hk0 HE HF HG HCK HRC HEN HRE HGV HL5 HL6 HL7 HM7 HLX HMX HCL HCM HB HB1 HB2 HB3 HB4 HB5 HB6 HB7 HB7d HW10 HBX
        go_wp2_with fail
        clear hk0i
        go_region_held3 (fun w' => w'.cell? ⟨w.heap.size, 0, none⟩ = some (.int .u64 seq) ∧ w'.cell? ⟨w.heap.size, 1, none⟩ = some (.slice ao k cap))
          (first
            | go_keep
            | (go_split_ands
               have hz3 : wr.heap.size ≤ w11.heap.size := hb11.size
               refine ⟨?_, ?_⟩
               · (refine (hb12.cell (p := ⟨w.heap.size, 0, none⟩) (by show w.heap.size < w11.heap.size; omega)).trans ?_; assumption)
               · (refine (hb12.cell (p := ⟨w.heap.size, 1, none⟩) (by show w.heap.size < w11.heap.size; omega)).trans ?_; assumption))
            | (go_split_ands
               refine ⟨?_, ?_⟩
               · exact (hb11.cell (p := ⟨w.heap.size, 0, none⟩) hwz).trans k0
               · exact (hb11.cell (p := ⟨w.heap.size, 1, none⟩) hwz).trans k1))
          (first
            | (go_at_call 13; refine (HLA.out _).mono ?_; rintro e w11 ⟨rfl, hb11⟩)
            | (go_at_call 15; refine (awake_any _).mono ?_; rintro e w12 ⟨rfl, hb12⟩))
        have HFF := Lib.hid (Below.next (Below.next HBR.out.drew hb11) hb12)
        clear hb11 hb12
        go_wp2_with fail
        go_ret
        exact ⟨rfl, HFF.out⟩
      · have hm1 : ((k : Int) == 0) = false := by rw [beq_eq_false_iff_ne]; omega
        obtain ⟨m, hm⟩ : ∃ m, m = k - 1 := ⟨_, rfl⟩
        obtain ⟨rfl, hbm, hem⟩ := HCM.out m (by omega)
        have q := ents_getD seq ops k m (by omega)
        rw [q] at hem
        obtain ⟨-, -, d2, -⟩ := hem.below hbel hbm
        unfold enOf at d2
        dsimp only at d2
        have hla : lastN seq k = (seq + m) % 18446744073709551616 := by unfold lastN; rw [if_neg hk0, hm]
        rw [hla] at HLA
        have hber : b2 < wr.heap.size := by omega
        have hm0 : (0 : Int) ≤ (k : Int) - 1 := by omega
        have hm2 : (k : Int) - 1 < (k : Int) := by omega
        have hmt : ((k : Int) - 1).toNat = m := by omega
        have hki : (k : Int) ≤ 60 := by omega
        have hm3 : (1 : Int) ≤ (k : Int) := by omega
        have hmw0 : IntKind.i64.wrap ((k : Int) - 1) = (k : Int) - 1 := by rw [IntKind.wrap_i64] <;> omega
        have HMW := Lib.hid hmw0
        clear hmw0
        generalize hE : (((seq + m) % 18446744073709551616 : Nat) : Int) = E at *
        clear hem q hE hla hm hk0 HE HF HG HCK HRC HEN HRE HGV HL5 HL6 HL7 HM7 HLX HMX HCL HCM HB HB1 HB2 HB3 HB4 HB5 HB6 HB7 HB7d HW10 HBX hm0 hm2 hki hm1 hz1 hz2 hz3 hz4 hz5 hz6
        have hki : (k : Int) ≤ 60 := by omega
        have hm0 : (0 : Int) ≤ (k : Int) - 1 := by omega
        have hm2 : (k : Int) - 1 < (k : Int) := by omega
        go_wp2_with fail
        have hmw := HMW.out
        go_region_held3 (fun w' => w'.cell? ⟨b2, off2 + m * 4 + 2, none⟩ = some (.int .u64 E) ∧ w'.cell? ⟨w.heap.size, 0, none⟩ = some (.int .u64 seq) ∧ w'.cell? ⟨w.heap.size, 1, none⟩ = some (.slice ao k cap))
          (first
            | go_keep
            | (go_split_ands
               have hz3 : wr.heap.size ≤ w11.heap.size := hb11.size
               refine ⟨?_, ?_, ?_⟩
               · (refine (hb12.cell (p := ⟨b2, off2 + m * 4 + 2, none⟩) (by show b2 < w11.heap.size; omega)).trans ?_; assumption)
               · (refine (hb12.cell (p := ⟨w.heap.size, 0, none⟩) (by show w.heap.size < w11.heap.size; omega)).trans ?_; assumption)
               · (refine (hb12.cell (p := ⟨w.heap.size, 1, none⟩) (by show w.heap.size < w11.heap.size; omega)).trans ?_; assumption))
            | (go_split_ands
               refine ⟨?_, ?_, ?_⟩
               · exact (hb11.cell (p := ⟨b2, off2 + m * 4 + 2, none⟩) (by show b2 < wr.heap.size; omega)).trans d2
               · exact (hb11.cell (p := ⟨w.heap.size, 0, none⟩) hwz).trans k0
               · exact (hb11.cell (p := ⟨w.heap.size, 1, none⟩) hwz).trans k1))
          (first
            | (go_at_call 13; refine (HLA.out _).mono ?_; rintro e w11 ⟨rfl, hb11⟩)
            | (go_at_call 15; refine (awake_any _).mono ?_; rintro e w12 ⟨rfl, hb12⟩))
        have HFF := Lib.hid (Below.next (Below.next HBR.out.drew hb11) hb12)
        clear hb11 hb12
        go_wp2_with fail
        go_ret
        exact ⟨rfl, HFF.out⟩

theorem puts_walk (seq : Nat) (ao : Option Addr) (len cap : Nat) (ops : List Ob) (w : World) (hS : SeesO w (.slice ao len cap) ops) (hs : seq < 18446744073709551616) :
    Calls Try.prog 4 #[batV seq ao len cap] w (Gives (.bool true) w) := by
  cases h : greatO ops with
  | true => exact puts_great seq ao len cap ops w hS h
  | false => exact puts_small seq ao len cap ops w hS hs h

end Go.Proofs.Ytohfjibhfbcanaa

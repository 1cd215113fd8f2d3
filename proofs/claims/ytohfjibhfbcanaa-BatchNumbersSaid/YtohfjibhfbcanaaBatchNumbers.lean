/- The walk of BatchNumbers. -/
import Derived.Test.YtohfjibhfbcanaaBtI
import Derived.Test.YtohfjibhfbcanaaBtArgs
import Derived.BigQuiet
namespace Go.Proofs.Ytohfjibhfbcanaa
open Go.RowKit
set_option linter.unusedVariables false
set_option linter.unusedSimpArgs false

set_option maxHeartbeats 1000000 in
theorem numbers_great (seq : Nat) (ao : Option Addr) (len cap : Nat) (ops : List Ob) (w : World) (hS : SeesO w (.slice ao len cap) ops) (hg : greatO ops = true) :
    Calls Try.prog 8 #[batV seq ao len cap] w (Gives (.bool true) w) := by
  have HB : Hid (Below w.heap.size w (w.alloc (.cells #[Value.int IntKind.u64 ↑seq, Value.slice ao len cap] 27))) := Lib.hid ((Below.refl _ _).alloc (Nat.le_refl _) _)
  have HG : Hid (∀ W, Below w.heap.size w W → Calls Try.prog 16 #[.agg #[.int .u64 seq, .slice ao len cap]] W (Gives (.bool true) W)) := Lib.hid (fun W hb => by
    have h := great_any seq ao len cap ops W (hS.below hb)
    rw [hg] at h
    exact h)
  clear hS hg
  unfold batV
  go_enter Try.func8, Try.ntmps8
  go_wp2_with fail
  refine (HG.out _ HB.out).mono ?_
  rintro e w1 ⟨rfl, hb1⟩
  have HB1 := Lib.hid (Below.next HB.out hb1)
  clear hb1
  go_wp2_with fail
  refine (awake_any _).mono ?_
  rintro e w2 ⟨rfl, hb2⟩
  have HB2 := Lib.hid (Below.next HB1.out hb2)
  go_wp2_with fail
  go_ret
  exact ⟨rfl, HB2.out⟩

set_option maxHeartbeats 4000000 in
theorem numbers_small (seq : Nat) (ao : Option Addr) (len cap : Nat) (ops : List Ob) (w : World) (hS : SeesO w (.slice ao len cap) ops) (hs : seq < 18446744073709551616) (hg : greatO ops = false) :
    Calls Try.prog 8 #[batV seq ao len cap] w (Gives (.bool true) w) := by
  have HB : Hid (Below w.heap.size w (w.alloc (.cells #[Value.int IntKind.u64 ↑seq, Value.slice ao len cap] 27))) := Lib.hid ((Below.refl _ _).alloc (Nat.le_refl _) _)
  have HG : Hid (∀ W, Below w.heap.size w W → Calls Try.prog 16 #[.agg #[.int .u64 seq, .slice ao len cap]] W (Gives (.bool false) W)) := Lib.hid (fun W hb => by
    have h := great_any seq ao len cap ops W (hS.below hb)
    rw [hg] at h
    exact h)
  obtain ⟨hl60, hsz, _⟩ := greatO_no hg
  obtain ⟨hlen, b, off, hc⟩ := hS.get
  rw [hlen] at hl60
  have HEN : Hid (∀ W, Below w.heap.size w W → Calls Try.prog 14 #[.agg #[.int .u64 seq, .slice ao len cap]] W fun e w' => (∃ v, e = .returned v ∧ OwnsE w' W.heap.size v (ents seq ops len)) ∧ Below W.heap.size W w') := Lib.hid (fun W hb =>
    entries_any seq ao len cap ops W (hS.below hb) hs (by omega) (fun o ho => by have := hsz o ho; omega))
  have HLA : Hid (∀ W, Calls Try.prog 13 #[.agg #[.int .u64 seq, .slice ao len cap]] W (Gives (.int .u64 (lastN seq len)) W)) := Lib.hid (fun W => last_any seq ao len cap W hs (by omega))
  have HC := Lib.hid hc; have HLEN := Lib.hid hlen
  clear hS hg hc hsz hlen
  unfold batV
  go_enter Try.func8, Try.ntmps8
  go_wp2_with fail
  refine (HG.out _ HB.out).mono ?_
  rintro e w1 ⟨rfl, hb1⟩
  have HB1 := Lib.hid (Below.next HB.out hb1)
  have hq1 : ∀ o, w1.cell? ⟨w.heap.size, o, none⟩ = (w.alloc (.cells #[Value.int IntKind.u64 ↑seq, Value.slice ao len cap] 27)).cell? ⟨w.heap.size, o, none⟩ := fun o => hb1.cell (p := ⟨w.heap.size, o, none⟩) (by simp)
  have hz1 : w.heap.size < w1.heap.size := by have := hb1.size; simp at this; omega
  clear hb1
  go_wp2_with fail
  refine (HEN.out _ HB1.out).mono ?_
  rintro e w2 ⟨⟨v, rfl, hown⟩, hb2⟩
  have HB2 := Lib.hid (Below.next HB1.out hb2)
  have hd0 : w2.cell? ⟨w.heap.size, 0, none⟩ = some (.int .u64 seq) := (hb2.cell (p := ⟨w.heap.size, 0, none⟩) hz1).trans ((hq1 0).trans (by rw [World.cell?_alloc_new]; rfl))
  have hd1 : w2.cell? ⟨w.heap.size, 1, none⟩ = some (.slice ao len cap) := (hb2.cell (p := ⟨w.heap.size, 1, none⟩) hz1).trans ((hq1 1).trans (by rw [World.cell?_alloc_new]; rfl))
  have hz2 : w.heap.size < w2.heap.size := by have := hb2.size; omega
  obtain ⟨ae, ce, rfl⟩ := hown.sees.slice
  obtain ⟨-, be, oe, hce⟩ := hown.sees.get
  rw [ents_length] at hce ⊢
  have HCE := Lib.hid hce
  have HOE : Hid (SeesE w2 (.slice ae len ce) (ents seq ops len)) := by
    have h := hown.sees
    rw [ents_length] at h
    exact Lib.hid h
  clear hown hb2 hq1 hce
  go_wp2_with fail
  go_loopw [4] (fun i wr => ∃ k : Nat, k ≤ len ∧ i = .int .i64 k ∧ Below w2.heap.size w2 wr) (fun i _ => len - (intOf i).toNat)
  case atStart => exact ⟨0, Nat.zero_le _, rfl, Below.refl _ _⟩
  case round =>
    obtain ⟨k, hk, rfl, hbel⟩ := hrel
    have hszr := hbel.size
    have hd0' : wr.cell? ⟨w.heap.size, 0, none⟩ = some (.int .u64 seq) := (hbel.cell (p := ⟨w.heap.size, 0, none⟩) hz2).trans hd0
    have hd1' : wr.cell? ⟨w.heap.size, 1, none⟩ = some (.slice ao len cap) := (hbel.cell (p := ⟨w.heap.size, 1, none⟩) hz2).trans hd1
    by_cases hlt : k < len
    · obtain ⟨rfl, hbl, hob⟩ := HC.out k hlt
      obtain ⟨rfl, hble, hen⟩ := HCE.out k hlt
      obtain ⟨c0, c1, c2⟩ := (hob.below HB2.out hbl).below hbel (by omega)
      have q := ents_getD seq ops len k hlt
      rw [q] at hen
      obtain ⟨d0, d1, d2, d3⟩ := hen.below hbel hble
      unfold enOf at d0 d1 d2 d3
      clear hob hen q
      generalize ops.getD k obd = x at *
      obtain ⟨key, val, gone⟩ := x
      dsimp only at c0 c1 c2 d0 d1 d2 d3
      have HW : Hid (IntKind.u64.wrap ((((seq + k) % 18446744073709551616 : Nat) : Int) - (seq : Int)) = (k : Int)) := Lib.hid (by rw [IntKind.wrap_u64]; omega)
      have HW2 : Hid (IntKind.u64.wrap (k : Int) = (k : Int)) := Lib.hid (by rw [IntKind.wrap_u64]; omega)
      generalize hE : (((seq + k) % 18446744073709551616 : Nat) : Int) = E at *
      have hw := HW.out
      have hw2 := HW2.out
      have hbr : b < wr.heap.size := by omega
      have hber : be < wr.heap.size := by omega
      clear hd0 hd1 hE
      go_wp2_with fail
      go_quiet (fail)
      go_wp2_with fail
      exact ⟨⟨k + 1, by omega, by go_num, ⟨hbel.os, hbel.tape, hbel.output, hbel.size, hbel.block⟩⟩, by simp [intOf]; omega⟩
    · obtain rfl : k = len := by omega
      have HBR : Hid (Below w.heap.size w wr) := Lib.hid (Below.next HB2.out hbel)
      by_cases h0 : k = 0
      · subst h0
        go_wp2_with fail
        refine wp_region_noPanic ?_
        refine wp_region_held_drew (S := fun _ => True) (by kernel_rfl) trivial (fun _ => ?_)
        refine wpAnyH_take (i := 0) (v := ?v0) rfl (by kernel_rfl) (by kernel_rfl) (by kernel_rfl) (fun _ _ _ h => h) (Or.inl ⟨by kernel_rfl, ?y0⟩) trivial ?_; case y0 => (intro w' _; go_simp; try with_reducible rfl)
        simp only [Act.put, List.setIfInBounds_toArray, List.set_cons_zero, List.set_cons_succ]
        refine wpAnyH_take (i := 1) (v := ?v1) rfl (by kernel_rfl) (by kernel_rfl) (by kernel_rfl) (fun _ _ _ h => h) (Or.inl ⟨by kernel_rfl, ?y1⟩) trivial ?_; case y1 => (intro w' _; go_simp; try with_reducible rfl)
        simp only [Act.put, List.setIfInBounds_toArray, List.set_cons_zero, List.set_cons_succ]
        refine wpAnyH_take (i := 2) (v := ?v2) rfl (by kernel_rfl) (by kernel_rfl) (by kernel_rfl) (fun _ _ _ h => h) (Or.inl ⟨by kernel_rfl, ?y2⟩) trivial ?_; case y2 => (intro w' _; go_simp; try with_reducible rfl)
        simp only [Act.put, List.setIfInBounds_toArray, List.set_cons_zero, List.set_cons_succ]
        refine wpAnyH_take (i := 3) (v := ?v3) rfl (by kernel_rfl) (by kernel_rfl) (by kernel_rfl) (fun _ _ _ h => h) (Or.inl ⟨by kernel_rfl, ?y3⟩) trivial ?_; case y3 => (intro w' _; go_simp; try with_reducible rfl)
        simp only [Act.put, List.setIfInBounds_toArray, List.set_cons_zero, List.set_cons_succ]
        (refine wpAnyH_take (i := 4) (v := undef) rfl (by kernel_rfl) (by kernel_rfl) (by kernel_rfl) (fun _ _ _ h => h) (Or.inr ⟨by kernel_rfl, rfl⟩) trivial ?_; simp only [Act.put, List.setIfInBounds_toArray, List.set_cons_zero, List.set_cons_succ])
        (refine wpAnyH_take (i := 5) (v := undef) rfl (by kernel_rfl) (by kernel_rfl) (by kernel_rfl) (fun _ _ _ h => h) (Or.inr ⟨by kernel_rfl, rfl⟩) trivial ?_; simp only [Act.put, List.setIfInBounds_toArray, List.set_cons_zero, List.set_cons_succ])
        (refine wpAnyH_take (i := 6) (v := undef) rfl (by kernel_rfl) (by kernel_rfl) (by kernel_rfl) (fun _ _ _ h => h) (Or.inr ⟨by kernel_rfl, rfl⟩) trivial ?_; simp only [Act.put, List.setIfInBounds_toArray, List.set_cons_zero, List.set_cons_succ])
        (refine wpAnyH_take (i := 7) (v := undef) rfl (by kernel_rfl) (by kernel_rfl) (by kernel_rfl) (fun _ _ _ h => h) (Or.inr ⟨by kernel_rfl, rfl⟩) trivial ?_; simp only [Act.put, List.setIfInBounds_toArray, List.set_cons_zero, List.set_cons_succ])
        (refine wpAnyH_take (i := 8) (v := undef) rfl (by kernel_rfl) (by kernel_rfl) (by kernel_rfl) (fun _ _ _ h => h) (Or.inr ⟨by kernel_rfl, rfl⟩) trivial ?_; simp only [Act.put, List.setIfInBounds_toArray, List.set_cons_zero, List.set_cons_succ])
        (refine wpAnyH_take (i := 9) (v := undef) rfl (by kernel_rfl) (by kernel_rfl) (by kernel_rfl) (fun _ _ _ h => h) (Or.inr ⟨by kernel_rfl, rfl⟩) trivial ?_; simp only [Act.put, List.setIfInBounds_toArray, List.set_cons_zero, List.set_cons_succ])
        (refine wpAnyH_take (i := 10) (v := undef) rfl (by kernel_rfl) (by kernel_rfl) (by kernel_rfl) (fun _ _ _ h => h) (Or.inr ⟨by kernel_rfl, rfl⟩) trivial ?_; simp only [Act.put, List.setIfInBounds_toArray, List.set_cons_zero, List.set_cons_succ])
        (refine wpAnyH_take (i := 11) (v := undef) rfl (by kernel_rfl) (by kernel_rfl) (by kernel_rfl) (fun _ _ _ h => h) (Or.inr ⟨by kernel_rfl, rfl⟩) trivial ?_; simp only [Act.put, List.setIfInBounds_toArray, List.set_cons_zero, List.set_cons_succ])
        (refine wpAnyH_take (i := 12) (v := undef) rfl (by kernel_rfl) (by kernel_rfl) (by kernel_rfl) (fun _ _ _ h => h) (Or.inr ⟨by kernel_rfl, rfl⟩) trivial ?_; simp only [Act.put, List.setIfInBounds_toArray, List.set_cons_zero, List.set_cons_succ])
        (refine wpAnyH_take (i := 13) (v := undef) rfl (by kernel_rfl) (by kernel_rfl) (by kernel_rfl) (fun _ _ _ h => h) (Or.inr ⟨by kernel_rfl, rfl⟩) trivial ?_; simp only [Act.put, List.setIfInBounds_toArray, List.set_cons_zero, List.set_cons_succ])
        refine wpAnyH_take (i := 14) (v := ?v14) rfl (by kernel_rfl) (by kernel_rfl) (by kernel_rfl) (fun _ _ _ h => h) (Or.inl ⟨by kernel_rfl, ?y14⟩) trivial ?_; case y14 => (intro w' _; go_simp; try with_reducible rfl)
        simp only [Act.put, List.setIfInBounds_toArray, List.set_cons_zero, List.set_cons_succ]
        refine wpAnyH_take (i := 15) (v := ?v15) rfl (by kernel_rfl) (by kernel_rfl) (by kernel_rfl) (fun _ _ _ h => h) (Or.inl ⟨by kernel_rfl, ?y15⟩) trivial ?_; case y15 => (intro w' _; go_simp; try with_reducible rfl)
        simp only [Act.put, List.setIfInBounds_toArray, List.set_cons_zero, List.set_cons_succ]
        refine wpAnyH_ready (rs := [16]) (by kernel_rfl) (by simp) ?_
        refine AllReadyH.cons rfl (fun K hK => ?_) AllReadyH.nil
        go_simp
        refine (awake_any _).mono ?_
        rintro e w4 ⟨rfl, hb4⟩
        refine hK.out _ _ trivial (fun _ => ?_)
        clear hK K
        try simp only [Act.put, List.setIfInBounds_toArray, List.set_cons_zero, List.set_cons_succ]
        refine wpAnyH_take (i := 17) (v := ?v17) rfl (by kernel_rfl) (by kernel_rfl) (by kernel_rfl) (fun _ _ _ h => h) (Or.inl ⟨by kernel_rfl, ?y17⟩) trivial ?_; case y17 => (intro w' _; go_simp; try with_reducible rfl)
        simp only [Act.put, List.setIfInBounds_toArray, List.set_cons_zero, List.set_cons_succ, List.getElem_toArray, List.getElem_cons_zero, List.getElem_cons_succ]
        refine wpAnyH_take (i := 18) (v := ?v18) rfl (by kernel_rfl) (by kernel_rfl) (by kernel_rfl) (fun _ _ _ h => h) (Or.inl ⟨by kernel_rfl, ?y18⟩) trivial ?_; case y18 => (intro w' _; go_simp; try with_reducible rfl)
        simp only [Act.put, List.setIfInBounds_toArray, List.set_cons_zero, List.set_cons_succ, List.getElem_toArray, List.getElem_cons_zero, List.getElem_cons_succ]
        refine wpAnyH_done (by kernel_rfl) ?_ _
        refine NoPanic.normal ?_
        have HF := Lib.hid (Below.next HBR.out.drew hb4)
        clear hb4
        go_wp2_with fail
        go_ret
        exact ⟨rfl, HF.out⟩
      · obtain ⟨m, hm⟩ : ∃ m, m = k - 1 := ⟨_, rfl⟩
        obtain ⟨rfl, hble, hen⟩ := HCE.out m (by omega)
        have q := ents_getD seq ops k m (by omega)
        rw [q] at hen
        obtain ⟨-, -, d2, -⟩ := hen.below hbel hble
        unfold enOf at d2
        dsimp only at d2
        have hla : lastN seq k = (seq + m) % 18446744073709551616 := by unfold lastN; rw [if_neg h0, hm]
        rw [hla] at HLA
        have hber : be < wr.heap.size := by omega
        have hm1 : ((k : Int) == 0) = false := by rw [beq_eq_false_iff_ne]; omega
        have hm0 : (0 : Int) ≤ (k : Int) - 1 := by omega
        have hm2 : (k : Int) - 1 < (k : Int) := by omega
        have hmt : ((k : Int) - 1).toNat = m := by omega
        have hki : (k : Int) ≤ 60 := by omega
        have hm3 : (1 : Int) ≤ (k : Int) := by omega
        have hm4 : (0 : Int) < (k : Int) := by omega
        have hmw0 : IntKind.i64.wrap ((k : Int) - 1) = (k : Int) - 1 := by rw [IntKind.wrap_i64] <;> omega
        have HMW := Lib.hid hmw0
        clear hmw0
        generalize hE : (((seq + m) % 18446744073709551616 : Nat) : Int) = E at *
        have hwz : w.heap.size < wr.heap.size := by omega
        clear hen q hE hd0 hd1 hla hm h0
        go_wp2_with fail
        have hmw := HMW.out
        go_region_held3 (fun w' => w'.cell? ⟨be, oe + m * 4 + 2, none⟩ = some (.int .u64 E) ∧ w'.cell? ⟨w.heap.size, 0, none⟩ = some (.int .u64 seq) ∧ w'.cell? ⟨w.heap.size, 1, none⟩ = some (.slice ao k cap))
          (first
            | go_keep
            | (go_split_ands
               refine ⟨?_, ?_, ?_⟩
               · exact (hb3.cell (p := ⟨be, oe + m * 4 + 2, none⟩) (by show be < wr.heap.size; omega)).trans d2
               · exact (hb3.cell (p := ⟨w.heap.size, 0, none⟩) (by show w.heap.size < wr.heap.size; omega)).trans hd0'
               · exact (hb3.cell (p := ⟨w.heap.size, 1, none⟩) (by show w.heap.size < wr.heap.size; omega)).trans hd1')
            | (go_split_ands
               have hz3 : wr.heap.size ≤ w3.heap.size := hb3.size
               refine ⟨?_, ?_, ?_⟩
               · (refine (hb4.cell (p := ⟨be, oe + m * 4 + 2, none⟩) (by show be < w3.heap.size; omega)).trans ?_; assumption)
               · (refine (hb4.cell (p := ⟨w.heap.size, 0, none⟩) (by show w.heap.size < w3.heap.size; omega)).trans ?_; assumption)
               · (refine (hb4.cell (p := ⟨w.heap.size, 1, none⟩) (by show w.heap.size < w3.heap.size; omega)).trans ?_; assumption)))
          (first
            | (go_at_call 13; refine (HLA.out _).mono ?_; rintro e w3 ⟨rfl, hb3⟩)
            | (go_at_call 15; refine (awake_any _).mono ?_; rintro e w4 ⟨rfl, hb4⟩))
        have HF := Lib.hid (Below.next (Below.next HBR.out.drew hb3) hb4)
        clear hb3 hb4
        go_wp2_with fail
        go_ret
        exact ⟨rfl, HF.out⟩

theorem numbers_walk (seq : Nat) (ao : Option Addr) (len cap : Nat) (ops : List Ob) (w : World) (hS : SeesO w (.slice ao len cap) ops) (hs : seq < 18446744073709551616) :
    Calls Try.prog 8 #[batV seq ao len cap] w (Gives (.bool true) w) := by
  cases h : greatO ops with
  | true => exact numbers_great seq ao len cap ops w hS h
  | false => exact numbers_small seq ao len cap ops w hS hs h

end Go.Proofs.Ytohfjibhfbcanaa

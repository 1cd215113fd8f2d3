/- Texts on the program's own functions, several in one: BnBtCmp, BnBtGr. -/
import Derived.Test.YtfeconankopjmaaGreatDoorPk26
import Derived.BigQuiet

/- The walk of the document's Same, of two lists of operations that are the same, or of another length. -/
namespace Go.Proofs.YtfeconankopjmaaGreatDoor.Bn
set_option maxRecDepth 100000
open Go.RowKit
set_option linter.unusedVariables false

set_option maxHeartbeats 2000000 in
/-- Of the same operations: yes. -/
theorem same_yes (seq : Nat) (ao : Option Addr) (len cap : Nat) (bo : Option Addr) (cap2 : Nat) (ops : List Ob) (w : World) (hA : SeesO w (.slice ao len cap) ops) (hB : SeesO w (.slice bo len cap2) ops) (hl : len ≤ 1000000) :
    Calls Tryz.prog 61 #[.agg #[.int .u64 seq, .slice ao len cap], .agg #[.int .u64 seq, .slice bo len cap2]] w (Gives (.bool true) w) := by
  obtain ⟨hlen, b, off, hc⟩ := hA.get
  obtain ⟨-, b2, off2, hc2⟩ := hB.get
  have HC := Lib.hid hc; have HC2 := Lib.hid hc2; have HLEN := Lib.hid hlen
  clear hA hB hc hc2 hlen
  go_enter Tryz.func61, Tryz.ntmps61
  go_wp2_with fail
  have hd0 : ((w.alloc (.cells #[.int .u64 seq, .slice ao len cap] 82)).alloc (.cells #[.int .u64 seq, .slice bo len cap2] 82)).cell? ⟨w.heap.size, 1, none⟩ = some (.slice ao len cap) := by rw [World.cell?_alloc_past _ _ _ (by simp), World.cell?_alloc_new]; rfl
  have hd1 : ((w.alloc (.cells #[.int .u64 seq, .slice ao len cap] 82)).alloc (.cells #[.int .u64 seq, .slice bo len cap2] 82)).cell? ⟨w.heap.size + 1, 1, none⟩ = some (.slice bo len cap2) := by rw [World.cell?_alloc_at _ _ _ _ (by simp)]; rfl
  have HB : Hid (Below w.heap.size w ((w.alloc (.cells #[.int .u64 seq, .slice ao len cap] 82)).alloc (.cells #[.int .u64 seq, .slice bo len cap2] 82))) := Lib.hid (Below.next_alloc ((Below.refl _ _).alloc (Nat.le_refl _) _) _)
  go_loopw [5] (fun i wr => ∃ k : Nat, k ≤ len ∧ i = .int .i64 k ∧ wr.cell? ⟨w.heap.size, 1, none⟩ = some (.slice ao len cap) ∧ wr.cell? ⟨w.heap.size + 1, 1, none⟩ = some (.slice bo len cap2) ∧ Below w.heap.size w wr) (fun i _ => len - (intOf i).toNat)
  case atStart => exact ⟨0, Nat.zero_le _, rfl, hd0, hd1, HB.out⟩
  case round =>
    obtain ⟨k, hk, rfl, hq0, hq1, hbel⟩ := hrel
    clear hd0 hd1
    have hsz := hbel.size
    by_cases hlt : k < len
    · obtain ⟨rfl, hbl, hob⟩ := HC.out k hlt
      obtain ⟨rfl, hbl2, hob2⟩ := HC2.out k hlt
      obtain ⟨c0, c1, c2⟩ := hob.below hbel hbl
      obtain ⟨e0, e1, e2⟩ := hob2.below hbel hbl2
      have hbr : b < wr.heap.size := by omega
      have hbr2 : b2 < wr.heap.size := by omega
      clear hob hob2
      generalize ops.getD k obd = x at *
      obtain ⟨key, val, gone⟩ := x
      dsimp only at c0 c1 c2 e0 e1 e2
      go_wp2_with fail
      go_quiet (fail)
      go_wp2_with fail
      exact ⟨⟨k + 1, by omega, by go_num, hq0, hq1, ⟨hbel.os, hbel.tape, hbel.output, hbel.size, hbel.block⟩⟩, by simp [intOf]; omega⟩
    · obtain rfl : k = len := by omega
      go_wp2_with fail
      go_ret
      exact ⟨rfl, hbel⟩

set_option maxHeartbeats 1000000 in
theorem given_any (seq : Nat) (ao : Option Addr) (len cap : Nat) (w : World) :
    Calls Tryz.prog 35 #[.agg #[.int .u64 seq, .slice ao len cap]] w (Gives (.agg #[.int .u64 seq, .slice ao len cap]) w) := by
  go_enter Tryz.func35, Tryz.ntmps35
  go_wp2_with fail
  refine bodyPost_ret (v := .agg #[.int .u64 seq, .slice ao len cap]) (by simp [results, Tryz.results35, go_sem]) rfl ⟨rfl, Below.next_alloc ((Below.refl _ _).alloc (Nat.le_refl _) _) _⟩

end Go.Proofs.YtfeconankopjmaaGreatDoor.Bn

/- The walk of law 6's Great. -/
namespace Go.Proofs.YtfeconankopjmaaGreatDoor.Bn
set_option maxRecDepth 100000
open Go.RowKit
set_option linter.unusedVariables false

/-- How many bytes operations have in all. -/
def sumO (ops : List Ob) : Nat := (ops.map fun o => o.key.size + o.val.size).sum
/-- Is a batch more than statements go through? -/
def greatO (ops : List Ob) : Bool := decide (60 < ops.length) || (ops.any fun o => decide (12000 < o.key.size) || decide (12000 < o.val.size)) || decide (12000 < sumO ops)
theorem sumO_snoc (ops : List Ob) (k : Nat) (h : k < ops.length) : sumO (ops.take (k + 1)) = sumO (ops.take k) + ((ops.getD k obd).key.size + (ops.getD k obd).val.size) := by
  have e : ops.getD k obd = ops[k] := by simp [h]
  unfold sumO
  rw [List.take_succ_eq_append_getElem h, List.map_append, List.sum_append, e]
  simp
theorem greatO_no {ops : List Ob} (h : greatO ops = false) : ops.length ≤ 60 ∧ (∀ o ∈ ops, o.key.size ≤ 12000 ∧ o.val.size ≤ 12000) ∧ sumO ops ≤ 12000 := by
  unfold greatO at h
  simp only [Bool.or_eq_false_iff, decide_eq_false_iff_not] at h
  obtain ⟨⟨h1, h2⟩, h3⟩ := h
  refine ⟨by omega, fun o ho => ?_, by omega⟩
  have := List.any_eq_false.1 h2 o ho
  simp only [Bool.or_eq_true, decide_eq_true_eq, not_or] at this
  omega

set_option maxHeartbeats 2000000 in
theorem great_any (seq : Nat) (ao : Option Addr) (len cap : Nat) (ops : List Ob) (w : World) (hS : SeesO w (.slice ao len cap) ops) :
    Calls Tryz.prog 33 #[batV seq ao len cap] w (Gives (.bool (greatO ops)) w) := by
  obtain ⟨hlen, b, off, hc⟩ := hS.get
  clear hS
  have HB : Hid (Below w.heap.size w (w.alloc (.cells #[Value.int IntKind.u64 ↑seq, Value.slice ao len cap] 32))) := Lib.hid ((Below.refl _ _).alloc (Nat.le_refl _) _)
  by_cases h60 : 60 < len
  · have HE : Hid (greatO ops = true) := by unfold greatO; rw [hlen]; exact Lib.hid (by simp [h60])
    clear hc hlen
    unfold batV
    go_enter Tryz.func33, Tryz.ntmps33
    go_wp2_with fail
    go_ret
    rw [HE.out]
    exact ⟨rfl, HB.out⟩
  · have HE : Hid (greatO ops = (ops.any (fun o => decide (12000 < o.key.size) || decide (12000 < o.val.size)) || decide (12000 < sumO (ops.take len)))) := by
      refine Lib.hid ?_
      unfold greatO
      rw [← hlen, List.take_length]
      simp [hlen, h60]
    have HC := Lib.hid hc; have HLEN := Lib.hid hlen
    clear hc hlen
    unfold batV
    go_enter Tryz.func33, Tryz.ntmps33
    go_wp2_with fail
    have hd : (w.alloc (.cells #[Value.int IntKind.u64 ↑seq, Value.slice ao len cap] 32)).cell? ⟨w.heap.size, 1, none⟩ = some (.slice ao len cap) := by rw [World.cell?_alloc_new]; rfl
    have hsz0 : w.heap.size < (w.alloc (.cells #[Value.int IntKind.u64 ↑seq, Value.slice ao len cap] 32)).heap.size := by simp
    generalize w.alloc (.cells #[Value.int IntKind.u64 ↑seq, Value.slice ao len cap] 32) = W at *
    go_loopw [3, 4] (fun n i wr => ∃ k : Nat, k ≤ len ∧ i = .int .i64 k ∧ n = .int .i64 (sumO (ops.take k)) ∧ (sumO (ops.take k) : Int) ≤ 24000 * k ∧ (∀ j, j < k → (decide (12000 < (ops.getD j obd).key.size) || decide (12000 < (ops.getD j obd).val.size)) = false) ∧ wr.cell? ⟨w.heap.size, 1, none⟩ = some (.slice ao len cap) ∧ Below w.heap.size w wr) (fun _ i _ => len - (intOf i).toNat)
    case atStart => exact ⟨0, Nat.zero_le _, rfl, rfl, by simp [sumO], fun j hj => by omega, hd, HB.out⟩
    case round =>
      obtain ⟨k, hk, rfl, rfl, hsum, hno, hq, hbel⟩ := hrel
      clear hd
      have HNO := Lib.hid hno; clear hno
      have hsz := hbel.size
      by_cases hlt : k < len
      · obtain ⟨rfl, hbl, hob⟩ := HC.out k hlt
        obtain ⟨c0, c1, c2⟩ := hob.below hbel hbl
        have hbr : b < wr.heap.size := by omega
        have hkl : k < ops.length := by rw [HLEN.out]; exact hlt
        have HSN : Hid (sumO (ops.take (k + 1)) = sumO (ops.take k) + ((ops.getD k obd).key.size + (ops.getD k obd).val.size)) := Lib.hid (sumO_snoc ops k hkl)
        have HAY : Hid ((decide (12000 < (ops.getD k obd).key.size) || decide (12000 < (ops.getD k obd).val.size)) = true → greatO ops = true) := Lib.hid (fun h => by
          rw [HE.out, any_yes (f := fun o => decide (12000 < o.key.size) || decide (12000 < o.val.size)) hkl h]; rfl)
        have HAN : Hid ((decide (12000 < (ops.getD k obd).key.size) || decide (12000 < (ops.getD k obd).val.size)) = false → ∀ j, j < k + 1 → (decide (12000 < (ops.getD j obd).key.size) || decide (12000 < (ops.getD j obd).val.size)) = false) := Lib.hid (fun h j hj => by
          by_cases e : j = k
          · rw [e]; exact h
          · exact HNO.out j (by omega))
        clear hob hkl
        generalize ops.getD k obd = x at *
        obtain ⟨key, val, gone⟩ := x
        dsimp only at c0 c1 c2 HSN HAY HAN
        generalize hT : sumO (ops.take k) = T at *
        clear hT
        by_cases h1 : 12000 < key.size
        · have HG : Hid (greatO ops = true) := Lib.hid (HAY.out (by simp [h1]))
          go_wp2_with fail
          go_ret
          rw [HG.out]
          exact ⟨rfl, hbel⟩
        · by_cases h2 : 12000 < val.size
          · have HG : Hid (greatO ops = true) := Lib.hid (HAY.out (by simp [h2]))
            go_wp2_with fail
            go_ret
            rw [HG.out]
            exact ⟨rfl, hbel⟩
          · have HG := Lib.hid (HAN.out (by simp; omega))
            clear HAY HAN
            go_wp2_with fail
            go_quiet (fail)
            go_wp2_with fail
            refine ⟨⟨k + 1, by omega, by go_num, by rw [HSN.out]; congr 1; omega, by rw [HSN.out]; omega, HG.out, hq, ⟨hbel.os, hbel.tape, hbel.output, hbel.size, hbel.block⟩⟩, by simp [intOf]; omega⟩
      · obtain rfl : k = len := by omega
        have HG : Hid (greatO ops = decide (12000 < sumO (ops.take k))) := by
          rw [HE.out, any_no (f := fun o => decide (12000 < o.key.size) || decide (12000 < o.val.size)) (fun j hj => HNO.out j (by rw [HLEN.out] at hj; omega))]; exact Lib.hid (by simp)
        generalize hT : sumO (ops.take k) = T at *
        clear hT HE
        by_cases hT2 : 12000 < T
        · go_wp2_with fail
          go_ret
          rw [HG.out]
          exact ⟨by simp [hT2]; omega, hbel⟩
        · go_wp2_with fail
          go_ret
          rw [HG.out]
          exact ⟨by simp [hT2]; omega, hbel⟩

end Go.Proofs.YtfeconankopjmaaGreatDoor.Bn

/- The walk of the document's Same, of two lists of operations that are the same, or of another length. -/
import Derived.Test.YtohfjibhfbcanaaBtI
import Derived.BigQuiet
namespace Go.Proofs.Ytohfjibhfbcanaa
open Go.RowKit
set_option linter.unusedVariables false

set_option maxHeartbeats 2000000 in
/-- Of the same operations: yes. -/
theorem same_yes (seq : Nat) (ao : Option Addr) (len cap : Nat) (bo : Option Addr) (cap2 : Nat) (ops : List Ob) (w : World) (hA : SeesO w (.slice ao len cap) ops) (hB : SeesO w (.slice bo len cap2) ops) (hl : len ≤ 1000000) :
    Calls Try.prog 22 #[.agg #[.int .u64 seq, .slice ao len cap], .agg #[.int .u64 seq, .slice bo len cap2]] w (Gives (.bool true) w) := by
  obtain ⟨hlen, b, off, hc⟩ := hA.get
  obtain ⟨-, b2, off2, hc2⟩ := hB.get
  have HC := Lib.hid hc; have HC2 := Lib.hid hc2; have HLEN := Lib.hid hlen
  clear hA hB hc hc2 hlen
  go_enter Try.func22, Try.ntmps22
  go_wp2_with fail
  have hd0 : ((w.alloc (.cells #[.int .u64 seq, .slice ao len cap] 43)).alloc (.cells #[.int .u64 seq, .slice bo len cap2] 43)).cell? ⟨w.heap.size, 1, none⟩ = some (.slice ao len cap) := by rw [World.cell?_alloc_past _ _ _ (by simp), World.cell?_alloc_new]; rfl
  have hd1 : ((w.alloc (.cells #[.int .u64 seq, .slice ao len cap] 43)).alloc (.cells #[.int .u64 seq, .slice bo len cap2] 43)).cell? ⟨w.heap.size + 1, 1, none⟩ = some (.slice bo len cap2) := by rw [World.cell?_alloc_at _ _ _ _ (by simp)]; rfl
  have HB : Hid (Below w.heap.size w ((w.alloc (.cells #[.int .u64 seq, .slice ao len cap] 43)).alloc (.cells #[.int .u64 seq, .slice bo len cap2] 43))) := Lib.hid (Below.next_alloc ((Below.refl _ _).alloc (Nat.le_refl _) _) _)
  go_loopw [5] (fun i wr => ∃ k : Nat, k ≤ len ∧ i = .int .i64 k ∧ wr.cell? ⟨w.heap.size, 1, none⟩ = some (.slice ao len cap) ∧ wr.cell? ⟨w.heap.size + 1, 1, none⟩ = some (.slice bo len cap2) ∧ Below w.heap.size w wr) (fun i _ => len - (intOf i).toNat)
  case atStart => exact ⟨0, Nat.zero_le _, rfl, hd0, hd1, HB.out⟩
  case round =>
    obtain ⟨k, hk, rfl, hq0, hq1, hbel⟩ := hrel
    clear hd0 hd1
    have hsz := hbel.size
    by_cases hlt : k < len
    · obtain ⟨rfl, hbl, hob⟩ := HC.out k hlt
      obtain ⟨rfl, hbl2, hob2⟩ := HC2.out k hlt
      obtain ⟨c0, c1, c2⟩ := hob.below hbel hbl
      obtain ⟨e0, e1, e2⟩ := hob2.below hbel hbl2
      have hbr : b < wr.heap.size := by omega
      have hbr2 : b2 < wr.heap.size := by omega
      clear hob hob2
      generalize ops.getD k obd = x at *
      obtain ⟨key, val, gone⟩ := x
      dsimp only at c0 c1 c2 e0 e1 e2
      go_wp2_with fail
      go_quiet (fail)
      go_wp2_with fail
      exact ⟨⟨k + 1, by omega, by go_num, hq0, hq1, ⟨hbel.os, hbel.tape, hbel.output, hbel.size, hbel.block⟩⟩, by simp [intOf]; omega⟩
    · obtain rfl : k = len := by omega
      go_wp2_with fail
      go_ret
      exact ⟨rfl, hbel⟩

set_option maxHeartbeats 1000000 in
theorem given_any (seq : Nat) (ao : Option Addr) (len cap : Nat) (w : World) :
    Calls Try.prog 18 #[.agg #[.int .u64 seq, .slice ao len cap]] w (Gives (.agg #[.int .u64 seq, .slice ao len cap]) w) := by
  go_enter Try.func18, Try.ntmps18
  go_wp2_with fail
  refine bodyPost_ret (v := .agg #[.int .u64 seq, .slice ao len cap]) (by simp [results, Try.results18, go_sem]) rfl ⟨rfl, Below.next_alloc ((Below.refl _ _).alloc (Nat.le_refl _) _) _⟩

end Go.Proofs.Ytohfjibhfbcanaa

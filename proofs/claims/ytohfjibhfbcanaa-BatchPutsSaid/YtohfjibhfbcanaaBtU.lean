/- The walk of the document's Entries. -/
import Derived.Test.YtohfjibhfbcanaaBtI
import Derived.Deep.RegionHeld3
import Derived.Deep.RegionLaw
import Derived.BigQuiet
namespace Go.Proofs.Ytohfjibhfbcanaa
open Go.RowKit
set_option linter.unusedVariables false
set_option linter.unusedSimpArgs false

set_option maxHeartbeats 8000000 in
theorem refEntries_any (seq : Nat) (ao : Option Addr) (len cap : Nat) (ops : List Ob) (w : World) (hS : SeesO w (.slice ao len cap) ops) (hs : seq < 18446744073709551616) (hl : len ≤ 1000000) :
    Calls Try.prog 19 #[.agg #[.int .u64 seq, .slice ao len cap]] w fun e w' => (∃ v, e = .returned v ∧ OwnsE w' w.heap.size v (ents seq ops len)) ∧ Below w.heap.size w w' := by
  obtain ⟨i0, hi, hz0, hz1, hz2⟩ := info_parts info_entry
  obtain ⟨hlen, b, off, hc⟩ := hS.get
  have HB : Hid (Below w.heap.size w (w.alloc (.cells #[.int .u64 seq, .slice ao len cap] 43))) := Lib.hid ((Below.refl _ _).alloc (Nat.le_refl _) _)
  have HC := Lib.hid hc; have HLEN := Lib.hid hlen
  clear hS hc hlen
  go_enter Try.func19, Try.ntmps19
  go_wp2_with fail
  have hq1 : (w.alloc (.cells #[.int .u64 seq, .slice ao len cap] 43)).cell? ⟨w.heap.size, 1, none⟩ = some (.slice ao len cap) := by rw [World.cell?_alloc_new]; rfl
  go_loopw [3, 4, 5] (fun u z i wr => ∃ k : Nat, k ≤ len ∧ i = .int .i64 k ∧ z = .int .u64 ((seq + k) % 18446744073709551616 : Nat) ∧ OwnsE wr (w.heap.size + 1) u (ents seq ops k) ∧ wr.cell? ⟨w.heap.size, 1, none⟩ = some (.slice ao len cap) ∧ Below w.heap.size w wr ∧ w.heap.size < wr.heap.size) (fun _ _ i _ => len - (intOf i).toNat)
  case atStart => exact ⟨0, Nat.zero_le _, rfl, by rw [Nat.add_zero, Nat.mod_eq_of_lt hs], OwnsE.nil _ _, hq1, HB.out, by simp⟩
  case round =>
    obtain ⟨k, hk, rfl, rfl, hown, hq, hbel, hsw⟩ := hrel
    clear hq1
    by_cases hlt : k < len
    · obtain ⟨rfl, hbl, hob⟩ := HC.out k hlt
      obtain ⟨c0, c1, c2⟩ := hob.below hbel hbl
      have hbr : b < wr.heap.size := by omega
      have HEN : Hid (ents seq ops (k + 1) = ents seq ops k ++ [⟨(ops.getD k obd).key, (ops.getD k obd).val, (seq + k) % 18446744073709551616, (ops.getD k obd).gone⟩]) := Lib.hid rfl
      have HEL : Hid ((ents seq ops k).length = k) := Lib.hid (ents_length seq ops k)
      have HNX : Hid ((((seq + (k + 1)) % 18446744073709551616 : Nat) : Int) = IntKind.u64.wrap ((((seq + k) % 18446744073709551616 : Nat) : Int) + 1)) := Lib.hid (by rw [IntKind.wrap_u64]; omega)
      clear hob
      generalize ops.getD k obd = x at *
      obtain ⟨key, val, gone⟩ := x
      dsimp only at c0 c1 c2 HEN
      generalize hT : ents seq ops k = T at *
      clear hT
      generalize hE : (seq + k) % 18446744073709551616 = E at *
      clear hE
      have hraw : wr.ownsRow (w.heap.size + 1) 48 4 u3 T.length (T.flatMap cellsE) := hown
      clear hown
      have hob1 : u3.ownBlock ≠ some b := fun e => by have := (hraw.lt _ e).1; omega
      have hob2 : u3.ownBlock ≠ some w.heap.size := fun e => by have := (hraw.lt _ e).1; omega
      have HTL : Hid (T.length ≤ 1000000) := Lib.hid (by have := HEL.out; omega)
      have hk0 : (0 : Int) ≤ (k : Int) := by omega
      have hk1 : (k : Int) < (len : Int) := by omega
      go_wp2_with fail
      go_region_held3 (fun w' => w'.cell? ⟨w.heap.size, 1, none⟩ = some (.slice (some ⟨b, off, none⟩) len cap) ∧ w'.cell? ⟨b, off + k * 3, none⟩ = some (.string key) ∧ w'.cell? ⟨b, off + k * 3 + 1, none⟩ = some (.string val) ∧ w'.cell? ⟨b, off + k * 3 + 2, none⟩ = some (.bool gone))
        (first
          | go_keep
          | (go_split_ands
             refine ⟨?_, ?_, ?_, ?_⟩
             · (rw [hgrow.cell_far _ (by simp; omega) (Ne.symm hob2)]; assumption)
             · (rw [hgrow.cell_far _ (by simp; omega) (Ne.symm hob1)]; assumption)
             · (rw [hgrow.cell_far _ (by simp; omega) (Ne.symm hob1)]; assumption)
             · (rw [hgrow.cell_far _ (by simp; omega) (Ne.symm hob1)]; assumption)))
        ((refine step_append_lies _ (by rfl) _ _ _ (by rfl) (w.heap.size + 1) 48 i0 _ 4 48 Try.underlying38 hi hz0 hz1 hz2 rfl (by omega) u3 _ _ (by rfl) ((hraw.alloc _).drew)
            ⟨wr.heap.size, 0, none⟩ 1 1 [.string key, .string val, .int .u64 E, .bool gone] (by rfl) (by rfl) (World.news_of_block (cs := #[.string key, .string val, .int .u64 E, .bool gone]) (t := 48) (fr := (0, 0)) (heap_alloc_new wr _)) (by simp [Value.oneCell'])
            (by omega) (by have := HTL.out; unfold maxLen; omega) (by have := HTL.out; omega) (by simp; omega) (wr.heap.size + 1) (by simp) ?_; intro gg cap' w3 hown3 hgrow hat hlt3))
      have hbw2 : Below w.heap.size w (wr.alloc (.cells #[.string key, .string val, .int .u64 E, .bool gone] 48)).drew := (Below.next_alloc hbel _).drew
      have R1 : OwnsE w3 (w.heap.size + 1) (.slice (some ⟨gg, 0, none⟩) (T.length + 1) cap') (ents seq ops (k + 1)) ∧ Below w.heap.size w w3 := by
        rw [HEN.out]
        exact ⟨OwnsE.snoc (p := ⟨key, val, E, gone⟩) hown3, hbw2.grown hgrow (by have := hbw2.size; omega) (fun q hq => by have := (hraw.lt q hq).1; omega)⟩
      have hq3 : w3.cell? ⟨w.heap.size, 1, none⟩ = some (.slice (some ⟨b, off, none⟩) len cap) :=
        (World.cell?_of_block (hgrow.block w.heap.size (by simp; omega) (Ne.symm hob2))).trans ((World.cell?_alloc_past _ _ _ hsw).trans hq)
      have hsz3 : w.heap.size < w3.heap.size := by
        have hs3 := hgrow.size
        simp at hs3
        omega
      clear hown3 hgrow hraw hat hbw2
      go_wp2_with fail
      go_roundw
      case rel => exact ⟨k + 1, by omega, by go_num, by rw [HNX.out], R1.1, hq3, R1.2, hsz3⟩
      case measure => simp [intOf]; omega
    · obtain rfl : k = len := by omega
      go_wp2_with fail
      go_ret
      exact ⟨⟨_, rfl, ownsE_mono hown (Nat.le_succ _)⟩, hbel⟩

end Go.Proofs.Ytohfjibhfbcanaa

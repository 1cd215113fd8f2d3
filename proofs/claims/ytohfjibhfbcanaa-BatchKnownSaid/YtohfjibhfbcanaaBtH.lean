/- The walks of a batch's Last and Entries. -/
import Derived.Test.YtohfjibhfbcanaaBtG
import Derived.Deep.RegionHeld3
import Derived.Deep.RegionLaw
namespace Go.Proofs.Ytohfjibhfbcanaa
open Go.RowKit
set_option linter.unusedVariables false

/-- The last number, modulo 2^64. -/
def lastN (seq n : Nat) : Nat := if n = 0 then seq else (seq + (n - 1)) % 18446744073709551616

set_option maxHeartbeats 1000000 in
theorem last_any (seq : Nat) (ao : Option Addr) (len cap : Nat) (w : World) (hs : seq < 18446744073709551616) (hl : len ≤ 1000000) :
    Calls Try.prog 13 #[batV seq ao len cap] w (Gives (.int .u64 (lastN seq len)) w) := by
  have HB : Hid (Below w.heap.size w (w.alloc (.cells #[Value.int IntKind.u64 ↑seq, Value.slice ao len cap] 27))) := Lib.hid ((Below.refl _ _).alloc (Nat.le_refl _) _)
  by_cases h0 : len = 0
  · have HE : Hid (lastN seq len = seq) := Lib.hid (by unfold lastN; rw [if_pos h0])
    unfold batV
    subst h0
    go_enter Try.func13, Try.ntmps13
    go_wp2_with fail
    go_ret
    rw [HE.out]
    exact ⟨rfl, HB.out⟩
  · have HE : Hid (Value.int .u64 (lastN seq len) = .int .u64 (IntKind.u64.wrap ((seq : Int) + ((len : Int) - 1)))) := Lib.hid (by
      unfold lastN
      rw [if_neg h0, IntKind.wrap_u64]
      congr 1
      have : (seq : Int) + ((len : Int) - 1) = ((seq + (len - 1) : Nat) : Int) := by omega
      rw [this]; rfl)
    have h0i : ¬ ((len : Int) = 0) := by omega
    unfold batV
    rw [HE.out]
    go_enter Try.func13, Try.ntmps13
    go_wp2_with fail
    go_ret
    exact ⟨rfl, HB.out⟩

/-- An entry. -/
structure En where
  key : ByteArray
  val : ByteArray
  seq : Nat
  gone : Bool
def end' : En := ⟨ByteArray.empty, ByteArray.empty, 0, false⟩
def enOf (seq : Nat) (ops : List Ob) (k : Nat) : En := ⟨(ops.getD k obd).key, (ops.getD k obd).val, (seq + k) % 18446744073709551616, (ops.getD k obd).gone⟩
/-- The first k entries. -/
def ents (seq : Nat) (ops : List Ob) : Nat → List En
  | 0 => []
  | k + 1 => ents seq ops k ++ [enOf seq ops k]
theorem ents_length (seq : Nat) (ops : List Ob) : ∀ k, (ents seq ops k).length = k
  | 0 => rfl
  | k + 1 => by simp [ents, ents_length seq ops k]
theorem ents_getD (seq : Nat) (ops : List Ob) : ∀ k i, i < k → (ents seq ops k).getD i end' = enOf seq ops i
  | 0, i, h => by omega
  | k + 1, i, h => by
    have hl := ents_length seq ops k
    by_cases e : i < k
    · have : (ents seq ops k ++ [enOf seq ops k]).getD i end' = (ents seq ops k).getD i end' := by simp [List.getElem?_append_left (show i < (ents seq ops k).length by omega)]
      rw [ents, this, ents_getD seq ops k i e]
    · obtain rfl : i = k := by omega
      rw [ents]
      have : i = (ents seq ops i).length := hl.symm
      have h2 : (ents seq ops i ++ [enOf seq ops i])[(ents seq ops i).length]? = some (enOf seq ops i) := by simp
      rw [List.getD_eq_getElem?_getD]
      conv => lhs; rw [this]
      rw [← this] at h2 ⊢
      rw [h2]; rfl
theorem info_entry : (Try.prog.info? 48).map (fun i => (i.zero, i.size, i.bytes)) = some (some (.agg #[.string ⟨#[]⟩, .string ⟨#[]⟩, .int .u64 0, .bool false]), 4, 48) := by kernel_rfl
def cellsE (p : En) : List Value := [.string p.key, .string p.val, .int .u64 p.seq, .bool p.gone]
/-- A slice of entries that is the call's own, from a block on. -/
def OwnsE (w : World) (base : Nat) (v : Value) (ps : List En) : Prop := w.ownsRow base 48 4 v ps.length (ps.flatMap cellsE)
theorem OwnsE.nil (w : World) (base : Nat) : OwnsE w base (.slice none 0 0) [] := World.ownsRow_nil ..

theorem OwnsE.snoc {w' : World} {base : Nat} {v' : Value} {ps : List En} {p : En} (h : w'.ownsRow base 48 4 v' (ps.length + 1) (ps.flatMap cellsE ++ [.string p.key, .string p.val, .int .u64 p.seq, .bool p.gone])) : OwnsE w' base v' (ps ++ [p]) := by
  unfold OwnsE
  rw [List.length_append, List.flatMap_append, List.flatMap_singleton]
  exact h
theorem ownsE_mono {w : World} {base base' : Nat} {v : Value} {ps : List En} (h : OwnsE w base v ps) (hb : base' ≤ base) : OwnsE w base' v ps :=
  ⟨h.1, h.2.imp id fun ⟨g, cap, cur, e, hg, r⟩ => ⟨g, cap, cur, e, Nat.le_trans hb hg, r⟩⟩
theorem heap_new2 (w : World) (o o2 : Obj) : ((w.alloc o).alloc o2).heap[w.heap.size + 1]? = some o2 := by
  have := heap_alloc_new (w.alloc o) o2
  rw [World.size_alloc] at this
  exact this
/-- 'make([]api.Entry, 0, n)'. -/
theorem make_entries (w : World) (n : Nat) (hn : n ≤ 1000000) (base : Nat) (hb : base ≤ w.heap.size) :
    ∃ M : Array Value, (Instr.makeSlice 38 (.int .i64 0) (.int .i64 n)).run Try.prog w = .ok (.slice (some ⟨w.heap.size, 0, none⟩) 0 n) (w.alloc (.cells M 48)) ∧ OwnsE (w.alloc (.cells M 48)) base (.slice (some ⟨w.heap.size, 0, none⟩) 0 n) [] := by
  obtain ⟨i0, hi, hz0, hz1, hz2⟩ := info_parts info_entry
  have h := run_make (P := Try.prog) w 38 48 i0 _ Try.underlying38 hi hz0 .i64 .i64 0 (n : Int) (by omega) (by omega) (by rw [hz2]; omega) (by omega)
  refine ⟨_, by simpa using h, rfl, Or.inr ⟨w.heap.size, n, _, rfl, hb, heap_alloc_new w _, Nat.zero_le _, by unfold maxLen; omega, ?_, rfl⟩⟩
  rw [size_madeCells, hz1]

set_option maxHeartbeats 8000000 in
theorem entries_any (seq : Nat) (ao : Option Addr) (len cap : Nat) (ops : List Ob) (w : World) (hS : SeesO w (.slice ao len cap) ops) (hs : seq < 18446744073709551616) (hl : len ≤ 1000000) (hz : ∀ o ∈ ops, o.key.size ≤ 281474976710656 ∧ o.val.size ≤ 281474976710656) :
    Calls Try.prog 14 #[batV seq ao len cap] w fun e w' => (∃ v, e = .returned v ∧ OwnsE w' w.heap.size v (ents seq ops len)) ∧ Below w.heap.size w w' := by
  obtain ⟨i0, hi, hz0, hz1, hz2⟩ := info_parts info_entry
  obtain ⟨hlen, b, off, hc⟩ := hS.get
  have HC := Lib.hid hc; have HLEN := Lib.hid hlen; have HZ := Lib.hid hz
  clear hS hc hlen hz
  obtain ⟨M, hM, hown0⟩ := make_entries (w.alloc (.cells #[Value.int IntKind.u64 ↑seq, Value.slice ao len cap] 27)) len hl (w.heap.size + 1) (by simp)
  have HO0 := Lib.hid hown0
  clear hown0
  have HB0 : Hid (Below w.heap.size w ((w.alloc (.cells #[Value.int IntKind.u64 ↑seq, Value.slice ao len cap] 27)).alloc (.cells M 48))) := Lib.hid (Below.next_alloc ((Below.refl _ _).alloc (Nat.le_refl _) _) _)
  unfold batV
  go_enter Try.func14, Try.ntmps14
  go_wp2_with fail
  clear hM
  have hq0 : ((w.alloc (.cells #[Value.int IntKind.u64 ↑seq, Value.slice ao len cap] 27)).alloc (.cells M 48)).cell? ⟨w.heap.size, 0, none⟩ = some (.int .u64 seq) := by
    rw [World.cell?_alloc_past _ _ _ (by simp), World.cell?_alloc_new]; rfl
  go_loopw [3, 13] (fun u i wr => ∃ k : Nat, k ≤ len ∧ i = .int .i64 k ∧ OwnsE wr (w.heap.size + 1) u (ents seq ops k) ∧ wr.cell? ⟨w.heap.size, 0, none⟩ = some (.int .u64 seq) ∧ Below w.heap.size w wr ∧ w.heap.size + 2 ≤ wr.heap.size) (fun _ i _ => len - (intOf i).toNat)
  case atStart => exact ⟨0, Nat.zero_le _, rfl, by have := HO0.out; rw [World.size_alloc] at this; exact this, hq0, HB0.out, by simp⟩
  case round =>
    obtain ⟨k, hk, rfl, hown, hq, hbel, hsw⟩ := hrel
    clear hq0
    by_cases hlt : k < len
    · obtain ⟨rfl, hbl, hob⟩ := HC.out k hlt
      obtain ⟨c0, c1, c2⟩ := hob.below hbel hbl
      have hbr : b < wr.heap.size := by omega
      have hkl : k < ops.length := by rw [HLEN.out]; exact hlt
      have HZK := Lib.hid (HZ.out _ (getD_mem hkl))
      have HEN : Hid (ents seq ops (k + 1) = ents seq ops k ++ [⟨(ops.getD k obd).key, (ops.getD k obd).val, (seq + k) % 18446744073709551616, (ops.getD k obd).gone⟩]) := Lib.hid rfl
      have HEL : Hid ((ents seq ops k).length = k) := Lib.hid (ents_length seq ops k)
      clear hob hkl
      generalize ops.getD k obd = x at *
      obtain ⟨key, val, gone⟩ := x
      dsimp only at c0 c1 c2 HZK HEN
      generalize hT : ents seq ops k = T at *
      clear hT
      have HK1 : Hid (∀ W, Calls Try.prog 32 #[.string key] W (Gives (.string key) W)) := Lib.hid (fun W => clone_any key W HZK.out.1)
      have HK2 : Hid (∀ W, Calls Try.prog 32 #[.string val] W (Gives (.string val) W)) := Lib.hid (fun W => clone_any val W HZK.out.2)
      have hwk : IntKind.u64.wrap (k : Int) = (k : Int) := by rw [IntKind.wrap_u64]; omega
      have hraw : wr.ownsRow (w.heap.size + 1) 48 4 u3 T.length (T.flatMap cellsE) := hown
      clear hown
      go_wp2_with fail
      have HA0 : Hid ((wr.alloc (.cells #[.string key, .string val, .bool gone] 24)).drew.cell? ⟨wr.heap.size, 0, none⟩ = some (.string key)) := Lib.hid (by unfold World.cell?; show (match (wr.alloc _).heap[wr.heap.size]? with | some (.cells c _ _) => c[0]? | _ => none) = _; rw [heap_alloc_new]; rfl)
      have HA1 : Hid ((wr.alloc (.cells #[.string key, .string val, .bool gone] 24)).drew.cell? ⟨wr.heap.size, 1, none⟩ = some (.string val)) := Lib.hid (by unfold World.cell?; show (match (wr.alloc _).heap[wr.heap.size]? with | some (.cells c _ _) => c[1]? | _ => none) = _; rw [heap_alloc_new]; rfl)
      have HA2 : Hid ((wr.alloc (.cells #[.string key, .string val, .bool gone] 24)).drew.cell? ⟨wr.heap.size, 2, none⟩ = some (.bool gone)) := Lib.hid (by unfold World.cell?; show (match (wr.alloc _).heap[wr.heap.size]? with | some (.cells c _ _) => c[2]? | _ => none) = _; rw [heap_alloc_new]; rfl)
      have HAQ : Hid ((wr.alloc (.cells #[.string key, .string val, .bool gone] 24)).drew.cell? ⟨w.heap.size, 0, none⟩ = some (.int .u64 seq)) := Lib.hid ((World.cell?_alloc_past (w := wr) (.cells #[.string key, .string val, .bool gone] 24) w.heap.size 0 (by omega)).trans hq)
      have hraw1 := (hraw.alloc (.cells #[.string key, .string val, .bool gone] 24)).drew
      have hob1 : u3.ownBlock ≠ some wr.heap.size := fun e => by have := (hraw.lt _ e).2; omega
      have hob2 : u3.ownBlock ≠ some w.heap.size := fun e => by have := (hraw.lt _ e).1; omega
      have HTL : Hid (T.length ≤ 1000000) := Lib.hid (by have := HEL.out; omega)
      go_region_held3 (fun w' => w'.cell? ⟨wr.heap.size, 0, none⟩ = some (.string key) ∧ w'.cell? ⟨wr.heap.size, 1, none⟩ = some (.string val) ∧ w'.cell? ⟨wr.heap.size, 2, none⟩ = some (.bool gone) ∧ w'.cell? ⟨w.heap.size, 0, none⟩ = some (.int .u64 seq))
        (first
          | go_keep
          | (go_split_ands
             refine ⟨?_, ?_, ?_, ?_⟩
             · (rw [hgrow.cell_far _ (by have := hb1.size; have := hb2.size; simp at *; omega) (Ne.symm hob1)]; assumption)
             · (rw [hgrow.cell_far _ (by have := hb1.size; have := hb2.size; simp at *; omega) (Ne.symm hob1)]; assumption)
             · (rw [hgrow.cell_far _ (by have := hb1.size; have := hb2.size; simp at *; omega) (Ne.symm hob1)]; assumption)
             · (rw [hgrow.cell_far _ (by have := hb1.size; have := hb2.size; simp at *; omega) (Ne.symm hob2)]; assumption))
          | (go_split_ands
             refine ⟨?_, ?_, ?_, ?_⟩
             · exact (hb1.cell (p := ⟨wr.heap.size, 0, none⟩) (by simp)).trans HA0.out
             · exact (hb1.cell (p := ⟨wr.heap.size, 1, none⟩) (by simp)).trans HA1.out
             · exact (hb1.cell (p := ⟨wr.heap.size, 2, none⟩) (by simp)).trans HA2.out
             · exact (hb1.cell (p := ⟨w.heap.size, 0, none⟩) (by simp; omega)).trans HAQ.out)
          | (go_split_ands
             refine ⟨?_, ?_, ?_, ?_⟩
             · (refine (hb2.cell (p := ⟨wr.heap.size, 0, none⟩) (by have := hb1.size; simp at this; simp; omega)).trans ?_; assumption)
             · (refine (hb2.cell (p := ⟨wr.heap.size, 1, none⟩) (by have := hb1.size; simp at this; simp; omega)).trans ?_; assumption)
             · (refine (hb2.cell (p := ⟨wr.heap.size, 2, none⟩) (by have := hb1.size; simp at this; simp; omega)).trans ?_; assumption)
             · (refine (hb2.cell (p := ⟨w.heap.size, 0, none⟩) (by have := hb1.size; simp at this; simp; omega)).trans ?_; assumption)))
        (first
          | (go_at_call 32; (with_reducible refine (HK1.out _).mono ?_); rintro e w1 ⟨rfl, hb1⟩)
          | (go_at_call 32; (with_reducible refine (HK2.out _).mono ?_); rintro e w2 ⟨rfl, hb2⟩)
          | (refine step_append_lies _ (by rfl) _ _ _ (by rfl) (w.heap.size + 1) 48 i0 _ 4 48 Try.underlying38 hi hz0 hz1 hz2 rfl (by omega) u3 _ _ (by rfl) ((ownsRow_below (ownsRow_below hraw1 hb1) hb2).alloc _)
              ⟨w2.heap.size, 0, none⟩ 1 1 [.string key, .string val, .int .u64 (IntKind.u64.wrap ((seq : Int) + k)), .bool gone] (by rfl) (by rfl) (World.news_of_block (cs := #[.string key, .string val, .int .u64 (IntKind.u64.wrap ((seq : Int) + k)), .bool gone]) (t := 48) (fr := (0, 0)) (heap_alloc_new w2 _)) (by simp [Value.oneCell'])
              (by omega) (by have := HTL.out; unfold maxLen; omega) (by have := HTL.out; omega) (by have := hb1.size; have := hb2.size; simp at *; omega) (w2.heap.size + 1) (by simp) ?_; intro gg cap' w3 hown3 hgrow hat hlt3))
      have hes : ((seq + k : Nat) % 18446744073709551616 : Nat) = (IntKind.u64.wrap ((seq : Int) + k)) := by rw [IntKind.wrap_u64]; omega
      have hbw2 : Below w.heap.size w (w2.alloc (.cells #[.string key, .string val, .int .u64 (IntKind.u64.wrap ((seq : Int) + k)), .bool gone] 48)) := Below.next_alloc (Below.next (Below.next (Below.next_alloc hbel _).drew hb1) hb2) _
      have R1 : OwnsE w3 (w.heap.size + 1) (.slice (some ⟨gg, 0, none⟩) (T.length + 1) cap') (ents seq ops (k + 1)) ∧ Below w.heap.size w w3 := by
        rw [HEN.out]
        refine ⟨?_, hbw2.grown hgrow (by have := hbw2.size; omega) (fun q hq => by have := (hraw.lt q hq).1; omega)⟩
        have h := OwnsE.snoc (p := ⟨key, val, (seq + k) % 18446744073709551616, gone⟩) (by rw [hes]; exact hown3)
        exact h
      have hq3 : w3.cell? ⟨w.heap.size, 0, none⟩ = some (.int .u64 seq) := by
        have e1 : (w2.alloc (.cells #[.string key, .string val, .int .u64 (IntKind.u64.wrap ((seq : Int) + k)), .bool gone] 48)).cell? ⟨w.heap.size, 0, none⟩ = some (.int .u64 seq) := by
          have hs1 := hb1.size
          have hs2 := hb2.size
          simp at hs1
          rw [World.cell?_alloc_past _ _ _ (by omega)]
          exact (hb2.cell (p := ⟨w.heap.size, 0, none⟩) (by simp; omega)).trans ((hb1.cell (p := ⟨w.heap.size, 0, none⟩) (by simp; omega)).trans HAQ.out)
        exact (World.cell?_of_block (hgrow.block w.heap.size (by have := hbw2.size; simp at this ⊢; have := hb1.size; have := hb2.size; simp at *; omega) (Ne.symm hob2))).trans e1
      have hsz3 : w.heap.size + 2 ≤ w3.heap.size := by
        have hs1 := hb1.size
        have hs2 := hb2.size
        have hs3 := hgrow.size
        simp at hs1 hs3
        omega
      clear hown3 hgrow hraw hraw1 hat hb1 hb2 hbw2
      go_wp2_with fail
      go_roundw
      case rel => exact ⟨k + 1, by omega, by go_num, R1.1, hq3, R1.2, hsz3⟩
      case measure => simp [intOf]; omega
    · obtain rfl : k = len := by omega
      go_wp2_with fail
      go_ret
      exact ⟨⟨_, rfl, ownsE_mono hown (Nat.le_succ _)⟩, hbel⟩

end Go.Proofs.Ytohfjibhfbcanaa

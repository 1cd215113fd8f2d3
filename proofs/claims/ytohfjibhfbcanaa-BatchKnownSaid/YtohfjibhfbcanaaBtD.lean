/- The walk of batch.Encode. -/
import Derived.Test.YtohfjibhfbcanaaBtC
import Derived.Deep.RegionHeld3
namespace Go.Proofs.Ytohfjibhfbcanaa
open Go.RowKit

/-- A string and an error's number come back. -/
def Told (l : List UInt8) (e : Nat) (w : World) (x : Ending) (w' : World) : Prop := x = .returned (.tuple #[.string ⟨l.toArray⟩, .int .i64 e]) ∧ Below w.heap.size w w'

theorem seesU_heap2 {w : World} {B n m : Nat} {t : TypeId} (h : w.heap[B]? = some (.cells #[.int .u64 n, .int .u64 m] t (0, 0))) : SeesU w (.slice (some ⟨B, 0, none⟩) 2 2) [n, m] := by
  have hc : w.cell? ⟨B, 0, none⟩ = some (.int .u64 n) := by simp [World.cell?, h]
  have hd : w.cell? ⟨B, 0 + 1, none⟩ = some (.int .u64 m) := by simp [World.cell?, h]
  refine Or.inr ⟨B, 0, 2, rfl, World.block_lt_of_cell? w _ hc, fun i hi => ?_⟩
  match i, hi with
  | 0, _ => exact hc
  | 1, _ => exact hd

set_option maxHeartbeats 4000000 in
theorem encode_no (seq : Nat) (ao : Option Addr) (len cap : Nat) (ops : List Ob) (w : World) (hS : SeesO w (.slice ao len cap) ops) (hs : seq < 18446744073709551616) (hk : Bt.chk seq ops ≠ 0) :
    Calls Try.prog 9 #[batV seq ao len cap] w (Told [] (Bt.chk seq ops) w) := by
  have HC := Lib.hid (fun W h => check_any seq ao len cap ops W h hs)
  have HS := Lib.hid hS
  have HB : Hid (Below w.heap.size w (w.alloc (.cells #[Value.int IntKind.u64 ↑seq, Value.slice ao len cap] 27))) := Lib.hid ((Below.refl _ _).alloc (Nat.le_refl _) _)
  unfold batV at *
  clear hS
  generalize Bt.chk seq ops = c at *
  have hk' : ¬ ((c : Int) = 0) := by omega
  clear hk
  go_enter Try.func9, Try.ntmps9
  go_wp2_with fail
  refine (HC.out _ (HS.out.below HB.out)).mono ?_
  rintro e w1 ⟨rfl, hb1⟩
  have HB1 := Lib.hid (Below.next HB.out hb1)
  clear hb1
  go_wp2_with fail
  go_ret2
  exact ⟨rfl, HB1.out⟩

theorem ownsRow_below {w w' : World} {base : Nat} {e : TypeId} {z n : Nat} {v : Value} {xs : List Value} (h : w.ownsRow base e z v n xs) (hb : Below w.heap.size w w') : w'.ownsRow base e z v n xs :=
  h.kept (row := none) ⟨hb.os, hb.tape, hb.output, hb.size, fun k hk _ => hb.block k hk⟩ (by cases v.ownBlock with
    | none => exact Or.inl rfl
    | some k => exact Or.inr (by simp))
theorem Bld.below {base b : Nat} {l : List UInt8} {w w' : World} (h : Bld base b l w) (hb : Below w.heap.size w w') : Bld base b l w' := by
  have key : ∀ p, Lib.BuilderAt 58 5 base b p (Lib.byteCells l) w → Lib.BuilderAt 58 5 base b p (Lib.byteCells l) w' := by
    rintro p ⟨hB, v, hbk, hown, hne⟩
    exact ⟨hB, v, kept_block hbk hb, ownsRow_below hown hb, hne⟩
  exact h.imp (key _) (key _)
theorem Bld.alloc {base b : Nat} {l : List UInt8} {w : World} (h : Bld base b l w) (o : Obj) : Bld base b l (w.alloc o) := h.below ((Below.refl _ _).alloc (Nat.le_refl _) o)
theorem varl_two (a b : Nat) : varl [a, b] = Nm.row a ++ Nm.row b := by simp [varl]
theorem rows_snoc (ops : List Ob) (k : Nat) (h : k < ops.length) : (ops.take (k + 1)).flatMap Bt.obRow = (ops.take k).flatMap Bt.obRow ++ Bt.obRow (ops.getD k obd) := by
  have e : ops.getD k obd = ops[k] := by simp [h]
  rw [List.take_succ_eq_append_getElem h, List.flatMap_append, e, List.flatMap_singleton]
theorem obRow_length {o : Ob} (hl : Bt.longOb o = false) : (Bt.obRow o).length ≤ 600 := by
  simp only [Bt.longOb, Bool.or_eq_false_iff, decide_eq_false_iff_not] at hl
  have h1 := (Bt.txt_length o.key).2
  have h2 := (Bt.txt_length o.val).2
  unfold Bt.obRow
  split
  · simp only [List.length_cons]; omega
  · simp only [List.length_cons, List.length_append]; omega
theorem rows_length : ∀ {ops : List Ob}, (∀ o ∈ ops, Bt.longOb o = false) → (ops.flatMap Bt.obRow).length ≤ 600 * ops.length
  | [], _ => by simp
  | o :: ops, h => by
    have h1 := obRow_length (h o (List.mem_cons_self ..))
    have h2 := rows_length (ops := ops) fun x hx => h x (List.mem_cons_of_mem _ hx)
    rw [List.flatMap_cons, List.length_append, List.length_cons]
    omega

set_option maxHeartbeats 4000000 in
theorem encode_yes (seq : Nat) (ao : Option Addr) (len cap : Nat) (ops : List Ob) (w : World) (hS : SeesO w (.slice ao len cap) ops) (hs : seq < 18446744073709551616) (hk : Bt.chk seq ops = 0) :
    Calls Try.prog 9 #[batV seq ao len cap] w (Told (Bt.encl seq ops) 0 w) := by
  have HC := Lib.hid (fun W h => check_any seq ao len cap ops W h hs)
  have HS := Lib.hid hS
  have HB : Hid (Below w.heap.size w (w.alloc (.cells #[Value.int IntKind.u64 ↑seq, Value.slice ao len cap] 27))) := Lib.hid ((Below.refl _ _).alloc (Nat.le_refl _) _)
  obtain ⟨hlen, b, off, hc⟩ := hS.get
  rw [hk] at HC
  obtain ⟨h16, hob, _, _, _⟩ := Bt.chk_ok hk
  have HOB := Lib.hid hob
  have HLEN := Lib.hid hlen
  have HCC := Lib.hid hc
  have HE : Hid (Bt.encl seq ops = varl [seq, len] ++ (ops.take len).flatMap Bt.obRow) := by
    refine Lib.hid ?_
    rw [← hlen, List.take_length, varl_two, Bt.encl, List.append_assoc]
  have HVL : Hid ((varl [seq, len]).length ≤ 18) := Lib.hid (varl_length [seq, len])
  have HVar : Hid (∀ v W, SeesU W v [seq, len] → Calls Try.prog 24 #[v] W (Gives (.string ⟨(varl [seq, len]).toArray⟩) W)) := Lib.hid (fun v W h =>
    var_any v [seq, len] W h (fun i => by match i with
                                          | 0 => simpa using hs
                                          | 1 => show len < _; omega
                                          | i + 2 => simp) (by simp))
  generalize varl [seq, len] = VL at *
  rw [hlen] at h16
  unfold batV at *
  clear hS hc hlen hob hk
  go_enter Try.func9, Try.ntmps9
  go_wp2_with fail
  refine (HC.out _ (HS.out.below HB.out)).mono ?_
  rintro e w1 ⟨rfl, hb1⟩
  have HB1 := Lib.hid (Below.next HB.out hb1)
  have hz : w.heap.size < w1.heap.size := by have := hb1.size; simp at this; omega
  have hcc : ∀ o, w1.cell? ⟨w.heap.size, o, none⟩ = (w.alloc (.cells #[Value.int IntKind.u64 ↑seq, Value.slice ao len cap] 27)).cell? ⟨w.heap.size, o, none⟩ := fun o => hb1.cell (p := ⟨w.heap.size, o, none⟩) (by simp)
  clear hb1
  go_wp2_with fail
  refine (HVar.out _ _ (seesU_heap2 (heap_alloc2_new w1 _ _))).mono ?_
  rintro e w2 ⟨rfl, hb2⟩
  have hsz2 : w1.heap.size + 2 ≤ w2.heap.size := by have := hb2.size; simp at this; omega
  have HD2 : Hid (Bld w1.heap.size w1.heap.size [] w2) := Lib.hid (((Bld.new w1).alloc _).below hb2)
  have HB2 : Hid (Below w1.heap.size w1 w2) := Lib.hid (Below.next (Below.next_alloc ((Below.refl _ _).alloc (Nat.le_refl _) _) _) hb2)
  clear hb2
  have HVS : Hid ((⟨VL.toArray⟩ : ByteArray).data.toList = VL) := Lib.hid rfl
  have hvs : (⟨VL.toArray⟩ : ByteArray).size ≤ 18 := by rw [size_mk]; exact HVL.out
  generalize (⟨VL.toArray⟩ : ByteArray) = VS at *
  go_wp2_with fail
  refine (writeString_any _ _ _ VS _ HD2.out (by simp; omega) (by omega)).mono ?_
  rintro e w3 ⟨rfl, hu3, hb3⟩
  rw [List.nil_append, HVS.out] at hu3
  have hsz3 := hb3.size
  have HB3 : Hid (Below w1.heap.size w1 w3) := Lib.hid (HB2.out.trans hb3)
  have hcd : ∀ o, w3.cell? ⟨w.heap.size, o, none⟩ = w1.cell? ⟨w.heap.size, o, none⟩ := fun o => HB3.out.cell (p := ⟨w.heap.size, o, none⟩) hz
  have HU3 := Lib.hid hu3
  have HBB3 : Hid (Below w.heap.size w w3) := Lib.hid (Below.next HB1.out HB3.out)
  clear hb3 hu3
  go_wp2_with fail
  go_loopw [25] (fun i wr => ∃ k : Nat, k ≤ len ∧ i = .int .i64 k ∧ Used w1.heap.size w1.heap.size (VL ++ (ops.take k).flatMap Bt.obRow) wr ∧ Below w.heap.size w wr ∧ w1.heap.size ≤ wr.heap.size) (fun i _ => len - (intOf i).toNat)
  case atStart => exact ⟨0, Nat.zero_le _, rfl, by simpa using HU3.out, HBB3.out, by omega⟩
  case round =>
    obtain ⟨k, hk, rfl, hu, hbel, hsw⟩ := hrel
    have HU := Lib.hid hu; clear hu
    have hsz := hbel.size
    by_cases hlt : k < len
    · obtain ⟨rfl, hbl, hob⟩ := HCC.out k hlt
      obtain ⟨c0, c1, c2⟩ := hob.below hbel hbl
      have hbr : b < wr.heap.size := by omega
      have hkl : k < ops.length := by rw [HLEN.out]; exact hlt
      have HR : Hid ((ops.take (k + 1)).flatMap Bt.obRow = (ops.take k).flatMap Bt.obRow ++ Bt.obRow (ops.getD k obd)) := Lib.hid (rows_snoc ops k hkl)
      have HLO : Hid (Bt.longOb (ops.getD k obd) = false) := Lib.hid (HOB.out _ (getD_mem hkl)).1
      have HLT : Hid (((ops.take k).flatMap Bt.obRow).length ≤ 9600) := by
        have h1 := rows_length (ops := ops.take k) (fun o ho => (HOB.out o (List.mem_of_mem_take ho)).1)
        have h2 : (ops.take k).length ≤ k := List.length_take_le ..
        exact Lib.hid (by omega)
      clear hob hkl
      generalize ops.getD k obd = x at *
      have HRW : Hid (∀ W, Calls Try.prog 25 #[.agg #[.string x.key, .string x.val, .bool x.gone]] W (Gives (.string ⟨(Bt.obRow x).toArray⟩) W)) := by
        have h := HLO.out
        simp only [Bt.longOb, Bool.or_eq_false_iff, decide_eq_false_iff_not] at h
        exact Lib.hid (fun W => rowOf_any x W (by omega) (by omega))
      have hrs : (⟨(Bt.obRow x).toArray⟩ : ByteArray).size ≤ 600 := by rw [size_mk]; exact obRow_length HLO.out
      have HRS : Hid ((⟨(Bt.obRow x).toArray⟩ : ByteArray).data.toList = Bt.obRow x) := Lib.hid rfl
      generalize (⟨(Bt.obRow x).toArray⟩ : ByteArray) = RS at *
      go_wp2_with fail
      refine (HRW.out _).mono ?_
      rintro e w4 ⟨rfl, hb4⟩
      have HU4 : Hid (Bld w1.heap.size w1.heap.size (VL ++ (ops.take k).flatMap Bt.obRow) w4) := Lib.hid ((HU.out.bld.alloc _).below hb4)
      have HB4 : Hid (Below w.heap.size w w4) := Lib.hid (Below.next (Below.next_alloc hbel _) hb4)
      have hsz4 : wr.heap.size + 1 ≤ w4.heap.size := by have := hb4.size; simp at this; omega
      clear hb4
      go_wp2_with fail
      refine (writeString_any _ _ _ RS _ HU4.out (by rw [List.length_append]; have := HVL.out; have := HLT.out; omega) (by omega)).mono ?_
      rintro e w5 ⟨rfl, hu5, hb5⟩
      rw [HRS.out, List.append_assoc, ← HR.out] at hu5
      have hsz5 := hb5.size
      have HB5 : Hid (Below w.heap.size w w5) := Lib.hid (HB4.out.trans (hb5.mono (by omega)))
      have HU5 := Lib.hid hu5
      clear hb5 hu5
      go_wp2_with fail
      go_roundw
      case rel => exact ⟨k + 1, by omega, by go_num, HU5.out, HB5.out, by omega⟩
      case measure => simp [intOf]; omega
    · obtain rfl : k = len := by omega
      go_wp2_with fail
      refine (string_any _ _ _ _ HU.out.bld (by omega)).mono ?_
      rintro e w4 ⟨rfl, hb4⟩
      have HB4 : Hid (Below w.heap.size w w4) := Lib.hid (hbel.trans (hb4.mono (by omega)))
      go_wp2_with fail
      go_ret2
      rw [HE.out]
      exact ⟨rfl, HB4.out⟩

/-- Encode, of every batch. -/
theorem encode_any (seq : Nat) (ao : Option Addr) (len cap : Nat) (ops : List Ob) (w : World) (hS : SeesO w (.slice ao len cap) ops) (hs : seq < 18446744073709551616) :
    Calls Try.prog 9 #[batV seq ao len cap] w (Told (if Bt.chk seq ops = 0 then Bt.encl seq ops else []) (Bt.chk seq ops) w) := by
  by_cases h : Bt.chk seq ops = 0
  · rw [if_pos h, h]; exact encode_yes seq ao len cap ops w hS hs h
  · rw [if_neg h]; exact encode_no seq ao len cap ops w hS hs h

end Go.Proofs.Ytohfjibhfbcanaa

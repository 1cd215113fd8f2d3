/- Texts on the program's own functions, several in one: BnBtC, BnBtD, BnBtE. -/
import Derived.Test.YtfeconankopjmaaGreatDoorPk22
import Derived.Test.YtfeconankopjmaaGreatDoorBtPlain
import Derived.Laws.Externs
import Derived.Deep.RegionHeld3

/- Walks of strings.Builder's copyCheck and WriteString, over this program. -/
namespace Go.Proofs.YtfeconankopjmaaGreatDoor.Bn
set_option maxRecDepth 100000
open Go.RowKit

theorem info_bld : (Tryz.prog.info? 147).map (·.size) = some 2 := by kernel_rfl
theorem lies_bld : liesAt Tryz.prog Tryz.prog.depth 147 (2 / Tryz.prog.cellsOf 147) 0 147 1 = true := by kernel_rfl

theorem byteCells_append (a b : List UInt8) : Lib.byteCells (a ++ b) = Lib.byteCells a ++ Lib.byteCells b := by simp [Lib.byteCells]

/-- A builder that is the call's own, from a block on. -/
def Bld (base b : Nat) (l : List UInt8) (w : World) : Prop := Lib.IsBuilder 147 5 base b (Lib.byteCells l) w

set_option maxHeartbeats 1000000 in
theorem copyCheck_used (b : Nat) (w : World) (h0 : w.cell? ⟨b, 0, none⟩ = some (.pointer (some ⟨b, 0, none⟩))) :
    Calls Tryz.prog 122 #[.pointer (some ⟨b, 0, none⟩)] w fun e w' => e = .returned (.tuple #[]) ∧ w' = w := by
  obtain ⟨j, hj, _⟩ := Option.map_eq_some_iff.1 info_bld
  have hne := Lib.run_neq_ptr_same w (P := Tryz.prog) ⟨b, 0, none⟩ Tryz.underlying145 hj
  go_enter Tryz.func122, Tryz.ntmps122
  go_wp2_with fail
  go_end0
  exact ⟨rfl, rfl⟩

set_option maxHeartbeats 1000000 in
theorem copyCheck_fresh (b : Nat) (w : World) (h0 : w.cell? ⟨b, 0, none⟩ = some (.pointer none)) (hsh : w.shape? b = some (147, 2)) (hfz : w.frozen? ⟨b, 0, none⟩ = false) :
    Calls Tryz.prog 122 #[.pointer (some ⟨b, 0, none⟩)] w fun e w' => e = .returned (.tuple #[]) ∧ w' = w.setCell ⟨b, 0, none⟩ (.pointer (some ⟨b, 0, none⟩)) := by
  obtain ⟨j, hj, hjs⟩ := Option.map_eq_some_iff.1 info_bld
  have hTU := Lib.run_to_unsafe w (P := Tryz.prog) (src := 145) (dst := 224) ⟨b, 0, none⟩ Tryz.underlying145 Tryz.underlying224 hj (by rw [hjs]; decide) hsh (Nat.zero_lt_succ 1)
  have hFU := Lib.run_from_unsafe w (P := Tryz.prog) (src := 224) (dst := 145) ⟨b, 0, none⟩ Tryz.underlying224 Tryz.underlying145 hj hsh lies_bld
  go_enter Tryz.func122, Tryz.ntmps122
  go_wp2_with fail
  rw [run_callFunc_extern Tryz.func162 (by kernel_rfl) (by kernel_rfl) (by kernel_rfl) (e := Extern.AbiNoEscape.same) (by kernel_rfl), Lib.run_noEscape]
  simp only [Result.andThen]
  rw [Oper.upon_value]
  go_wp2_with fail
  go_end0
  exact ⟨rfl, rfl⟩

/-- A builder of which one byte was written has its own address in it. -/
def Used (base b : Nat) (l : List UInt8) (w : World) : Prop := Lib.BuilderAt 147 5 base b (.pointer (some ⟨b, 0, none⟩)) (Lib.byteCells l) w
theorem Used.bld {base b : Nat} {l : List UInt8} {w : World} (h : Used base b l w) : Bld base b l w := Or.inr h
theorem Bld.new (w : World) : Bld w.heap.size w.heap.size [] (w.alloc (.cells #[.pointer none, .slice none 0 0] 147)) := Lib.fresh_isBuilder _ _ w

theorem copyCheck_any (base b : Nat) (l : List UInt8) (w : World) (h : Bld base b l w) :
    Calls Tryz.prog 122 #[.pointer (some ⟨b, 0, none⟩)] w fun e w' => e = .returned (.tuple #[]) ∧ Used base b l w' ∧ Below base w w' := by
  rcases h with h | h
  · refine (copyCheck_fresh b w h.cell0 h.shape h.frozen0).mono ?_
    rintro e w' ⟨rfl, rfl⟩
    exact ⟨rfl, h.used _, (Below.refl base w).setCell (p := ⟨b, 0, none⟩) h.1 _⟩
  · refine (copyCheck_used b w h.cell0).mono ?_
    rintro e w' ⟨rfl, rfl⟩
    exact ⟨rfl, h, Below.refl base _⟩

set_option maxHeartbeats 1000000 in
theorem writeString_any (base b : Nat) (l : List UInt8) (s : ByteArray) (w : World) (h : Bld base b l w) (hlen : l.length + s.size ≤ 100000000) (hbw : base ≤ w.heap.size) :
    Calls Tryz.prog 88 #[.pointer (some ⟨b, 0, none⟩), .string s] w fun e w' => e = .returned (.tuple #[.int .i64 s.size, .nilIface]) ∧ Used base b (l ++ s.data.toList) w' ∧ Below base w w' := by
  obtain ⟨i0, hi, hz0, hz1, hz2⟩ := info_parts info_u8
  have HB := Lib.hid h; clear h
  have HL := Lib.hid hlen; clear hlen
  go_enter Tryz.func88, Tryz.ntmps88
  go_wp2_with fail
  refine (copyCheck_any base b l _ HB.out).mono ?_
  rintro e w1 ⟨rfl, h1, hb1⟩
  obtain ⟨hB, v, hbk, hown, hne⟩ := h1
  have hsz1 := hb1.size
  have hlt : b < w1.heap.size := by
    rcases Nat.lt_or_ge b w1.heap.size with h' | h'
    · exact h'
    · rw [Array.getElem?_eq_none h'] at hbk; cases hbk
  have c0 : w1.cell? ⟨b, 0, none⟩ = some (.pointer (some ⟨b, 0, none⟩)) := by rw [Lib.cell_of_heap hbk]; rfl
  have c1 : w1.cell? ⟨b, 1, none⟩ = some v := by rw [Lib.cell_of_heap hbk]; rfl
  have HBK := Lib.hid hbk; have HNE := Lib.hid hne; have HB1 := Lib.hid hb1
  clear hbk hne hb1
  rw [Lib.byteCells_length] at hown
  go_wp2_with (at_builtin; go_must (refine Lib.wpList_append_own_string _ rfl _ _ 128 9 rfl base 5 i0 Tryz.underlying128 Tryz.underlying9 hi hz0 hz1 hz2 _ _ _ rfl hown s rfl ?c3 ?c4 ?c5 ?_))
  case c3 => have := HL.out; unfold maxLen; omega
  case c4 => have := HL.out; omega
  case c5 => omega
  intro v' w2 hown' hgrow _
  have hb2 : w2.heap[b]? = some (.cells #[.pointer (some ⟨b, 0, none⟩), v] 147 (0, 0)) := by
    rw [hgrow.block b hlt (fun e => HNE.out e.symm)]
    exact HBK.out
  have HU : Hid (Used base b (l ++ s.data.toList) (w2.setCell ⟨b, 1, none⟩ v')) := by
    refine Lib.hid (Lib.BuilderAt.put hB hb2 (bs' := Lib.byteCells (l ++ s.data.toList)) ?_ (by decide))
    rw [byteCells_append, List.length_append, Lib.byteCells_length, Lib.byteCells_length, length_list]
    exact hown'
  have HBB : Hid (Below base w (w2.setCell ⟨b, 1, none⟩ v')) := Lib.hid ((HB1.out.grown hgrow (by omega) (fun k hk => (hown.lt k hk).1)).setCell (p := ⟨b, 1, none⟩) hB _)
  have d0 : w2.cell? ⟨b, 0, none⟩ = some (.pointer (some ⟨b, 0, none⟩)) := by rw [Lib.cell_of_heap hb2]; rfl
  have d1 : w2.cell? ⟨b, 1, none⟩ = some v := by rw [Lib.cell_of_heap hb2]; rfl
  have f1 : w2.frozen? ⟨b, 1, none⟩ = false := Lib.frozen_of_heap hb2 1
  obtain ⟨ao, n', cap, rfl⟩ : ∃ ao n' cap, v' = .slice ao n' cap := by
    rcases hown'.2 with ⟨hv, _⟩ | ⟨g, cap, cur, hv, _⟩
    · exact ⟨_, _, _, hv⟩
    · exact ⟨_, _, _, hv⟩
  clear hown hown' hgrow hb2
  go_wp2_with fail
  go_ret2
  exact ⟨rfl, HU.out, HBB.out⟩

theorem string_any (base b : Nat) (l : List UInt8) (w : World) (h : Bld base b l w) (hbw : base ≤ w.heap.size) :
    Calls Tryz.prog 91 #[.pointer (some ⟨b, 0, none⟩)] w fun e w' => e = .returned (.string ⟨l.toArray⟩) ∧ Below base w w' := Tryz.Builder_String_any base b l w h hbw

end Go.Proofs.YtfeconankopjmaaGreatDoor.Bn

/- The walk of batch.Encode. -/
namespace Go.Proofs.YtfeconankopjmaaGreatDoor.Bn
set_option maxRecDepth 100000
open Go.RowKit

/-- A string and an error's number come back. -/
def Told (l : List UInt8) (e : Nat) (w : World) (x : Ending) (w' : World) : Prop := x = .returned (.tuple #[.string ⟨l.toArray⟩, .int .i64 e]) ∧ Below w.heap.size w w'

theorem seesU_heap2 {w : World} {B n m : Nat} {t : TypeId} (h : w.heap[B]? = some (.cells #[.int .u64 n, .int .u64 m] t (0, 0))) : SeesU w (.slice (some ⟨B, 0, none⟩) 2 2) [n, m] := by
  have hc : w.cell? ⟨B, 0, none⟩ = some (.int .u64 n) := by simp [World.cell?, h]
  have hd : w.cell? ⟨B, 0 + 1, none⟩ = some (.int .u64 m) := by simp [World.cell?, h]
  refine Or.inr ⟨B, 0, 2, rfl, World.block_lt_of_cell? w _ hc, fun i hi => ?_⟩
  match i, hi with
  | 0, _ => exact hc
  | 1, _ => exact hd

set_option maxHeartbeats 4000000 in
theorem encode_no (seq : Nat) (ao : Option Addr) (len cap : Nat) (ops : List Ob) (w : World) (hS : SeesO w (.slice ao len cap) ops) (hs : seq < 18446744073709551616) (hk : Bt.chk seq ops ≠ 0) :
    Calls Tryz.prog 43 #[batV seq ao len cap] w (Told [] (Bt.chk seq ops) w) := by
  have HC := Lib.hid (fun W h => check_any seq ao len cap ops W h hs)
  have HS := Lib.hid hS
  have HB : Hid (Below w.heap.size w (w.alloc (.cells #[Value.int IntKind.u64 ↑seq, Value.slice ao len cap] 32))) := Lib.hid ((Below.refl _ _).alloc (Nat.le_refl _) _)
  unfold batV at *
  clear hS
  generalize Bt.chk seq ops = c at *
  have hk' : ¬ ((c : Int) = 0) := by omega
  clear hk
  go_enter Tryz.func43, Tryz.ntmps43
  go_wp2_with fail
  refine (HC.out _ (HS.out.below HB.out)).mono ?_
  rintro e w1 ⟨rfl, hb1⟩
  have HB1 := Lib.hid (Below.next HB.out hb1)
  clear hb1
  go_wp2_with fail
  go_ret2
  exact ⟨rfl, HB1.out⟩

theorem ownsRow_below {w w' : World} {base : Nat} {e : TypeId} {z n : Nat} {v : Value} {xs : List Value} (h : w.ownsRow base e z v n xs) (hb : Below w.heap.size w w') : w'.ownsRow base e z v n xs :=
  h.kept (row := none) ⟨hb.os, hb.tape, hb.output, hb.size, fun k hk _ => hb.block k hk⟩ (by cases v.ownBlock with
    | none => exact Or.inl rfl
    | some k => exact Or.inr (by simp))
theorem Bld.below {base b : Nat} {l : List UInt8} {w w' : World} (h : Bld base b l w) (hb : Below w.heap.size w w') : Bld base b l w' := by
  have key : ∀ p, Lib.BuilderAt 147 5 base b p (Lib.byteCells l) w → Lib.BuilderAt 147 5 base b p (Lib.byteCells l) w' := by
    rintro p ⟨hB, v, hbk, hown, hne⟩
    exact ⟨hB, v, kept_block hbk hb, ownsRow_below hown hb, hne⟩
  exact h.imp (key _) (key _)
theorem Bld.alloc {base b : Nat} {l : List UInt8} {w : World} (h : Bld base b l w) (o : Obj) : Bld base b l (w.alloc o) := h.below ((Below.refl _ _).alloc (Nat.le_refl _) o)
theorem varl_two (a b : Nat) : varl [a, b] = Nm.row a ++ Nm.row b := by simp [varl]
theorem rows_snoc (ops : List Ob) (k : Nat) (h : k < ops.length) : (ops.take (k + 1)).flatMap Bt.obRow = (ops.take k).flatMap Bt.obRow ++ Bt.obRow (ops.getD k obd) := by
  have e : ops.getD k obd = ops[k] := by simp [h]
  rw [List.take_succ_eq_append_getElem h, List.flatMap_append, e, List.flatMap_singleton]
theorem obRow_length {o : Ob} (hl : Bt.longOb o = false) : (Bt.obRow o).length ≤ 600 := by
  simp only [Bt.longOb, Bool.or_eq_false_iff, decide_eq_false_iff_not] at hl
  have h1 := (Bt.txt_length o.key).2
  have h2 := (Bt.txt_length o.val).2
  unfold Bt.obRow
  split
  · simp only [List.length_cons]; omega
  · simp only [List.length_cons, List.length_append]; omega
theorem rows_length : ∀ {ops : List Ob}, (∀ o ∈ ops, Bt.longOb o = false) → (ops.flatMap Bt.obRow).length ≤ 600 * ops.length
  | [], _ => by simp
  | o :: ops, h => by
    have h1 := obRow_length (h o (List.mem_cons_self ..))
    have h2 := rows_length (ops := ops) fun x hx => h x (List.mem_cons_of_mem _ hx)
    rw [List.flatMap_cons, List.length_append, List.length_cons]
    omega

set_option maxHeartbeats 4000000 in
theorem encode_yes (seq : Nat) (ao : Option Addr) (len cap : Nat) (ops : List Ob) (w : World) (hS : SeesO w (.slice ao len cap) ops) (hs : seq < 18446744073709551616) (hk : Bt.chk seq ops = 0) :
    Calls Tryz.prog 43 #[batV seq ao len cap] w (Told (Bt.encl seq ops) 0 w) := by
  have HC := Lib.hid (fun W h => check_any seq ao len cap ops W h hs)
  have HS := Lib.hid hS
  have HB : Hid (Below w.heap.size w (w.alloc (.cells #[Value.int IntKind.u64 ↑seq, Value.slice ao len cap] 32))) := Lib.hid ((Below.refl _ _).alloc (Nat.le_refl _) _)
  obtain ⟨hlen, b, off, hc⟩ := hS.get
  rw [hk] at HC
  obtain ⟨h16, hob, _, _, _⟩ := Bt.chk_ok hk
  have HOB := Lib.hid hob
  have HLEN := Lib.hid hlen
  have HCC := Lib.hid hc
  have HE : Hid (Bt.encl seq ops = varl [seq, len] ++ (ops.take len).flatMap Bt.obRow) := by
    refine Lib.hid ?_
    rw [← hlen, List.take_length, varl_two, Bt.encl, List.append_assoc]
  have HVL : Hid ((varl [seq, len]).length ≤ 18) := Lib.hid (varl_length [seq, len])
  have HVar : Hid (∀ v W, SeesU W v [seq, len] → Calls Tryz.prog 89 #[v] W (Gives (.string ⟨(varl [seq, len]).toArray⟩) W)) := Lib.hid (fun v W h =>
    var_any v [seq, len] W h (fun i => by match i with
                                          | 0 => simpa using hs
                                          | 1 => show len < _; omega
                                          | i + 2 => simp) (by simp))
  generalize varl [seq, len] = VL at *
  rw [hlen] at h16
  unfold batV at *
  clear hS hc hlen hob hk
  go_enter Tryz.func43, Tryz.ntmps43
  go_wp2_with fail
  refine (HC.out _ (HS.out.below HB.out)).mono ?_
  rintro e w1 ⟨rfl, hb1⟩
  have HB1 := Lib.hid (Below.next HB.out hb1)
  have hz : w.heap.size < w1.heap.size := by have := hb1.size; simp at this; omega
  have hcc : ∀ o, w1.cell? ⟨w.heap.size, o, none⟩ = (w.alloc (.cells #[Value.int IntKind.u64 ↑seq, Value.slice ao len cap] 32)).cell? ⟨w.heap.size, o, none⟩ := fun o => hb1.cell (p := ⟨w.heap.size, o, none⟩) (by simp)
  clear hb1
  go_wp2_with fail
  refine (HVar.out _ _ (seesU_heap2 (heap_alloc2_new w1 _ _))).mono ?_
  rintro e w2 ⟨rfl, hb2⟩
  have hsz2 : w1.heap.size + 2 ≤ w2.heap.size := by have := hb2.size; simp at this; omega
  have HD2 : Hid (Bld w1.heap.size w1.heap.size [] w2) := Lib.hid (((Bld.new w1).alloc _).below hb2)
  have HB2 : Hid (Below w1.heap.size w1 w2) := Lib.hid (Below.next (Below.next_alloc ((Below.refl _ _).alloc (Nat.le_refl _) _) _) hb2)
  clear hb2
  have HVS : Hid ((⟨VL.toArray⟩ : ByteArray).data.toList = VL) := Lib.hid rfl
  have hvs : (⟨VL.toArray⟩ : ByteArray).size ≤ 18 := by rw [size_mk]; exact HVL.out
  generalize (⟨VL.toArray⟩ : ByteArray) = VS at *
  go_wp2_with fail
  refine (writeString_any _ _ _ VS _ HD2.out (by simp; omega) (by omega)).mono ?_
  rintro e w3 ⟨rfl, hu3, hb3⟩
  rw [List.nil_append, HVS.out] at hu3
  have hsz3 := hb3.size
  have HB3 : Hid (Below w1.heap.size w1 w3) := Lib.hid (HB2.out.trans hb3)
  have hcd : ∀ o, w3.cell? ⟨w.heap.size, o, none⟩ = w1.cell? ⟨w.heap.size, o, none⟩ := fun o => HB3.out.cell (p := ⟨w.heap.size, o, none⟩) hz
  have HU3 := Lib.hid hu3
  have HBB3 : Hid (Below w.heap.size w w3) := Lib.hid (Below.next HB1.out HB3.out)
  clear hb3 hu3
  go_wp2_with fail
  go_loopw [25] (fun i wr => ∃ k : Nat, k ≤ len ∧ i = .int .i64 k ∧ Used w1.heap.size w1.heap.size (VL ++ (ops.take k).flatMap Bt.obRow) wr ∧ Below w.heap.size w wr ∧ w1.heap.size ≤ wr.heap.size) (fun i _ => len - (intOf i).toNat)
  case atStart => exact ⟨0, Nat.zero_le _, rfl, by simpa using HU3.out, HBB3.out, by omega⟩
  case round =>
    obtain ⟨k, hk, rfl, hu, hbel, hsw⟩ := hrel
    have HU := Lib.hid hu; clear hu
    have hsz := hbel.size
    by_cases hlt : k < len
    · obtain ⟨rfl, hbl, hob⟩ := HCC.out k hlt
      obtain ⟨c0, c1, c2⟩ := hob.below hbel hbl
      have hbr : b < wr.heap.size := by omega
      have hkl : k < ops.length := by rw [HLEN.out]; exact hlt
      have HR : Hid ((ops.take (k + 1)).flatMap Bt.obRow = (ops.take k).flatMap Bt.obRow ++ Bt.obRow (ops.getD k obd)) := Lib.hid (rows_snoc ops k hkl)
      have HLO : Hid (Bt.longOb (ops.getD k obd) = false) := Lib.hid (HOB.out _ (getD_mem hkl)).1
      have HLT : Hid (((ops.take k).flatMap Bt.obRow).length ≤ 9600) := by
        have h1 := rows_length (ops := ops.take k) (fun o ho => (HOB.out o (List.mem_of_mem_take ho)).1)
        have h2 : (ops.take k).length ≤ k := List.length_take_le ..
        exact Lib.hid (by omega)
      clear hob hkl
      generalize ops.getD k obd = x at *
      have HRW : Hid (∀ W, Calls Tryz.prog 90 #[.agg #[.string x.key, .string x.val, .bool x.gone]] W (Gives (.string ⟨(Bt.obRow x).toArray⟩) W)) := by
        have h := HLO.out
        simp only [Bt.longOb, Bool.or_eq_false_iff, decide_eq_false_iff_not] at h
        exact Lib.hid (fun W => rowOf_any x W (by omega) (by omega))
      have hrs : (⟨(Bt.obRow x).toArray⟩ : ByteArray).size ≤ 600 := by rw [size_mk]; exact obRow_length HLO.out
      have HRS : Hid ((⟨(Bt.obRow x).toArray⟩ : ByteArray).data.toList = Bt.obRow x) := Lib.hid rfl
      generalize (⟨(Bt.obRow x).toArray⟩ : ByteArray) = RS at *
      go_wp2_with fail
      refine (HRW.out _).mono ?_
      rintro e w4 ⟨rfl, hb4⟩
      have HU4 : Hid (Bld w1.heap.size w1.heap.size (VL ++ (ops.take k).flatMap Bt.obRow) w4) := Lib.hid ((HU.out.bld.alloc _).below hb4)
      have HB4 : Hid (Below w.heap.size w w4) := Lib.hid (Below.next (Below.next_alloc hbel _) hb4)
      have hsz4 : wr.heap.size + 1 ≤ w4.heap.size := by have := hb4.size; simp at this; omega
      clear hb4
      go_wp2_with fail
      refine (writeString_any _ _ _ RS _ HU4.out (by rw [List.length_append]; have := HVL.out; have := HLT.out; omega) (by omega)).mono ?_
      rintro e w5 ⟨rfl, hu5, hb5⟩
      rw [HRS.out, List.append_assoc, ← HR.out] at hu5
      have hsz5 := hb5.size
      have HB5 : Hid (Below w.heap.size w w5) := Lib.hid (HB4.out.trans (hb5.mono (by omega)))
      have HU5 := Lib.hid hu5
      clear hb5 hu5
      go_wp2_with fail
      go_roundw
      case rel => exact ⟨k + 1, by omega, by go_num, HU5.out, HB5.out, by omega⟩
      case measure => simp [intOf]; omega
    · obtain rfl : k = len := by omega
      go_wp2_with fail
      refine (string_any _ _ _ _ HU.out.bld (by omega)).mono ?_
      rintro e w4 ⟨rfl, hb4⟩
      have HB4 : Hid (Below w.heap.size w w4) := Lib.hid (hbel.trans (hb4.mono (by omega)))
      go_wp2_with fail
      go_ret2
      rw [HE.out]
      exact ⟨rfl, HB4.out⟩

/-- Encode, of every batch. -/
theorem encode_any (seq : Nat) (ao : Option Addr) (len cap : Nat) (ops : List Ob) (w : World) (hS : SeesO w (.slice ao len cap) ops) (hs : seq < 18446744073709551616) :
    Calls Tryz.prog 43 #[batV seq ao len cap] w (Told (if Bt.chk seq ops = 0 then Bt.encl seq ops else []) (Bt.chk seq ops) w) := by
  by_cases h : Bt.chk seq ops = 0
  · rw [if_pos h, h]; exact encode_yes seq ao len cap ops w hS hs h
  · rw [if_neg h]; exact encode_no seq ao len cap ops w hS hs h

end Go.Proofs.YtfeconankopjmaaGreatDoor.Bn

/- The walk of batch.readOp. -/
namespace Go.Proofs.YtfeconankopjmaaGreatDoor.Bn
set_option maxRecDepth 100000
open Go.RowKit
set_option linter.unusedVariables false

/-- What readOp answers. -/
def roT (key val : ByteArray) (gone : Bool) (k : Int) (ok : Bool) : Value := .tuple #[.agg #[.string key, .string val, .bool gone], .int .i64 k, .bool ok]
def roN : Value := roT ⟨#[]⟩ ⟨#[]⟩ false 0 false

set_option maxHeartbeats 1000000 in
theorem readOp_empty (w : World) :
    Calls Tryz.prog 186 #[.string ByteArray.empty] w (Gives roN w) := by
  have he : ByteArray.empty.toList.isEmpty = true := empty_yes rfl
  go_enter Tryz.func186, Tryz.ntmps186
  go_wp2_with fail
  refine bodyPost_ret (v := roN) (by simp [results, Tryz.results186, go_sem, roN, roT]) rfl ⟨rfl, ?_⟩
  exact (Below.refl _ _).alloc (Nat.le_refl _) _

set_option maxHeartbeats 1000000 in
theorem readOp_bad (s : ByteArray) (c : Int) (w : World) (h1 : 1 ≤ s.size) (hn0 : c ≠ 0) (hn1 : c ≠ 1)
    (hx : ∀ w : World, (Instr.index 9 (.string s) (.int .i64 0)).run Tryz.prog w = .ok (.int .u8 c) w) :
    Calls Tryz.prog 186 #[.string s] w (Gives roN w) := by
  have hn0' : (c != 0) = true := by rw [bne_iff_ne]; exact hn0
  have hn1' : (c != 1) = true := by rw [bne_iff_ne]; exact hn1
  have he := isEmpty_of_size h1
  go_enter Tryz.func186, Tryz.ntmps186
  go_wp2_with fail
  refine bodyPost_ret (v := roN) (by simp [results, Tryz.results186, go_sem, roN, roT]) rfl ⟨rfl, ?_⟩
  exact (Below.refl _ _).alloc (Nat.le_refl _) _

set_option maxHeartbeats 1000000 in
theorem readOp_none (s : ByteArray) (c : Int) (w : World) (hs : s.size ≤ 1099511627776) (h1 : 1 ≤ s.size) (hc : c = 0 ∨ c = 1)
    (hx : ∀ w : World, (Instr.index 9 (.string s) (.int .i64 0)).run Tryz.prog w = .ok (.int .u8 c) w)
    (hv : rt (s.data.toList.drop 1) 64 = none) :
    Calls Tryz.prog 186 #[.string s] w (Gives roN w) := by
  have HV : Hid (rtV (s.data.toList.drop 1) 64 = noText) := Lib.hid (by unfold rtV; rw [hv])
  have he := isEmpty_of_size h1
  have HS := Lib.hid hs
  clear hv hs
  have h1i : (1 : Int) ≤ s.size := by omega
  rcases hc with rfl | rfl
  all_goals
    go_enter Tryz.func186, Tryz.ntmps186
    go_wp2_with fail
    refine (readText_any _ _ _ (by have := HS.out; rw [ByteArray.size_extract]; omega) (by omega)).mono ?_
    rintro e w1 ⟨rfl, hb⟩
    rw [Lib.extract_to_end, HV.out]
    obtain ⟨hcc, hf⟩ := bcell hb
    have hz : w.heap.size < w1.heap.size := by have := hb.size; simp at this; omega
    unfold noText
    go_wp2_with fail
    refine bodyPost_ret (v := roN) (by simp [results, Tryz.results186, go_sem, roN, roT, hcc]) rfl ⟨rfl, ?_⟩
    exact (((Below.next ((Below.refl _ _).alloc (Nat.le_refl _) _) hb).setCell (Nat.le_refl _) _).setCell (Nat.le_refl _) _).setCell (Nat.le_refl _) _

set_option maxHeartbeats 1000000 in
theorem readOp_gone (s t : ByteArray) (k : Nat) (w : World) (hs : s.size ≤ 1099511627776) (h1 : 1 ≤ s.size) (hk : (k : Int) ≤ 1099511627776)
    (hx : ∀ w : World, (Instr.index 9 (.string s) (.int .i64 0)).run Tryz.prog w = .ok (.int .u8 1) w)
    (hv : rtV (s.data.toList.drop 1) 64 = .tuple #[.string t, .int .i64 k, .bool true]) :
    Calls Tryz.prog 186 #[.string s] w (Gives (roT t ⟨#[]⟩ true (1 + (k : Int)) true) w) := by
  have HV := Lib.hid hv
  have he := isEmpty_of_size h1
  have HS := Lib.hid hs
  clear hv hs
  have h1i : (1 : Int) ≤ s.size := by omega
  go_enter Tryz.func186, Tryz.ntmps186
  go_wp2_with fail
  refine (readText_any _ _ _ (by have := HS.out; rw [ByteArray.size_extract]; omega) (by omega)).mono ?_
  rintro e w1 ⟨rfl, hb⟩
  rw [Lib.extract_to_end, HV.out]
  obtain ⟨hcc, hf⟩ := bcell hb
  have hz : w.heap.size < w1.heap.size := by have := hb.size; simp at this; omega
  go_wp2_with fail
  refine bodyPost_ret (v := roT t ⟨#[]⟩ true (1 + (k : Int)) true) (by simp [results, Tryz.results186, go_sem, roT, hcc]) rfl ⟨rfl, ?_⟩
  exact (((Below.next ((Below.refl _ _).alloc (Nat.le_refl _) _) hb).setCell (Nat.le_refl _) _).setCell (Nat.le_refl _) _).setCell (Nat.le_refl _) _

def roG (ok : Bool) (t u : ByteArray) (k m : Nat) : Value := if ok = true then roT t u false (1 + (k : Int) + m) true else roN
theorem roG_true (t u : ByteArray) (k m : Nat) : roG true t u k m = roT t u false (1 + (k : Int) + m) true := rfl
theorem roG_false (t u : ByteArray) (k m : Nat) : roG false t u k m = roN := rfl

set_option maxHeartbeats 1000000 in
theorem readOp_value (s t u : ByteArray) (k m : Nat) (ok : Bool) (w : World) (hs : s.size ≤ 1099511627776) (h1 : 1 ≤ s.size) (hk : 1 + (k : Int) ≤ s.size) (hm : (m : Int) ≤ 1099511627776)
    (hx : ∀ w : World, (Instr.index 9 (.string s) (.int .i64 0)).run Tryz.prog w = .ok (.int .u8 0) w)
    (hv : rtV (s.data.toList.drop 1) 64 = .tuple #[.string t, .int .i64 k, .bool true])
    (hu : rtV (s.data.toList.drop (1 + k)) 512 = .tuple #[.string u, .int .i64 m, .bool ok]) :
    Calls Tryz.prog 186 #[.string s] w (Gives (roG ok t u k m) w) := by
  have HV := Lib.hid hv
  have HU := Lib.hid hu
  have he := isEmpty_of_size h1
  have HS := Lib.hid hs
  have hsi : (s.size : Int) ≤ 1099511627776 := by omega
  clear hv hs hu
  have h1i : (1 : Int) ≤ s.size := by omega
  go_enter Tryz.func186, Tryz.ntmps186
  go_wp2_with fail
  refine (readText_any _ _ _ (by have := HS.out; rw [ByteArray.size_extract]; omega) (by omega)).mono ?_
  rintro e w1 ⟨rfl, hb⟩
  rw [Lib.extract_to_end, HV.out]
  have hz : w.heap.size < w1.heap.size := by have := hb.size; simp at this; omega
  have HB1 := Lib.hid (Below.next ((Below.refl _ _).alloc (Nat.le_refl _) _) hb)
  obtain ⟨hcc, hf⟩ := bcell hb
  clear hb
  go_wp2_with fail
  refine (readText_any _ _ _ (by have := HS.out; rw [ByteArray.size_extract]; omega) (by omega)).mono ?_
  rintro e w2 ⟨rfl, hb2⟩
  rw [Lib.extract_to_end, HU.out]
  obtain ⟨hcc2, hf2⟩ := bcell hb2
  have hz2 : w.heap.size < w2.heap.size := by have := hb2.size; omega
  have HB2 := Lib.hid (Below.next HB1.out hb2)
  clear hb2
  cases ok with
  | true =>
    rw [roG_true]
    go_wp2_with fail
    refine bodyPost_ret (v := roT t u false (1 + (k : Int) + m) true) (by simp [results, Tryz.results186, go_sem, roT, hcc, hcc2, hz]) rfl ⟨rfl, ?_⟩
    exact ((HB2.out.setCell (Nat.le_refl _) _).setCell (Nat.le_refl _) _).setCell (Nat.le_refl _) _
  | false =>
    rw [roG_false]
    go_wp2_with fail
    refine bodyPost_ret (v := roN) (by simp [results, Tryz.results186, go_sem, roN, roT, hcc, hcc2, hz]) rfl ⟨rfl, ?_⟩
    exact ((HB2.out.setCell (Nat.le_refl _) _).setCell (Nat.le_refl _) _).setCell (Nat.le_refl _) _

/-- What readOp answers. -/
def roV (o : Option (Ob × Nat)) : Value := match o with
  | none => roN
  | some (o, k) => roT o.key o.val o.gone k true

theorem drop_cons' (s : ByteArray) (h : 1 ≤ s.size) : s.data.toList = s[0] :: s.data.toList.drop 1 := by
  have h2 : 0 < s.data.toList.length := by rw [length_list]; omega
  have := List.drop_eq_getElem_cons h2
  rw [List.drop_zero] at this
  exact this

/-- readOp, of every text of at most 2^40 bytes. -/
theorem readOp_any (s : ByteArray) (w : World) (hs : s.size ≤ 1099511627776) :
    Calls Tryz.prog 186 #[.string s] w (Gives (roV (Bt.ro s.data.toList)) w) := by
  by_cases h0 : s.size = 0
  · obtain rfl := empty_of_size h0
    exact readOp_empty w
  · have h1 : 1 ≤ s.size := by omega
    have hx := index_byte s 0 h1
    have hd := drop_cons' s h1
    generalize s[0] = b at *
    have hlt := b.toNat_lt
    have hll : (s.data.toList.drop 1).length ≤ 1099511627776 := by rw [List.length_drop, length_list]; omega
    by_cases hb : b = 0 ∨ b = 1
    · have hro : Bt.ro s.data.toList = Bt.rr s.data.toList := by rw [hd, Bt.ro_rr _ _ hb]
      cases h64 : rt (s.data.toList.drop 1) 64 with
      | none =>
        have e : Bt.ro s.data.toList = none := by rw [hro, hd, Bt.rr_cons, h64]
        rw [e]
        have hc : (b.toNat : Int) = 0 ∨ (b.toNat : Int) = 1 := by
          rcases hb with rfl | rfl
          · exact Or.inl rfl
          · exact Or.inr rfl
        exact readOp_none s _ w hs h1 hc hx h64
      | some x =>
        obtain ⟨t, k⟩ := x
        have hk2 := (Bt.txt_rt h64).2.1
        rw [List.length_drop, length_list] at hk2
        have hv : rtV (s.data.toList.drop 1) 64 = .tuple #[.string ⟨t.toArray⟩, .int .i64 k, .bool true] := by unfold rtV; rw [h64]
        rcases hb with rfl | rfl
        · cases h512 : rt (s.data.toList.drop (1 + k)) 512 with
          | none =>
            have e : Bt.ro s.data.toList = none := by
              rw [hro, hd, Bt.rr_cons, h64]
              simp only
              rw [if_neg (by decide), List.drop_drop, h512]
            rw [e]
            have hu : rtV (s.data.toList.drop (1 + k)) 512 = .tuple #[.string ⟨#[]⟩, .int .i64 (0 : Nat), .bool false] := by unfold rtV; rw [h512]; rfl
            exact readOp_value s _ _ k 0 false w hs h1 (by omega) (by omega) hx hv hu
          | some y =>
            obtain ⟨u, m⟩ := y
            have hm2 := (Bt.txt_rt h512).2.1
            rw [List.length_drop, length_list] at hm2
            have e : Bt.ro s.data.toList = some (⟨⟨t.toArray⟩, ⟨u.toArray⟩, false⟩, 1 + k + m) := by
              rw [hro, hd, Bt.rr_cons, h64]
              simp only
              rw [if_neg (by decide), List.drop_drop, h512]
            rw [e]
            have hu : rtV (s.data.toList.drop (1 + k)) 512 = .tuple #[.string ⟨u.toArray⟩, .int .i64 m, .bool true] := by unfold rtV; rw [h512]
            have h := readOp_value s _ _ k m true w hs h1 (by omega) (by omega) hx hv hu
            have e2 : (1 + (k : Int) + m) = ((1 + k + m : Nat) : Int) := by omega
            rw [roG_true, e2] at h
            exact h
        · have e : Bt.ro s.data.toList = some (⟨⟨t.toArray⟩, ByteArray.empty, true⟩, 1 + k) := by
            rw [hro, hd, Bt.rr_cons, h64]
            simp only [if_true]
          rw [e]
          have h := readOp_gone s _ k w hs h1 (by omega) hx hv
          have e2 : (1 + (k : Int)) = ((1 + k : Nat) : Int) := by omega
          rw [e2] at h
          exact h
    · have hro : Bt.ro s.data.toList = none := by rw [hd, Bt.ro_cons, if_neg hb]
      rw [hro]
      refine readOp_bad s _ w h1 ?_ ?_ hx
      · intro e
        exact hb (Or.inl (UInt8.toNat.inj (by show b.toNat = 0; omega)))
      · intro e
        exact hb (Or.inr (UInt8.toNat.inj (by show b.toNat = 1; omega)))

end Go.Proofs.YtfeconankopjmaaGreatDoor.Bn

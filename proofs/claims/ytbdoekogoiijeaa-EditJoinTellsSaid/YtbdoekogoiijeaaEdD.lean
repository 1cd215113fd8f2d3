/- The walk of edit.Encode. -/
import Derived.Test.YtbdoekogoiijeaaEdC
namespace Go.Proofs.Ytbdoekogoiijeaa
open Go.RowKit
set_option linter.unusedVariables false
set_option maxRecDepth 20000

namespace Ed
/-- A table's numbers are within their types. -/
def InT (t : Tbl) : Prop := t.n < 18446744073709551616 ∧ (-9223372036854775808 ≤ t.level ∧ t.level ≤ 9223372036854775807) ∧ (-9223372036854775808 ≤ t.count ∧ t.count ≤ 9223372036854775807) ∧ (-9223372036854775808 ≤ t.size ∧ t.size ≤ 9223372036854775807) ∧ t.least < 18446744073709551616 ∧ t.most < 18446744073709551616
def In (e : Edt) : Prop := (∀ t ∈ e.add, InT t) ∧ (∀ n ∈ e.drop, n < 18446744073709551616) ∧ e.log < 18446744073709551616 ∧ e.seq < 18446744073709551616 ∧ e.next < 18446744073709551616
theorem right_of {e : Edt} (h : In e) (hk : chk e.add e.drop = 0) (ha : e.add.length < 18446744073709551616) (hd : e.drop.length < 18446744073709551616) : Right e := by
  obtain ⟨h1, h2, h3, h4, h5⟩ := h
  obtain ⟨k1, k2⟩ := chk_ok hk
  refine ⟨ha, fun t ht => ?_, hd, h2, h3, h4, h5⟩
  obtain ⟨a1, a2, a3, a4, a5, a6⟩ := h1 t ht
  obtain ⟨b1, b2, b3, b4, b5, b6, b7, b8, b9, b10⟩ := (tbOk_iff t).1 (k1 t ht)
  exact ⟨a1, ⟨b2, a2.2⟩, ⟨by omega, a3.2⟩, ⟨by omega, a4.2⟩, b6.2, b7.2, a5, a6⟩
theorem fits_of {e : Edt} (h : In e) (hk : chk e.add e.drop = 0) : ∀ t ∈ e.add, Fits t := by
  intro t ht
  obtain ⟨h1, h2, h3, h4, h5⟩ := h
  obtain ⟨k1, k2⟩ := chk_ok hk
  obtain ⟨a1, a2, a3, a4, a5, a6⟩ := h1 t ht
  obtain ⟨b1, b2, b3, b4, b5, b6, b7, b8, b9, b10⟩ := (tbOk_iff t).1 (k1 t ht)
  exact ⟨a1, ⟨b2, a2.2⟩, ⟨by omega, a3.2⟩, ⟨by omega, a4.2⟩, b6.2, b7.2, a5, a6⟩
theorem tbRow_length {t : Tbl} (h : Fits t) : (tbRow t).length ≤ 200 := by
  obtain ⟨_, _, _, _, h1, h2, _, _⟩ := h
  have a := varl_length (nums t)
  have b := textl_two_length t.first t.last h1 h2
  unfold tbRow
  rw [List.length_append]
  simp only [nums, List.length_cons, List.length_nil] at a
  simp only [nums]
  omega
theorem rows_length : ∀ {l : List Tbl}, (∀ t ∈ l, Fits t) → (l.flatMap tbRow).length ≤ 200 * l.length
  | [], _ => by simp
  | t :: l, h => by
    have h1 := tbRow_length (h t (List.mem_cons_self ..))
    have h2 := rows_length (l := l) fun x hx => h x (List.mem_cons_of_mem _ hx)
    rw [List.flatMap_cons, List.length_append, List.length_cons]
    omega
theorem rows_snoc (l : List Tbl) (k : Nat) (h : k < l.length) : (l.take (k + 1)).flatMap tbRow = (l.take k).flatMap tbRow ++ tbRow (l.getD k tbd) := by
  have e : l.getD k tbd = l[k] := by simp [h]
  rw [List.take_succ_eq_append_getElem h, List.flatMap_append, e, List.flatMap_singleton]
theorem getD_mem {l : List Tbl} {k : Nat} (h : k < l.length) : l.getD k tbd ∈ l := by
  have e : l.getD k tbd = l[k] := by simp [h]
  rw [e]; exact List.getElem_mem h
end Ed

/-- A string and an error's number come back. -/
def Told (l : List UInt8) (e : Nat) (w : World) (x : Ending) (w' : World) : Prop := x = .returned (.tuple #[.string ⟨l.toArray⟩, .int .i64 e]) ∧ Below w.heap.size w w'

theorem bound_u {l : List Nat} (h : ∀ n ∈ l, n < 18446744073709551616) (i : Nat) : l.getD i 0 < 18446744073709551616 := by
  by_cases hi : i < l.length
  · have e : l.getD i 0 = l[i] := by simp [hi]
    rw [e]; exact h _ (List.getElem_mem hi)
  · have e : l.getD i 0 = 0 := by simp [List.getElem?_eq_none (Nat.le_of_not_lt hi)]
    rw [e]; omega

theorem seesU_h1 {w : World} {B n : Nat} {t : TypeId} (h : w.heap[B]? = some (.cells #[.int .u64 (n : Nat)] t (0, 0))) : SeesU w (.slice (some ⟨B, 0, none⟩) 1 1) [n] := seesU_heap h rfl (fun i hi => by
  match i, hi with
  | 0, _ => rfl)
theorem seesU_h3 {w : World} {B n m k : Nat} {t : TypeId} (h : w.heap[B]? = some (.cells #[.int .u64 (n : Nat), .int .u64 (m : Nat), .int .u64 (k : Nat)] t (0, 0))) : SeesU w (.slice (some ⟨B, 0, none⟩) 3 3) [n, m, k] := seesU_heap h rfl (fun i hi => by
  match i, hi with
  | 0, _ => rfl
  | 1, _ => rfl
  | 2, _ => rfl)

set_option maxHeartbeats 4000000 in
theorem encode_no (ao : Option Addr) (an ac : Nat) (bo : Option Addr) (bn bc : Nat) (e : Edt) (w : World) (hA : SeesTb w (.slice ao an ac) e.add) (hD : SeesU w (.slice bo bn bc) e.drop) (hla : an ≤ 100000) (hlb : bn ≤ 1000000) (hk : Ed.chk e.add e.drop ≠ 0) :
    Calls Try.prog 44 #[edV ao an ac bo bn bc e.log e.seq e.next] w (Told [] (Ed.chk e.add e.drop) w) := by
  have HC : Hid (∀ W, SeesTb W (.slice ao an ac) e.add → SeesU W (.slice bo bn bc) e.drop → Calls Try.prog 64 #[.agg #[.slice ao an ac, .slice bo bn bc, .int .u64 (e.log : Nat), .int .u64 (e.seq : Nat), .int .u64 (e.next : Nat)]] W (Gives (.int .i64 (Ed.chk e.add e.drop)) W)) := Lib.hid (fun W h1 h2 => check_any ao an ac bo bn bc e W h1 h2 (by omega) (by omega))
  have HA := Lib.hid hA; have HD := Lib.hid hD
  have HB : Hid (∀ o, Below w.heap.size w (w.alloc o)) := Lib.hid (fun o => (Below.refl _ _).alloc (Nat.le_refl _) _)
  clear hA hD
  generalize Ed.chk e.add e.drop = c at *
  have hk' : ¬ ((c : Int) = 0) := by omega
  clear hk
  unfold edV
  go_enter Try.func44, Try.ntmps44
  go_wp2_with fail
  refine (HC.out _ (HA.out.below (HB.out _)) (HD.out.below (HB.out _))).mono ?_
  rintro r w1 ⟨rfl, hb1⟩
  have HB1 := Lib.hid (Below.next (HB.out _) hb1)
  clear hb1
  go_wp2_with fail
  go_ret2
  exact ⟨rfl, HB1.out⟩

/-- What Encode answers of an edit that may be. -/
def Ed.long (l : List UInt8) : Bool := decide (524288 < l.length)
def EncSaid (l : List UInt8) (w : World) (x : Ending) (w' : World) : Prop := Told (if Ed.long l = true then [] else l) (if Ed.long l = true then 3 else 0) w x w'

set_option maxHeartbeats 8000000 in
theorem encode_yes (ao : Option Addr) (an ac : Nat) (bo : Option Addr) (bn bc : Nat) (e : Edt) (w : World) (hA : SeesTb w (.slice ao an ac) e.add) (hD : SeesU w (.slice bo bn bc) e.drop) (hla : an ≤ 100000) (hlb : bn ≤ 1000000) (hI : Ed.In e) (hk : Ed.chk e.add e.drop = 0) :
    Calls Try.prog 44 #[edV ao an ac bo bn bc e.log e.seq e.next] w (EncSaid (Ed.enc e) w) := by
  have HC : Hid (∀ W, SeesTb W (.slice ao an ac) e.add → SeesU W (.slice bo bn bc) e.drop → Calls Try.prog 64 #[.agg #[.slice ao an ac, .slice bo bn bc, .int .u64 (e.log : Nat), .int .u64 (e.seq : Nat), .int .u64 (e.next : Nat)]] W (Gives (.int .i64 0) W)) := Lib.hid (fun W h1 h2 => by
    have := check_any ao an ac bo bn bc e W h1 h2 (by omega) (by omega)
    rw [hk] at this
    exact this)
  have HF := Lib.hid (Ed.fits_of hI hk)
  obtain ⟨hi1, hi2, hi3, hi4, hi5⟩ := hI
  obtain ⟨hal, ba, oa, hac⟩ := hA.get
  obtain ⟨hdl, bd, od, hdc⟩ := hD.get
  have HAC := Lib.hid hac; have HAL := Lib.hid hal
  have HB : Hid (∀ o, Below w.heap.size w (w.alloc o)) := Lib.hid (fun o => (Below.refl _ _).alloc (Nat.le_refl _) _)
  have HVa : Hid (∀ v W, SeesU W v [an] → Calls Try.prog 66 #[v] W (Gives (.string ⟨(varl [an]).toArray⟩) W)) := Lib.hid (fun v W h => var_any v [an] W h (bound_u (by intro n hn; simp at hn; omega)) (by simp))
  have HVb : Hid (∀ v W, SeesU W v [bn] → Calls Try.prog 66 #[v] W (Gives (.string ⟨(varl [bn]).toArray⟩) W)) := Lib.hid (fun v W h => var_any v [bn] W h (bound_u (by intro n hn; simp at hn; omega)) (by simp))
  have HVd : Hid (∀ v W, SeesU W v e.drop → Calls Try.prog 66 #[v] W (Gives (.string ⟨(varl e.drop).toArray⟩) W)) := Lib.hid (fun v W h => var_any v e.drop W h (bound_u hi2) (by omega))
  have HVn : Hid (∀ v W, SeesU W v [e.log, e.seq, e.next] → Calls Try.prog 66 #[v] W (Gives (.string ⟨(varl [e.log, e.seq, e.next]).toArray⟩) W)) := Lib.hid (fun v W h => var_any v _ W h (bound_u (by intro n hn; simp at hn; rcases hn with rfl | rfl | rfl <;> assumption)) (by simp))
  have HLa : Hid ((varl [an]).length ≤ 9) := Lib.hid (varl_length [an])
  have HLb : Hid ((varl [bn]).length ≤ 9) := Lib.hid (varl_length [bn])
  have HLn : Hid ((varl [e.log, e.seq, e.next]).length ≤ 27) := Lib.hid (varl_length [e.log, e.seq, e.next])
  have HLd : Hid ((varl e.drop).length ≤ 9000000) := Lib.hid (by have := varl_length e.drop; omega)
  have HE : Hid (Ed.enc e = varl [an] ++ (e.add.take an).flatMap Ed.tbRow ++ varl [bn] ++ varl e.drop ++ varl [e.log, e.seq, e.next]) := by
    refine Lib.hid ?_
    rw [← hal, List.take_length, Ed.enc, ← hdl]
    simp [varl]
  have HA := Lib.hid hA; have HD := Lib.hid hD
  clear hA hD hac hdc hal hk hi1 hi2 hi3 hi4 hi5 hdl
  generalize varl [an] = VA at *
  generalize varl [bn] = VB at *
  generalize varl e.drop = VD at *
  generalize varl [e.log, e.seq, e.next] = VN at *
  unfold edV
  go_enter Try.func44, Try.ntmps44
  go_wp2_with fail
  refine (HC.out _ (HA.out.below (HB.out _)) (HD.out.below (HB.out _))).mono ?_
  rintro r w1 ⟨rfl, hb1⟩
  have hz : w.heap.size < w1.heap.size := by have := hb1.size; simp at this; omega
  obtain ⟨hcc, -⟩ := bcell hb1
  have e0 : w1.cell? ⟨w.heap.size, 0, none⟩ = some (.slice ao an ac) := by rw [hcc _ _ (by simp), World.cell?_alloc_new]; rfl
  have e1 : w1.cell? ⟨w.heap.size, 1, none⟩ = some (.slice bo bn bc) := by rw [hcc _ _ (by simp), World.cell?_alloc_new]; rfl
  have e2 : w1.cell? ⟨w.heap.size, 2, none⟩ = some (.int .u64 (e.log : Nat)) := by rw [hcc _ _ (by simp), World.cell?_alloc_new]; rfl
  have e3 : w1.cell? ⟨w.heap.size, 3, none⟩ = some (.int .u64 (e.seq : Nat)) := by rw [hcc _ _ (by simp), World.cell?_alloc_new]; rfl
  have e4 : w1.cell? ⟨w.heap.size, 4, none⟩ = some (.int .u64 (e.next : Nat)) := by rw [hcc _ _ (by simp), World.cell?_alloc_new]; rfl
  have HB1 := Lib.hid (Below.next (HB.out _) hb1)
  clear hb1 hcc
  have hwa : IntKind.u64.wrap (an : Int) = an := wrap_nat _ (by omega)
  have hwb : IntKind.u64.wrap (bn : Int) = bn := wrap_nat _ (by omega)
  go_wp2_with fail
  refine (HVa.out _ _ (seesU_h1 (heap_alloc2_new w1 _ _))).mono ?_
  rintro r w2 ⟨rfl, hb2⟩
  have hsz2 : w1.heap.size + 2 ≤ w2.heap.size := by have := hb2.size; simp at this; omega
  have HD2 : Hid (Bld w1.heap.size w1.heap.size [] w2) := Lib.hid (((Bld.new w1).alloc _).below hb2)
  have HB2 : Hid (Below w1.heap.size w1 w2) := Lib.hid (Below.next (Below.next_alloc ((Below.refl _ _).alloc (Nat.le_refl _) _) _) hb2)
  clear hb2
  have HVS : Hid ((⟨VA.toArray⟩ : ByteArray).data.toList = VA) := Lib.hid rfl
  have hvs : (⟨VA.toArray⟩ : ByteArray).size ≤ 9 := by rw [size_mk]; exact HLa.out
  generalize (⟨VA.toArray⟩ : ByteArray) = VS at *
  go_wp2_with fail
  refine (writeString_any _ _ _ VS _ HD2.out (by simp; omega) (by omega)).mono ?_
  rintro r w3 ⟨rfl, hu3, hb3⟩
  rw [List.nil_append, HVS.out] at hu3
  have hsz3 := hb3.size
  have HB3 : Hid (Below w1.heap.size w1 w3) := Lib.hid (HB2.out.trans hb3)
  have HU3 := Lib.hid hu3
  have d0 := (HB3.out.cell (p := ⟨w.heap.size, 0, none⟩) hz).trans e0
  clear hb3 hu3
  go_wp2_with fail
  go_loopw [23] (fun i wr => ∃ k : Nat, k ≤ an ∧ i = .int .i64 k ∧ Used w1.heap.size w1.heap.size (VA ++ (e.add.take k).flatMap Ed.tbRow) wr ∧ Below w1.heap.size w1 wr) (fun i _ => an - (intOf i).toNat)
  case atStart => exact ⟨0, Nat.zero_le _, rfl, by simpa using HU3.out, HB3.out⟩
  case round =>
    obtain ⟨k, hk, rfl, hu, hbel⟩ := hrel
    have HU := Lib.hid hu; clear hu
    have hsz := hbel.size
    have HLT : Hid (((e.add.take k).flatMap Ed.tbRow).length ≤ 20000000) := by
      have h1 := Ed.rows_length (l := e.add.take k) (fun o ho => HF.out o (List.mem_of_mem_take ho))
      have h2 : (e.add.take k).length ≤ k := List.length_take_le ..
      exact Lib.hid (by omega)
    by_cases hlt : k < an
    · obtain ⟨rfl, hbl, hob⟩ := HAC.out k hlt
      obtain ⟨c0, c1, c2, c3, c4, c5, c6, c7⟩ := hob.below (Below.next HB1.out hbel) hbl
      have hbr : ba < wr.heap.size := by omega
      have hkl : k < e.add.length := by rw [HAL.out]; exact hlt
      have HR : Hid ((e.add.take (k + 1)).flatMap Ed.tbRow = (e.add.take k).flatMap Ed.tbRow ++ Ed.tbRow (e.add.getD k tbd)) := Lib.hid (Ed.rows_snoc e.add k hkl)
      have hfx := HF.out _ (Ed.getD_mem hkl)
      clear hob hkl
      generalize e.add.getD k tbd = x at *
      have HRW : Hid (∀ W, Calls Try.prog 67 #[.agg #[.int .u64 (x.n : Nat), .int .i64 x.level, .int .i64 x.count, .int .i64 x.size, .string x.first, .string x.last, .int .u64 (x.least : Nat), .int .u64 (x.most : Nat)]] W (Gives (.string ⟨(Ed.tbRow x).toArray⟩) W)) := Lib.hid (fun W => rowOf_any x W hfx)
      have hrs : (⟨(Ed.tbRow x).toArray⟩ : ByteArray).size ≤ 200 := by rw [size_mk]; exact Ed.tbRow_length hfx
      have HRS : Hid ((⟨(Ed.tbRow x).toArray⟩ : ByteArray).data.toList = Ed.tbRow x) := Lib.hid rfl
      clear hfx
      generalize (⟨(Ed.tbRow x).toArray⟩ : ByteArray) = RS at *
      go_wp2_with fail
      refine (HRW.out _).mono ?_
      rintro r w4 ⟨rfl, hb4⟩
      have HU4 : Hid (Bld w1.heap.size w1.heap.size (VA ++ (e.add.take k).flatMap Ed.tbRow) w4) := Lib.hid ((HU.out.bld.alloc _).below hb4)
      have HB4 : Hid (Below w1.heap.size w1 w4) := Lib.hid (Below.next (Below.next_alloc hbel _) hb4)
      have hsz4 : wr.heap.size + 1 ≤ w4.heap.size := by have := hb4.size; simp at this; omega
      clear hb4
      go_wp2_with fail
      refine (writeString_any _ _ _ RS _ HU4.out (by rw [List.length_append]; have := HLa.out; have := HLT.out; omega) (by omega)).mono ?_
      rintro r w5 ⟨rfl, hu5, hb5⟩
      rw [HRS.out, List.append_assoc, ← HR.out] at hu5
      have HB5 : Hid (Below w1.heap.size w1 w5) := Lib.hid (HB4.out.trans hb5)
      have HU5 := Lib.hid hu5
      clear hb5 hu5
      go_wp2_with fail
      go_roundw
      case rel => exact ⟨k + 1, by omega, by go_num, HU5.out, HB5.out⟩
      case measure => simp [intOf]; omega
    · obtain rfl : k = an := by omega
      have f1 := (hbel.cell (p := ⟨w.heap.size, 1, none⟩) hz).trans e1
      have HBW := Lib.hid hbel
      clear hbel d0
      generalize (e.add.take k).flatMap Ed.tbRow = RR at *
      have HLR := HLT
      have g2 := e2; have g3 := e3; have g4 := e4
      go_wp2_with fail
      refine (HVb.out _ _ (seesU_h1 (heap_alloc_new wr _))).mono ?_
      rintro r w4 ⟨rfl, hb4⟩
      have HU4 : Hid (Bld w1.heap.size w1.heap.size (VA ++ RR) w4) := Lib.hid ((HU.out.bld.alloc _).below hb4)
      have HB4 : Hid (Below w1.heap.size w1 w4) := Lib.hid (Below.next (Below.next_alloc HBW.out _) hb4)
      have hsz4 := HB4.out.size
      clear hb4
      have HVT : Hid ((⟨VB.toArray⟩ : ByteArray).data.toList = VB) := Lib.hid rfl
      have hvt : (⟨VB.toArray⟩ : ByteArray).size ≤ 9 := by rw [size_mk]; exact HLb.out
      generalize (⟨VB.toArray⟩ : ByteArray) = VT at *
      go_wp2_with fail
      refine (writeString_any _ _ _ VT _ HU4.out (by rw [List.length_append]; have := HLa.out; have := HLR.out; omega) (by omega)).mono ?_
      rintro r w5 ⟨rfl, hu5, hb5⟩
      rw [HVT.out] at hu5
      have HB5 : Hid (Below w1.heap.size w1 w5) := Lib.hid (HB4.out.trans hb5)
      have HU5 := Lib.hid hu5
      have hsz5 := HB5.out.size
      have f1 := (HB5.out.cell (p := ⟨w.heap.size, 1, none⟩) hz).trans e1
      clear hb5 hu5
      go_wp2_with fail
      refine (HVd.out _ _ (HD.out.below (Below.next HB1.out HB5.out))).mono ?_
      rintro r w6 ⟨rfl, hb6⟩
      have HU6 : Hid (Bld w1.heap.size w1.heap.size (VA ++ RR ++ VB) w6) := Lib.hid (HU5.out.bld.below hb6)
      have HB6 : Hid (Below w1.heap.size w1 w6) := Lib.hid (Below.next HB5.out hb6)
      have hsz6 := HB6.out.size
      clear hb6
      have HVU : Hid ((⟨VD.toArray⟩ : ByteArray).data.toList = VD) := Lib.hid rfl
      have hvu : (⟨VD.toArray⟩ : ByteArray).size ≤ 9000000 := by rw [size_mk]; exact HLd.out
      generalize (⟨VD.toArray⟩ : ByteArray) = VU at *
      go_wp2_with fail
      refine (writeString_any _ _ _ VU _ HU6.out (by rw [List.length_append, List.length_append]; have := HLa.out; have := HLR.out; have := HLb.out; omega) (by omega)).mono ?_
      rintro r w7 ⟨rfl, hu7, hb7⟩
      rw [HVU.out] at hu7
      have HB7 : Hid (Below w1.heap.size w1 w7) := Lib.hid (HB6.out.trans hb7)
      have HU7 := Lib.hid hu7
      have hsz7 := HB7.out.size
      have f2 := (HB7.out.cell (p := ⟨w.heap.size, 2, none⟩) hz).trans e2
      have f3 := (HB7.out.cell (p := ⟨w.heap.size, 3, none⟩) hz).trans e3
      have f4 := (HB7.out.cell (p := ⟨w.heap.size, 4, none⟩) hz).trans e4
      clear hb7 hu7
      go_wp2_with fail
      refine (HVn.out _ _ (seesU_h3 (heap_alloc_new w7 _))).mono ?_
      rintro r w8 ⟨rfl, hb8⟩
      have HU8 : Hid (Bld w1.heap.size w1.heap.size (VA ++ RR ++ VB ++ VD) w8) := Lib.hid ((HU7.out.bld.alloc _).below hb8)
      have HB8 : Hid (Below w1.heap.size w1 w8) := Lib.hid (Below.next (Below.next_alloc HB7.out _) hb8)
      have hsz8 := HB8.out.size
      clear hb8
      have HVV : Hid ((⟨VN.toArray⟩ : ByteArray).data.toList = VN) := Lib.hid rfl
      have hvv : (⟨VN.toArray⟩ : ByteArray).size ≤ 27 := by rw [size_mk]; exact HLn.out
      generalize (⟨VN.toArray⟩ : ByteArray) = VV at *
      go_wp2_with fail
      refine (writeString_any _ _ _ VV _ HU8.out (by rw [List.length_append, List.length_append, List.length_append]; have := HLa.out; have := HLR.out; have := HLb.out; have := HLd.out; omega) (by omega)).mono ?_
      rintro r w9 ⟨rfl, hu9, hb9⟩
      rw [HVV.out, ← HE.out] at hu9
      have HB9 : Hid (Below w.heap.size w w9) := Lib.hid (Below.next HB1.out (HB8.out.trans hb9))
      have HU9 := Lib.hid hu9
      have hsz9 : w1.heap.size ≤ w9.heap.size := (HB8.out.trans hb9).size
      clear hb9 hu9 HE
      generalize Ed.enc e = X at *
      go_wp2_with fail
      refine (len_any _ _ _ _ HU9.out).mono ?_
      rintro r w10 ⟨rfl, rfl⟩
      by_cases hL : 524288 < X.length
      · have HL : Hid (Ed.long X = true) := Lib.hid (by simp [Ed.long, hL])
        have hL' : (524288 : Int) < X.length := by omega
        clear hL
        go_wp2_with fail
        go_ret2
        unfold EncSaid
        rw [if_pos HL.out, if_pos HL.out]
        exact ⟨rfl, HB9.out⟩
      · have HL : Hid (¬ Ed.long X = true) := Lib.hid (by simp [Ed.long]; omega)
        have hL' : ¬ (524288 : Int) < X.length := by omega
        clear hL
        go_wp2_with fail
        refine (string_any _ _ _ _ HU9.out.bld (by omega)).mono ?_
        rintro r w11 ⟨rfl, hb11⟩
        have HB11 : Hid (Below w.heap.size w w11) := Lib.hid (HB9.out.trans (hb11.mono (by omega)))
        go_wp2_with fail
        go_ret2
        unfold EncSaid
        rw [if_neg HL.out, if_neg HL.out]
        exact ⟨rfl, HB11.out⟩

/-- What Encode answers. -/
def Ed.encode (e : Edt) : List UInt8 × Nat := if Ed.chk e.add e.drop = 0 then (if Ed.long (Ed.enc e) = true then ([], 3) else (Ed.enc e, 0)) else ([], Ed.chk e.add e.drop)

/-- Encode, of every edit of at most 100000 tables, 1000000 numbers. -/
theorem encode_any (ao : Option Addr) (an ac : Nat) (bo : Option Addr) (bn bc : Nat) (e : Edt) (w : World) (hA : SeesTb w (.slice ao an ac) e.add) (hD : SeesU w (.slice bo bn bc) e.drop) (hla : an ≤ 100000) (hlb : bn ≤ 1000000) (hI : Ed.In e) :
    Calls Try.prog 44 #[edV ao an ac bo bn bc e.log e.seq e.next] w (Told (Ed.encode e).1 (Ed.encode e).2 w) := by
  by_cases h : Ed.chk e.add e.drop = 0
  · have k := encode_yes ao an ac bo bn bc e w hA hD hla hlb hI h
    unfold Ed.encode
    rw [if_pos h]
    unfold EncSaid at k
    by_cases hl : Ed.long (Ed.enc e) = true
    · rw [if_pos hl] at k ⊢; rw [if_pos hl] at k; exact k
    · rw [if_neg hl] at k ⊢; rw [if_neg hl] at k; exact k
  · unfold Ed.encode
    rw [if_neg h]
    exact encode_no ao an ac bo bn bc e w hA hD hla hlb h

end Go.Proofs.Ytbdoekogoiijeaa

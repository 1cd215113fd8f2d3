/- Texts on the program's own functions, several in one: BnNumClone, BnNumText, BnBtMath, BnBtA, BnNumVar, BnNumVarU. -/
import Derived.Test.YtfeconankopjmaaGreatDoorPk4
import Derived.Lib.Strings
import Derived.Lib.BufferWrite
import Derived.Lib.UnsafeStr
import Derived.Laws.MakeOwn
import Derived.Lib.AppendStr

/- The walk of strings.Clone over this program: the same bytes; of what was there nothing has turned. Condition: at most 2^48 bytes. -/
namespace Go.Proofs.YtfeconankopjmaaGreatDoor.Bn
set_option maxRecDepth 100000
open Go.RowKit

set_option maxHeartbeats 4000000 in
set_option maxRecDepth 100000 in
theorem liteClone_any (s : ByteArray) (w : World) (hlim : s.size ≤ 281474976710656) :
    Calls Tryz.prog 128 #[.string s] w fun e w' => e = .returned (.string s) ∧ Below w.heap.size w w' := by
  by_cases h0 : s.size = 0
  · obtain rfl := empty_of_size h0
    go_enter Tryz.func128, Tryz.ntmps128
    go_wp2
    go_ret
    exact ⟨rfl, Below.refl _ _⟩
  · obtain ⟨i0, hi, hz0, hz1, hz2⟩ := info_parts info_u8
    have hinfo : (Tryz.prog.info? 5).map (·.size) = some 1 := by rw [hi]; simp [hz1]
    have hco : Tryz.prog.cellsOf 5 = 1 := by simp [Program.cellsOf, hi, hz1]
    obtain ⟨M, hM⟩ : ∃ M, M = madeCells (Value.int .u8 0).cells (((s.size : Nat) : Int).toNat * i0.size) := ⟨_, rfl⟩
    have hMs : M.size = s.size := by rw [hM, size_madeCells, hz1]; simp
    have hmk : ∀ W : World, (Instr.makeSlice 128 (.int .i64 (s.size : Int)) (.int .i64 (s.size : Int))).run Tryz.prog W = .ok (.slice (some ⟨W.heap.size, 0, none⟩) s.size s.size) (W.alloc (.cells M 5)) := fun W => by
      have h := run_make (P := Tryz.prog) W 128 5 i0 (.int .u8 0) Tryz.underlying128 hi hz0 .i64 .i64 (s.size : Int) (s.size : Int) (by omega) (by omega) (by rw [hz2]; omega) (by omega)
      rw [← hM] at h
      simpa using h
    clear hM
    have hcp := Lib.run_copy_row_string (P := Tryz.prog) (w.alloc (.cells M 5)) 128 9 3 5 w.heap.size 0 s.size s.size s M 5 Tryz.underlying128 hinfo (heap_alloc_new w _) (Nat.le_refl _) (by omega)
    obtain ⟨Y, hY⟩ : ∃ Y, Y = (M.toList.take 0 ++ Lib.byteCells s.data.toList ++ M.toList.drop (0 + s.size)).toArray := ⟨_, rfl⟩
    rw [← hY] at hcp
    have hYl : Y.toList = Lib.byteCells s.data.toList := by
      rw [hY, List.toList_toArray, List.take_zero, List.nil_append, List.drop_of_length_le (by rw [Array.length_toList]; omega), List.append_nil]
    have hYs : Y.size = s.size := by rw [← Array.length_toList, hYl, Lib.byteCells_length, ← Lib.size_eq]
    have hgY : ((w.alloc (.cells M 5)).setRow w.heap.size Y).heap[w.heap.size]? = some (.cells Y 5 (0, 0)) := setRow_heap _ _ M _ 5 (0, 0) (heap_alloc_new w _)
    have hne : s.data.toList ≠ [] := fun e => h0 (by rw [Lib.size_eq, e]; rfl)
    have hUS := Lib.run_unsafeString_row (P := Tryz.prog) ((w.alloc (.cells M 5)).setRow w.heap.size Y) 186 3 9 5 Tryz.underlying186 hco w.heap.size Y.size (by unfold World.shape?; rw [hgY]) s.data.toList hne (by rw [← Lib.size_eq]; omega) (by rw [← Lib.size_eq]; omega)
      (fun j x hx => Lib.cells_of_row hgY Y.size j _ (by rw [List.take_of_length_le (by rw [Array.length_toList]; exact Nat.le_refl _), hYl]; simp [Lib.byteCells, hx]))
    rw [← Lib.size_eq] at hUS
    clear hY
    go_enter Tryz.func128, Tryz.ntmps128
    go_wp2
    go_ret
    have hb1 : Below w.heap.size w (w.alloc (.cells M 5)) := (Below.refl _ w).alloc (Nat.le_refl _) _
    have hb2 : Below w.heap.size (w.alloc (.cells M 5)) ((w.alloc (.cells M 5)).setRow w.heap.size Y) := ⟨rfl, rfl, rfl, by simp, fun k hk => setRow_other _ _ _ _ (by omega)⟩
    exact ⟨rfl, Lib.below_freeze (hb1.trans hb2) (p := ⟨w.heap.size, 0, none⟩) (Nat.le_refl _) _⟩

set_option maxHeartbeats 400000 in
theorem clone_any (s : ByteArray) (w : World) (hlim : s.size ≤ 281474976710656) :
    Calls Tryz.prog 95 #[.string s] w fun e w' => e = .returned (.string s) ∧ Below w.heap.size w w' := by
  have HL := Lib.hid hlim; clear hlim
  go_enter Tryz.func95, Tryz.ntmps95
  go_wp2_with fail
  refine (liteClone_any _ _ HL.out).mono ?_
  rintro e w1 ⟨rfl, hb⟩
  go_wp2_with fail
  go_ret
  exact ⟨rfl, hb⟩

end Go.Proofs.YtfeconankopjmaaGreatDoor.Bn

/- Walks of num.ReadText. -/
namespace Go.Proofs.YtfeconankopjmaaGreatDoor.Bn
set_option maxRecDepth 100000
open Go.RowKit

/-- What ReadText answers: no text. -/
def noText : Value := .tuple #[.string ByteArray.empty, .int .i64 0, .bool false]

/-- The text that a text begins with, and its row's length. -/
def rt (l : List UInt8) (most : Int) : Option (List UInt8 × Nat) :=
  match Nm.rv l with
  | none => none
  | some (n, k) => if most < n ∨ l.length < k + n then none else some ((l.drop k).take n, k + n)

def rtV (l : List UInt8) (most : Int) : Value :=
  match rt l most with
  | none => noText
  | some (t, k) => .tuple #[.string ⟨t.toArray⟩, .int .i64 k, .bool true]

set_option maxHeartbeats 400000 in
theorem readText_none (s : ByteArray) (most : Int) (w : World) (hs : s.size ≤ 9223372036854775807) (hv : rvV s.data.toList = .tuple #[.int .u64 0, .int .i64 0, .bool false]) :
    Calls Tryz.prog 207 #[.string s, .int .i64 most] w (Gives noText w) := by
  have HV := Lib.hid hv; clear hv
  have HS := Lib.hid hs; clear hs
  go_enter Tryz.func207, Tryz.ntmps207
  go_wp2_with fail
  refine (readVar_any _ _ HS.out).mono ?_
  rintro e w' ⟨rfl, rfl⟩
  rw [HV.out]
  go_wp2_with fail
  go_ret3
  exact ⟨rfl, Below.refl _ _⟩

set_option maxHeartbeats 400000 in
theorem readText_less (s : ByteArray) (most n k : Int) (w : World) (hs : s.size ≤ 9223372036854775807) (hv : rvV s.data.toList = .tuple #[.int .u64 n, .int .i64 k, .bool true]) (h0 : most < 0) :
    Calls Tryz.prog 207 #[.string s, .int .i64 most] w (Gives noText w) := by
  have HV := Lib.hid hv; clear hv
  have HS := Lib.hid hs; clear hs
  go_enter Tryz.func207, Tryz.ntmps207
  go_wp2_with fail
  refine (readVar_any _ _ HS.out).mono ?_
  rintro e w' ⟨rfl, rfl⟩
  rw [HV.out]
  go_wp2_with fail
  go_ret3
  exact ⟨rfl, Below.refl _ _⟩

set_option maxHeartbeats 400000 in
theorem readText_most (s : ByteArray) (most n k : Int) (w : World) (hs : s.size ≤ 9223372036854775807) (hv : rvV s.data.toList = .tuple #[.int .u64 n, .int .i64 k, .bool true]) (h0 : 0 ≤ most) (h1 : most < n) (hm : most ≤ 9223372036854775807) :
    Calls Tryz.prog 207 #[.string s, .int .i64 most] w (Gives noText w) := by
  have HV := Lib.hid hv; clear hv
  have HS := Lib.hid hs; clear hs
  go_enter Tryz.func207, Tryz.ntmps207
  go_wp2_with fail
  refine (readVar_any _ _ HS.out).mono ?_
  rintro e w' ⟨rfl, rfl⟩
  rw [HV.out]
  go_wp2_with fail
  go_ret3
  exact ⟨rfl, Below.refl _ _⟩

set_option maxHeartbeats 400000 in
theorem readText_cut (s : ByteArray) (most n k : Int) (w : World) (hs : s.size ≤ 9223372036854775807) (hv : rvV s.data.toList = .tuple #[.int .u64 n, .int .i64 k, .bool true]) (h0 : 0 ≤ most) (h1 : n ≤ most) (hm : most ≤ 9223372036854775807)
    (_hk0 : 1 ≤ k) (hk : k ≤ s.size) (hn : s.size < k + n) :
    Calls Tryz.prog 207 #[.string s, .int .i64 most] w (Gives noText w) := by
  have HV := Lib.hid hv; clear hv
  have hn' : (s.size : Int) - k < n := by omega
  go_enter Tryz.func207, Tryz.ntmps207
  go_wp2_with fail
  refine (readVar_any _ _ hs).mono ?_
  rintro e w' ⟨rfl, rfl⟩
  rw [HV.out]
  go_wp2_with fail
  go_ret3
  exact ⟨rfl, Below.refl _ _⟩

set_option maxHeartbeats 400000 in
theorem readText_yes (s : ByteArray) (most : Int) (n k : Nat) (w : World) (hs : s.size ≤ 281474976710656) (hv : rvV s.data.toList = .tuple #[.int .u64 n, .int .i64 k, .bool true]) (h0 : 0 ≤ most) (h1 : n ≤ most) (hm : most ≤ 9223372036854775807)
    (hk0 : 1 ≤ k) (hn : k + n ≤ s.size) :
    Calls Tryz.prog 207 #[.string s, .int .i64 most] w (Gives (.tuple #[.string (s.extract k (k + n)), .int .i64 ((k : Int) + n), .bool true]) w) := by
  have HV := Lib.hid hv; clear hv
  have hn' : (n : Int) ≤ (s.size : Int) - k := by omega
  have hle : (s.extract k (k + n)).size ≤ 281474976710656 := by rw [ByteArray.size_extract]; omega
  have HLE := Lib.hid hle; clear hle
  go_enter Tryz.func207, Tryz.ntmps207
  go_wp2_with fail
  refine (readVar_any _ _ (by omega)).mono ?_
  rintro e w' ⟨rfl, rfl⟩
  rw [HV.out]
  go_wp2_with fail
  refine (clone_any _ _ HLE.out).mono ?_
  rintro e w1 ⟨rfl, hb⟩
  go_wp2_with fail
  go_ret3
  exact ⟨rfl, hb⟩

theorem rvV_some {l : List UInt8} {n k : Nat} (h : Nm.rv l = some (n, k)) : rvV l = .tuple #[.int .u64 n, .int .i64 k, .bool true] := by unfold rvV; rw [h]
theorem rvV_none {l : List UInt8} (h : Nm.rv l = none) : rvV l = .tuple #[.int .u64 0, .int .i64 0, .bool false] := by unfold rvV; rw [h]

/-- ReadText, of every text of at most 2^48 bytes. -/
theorem readText_any (s : ByteArray) (most : Int) (w : World) (hs : s.size ≤ 281474976710656) (hm : most ≤ 9223372036854775807) :
    Calls Tryz.prog 207 #[.string s, .int .i64 most] w (Gives (rtV s.data.toList most) w) := by
  cases h : Nm.rv s.data.toList with
  | none =>
    have e : rtV s.data.toList most = noText := by unfold rtV rt; rw [h]
    rw [e]
    exact readText_none s most w (by omega) (rvV_none h)
  | some p =>
    obtain ⟨n, k⟩ := p
    have hv := rvV_some h
    obtain ⟨hk0, hk, -, -⟩ := Nm.row_rv h
    rw [length_list] at hk
    by_cases hc : most < n ∨ s.data.toList.length < k + n
    · have e : rtV s.data.toList most = noText := by unfold rtV rt; rw [h]; simp only [if_pos hc]
      rw [e]
      rw [length_list] at hc
      by_cases h0 : most < 0
      · exact readText_less s most n k w (by omega) hv h0
      · by_cases h1 : most < n
        · exact readText_most s most n k w (by omega) hv (by omega) h1 hm
        · exact readText_cut s most n k w (by omega) hv (by omega) (by omega) hm (by omega) (by omega) (by omega)
    · have e : rtV s.data.toList most = .tuple #[.string (s.extract k (k + n)), .int .i64 ((k : Int) + n), .bool true] := by
        unfold rtV rt
        rw [h]
        simp only [if_neg hc]
        rw [Lib.extract_eq, Nat.add_sub_cancel_left, Int.natCast_add]
      rw [e]
      rw [length_list] at hc
      exact readText_yes s most n k w hs hv (by omega) (by omega) hm hk0 (by omega)

end Go.Proofs.YtfeconankopjmaaGreatDoor.Bn

/- Batches as plain lists: their bytes, what is read of bytes, and that each is read of its own bytes alone. -/
namespace Go.Proofs.YtfeconankopjmaaGreatDoor.Bn
set_option maxRecDepth 100000

/-- An operation. -/
structure Ob where
  key : ByteArray
  val : ByteArray
  gone : Bool

def obd : Ob := ⟨ByteArray.empty, ByteArray.empty, false⟩

namespace Bt

def txt (s : ByteArray) : List UInt8 := Nm.row s.size ++ s.data.toList
def obRow (o : Ob) : List UInt8 := if o.gone = true then 1 :: txt o.key else 0 :: (txt o.key ++ txt o.val)
def longOb (o : Ob) : Bool := decide (64 < o.key.size) || decide (512 < o.val.size)
def badOb (o : Ob) : Bool := decide (o.key.size = 0) || (o.gone && !decide (o.val.size = 0))
def isLong (ops : List Ob) : Bool := decide (16 < ops.length) || ops.any longOb
def numbered (seq n : Nat) : Bool := decide (n ≠ 0) && decide (1 ≤ seq) && decide (seq + n ≤ 9223372036854775809)
def sound (ops : List Ob) : Bool := !ops.any badOb
def chk (seq : Nat) (ops : List Ob) : Nat := if isLong ops = true then 3 else if (numbered seq ops.length && sound ops) = true then 0 else 1
def encl (seq : Nat) (ops : List Ob) : List UInt8 := Nm.row seq ++ (Nm.row ops.length ++ ops.flatMap obRow)

/-- The operation that a text begins with, if any byte but 1 says that there is a value. -/
def rr : List UInt8 → Option (Ob × Nat)
  | [] => none
  | b :: r => match rt r 64 with
    | none => none
    | some (k, n) => if b = 1 then some (⟨⟨k.toArray⟩, ByteArray.empty, true⟩, 1 + n)
      else match rt (r.drop n) 512 with
        | none => none
        | some (v, m) => some (⟨⟨k.toArray⟩, ⟨v.toArray⟩, false⟩, 1 + n + m)
/-- The operation that a text begins with. -/
def ro : List UInt8 → Option (Ob × Nat)
  | [] => none
  | b :: r => if b = 0 ∨ b = 1 then rr (b :: r) else none
def many (f : List UInt8 → Option (Ob × Nat)) : Nat → List UInt8 → Option (List Ob × Nat)
  | 0, _ => some ([], 0)
  | n + 1, l => match f l with
    | none => none
    | some (o, k) => match many f n (l.drop k) with
      | none => none
      | some (os, m) => some (o :: os, k + m)
def rdl (f : List UInt8 → Option (Ob × Nat)) (l : List UInt8) : Option (Nat × List Ob × Nat) :=
  match Nm.rv l with
  | none => none
  | some (seq, a) => match Nm.rv (l.drop a) with
    | none => none
    | some (n, c) => if 16 < n then none else match many f n (l.drop (a + c)) with
      | none => none
      | some (os, m) => some (seq, os, a + c + m)
def decl (l : List UInt8) : Option (Nat × List Ob) :=
  match rdl ro l with
  | none => none
  | some (s, o, k) => if k = l.length ∧ chk s o = 0 then some (s, o) else none
def declR (l : List UInt8) : Option (Nat × List Ob) :=
  match rdl rr l with
  | none => none
  | some (s, o, _) => if chk s o = 0 ∧ encl s o = l then some (s, o) else none

theorem len (s : ByteArray) : s.data.toList.length = s.size := by simp
theorem txt_length (s : ByteArray) : 1 ≤ (txt s).length ∧ (txt s).length ≤ 9 + s.size := by
  have := Nm.row_length s.size
  unfold txt
  rw [List.length_append, len]
  omega

theorem rt_txt (s : ByteArray) (t : List UInt8) (most : Int) (hm : (s.size : Int) ≤ most) (hs : s.size < 18446744073709551616) : rt (txt s ++ t) most = some (s.data.toList, (txt s).length) := by
  unfold rt txt
  rw [List.append_assoc, Nm.rv_row hs]
  simp only
  rw [if_neg (by simp; omega)]
  simp
theorem txt_rt {l t : List UInt8} {most : Int} {k : Nat} (h : rt l most = some (t, k)) : 1 ≤ k ∧ k ≤ l.length ∧ l.take k = txt ⟨t.toArray⟩ ∧ (t.length : Int) ≤ most := by
  unfold rt at h
  cases hv : Nm.rv l with
  | none => rw [hv] at h; cases h
  | some x =>
    obtain ⟨n, j⟩ := x
    rw [hv] at h
    simp only at h
    split at h
    · cases h
    · rename_i hc
      simp only [Option.some.injEq, Prod.mk.injEq] at h
      obtain ⟨rfl, rfl⟩ := h
      obtain ⟨h1, h2, h3, h4⟩ := Nm.row_rv hv
      have hl : ((l.drop j).take n).length = n := by rw [List.length_take, List.length_drop]; omega
      refine ⟨by omega, by omega, ?_, by rw [hl]; omega⟩
      unfold txt
      have e : (⟨((l.drop j).take n).toArray⟩ : ByteArray).size = n := by
        show ((l.drop j).take n).toArray.size = n
        simpa using hl
      rw [e, h3, List.take_add]

theorem rr_cons (b : UInt8) (r : List UInt8) : rr (b :: r) = match rt r 64 with
    | none => none
    | some (k, n) => if b = 1 then some (⟨⟨k.toArray⟩, ByteArray.empty, true⟩, 1 + n)
      else match rt (r.drop n) 512 with
        | none => none
        | some (v, m) => some (⟨⟨k.toArray⟩, ⟨v.toArray⟩, false⟩, 1 + n + m) := rfl
theorem ro_cons (b : UInt8) (r : List UInt8) : ro (b :: r) = if b = 0 ∨ b = 1 then rr (b :: r) else none := rfl
theorem ro_rr (b : UInt8) (r : List UInt8) (h : b = 0 ∨ b = 1) : ro (b :: r) = rr (b :: r) := by rw [ro_cons, if_pos h]

theorem rr_row (o : Ob) (t : List UInt8) (hl : longOb o = false) (hb : badOb o = false) : rr (obRow o ++ t) = some (o, (obRow o).length) ∧ ro (obRow o ++ t) = rr (obRow o ++ t) := by
  obtain ⟨k, v, g⟩ := o
  simp only [longOb, badOb, Bool.or_eq_false_iff, decide_eq_false_iff_not, Bool.and_eq_false_iff, Bool.not_eq_false', decide_eq_true_eq] at hl hb
  cases g with
  | true =>
    have hv : v.size = 0 := by rcases hb.2 with h | h; · cases h
                               · exact h
    obtain rfl := empty_of_size hv
    have e : obRow ⟨k, ByteArray.empty, true⟩ = 1 :: txt k := rfl
    rw [e, List.cons_append]
    refine ⟨?_, ro_rr _ _ (Or.inr rfl)⟩
    rw [rr_cons, rt_txt k t 64 (by omega) (by omega)]
    simp only [if_true, List.length_cons]
    rw [Nat.add_comm]
  | false =>
    have e : obRow ⟨k, v, false⟩ = 0 :: (txt k ++ txt v) := rfl
    rw [e, List.cons_append]
    refine ⟨?_, ro_rr _ _ (Or.inl rfl)⟩
    rw [rr_cons, List.append_assoc, rt_txt k _ 64 (by omega) (by omega)]
    simp only
    rw [if_neg (by decide), List.drop_left, rt_txt v t 512 (by omega) (by omega)]
    simp only [List.length_cons, List.length_append]
    congr 2
    omega

theorem row_rr {b : UInt8} {r : List UInt8} {o : Ob} {k : Nat} (h : rr (b :: r) = some (o, k)) : 1 ≤ k ∧ k ≤ (b :: r).length ∧ o.gone = decide (b = 1) ∧ (b = 0 ∨ b = 1 → (b :: r).take k = obRow o) ∧ longOb o = false := by
  rw [rr_cons] at h
  cases h1 : rt r 64 with
  | none => rw [h1] at h; cases h
  | some x =>
    obtain ⟨t, n⟩ := x
    rw [h1] at h
    obtain ⟨a1, a2, a3, a4⟩ := txt_rt h1
    have hts : (⟨t.toArray⟩ : ByteArray).size = t.length := by show t.toArray.size = _; simp
    simp only at h
    by_cases hb : b = 1
    · rw [if_pos hb] at h
      simp only [Option.some.injEq, Prod.mk.injEq] at h
      obtain ⟨rfl, rfl⟩ := h
      refine ⟨by omega, by rw [List.length_cons]; omega, by simp [hb], fun _ => ?_, ?_⟩
      · rw [Nat.add_comm, List.take_succ_cons, a3, hb]; rfl
      · simp only [longOb, hts]
        simp; omega
    · rw [if_neg hb] at h
      cases h2 : rt (r.drop n) 512 with
      | none => rw [h2] at h; cases h
      | some y =>
        obtain ⟨v, m⟩ := y
        rw [h2] at h
        obtain ⟨b1, b2, b3, b4⟩ := txt_rt h2
        have hvs : (⟨v.toArray⟩ : ByteArray).size = v.length := by show v.toArray.size = _; simp
        simp only [Option.some.injEq, Prod.mk.injEq] at h
        obtain ⟨rfl, rfl⟩ := h
        rw [List.length_drop] at b2
        refine ⟨by omega, by rw [List.length_cons]; omega, by simp [hb], fun hbb => ?_, ?_⟩
        · have hb0 : b = 0 := by rcases hbb with h | h; · exact h
                                 · exact absurd h hb
          have e : 1 + n + m = n + m + 1 := by omega
          rw [e, List.take_succ_cons, List.take_add, a3, b3, hb0]; rfl
        · simp only [longOb, hts, hvs]
          simp; omega

theorem row_ro {l : List UInt8} {o : Ob} {k : Nat} (h : ro l = some (o, k)) : 1 ≤ k ∧ k ≤ l.length ∧ l.take k = obRow o ∧ longOb o = false := by
  cases l with
  | nil => cases h
  | cons b r =>
    rw [ro_cons] at h
    split at h
    · rename_i hb
      obtain ⟨h1, h2, _, h3, h4⟩ := row_rr h
      exact ⟨h1, h2, h3 hb, h4⟩
    · cases h

theorem many_rows (f : List UInt8 → Option (Ob × Nat)) : ∀ (os : List Ob) (t : List UInt8), (∀ o ∈ os, ∀ u, f (obRow o ++ u) = some (o, (obRow o).length)) → many f os.length (os.flatMap obRow ++ t) = some (os, (os.flatMap obRow).length)
  | [], t, _ => rfl
  | o :: os, t, h => by
    rw [List.length_cons, many, List.flatMap_cons, List.append_assoc, h o (List.mem_cons_self ..)]
    simp only
    rw [List.drop_left, many_rows f os t (fun x hx => h x (List.mem_cons_of_mem _ hx))]
    simp [List.length_append]

theorem rows_many : ∀ (n : Nat) (l : List UInt8) (os : List Ob) (m : Nat), many ro n l = some (os, m) → os.length = n ∧ m ≤ l.length ∧ l.take m = os.flatMap obRow
  | 0, l, os, m, h => by
    simp only [many, Option.some.injEq, Prod.mk.injEq] at h
    obtain ⟨rfl, rfl⟩ := h
    simp
  | n + 1, l, os, m, h => by
    rw [many] at h
    cases h1 : ro l with
    | none => rw [h1] at h; cases h
    | some x =>
      obtain ⟨o, k⟩ := x
      rw [h1] at h
      simp only at h
      cases h2 : many ro n (l.drop k) with
      | none => rw [h2] at h; cases h
      | some y =>
        obtain ⟨os', m'⟩ := y
        rw [h2] at h
        simp only [Option.some.injEq, Prod.mk.injEq] at h
        obtain ⟨rfl, rfl⟩ := h
        obtain ⟨a1, a2, a3, _⟩ := row_ro h1
        obtain ⟨b1, b2, b3⟩ := rows_many n _ _ _ h2
        rw [List.length_drop] at b2
        refine ⟨by simp [b1], by omega, ?_⟩
        rw [List.take_add, a3, b3, List.flatMap_cons]

theorem chk_ok {s : Nat} {ops : List Ob} (h : chk s ops = 0) : ops.length ≤ 16 ∧ (∀ o ∈ ops, longOb o = false ∧ badOb o = false) ∧ 1 ≤ ops.length ∧ 1 ≤ s ∧ s + ops.length ≤ 9223372036854775809 := by
  unfold chk at h
  split at h
  · cases h
  · rename_i hl
    split at h
    · rename_i hn
      simp only [isLong, Bool.or_eq_true, decide_eq_true_eq, not_or, List.any_eq_true, not_exists, not_and, Bool.not_eq_true] at hl
      simp only [numbered, sound, Bool.and_eq_true, decide_eq_true_eq, Bool.not_eq_true', List.any_eq_false, Bool.not_eq_true] at hn
      obtain ⟨⟨⟨n1, n2⟩, n3⟩, n4⟩ := hn
      exact ⟨by omega, fun o ho => ⟨hl.2 o ho, n4 o ho⟩, by omega, n2, n3⟩
    · cases h

/-- A batch that may be, read of its bytes, whatever stands behind. -/
theorem rdl_encl {s : Nat} {ops : List Ob} (h : chk s ops = 0) (t : List UInt8) : rdl ro (encl s ops ++ t) = some (s, ops, (encl s ops).length) ∧ rdl rr (encl s ops ++ t) = some (s, ops, (encl s ops).length) := by
  obtain ⟨h1, h2, h3, h4, h5⟩ := chk_ok h
  have key : ∀ f : List UInt8 → Option (Ob × Nat), (∀ o ∈ ops, ∀ u, f (obRow o ++ u) = some (o, (obRow o).length)) → rdl f (encl s ops ++ t) = some (s, ops, (encl s ops).length) := by
    intro f hf
    unfold rdl encl
    rw [List.append_assoc, Nm.rv_row (by omega)]
    simp only
    rw [List.drop_left, List.append_assoc, Nm.rv_row (by omega)]
    simp only
    rw [if_neg (by omega), ← List.drop_drop, List.drop_left, List.drop_left, many_rows f ops t hf]
    simp only [List.length_append]
    rw [Nat.add_assoc]
  refine ⟨key ro fun o ho u => ?_, key rr fun o ho u => ?_⟩
  · obtain ⟨a, b⟩ := rr_row o u (h2 o ho).1 (h2 o ho).2
    rw [b, a]
  · exact (rr_row o u (h2 o ho).1 (h2 o ho).2).1

theorem encl_rdl {l : List UInt8} {s : Nat} {o : List Ob} {k : Nat} (h : rdl ro l = some (s, o, k)) : k ≤ l.length ∧ l.take k = encl s o ∧ s < 18446744073709551616 := by
  unfold rdl at h
  cases h1 : Nm.rv l with
  | none => rw [h1] at h; cases h
  | some x =>
    obtain ⟨s', a⟩ := x
    rw [h1] at h
    simp only at h
    cases h2 : Nm.rv (l.drop a) with
    | none => rw [h2] at h; cases h
    | some y =>
      obtain ⟨n, c⟩ := y
      rw [h2] at h
      simp only at h
      split at h
      · cases h
      · cases h3 : many ro n (l.drop (a + c)) with
        | none => rw [h3] at h; cases h
        | some z =>
          obtain ⟨os, m⟩ := z
          rw [h3] at h
          simp only [Option.some.injEq, Prod.mk.injEq] at h
          obtain ⟨rfl, rfl, rfl⟩ := h
          obtain ⟨a1, a2, a3, a4⟩ := Nm.row_rv h1
          obtain ⟨b1, b2, b3, b4⟩ := Nm.row_rv h2
          obtain ⟨c1, c2, c3⟩ := rows_many _ _ _ _ h3
          rw [List.length_drop] at b2 c2
          refine ⟨by omega, ?_, a4⟩
          unfold encl
          rw [a3, c1, b3, ← c3, Nat.add_assoc, List.take_add, List.take_add, List.drop_drop]

theorem decl_encl {s : Nat} {ops : List Ob} (h : chk s ops = 0) : decl (encl s ops) = some (s, ops) := by
  have e := (rdl_encl h []).1
  rw [List.append_nil] at e
  unfold decl
  rw [e]
  simp [h]
theorem encl_decl {l : List UInt8} {s : Nat} {o : List Ob} (h : decl l = some (s, o)) : l = encl s o ∧ chk s o = 0 ∧ s < 18446744073709551616 := by
  unfold decl at h
  cases h1 : rdl ro l with
  | none => rw [h1] at h; cases h
  | some x =>
    obtain ⟨s', o', k⟩ := x
    rw [h1] at h
    simp only at h
    split at h
    · rename_i hc
      simp only [Option.some.injEq, Prod.mk.injEq] at h
      obtain ⟨rfl, rfl⟩ := h
      obtain ⟨a1, a2, a3⟩ := encl_rdl h1
      rw [hc.1, List.take_of_length_le (Nat.le_refl _)] at a2
      exact ⟨a2, hc.2, a3⟩
    · cases h
theorem declR_eq (l : List UInt8) : declR l = decl l := by
  cases h : decl l with
  | some x =>
    obtain ⟨s, o⟩ := x
    obtain ⟨h1, h2, _⟩ := encl_decl h
    have e := (rdl_encl h2 []).2
    rw [List.append_nil, ← h1] at e
    unfold declR
    rw [e]
    simp only
    rw [if_pos ⟨h2, h1.symm⟩]
  | none =>
    cases h1 : declR l with
    | none => rfl
    | some x =>
      obtain ⟨s, o⟩ := x
      exfalso
      unfold declR at h1
      cases h2 : rdl rr l with
      | none => rw [h2] at h1; cases h1
      | some y =>
        obtain ⟨s', o', k⟩ := y
        rw [h2] at h1
        simp only at h1
        split at h1
        · rename_i hc
          have e := decl_encl hc.1
          rw [hc.2, h] at e
          cases e
        · cases h1
/-- Cut short, or with anything behind, they are none's. -/
theorem decl_cut {s : Nat} {ops : List Ob} (h : chk s ops = 0) (c : Nat) (hc : c < (encl s ops).length) : decl ((encl s ops).take c) = none := by
  cases h1 : decl ((encl s ops).take c) with
  | none => rfl
  | some x =>
    obtain ⟨s', o'⟩ := x
    exfalso
    obtain ⟨a1, a2, _⟩ := encl_decl h1
    have e1 := (rdl_encl h []).1
    have e2 := (rdl_encl a2 ((encl s ops).drop c)).1
    rw [← a1, List.take_append_drop, List.length_take] at e2
    rw [List.append_nil, e2] at e1
    simp only [Option.some.injEq, Prod.mk.injEq] at e1
    omega
theorem decl_more {s : Nat} {ops : List Ob} (h : chk s ops = 0) (t : List UInt8) (ht : t ≠ []) : decl (encl s ops ++ t) = none := by
  unfold decl
  rw [(rdl_encl h t).1]
  simp only
  rw [if_neg]
  rintro ⟨h1, _⟩
  rw [List.length_append] at h1
  cases t with
  | nil => exact ht rfl
  | cons a t => simp at h1

end Bt

end Go.Proofs.YtfeconankopjmaaGreatDoor.Bn

/- Walks of batch's small functions: isLong, isNumbered, areSound, Check. -/
namespace Go.Proofs.YtfeconankopjmaaGreatDoor.Bn
set_option maxRecDepth 100000
open Go.RowKit

theorem bcell {W w1 : World} (hb : Below W.heap.size W w1) : (∀ b o, b < W.heap.size → w1.cell? ⟨b, o, none⟩ = W.cell? ⟨b, o, none⟩) ∧ (∀ b o, b < W.heap.size → w1.frozen? ⟨b, o, none⟩ = W.frozen? ⟨b, o, none⟩) :=
  ⟨fun b o h => hb.cell (p := ⟨b, o, none⟩) h, fun b o h => hb.frozen (p := ⟨b, o, none⟩) h⟩

/-- An operation that lies in memory. -/
def ObAt (w : World) (b off : Nat) (p : Ob) : Prop := w.cell? ⟨b, off, none⟩ = some (.string p.key) ∧ w.cell? ⟨b, off + 1, none⟩ = some (.string p.val) ∧ w.cell? ⟨b, off + 2, none⟩ = some (.bool p.gone)

/-- A slice of operations that lies in memory. -/
def SeesO (w : World) (v : Value) (ps : List Ob) : Prop :=
  (ps = [] ∧ ∃ a cap, v = .slice a 0 cap) ∨
  ∃ b off cap, v = .slice (some ⟨b, off, none⟩) ps.length cap ∧ b < w.heap.size ∧ ∀ i, i < ps.length → ObAt w b (off + i * 3) (ps.getD i obd)

theorem ObAt.below {w w' : World} {b off : Nat} {p : Ob} (h : ObAt w b off p) {B : Nat} (hb : Below B w w') (hB : b < B) : ObAt w' b off p := by
  obtain ⟨h0, h1, h2⟩ := h
  exact ⟨(hb.cell (p := ⟨b, off, none⟩) hB).trans h0, (hb.cell (p := ⟨b, off + 1, none⟩) hB).trans h1, (hb.cell (p := ⟨b, off + 2, none⟩) hB).trans h2⟩
theorem SeesO.below {w w' : World} {v : Value} {ps : List Ob} (h : SeesO w v ps) (hb : Below w.heap.size w w') : SeesO w' v ps := by
  rcases h with h | ⟨b, off, cap, rfl, hlt, hc⟩
  · exact Or.inl h
  · exact Or.inr ⟨b, off, cap, rfl, Nat.lt_of_lt_of_le hlt hb.size, fun i hi => (hc i hi).below hb hlt⟩
theorem SeesO.get {w : World} {ao : Option Addr} {len cap : Nat} {ps : List Ob} (h : SeesO w (.slice ao len cap) ps) :
    ps.length = len ∧ ∃ b off, ∀ i, i < len → ao = some ⟨b, off, none⟩ ∧ b < w.heap.size ∧ ObAt w b (off + i * 3) (ps.getD i obd) := by
  rcases h with ⟨rfl, a, c, h⟩ | ⟨b, off, c, h, hb, hc⟩
  · simp only [Value.slice.injEq] at h
    obtain ⟨rfl, rfl, rfl⟩ := h
    exact ⟨rfl, 0, 0, fun i hi => by omega⟩
  · simp only [Value.slice.injEq] at h
    obtain ⟨rfl, rfl, rfl⟩ := h
    exact ⟨rfl, b, off, fun i hi => ⟨rfl, hb, hc i hi⟩⟩

/-- A batch, as a value. -/
def batV (seq : Nat) (ao : Option Addr) (len cap : Nat) : Value := .agg #[.int .u64 seq, .slice ao len cap]

theorem getD_mem {ops : List Ob} {k : Nat} (h : k < ops.length) : ops.getD k obd ∈ ops := by
  have e : ops.getD k obd = ops[k] := by simp [h]
  rw [e]; exact List.getElem_mem h
theorem any_yes {ops : List Ob} {f : Ob → Bool} {k : Nat} (h : k < ops.length) (hk : f (ops.getD k obd) = true) : ops.any f = true := List.any_eq_true.2 ⟨_, getD_mem h, hk⟩
theorem any_no {ops : List Ob} {f : Ob → Bool} (h : ∀ k, k < ops.length → f (ops.getD k obd) = false) : ops.any f = false := by
  rw [List.any_eq_false]
  intro x hx
  obtain ⟨i, hi, rfl⟩ := List.getElem_of_mem hx
  have := h i hi
  have e : ops.getD i obd = ops[i] := by simp [hi]
  rw [e] at this
  simp [this]

set_option maxHeartbeats 1000000 in
theorem isLong_any (seq : Nat) (ao : Option Addr) (len cap : Nat) (ops : List Ob) (w : World) (hS : SeesO w (.slice ao len cap) ops) :
    Calls Tryz.prog 79 #[batV seq ao len cap] w (Gives (.bool (Bt.isLong ops)) w) := by
  obtain ⟨hlen, b, off, hc⟩ := hS.get
  clear hS
  by_cases h16 : 16 < len
  · have HE : Hid (Bt.isLong ops = true) := by unfold Bt.isLong; rw [hlen]; exact Lib.hid (by simp [h16])
    clear hc hlen
    unfold batV
    go_enter Tryz.func79, Tryz.ntmps79
    go_wp2_with fail
    go_ret
    rw [HE.out]
    exact ⟨rfl, (Below.refl _ _).alloc (Nat.le_refl _) _⟩
  · have HE : Hid (Bt.isLong ops = ops.any Bt.longOb) := by unfold Bt.isLong; rw [hlen]; exact Lib.hid (by simp [h16])
    have HC := Lib.hid hc; have HLEN := Lib.hid hlen
    clear hc hlen
    unfold batV
    go_enter Tryz.func79, Tryz.ntmps79
    go_wp2_with fail
    go_loopw [12] (fun i wr => ∃ k : Nat, k ≤ len ∧ i = .int .i64 k ∧ (∀ j, j < k → Bt.longOb (ops.getD j obd) = false) ∧ Below w.heap.size w wr) (fun i _ => len - (intOf i).toNat)
    case atStart => exact ⟨0, Nat.zero_le _, rfl, fun j hj => by omega, (Below.refl _ _).alloc (Nat.le_refl _) _⟩
    case round =>
      obtain ⟨k, hk, rfl, hno, hbel⟩ := hrel
      have HNO := Lib.hid hno; clear hno
      have hsz := hbel.size
      by_cases hlt : k < len
      · obtain ⟨rfl, hbl, hob⟩ := HC.out k hlt
        obtain ⟨c0, c1, c2⟩ := hob.below hbel hbl
        have hbr : b < wr.heap.size := by omega
        have HL : Hid (Bt.longOb (ops.getD k obd) = (decide (64 < (ops.getD k obd).key.size) || decide (512 < (ops.getD k obd).val.size))) := Lib.hid rfl
        clear hob
        generalize hx : ops.getD k obd = x at *
        have HX := Lib.hid hx; clear hx
        by_cases h1 : 64 < x.key.size
        · have HY : Hid (Bt.longOb x = true) := by rw [HL.out]; exact Lib.hid (by simp [h1])
          go_wp2_with fail
          go_ret
          rw [HE.out, any_yes (by rw [HLEN.out]; exact hlt) (by rw [HX.out]; exact HY.out)]
          exact ⟨rfl, hbel.alloc hsz _⟩
        · by_cases h2 : 512 < x.val.size
          · have HY : Hid (Bt.longOb x = true) := by rw [HL.out]; exact Lib.hid (by simp [h2])
            go_wp2_with fail
            go_ret
            rw [HE.out, any_yes (by rw [HLEN.out]; exact hlt) (by rw [HX.out]; exact HY.out)]
            exact ⟨rfl, hbel.alloc hsz _⟩
          · have HY : Hid (Bt.longOb x = false) := by rw [HL.out]; exact Lib.hid (by simp; omega)
            go_wp2_with fail
            go_roundw
            case rel =>
              refine ⟨k + 1, by omega, by go_num, fun j hj => ?_, hbel.alloc hsz _⟩
              by_cases e : j = k
              · rw [e, HX.out]; exact HY.out
              · exact HNO.out j (by omega)
            case measure => simp [intOf]; omega
      · go_wp2_with fail
        go_ret
        rw [HE.out, any_no (fun j hj => HNO.out j (by rw [HLEN.out] at hj; omega))]
        exact ⟨rfl, hbel⟩

set_option maxHeartbeats 1000000 in
theorem isNumbered_any (seq : Nat) (ao : Option Addr) (len cap : Nat) (w : World) (hs : seq < 18446744073709551616) (hl : len ≤ 16) :
    Calls Tryz.prog 80 #[batV seq ao len cap] w (Gives (.bool (Bt.numbered seq len)) w) := by
  have hb : Below w.heap.size w (w.alloc (.cells #[Value.int IntKind.u64 ↑seq, Value.slice ao len cap] 32)) := (Below.refl _ _).alloc (Nat.le_refl _) _
  have HB := Lib.hid hb; clear hb
  by_cases h0 : len = 0
  · have HE : Hid (Bt.numbered seq len = false) := by unfold Bt.numbered; exact Lib.hid (by simp [h0])
    unfold batV
    subst h0
    go_enter Tryz.func80, Tryz.ntmps80
    go_wp2_with fail
    go_ret
    rw [HE.out]
    exact ⟨rfl, HB.out⟩
  · by_cases h1 : 1 ≤ seq
    · have h1' : ¬ ((len : Int) = 0) := by omega
      have h3 : (0 : Int) ≤ (len : Int) - 1 := by omega
      by_cases h2 : seq + len ≤ 9223372036854775809
      · have HE : Hid (Bt.numbered seq len = true) := by unfold Bt.numbered; exact Lib.hid (by simp [h0, h1, h2])
        have h2' : (seq : Int) ≤ 9223372036854775808 - ((len : Int) - 1) := by omega
        unfold batV
        go_enter Tryz.func80, Tryz.ntmps80
        go_wp2_with fail
        go_ret
        rw [HE.out]
        exact ⟨rfl, HB.out⟩
      · have HE : Hid (Bt.numbered seq len = false) := by unfold Bt.numbered; exact Lib.hid (by simp [h0, h1, h2])
        have h2' : ¬ (seq : Int) ≤ 9223372036854775808 - ((len : Int) - 1) := by omega
        unfold batV
        go_enter Tryz.func80, Tryz.ntmps80
        go_wp2_with fail
        go_ret
        rw [HE.out]
        exact ⟨rfl, HB.out⟩
    · have HE : Hid (Bt.numbered seq len = false) := by unfold Bt.numbered; exact Lib.hid (by simp [h0, h1])
      unfold batV
      go_enter Tryz.func80, Tryz.ntmps80
      go_wp2_with fail
      go_ret
      rw [HE.out]
      exact ⟨rfl, HB.out⟩

theorem empty_yes {s : ByteArray} (h : s.size = 0) : s.toList.isEmpty = true := by rw [empty_of_size h, ByteArray.toList_eq]; rfl

set_option maxHeartbeats 1000000 in
theorem areSound_any (ao : Option Addr) (len cap : Nat) (ops : List Ob) (w : World) (hS : SeesO w (.slice ao len cap) ops) (hl : len ≤ 16) :
    Calls Tryz.prog 81 #[.slice ao len cap] w (Gives (.bool (Bt.sound ops)) w) := by
  obtain ⟨hlen, b, off, hc⟩ := hS.get
  clear hS
  have HE : Hid (Bt.sound ops = !ops.any Bt.badOb) := Lib.hid rfl
  have HC := Lib.hid hc; have HLEN := Lib.hid hlen
  clear hc hlen
  go_enter Tryz.func81, Tryz.ntmps81
  go_wp2_with fail
  go_loopw [7] (fun i wr => ∃ k : Nat, k ≤ len ∧ i = .int .i64 k ∧ (∀ j, j < k → Bt.badOb (ops.getD j obd) = false) ∧ Below w.heap.size w wr) (fun i _ => len - (intOf i).toNat)
  case atStart => exact ⟨0, Nat.zero_le _, rfl, fun j hj => by omega, Below.refl _ _⟩
  case round =>
    obtain ⟨k, hk, rfl, hno, hbel⟩ := hrel
    have HNO := Lib.hid hno; clear hno
    have hsz := hbel.size
    by_cases hlt : k < len
    · obtain ⟨rfl, hbl, hob⟩ := HC.out k hlt
      obtain ⟨c0, c1, c2⟩ := hob.below hbel hbl
      have hbr : b < wr.heap.size := by omega
      have HL : Hid (Bt.badOb (ops.getD k obd) = (decide ((ops.getD k obd).key.size = 0) || ((ops.getD k obd).gone && !decide ((ops.getD k obd).val.size = 0)))) := Lib.hid rfl
      clear hob
      generalize hx : ops.getD k obd = x at *
      have HX := Lib.hid hx; clear hx
      obtain ⟨key, val, gone⟩ := x
      simp only at c0 c1 c2 HL
      by_cases h1 : key.size = 0
      · have HY : Hid (Bt.badOb ⟨key, val, gone⟩ = true) := by rw [HL.out]; exact Lib.hid (by simp [h1])
        have he := empty_yes h1
        clear h1
        go_wp2_with fail
        go_ret
        rw [HE.out, any_yes (by rw [HLEN.out]; exact hlt) (by rw [HX.out]; exact HY.out)]
        exact ⟨rfl, hbel.alloc hsz _⟩
      · have he := isEmpty_of_size (s := key) (by omega)
        cases gone with
        | false =>
          have HY : Hid (Bt.badOb ⟨key, val, false⟩ = false) := by rw [HL.out]; exact Lib.hid (by simp [h1])
          clear h1
          go_wp2_with fail
          go_roundw
          case rel =>
            refine ⟨k + 1, by omega, by go_num, fun j hj => ?_, hbel.alloc hsz _⟩
            by_cases e : j = k
            · rw [e, HX.out]; exact HY.out
            · exact HNO.out j (by omega)
          case measure => simp [intOf]; omega
        | true =>
          by_cases h2 : val.size = 0
          · have HY : Hid (Bt.badOb ⟨key, val, true⟩ = false) := by rw [HL.out]; exact Lib.hid (by simp [h1, h2])
            have he2 := empty_yes h2
            clear h1 h2
            go_wp2_with fail
            go_roundw
            case rel =>
              refine ⟨k + 1, by omega, by go_num, fun j hj => ?_, hbel.alloc hsz _⟩
              by_cases e : j = k
              · rw [e, HX.out]; exact HY.out
              · exact HNO.out j (by omega)
            case measure => simp [intOf]; omega
          · have HY : Hid (Bt.badOb ⟨key, val, true⟩ = true) := by rw [HL.out]; exact Lib.hid (by simp [h1, h2])
            have he2 := isEmpty_of_size (s := val) (by omega)
            clear h1 h2
            go_wp2_with fail
            go_ret
            rw [HE.out, any_yes (by rw [HLEN.out]; exact hlt) (by rw [HX.out]; exact HY.out)]
            exact ⟨rfl, hbel.alloc hsz _⟩
    · go_wp2_with fail
      go_ret
      rw [HE.out, any_no (fun j hj => HNO.out j (by rw [HLEN.out] at hj; omega))]
      exact ⟨rfl, hbel⟩

set_option maxHeartbeats 1000000 in
theorem check_any (seq : Nat) (ao : Option Addr) (len cap : Nat) (ops : List Ob) (w : World) (hS : SeesO w (.slice ao len cap) ops) (hs : seq < 18446744073709551616) :
    Calls Tryz.prog 36 #[batV seq ao len cap] w (Gives (.int .i64 (Bt.chk seq ops)) w) := by
  have HS := Lib.hid hS; have hlen := hS.get.1; clear hS
  have HQ := Lib.hid hs; clear hs
  have HB : Hid (Below w.heap.size w (w.alloc (.cells #[Value.int IntKind.u64 ↑seq, Value.slice ao len cap] 32))) := Lib.hid ((Below.refl _ _).alloc (Nat.le_refl _) _)
  have HL : Hid (∀ W, SeesO W (.slice ao len cap) ops → Calls Tryz.prog 79 #[.agg #[.int .u64 seq, .slice ao len cap]] W (Gives (.bool (Bt.isLong ops)) W)) := Lib.hid (fun W h => isLong_any seq ao len cap ops W h)
  have HN : Hid (∀ W, len ≤ 16 → Calls Tryz.prog 80 #[.agg #[.int .u64 seq, .slice ao len cap]] W (Gives (.bool (Bt.numbered seq len)) W)) := Lib.hid (fun W h => isNumbered_any seq ao len cap W HQ.out h)
  have HC : Hid (Bt.chk seq ops = if Bt.isLong ops = true then 3 else if (Bt.numbered seq ops.length && Bt.sound ops) = true then 0 else 1) := Lib.hid rfl
  have H16 : Hid (Bt.isLong ops = false → len ≤ 16) := Lib.hid (fun h => by
    simp only [Bt.isLong, Bool.or_eq_false_iff, decide_eq_false_iff_not] at h
    omega)
  rw [hlen] at HC
  unfold batV
  clear hlen
  generalize hx : Bt.isLong ops = x at *
  clear hx
  generalize hy : Bt.numbered seq len = y at *
  clear hy
  cases x with
  | true =>
    have HZ : Hid (Bt.chk seq ops = 3) := by rw [HC.out]; exact Lib.hid rfl
    go_enter Tryz.func36, Tryz.ntmps36
    go_wp2_with fail
    refine (HL.out _ (HS.out.below HB.out)).mono ?_
    rintro e w1 ⟨rfl, hb1⟩
    have HB1 := Lib.hid (Below.next HB.out hb1)
    obtain ⟨hc, hf⟩ := bcell hb1
    clear hb1
    go_wp2_with fail
    go_ret
    rw [HZ.out]
    exact ⟨rfl, HB1.out⟩
  | false =>
    cases y with
    | false =>
      have HZ : Hid (Bt.chk seq ops = 1) := by rw [HC.out]; exact Lib.hid rfl
      go_enter Tryz.func36, Tryz.ntmps36
      go_wp2_with fail
      refine (HL.out _ (HS.out.below HB.out)).mono ?_
      rintro e w1 ⟨rfl, hb1⟩
      have HB1 := Lib.hid (Below.next HB.out hb1)
      obtain ⟨hc, hf⟩ := bcell hb1
      have hz : w.heap.size < w1.heap.size := by have := hb1.size; simp at this; omega
      clear hb1
      go_wp2_with fail
      refine (HN.out _ (H16.out trivial)).mono ?_
      rintro e w2 ⟨rfl, hb2⟩
      have HB2 := Lib.hid (Below.next HB1.out hb2)
      go_wp2_with fail
      go_ret
      rw [HZ.out]
      exact ⟨rfl, HB2.out⟩
    | true =>
      have HZ : Hid (Bt.chk seq ops = if Bt.sound ops = true then 0 else 1) := by rw [HC.out]; exact Lib.hid (by simp)
      have HSD : Hid (∀ W, SeesO W (.slice ao len cap) ops → Calls Tryz.prog 81 #[.slice ao len cap] W (Gives (.bool (Bt.sound ops)) W)) := Lib.hid (fun W h => areSound_any ao len cap ops W h (H16.out rfl))
      generalize Bt.sound ops = z at *
      go_enter Tryz.func36, Tryz.ntmps36
      go_wp2_with fail
      refine (HL.out _ (HS.out.below HB.out)).mono ?_
      rintro e w1 ⟨rfl, hb1⟩
      have HB1 := Lib.hid (Below.next HB.out hb1)
      obtain ⟨hc, hf⟩ := bcell hb1
      have hz : w.heap.size < w1.heap.size := by have := hb1.size; simp at this; omega
      clear hb1
      go_wp2_with fail
      refine (HN.out _ (H16.out trivial)).mono ?_
      rintro e w2 ⟨rfl, hb2⟩
      have HB2 := Lib.hid (Below.next HB1.out hb2)
      obtain ⟨hc2, hf2⟩ := bcell hb2
      have hz2 := hb2.size
      clear hb2
      go_wp2_with fail
      refine (HSD.out _ (HS.out.below HB2.out)).mono ?_
      rintro e w3 ⟨rfl, hb3⟩
      have HB3 := Lib.hid (Below.next HB2.out hb3)
      cases z with
      | true =>
        go_wp2_with fail
        go_ret
        rw [HZ.out]
        exact ⟨rfl, HB3.out⟩
      | false =>
        go_wp2_with fail
        go_ret
        rw [HZ.out]
        exact ⟨rfl, HB3.out⟩

end Go.Proofs.YtfeconankopjmaaGreatDoor.Bn

/- The walk of num.Var. -/
namespace Go.Proofs.YtfeconankopjmaaGreatDoor.Bn
set_option maxRecDepth 100000
open Go.RowKit

/-- Numbers' rows, one behind the other. -/
def varl (ns : List Nat) : List UInt8 := ns.flatMap Nm.row
theorem varl_length (ns : List Nat) : (varl ns).length ≤ 9 * ns.length := by
  induction ns with
  | nil => simp [varl]
  | cons n ns ih =>
    have := (Nm.row_length n).2
    simp only [varl, List.flatMap_cons, List.length_append, List.length_cons] at ih ⊢
    omega
theorem varl_snoc (ns : List Nat) (k : Nat) (h : k < ns.length) : varl (ns.take (k + 1)) = varl (ns.take k) ++ Nm.row (ns.getD k 0) := by
  have e : ns.getD k 0 = ns[k] := by simp [h]
  unfold varl
  rw [List.take_succ_eq_append_getElem h, List.flatMap_append, e, List.flatMap_singleton]
/-- A slice of numbers that lies in memory. -/
def SeesU (w : World) (v : Value) (ns : List Nat) : Prop :=
  (ns = [] ∧ ∃ a cap, v = .slice a 0 cap) ∨
  ∃ b off cap, v = .slice (some ⟨b, off, none⟩) ns.length cap ∧ b < w.heap.size ∧ ∀ i, i < ns.length → w.cell? ⟨b, off + i, none⟩ = some (.int .u64 (ns.getD i 0 : Nat))
theorem SeesU.below {w w' : World} {v : Value} {ns : List Nat} (h : SeesU w v ns) (hb : Below w.heap.size w w') : SeesU w' v ns := by
  rcases h with h | ⟨b, off, cap, rfl, hlt, hc⟩
  · exact Or.inl h
  · exact Or.inr ⟨b, off, cap, rfl, Nat.lt_of_lt_of_le hlt hb.size, fun i hi => (hb.cell (p := ⟨b, off + i, none⟩) hlt).trans (hc i hi)⟩
set_option maxHeartbeats 400000 in
theorem var_nil (a : Option Addr) (cap : Nat) (w : World) :
    Calls Tryz.prog 89 #[.slice a 0 cap] w (Gives (.string ByteArray.empty) w) := by
  have hc := (Owns.nil w w.heap.size).convert
  go_enter Tryz.func89, Tryz.ntmps89
  go_wp2_with fail
  refine wp_loop_rounds 1 ?_
  rw [rounds_succ]
  go_wp2_with fail
  go_ret
  exact ⟨rfl, Below.refl _ _⟩

set_option maxHeartbeats 800000 in
theorem var_some (b off cap : Nat) (ns : List Nat) (w : World) (hb : b < w.heap.size) (hc : ∀ i, i < ns.length → w.cell? ⟨b, off + i, none⟩ = some (.int .u64 (ns.getD i 0 : Nat)))
    (hn : ∀ i, ns.getD i 0 < 18446744073709551616) (hl : ns.length ≤ 100000000) :
    Calls Tryz.prog 89 #[.slice (some ⟨b, off, none⟩) ns.length cap] w (Gives (.string ⟨(varl ns).toArray⟩) w) := by
  have HC := Lib.hid hc; clear hc
  have HN := Lib.hid hn; clear hn
  have hl2 := varl_length ns
  generalize hlen : ns.length = len at *
  have HLEN := Lib.hid hlen; clear hlen
  have HLL := Lib.hid hl2; clear hl2
  have HL := Lib.hid hl
  go_enter Tryz.func89, Tryz.ntmps89
  go_wp2_with fail
  go_loopw [3, 8] (fun u i wr => ∃ k : Nat, k ≤ len ∧ i = .int .i64 k ∧ Owns wr w.heap.size u (varl (ns.take k)) ∧ Below w.heap.size w wr) (fun _ i _ => len - (intOf i).toNat)
  case atStart => exact ⟨0, Nat.zero_le _, rfl, by simpa [varl] using Owns.nil w w.heap.size, Below.refl _ _⟩
  case round =>
    obtain ⟨k, hk, rfl, hown, hbel⟩ := hrel
    have hsz := hbel.size
    have HO := Lib.hid hown; clear hown
    by_cases hlt : k < len
    · have hcell : wr.cell? ⟨b, off + k, none⟩ = some (.int .u64 (ns.getD k 0 : Nat)) := (hbel.cell (p := ⟨b, off + k, none⟩) hb).trans (HC.out k hlt)
      have HS : Hid (varl (ns.take (k + 1)) = varl (ns.take k) ++ Nm.row (ns.getD k 0)) := varl_snoc ns k (by rw [HLEN.out]; exact hlt)
      have HX : Hid (ns.getD k 0 < 18446744073709551616) := HN.out k
      generalize ns.getD k 0 = x at *
      go_wp2_with fail
      refine (appendRow_any w.heap.size _ _ _ _ HO.out hsz ?_ (by omega) (by have := HX.out; omega)).mono ?_
      · have h1 := varl_length (ns.take k)
        have h2 : (ns.take k).length ≤ k := List.length_take_le ..
        have h3 := HL.out
        omega
      rintro e w1 ⟨v1, rfl, ho1, hb1⟩
      rw [Int.toNat_natCast, ← HS.out] at ho1
      have HO1 := Lib.hid ho1; clear ho1
      go_wp2_with fail
      go_roundw
      case rel => exact ⟨k + 1, by omega, by go_num, HO1.out, hbel.trans hb1⟩
      case measure => simp [intOf]; omega
    · have hc := HO.out.convert
      go_wp2_with fail
      go_ret
      have : ns.take k = ns := List.take_of_length_le (by rw [HLEN.out]; omega)
      rw [this]
      exact ⟨rfl, hbel⟩

/-- Var, of numbers wherever they lie. -/
theorem var_any (v : Value) (ns : List Nat) (w : World) (hs : SeesU w v ns) (hn : ∀ i, ns.getD i 0 < 18446744073709551616) (hl : ns.length ≤ 100000000) :
    Calls Tryz.prog 89 #[v] w (Gives (.string ⟨(varl ns).toArray⟩) w) := by
  rcases hs with ⟨rfl, a, cap, rfl⟩ | ⟨b, off, cap, rfl, hb, hc⟩
  · exact var_nil a cap w
  · exact var_some b off cap ns w hb hc hn hl

end Go.Proofs.YtfeconankopjmaaGreatDoor.Bn

/- The walk of num.Text. -/
namespace Go.Proofs.YtfeconankopjmaaGreatDoor.Bn
set_option maxRecDepth 100000
open Go.RowKit

/-- Texts' rows, one behind the other. -/
def textl (ss : List ByteArray) : List UInt8 := ss.flatMap fun s => Nm.row s.size ++ s.data.toList

theorem textl_snoc (ss : List ByteArray) (k : Nat) (h : k < ss.length) : textl (ss.take (k + 1)) = textl (ss.take k) ++ Nm.row (ss.getD k ByteArray.empty).size ++ (ss.getD k ByteArray.empty).data.toList := by
  have e : ss.getD k ByteArray.empty = ss[k] := by simp [h]
  unfold textl
  rw [List.take_succ_eq_append_getElem h, List.flatMap_append, e, List.flatMap_singleton, List.append_assoc]
/-- How many bytes texts have in all. -/
def suml : List ByteArray → Nat
  | [] => 0
  | s :: ss => s.size + suml ss
theorem suml_take : ∀ (ss : List ByteArray) (k : Nat), suml (ss.take k) ≤ suml ss
  | [], k => by simp [suml]
  | s :: ss, 0 => by simp [suml]
  | s :: ss, k + 1 => by have := suml_take ss k; simp only [List.take_succ_cons, suml]; omega
theorem suml_snoc : ∀ (ss : List ByteArray) (k : Nat), k < ss.length → suml (ss.take (k + 1)) = suml (ss.take k) + (ss.getD k ByteArray.empty).size
  | [], k, h => by simp at h
  | s :: ss, 0, _ => by simp [suml]
  | s :: ss, k + 1, h => by
    have := suml_snoc ss k (by simpa using h)
    rw [List.take_succ_cons, List.take_succ_cons, suml, suml, this, List.getD_cons_succ]
    omega
theorem textl_length (ss : List ByteArray) : (textl ss).length ≤ 9 * ss.length + suml ss := by
  induction ss with
  | nil => simp [textl]
  | cons s ss ih =>
    have := (Nm.row_length s.size).2
    simp only [textl, List.flatMap_cons, List.length_append, List.length_cons, suml, length_list] at ih ⊢
    omega

/-- A slice of texts that lies in memory. -/
def SeesS (w : World) (v : Value) (ss : List ByteArray) : Prop :=
  (ss = [] ∧ ∃ a cap, v = .slice a 0 cap) ∨
  ∃ b off cap, v = .slice (some ⟨b, off, none⟩) ss.length cap ∧ b < w.heap.size ∧ ∀ i, i < ss.length → w.cell? ⟨b, off + i, none⟩ = some (.string (ss.getD i ByteArray.empty))

theorem SeesS.below {w w' : World} {v : Value} {ss : List ByteArray} (h : SeesS w v ss) (hb : Below w.heap.size w w') : SeesS w' v ss := by
  rcases h with h | ⟨b, off, cap, rfl, hlt, hc⟩
  · exact Or.inl h
  · exact Or.inr ⟨b, off, cap, rfl, Nat.lt_of_lt_of_le hlt hb.size, fun i hi => (hb.cell (p := ⟨b, off + i, none⟩) hlt).trans (hc i hi)⟩

theorem strCells_eq (s : ByteArray) : Lib.strCells s = s.data.toList.map cellOf := rfl

set_option maxHeartbeats 400000 in
theorem text_nil (a : Option Addr) (cap : Nat) (w : World) :
    Calls Tryz.prog 124 #[.slice a 0 cap] w (Gives (.string ByteArray.empty) w) := by
  have hc := (Owns.nil w w.heap.size).convert
  go_enter Tryz.func124, Tryz.ntmps124
  go_wp2_with fail
  refine wp_loop_rounds 1 ?_
  rw [rounds_succ]
  go_wp2_with fail
  go_ret
  exact ⟨rfl, Below.refl _ _⟩

set_option maxHeartbeats 800000 in
theorem text_some (b off cap : Nat) (ss : List ByteArray) (w : World) (hb : b < w.heap.size) (hc : ∀ i, i < ss.length → w.cell? ⟨b, off + i, none⟩ = some (.string (ss.getD i ByteArray.empty)))
    (hl : ss.length ≤ 100000000) (hsum : suml ss ≤ 100000000) :
    Calls Tryz.prog 124 #[.slice (some ⟨b, off, none⟩) ss.length cap] w (Gives (.string ⟨(textl ss).toArray⟩) w) := by
  obtain ⟨i0, hi, hz0, hz1, hz2⟩ := info_parts info_u8
  have HC := Lib.hid hc; clear hc
  generalize hlen : ss.length = len at *
  have HLEN := Lib.hid hlen; clear hlen
  have HL := Lib.hid hl
  have HSUM := Lib.hid hsum; clear hsum
  go_enter Tryz.func124, Tryz.ntmps124
  go_wp2_with fail
  go_loopw [3, 8] (fun u i wr => ∃ k : Nat, k ≤ len ∧ i = .int .i64 k ∧ Owns wr w.heap.size u (textl (ss.take k)) ∧ Below w.heap.size w wr) (fun _ i _ => len - (intOf i).toNat)
  case atStart => exact ⟨0, Nat.zero_le _, rfl, by simpa [textl] using Owns.nil w w.heap.size, Below.refl _ _⟩
  case round =>
    obtain ⟨k, hk, rfl, hown, hbel⟩ := hrel
    have hsz := hbel.size
    have HO := Lib.hid hown; clear hown
    by_cases hlt : k < len
    · have hcell : wr.cell? ⟨b, off + k, none⟩ = some (.string (ss.getD k ByteArray.empty)) := (hbel.cell (p := ⟨b, off + k, none⟩) hb).trans (HC.out k hlt)
      have hk' : k < ss.length := by rw [HLEN.out]; exact hlt
      have HS : Hid (textl (ss.take (k + 1)) = textl (ss.take k) ++ Nm.row (ss.getD k ByteArray.empty).size ++ (ss.getD k ByteArray.empty).data.toList) := textl_snoc ss k hk'
      have hx1 : suml (ss.take k) + (ss.getD k ByteArray.empty).size ≤ 100000000 := by rw [← suml_snoc ss k hk']; exact Nat.le_trans (suml_take _ _) HSUM.out
      have hx2 : (textl (ss.take k)).length ≤ 900000000 + suml (ss.take k) := by
        have h1 := textl_length (ss.take k)
        have h2 : (ss.take k).length ≤ k := List.length_take_le ..
        have h3 := HL.out
        omega
      clear hk'
      generalize ss.getD k ByteArray.empty = x at *
      generalize textl (ss.take k) = T at *
      generalize suml (ss.take k) = S at *
      have hxs : x.size ≤ 100000000 := by omega
      have hT : T.length ≤ 1000000000 := by omega
      have HXS := Lib.hid hT; clear hx1 hx2 hT
      go_wp2_with fail
      refine (appendRow_any w.heap.size _ _ _ _ HO.out hsz (by have := HXS.out; omega) (by omega) (by omega)).mono ?_
      rintro e w1 ⟨v1, rfl, ho1, hb1⟩
      rw [Int.toNat_natCast] at ho1
      have hraw : w1.ownsRow w.heap.size 5 1 v1 (T ++ Nm.row x.size).length ((T ++ Nm.row x.size).map cellOf) := ho1
      have hrl := (Nm.row_length x.size).2
      have hTl : (T ++ Nm.row x.size).length ≤ 1000000009 := by rw [List.length_append]; have := HXS.out; omega
      have hsz1 := hb1.size
      clear ho1 hrl
      generalize hTR : T ++ Nm.row x.size = TR at *
      clear hTR
      have HTL := Lib.hid hTl; clear hTl
      go_wp2_with (at_builtin; go_must (refine Lib.wpList_append_own_string _ rfl _ _ 128 9 rfl w.heap.size 5 i0 Tryz.underlying128 Tryz.underlying9 hi hz0 hz1 hz2 _ _ _ rfl hraw x rfl ?c3 ?c4 ?c5 ?_))
      case c3 => have := HTL.out; unfold maxLen; omega
      case c4 => have := HTL.out; omega
      case c5 => omega
      intro v2 w2 hown2 hgrow _
      have R : Owns w2 w.heap.size v2 (textl (ss.take (k + 1))) ∧ Below w.heap.size w w2 := by
        rw [HS.out]
        refine ⟨?_, (hbel.trans hb1).grown hgrow (by omega) (fun j hj => (hraw.lt j hj).1)⟩
        unfold Owns
        rw [List.length_append, List.map_append, length_list, ← strCells_eq]
        exact hown2
      clear hown2 hgrow hraw
      go_wp2_with fail
      go_roundw
      case rel => exact ⟨k + 1, by omega, by go_num, R.1, R.2⟩
      case measure => simp [intOf]; omega
    · have hc := HO.out.convert
      go_wp2_with fail
      go_ret
      have : ss.take k = ss := List.take_of_length_le (by rw [HLEN.out]; omega)
      rw [this]
      exact ⟨rfl, hbel⟩

/-- Text, of texts wherever they lie. -/
theorem text_any (v : Value) (ss : List ByteArray) (w : World) (hs : SeesS w v ss) (hl : ss.length ≤ 100000000) (hsum : suml ss ≤ 100000000) :
    Calls Tryz.prog 124 #[v] w (Gives (.string ⟨(textl ss).toArray⟩) w) := by
  rcases hs with ⟨rfl, a, cap, rfl⟩ | ⟨b, off, cap, rfl, hb, hc⟩
  · exact text_nil a cap w
  · exact text_some b off cap ss w hb hc hl hsum

end Go.Proofs.YtfeconankopjmaaGreatDoor.Bn

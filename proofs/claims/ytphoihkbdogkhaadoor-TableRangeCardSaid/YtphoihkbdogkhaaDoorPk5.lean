/- Texts on the program's own functions, several in one: BnNumClone, BnNumVar, BnNumText, BnNumVarU, BnBoMath, BnBoTurns, BnOkeyA, BnOkeyB, BnOkeyC. -/
import Derived.Test.YtphoihkbdogkhaaDoorPk4
import Derived.Lib.Strings
import Derived.Lib.BufferWrite
import Derived.Lib.UnsafeStr
import Derived.Laws.MakeOwn
import Derived.Lib.AppendStr
import Derived.Maps.AppendAt
import Derived.Lib.Bytealg

/- The walk of strings.Clone over this program: the same bytes; of what was there nothing has turned. Condition: at most 2^48 bytes. -/
namespace Go.Proofs.YtphoihkbdogkhaaDoor.Bn
set_option maxRecDepth 100000
open Go.RowKit

set_option maxHeartbeats 4000000 in
set_option maxRecDepth 100000 in
theorem liteClone_any (s : ByteArray) (w : World) (hlim : s.size ≤ 281474976710656) :
    Calls Tryd.prog 54 #[.string s] w fun e w' => e = .returned (.string s) ∧ Below w.heap.size w w' := by
  by_cases h0 : s.size = 0
  · obtain rfl := empty_of_size h0
    go_enter Tryd.func54, Tryd.ntmps54
    go_wp2
    go_ret
    exact ⟨rfl, Below.refl _ _⟩
  · obtain ⟨i0, hi, hz0, hz1, hz2⟩ := info_parts info_u8
    have hinfo : (Tryd.prog.info? 5).map (·.size) = some 1 := by rw [hi]; simp [hz1]
    have hco : Tryd.prog.cellsOf 5 = 1 := by simp [Program.cellsOf, hi, hz1]
    obtain ⟨M, hM⟩ : ∃ M, M = madeCells (Value.int .u8 0).cells (((s.size : Nat) : Int).toNat * i0.size) := ⟨_, rfl⟩
    have hMs : M.size = s.size := by rw [hM, size_madeCells, hz1]; simp
    have hmk : ∀ W : World, (Instr.makeSlice 34 (.int .i64 (s.size : Int)) (.int .i64 (s.size : Int))).run Tryd.prog W = .ok (.slice (some ⟨W.heap.size, 0, none⟩) s.size s.size) (W.alloc (.cells M 5)) := fun W => by
      have h := run_make (P := Tryd.prog) W 34 5 i0 (.int .u8 0) Tryd.underlying34 hi hz0 .i64 .i64 (s.size : Int) (s.size : Int) (by omega) (by omega) (by rw [hz2]; omega) (by omega)
      rw [← hM] at h
      simpa using h
    clear hM
    have hcp := Lib.run_copy_row_string (P := Tryd.prog) (w.alloc (.cells M 5)) 34 9 3 5 w.heap.size 0 s.size s.size s M 5 Tryd.underlying34 hinfo (heap_alloc_new w _) (Nat.le_refl _) (by omega)
    obtain ⟨Y, hY⟩ : ∃ Y, Y = (M.toList.take 0 ++ Lib.byteCells s.data.toList ++ M.toList.drop (0 + s.size)).toArray := ⟨_, rfl⟩
    rw [← hY] at hcp
    have hYl : Y.toList = Lib.byteCells s.data.toList := by
      rw [hY, List.toList_toArray, List.take_zero, List.nil_append, List.drop_of_length_le (by rw [Array.length_toList]; omega), List.append_nil]
    have hYs : Y.size = s.size := by rw [← Array.length_toList, hYl, Lib.byteCells_length, ← Lib.size_eq]
    have hgY : ((w.alloc (.cells M 5)).setRow w.heap.size Y).heap[w.heap.size]? = some (.cells Y 5 (0, 0)) := setRow_heap _ _ M _ 5 (0, 0) (heap_alloc_new w _)
    have hne : s.data.toList ≠ [] := fun e => h0 (by rw [Lib.size_eq, e]; rfl)
    have hUS := Lib.run_unsafeString_row (P := Tryd.prog) ((w.alloc (.cells M 5)).setRow w.heap.size Y) 135 3 9 5 Tryd.underlying135 hco w.heap.size Y.size (by unfold World.shape?; rw [hgY]) s.data.toList hne (by rw [← Lib.size_eq]; omega) (by rw [← Lib.size_eq]; omega)
      (fun j x hx => Lib.cells_of_row hgY Y.size j _ (by rw [List.take_of_length_le (by rw [Array.length_toList]; exact Nat.le_refl _), hYl]; simp [Lib.byteCells, hx]))
    rw [← Lib.size_eq] at hUS
    clear hY
    go_enter Tryd.func54, Tryd.ntmps54
    go_wp2
    go_ret
    have hb1 : Below w.heap.size w (w.alloc (.cells M 5)) := (Below.refl _ w).alloc (Nat.le_refl _) _
    have hb2 : Below w.heap.size (w.alloc (.cells M 5)) ((w.alloc (.cells M 5)).setRow w.heap.size Y) := ⟨rfl, rfl, rfl, by simp, fun k hk => setRow_other _ _ _ _ (by omega)⟩
    exact ⟨rfl, Lib.below_freeze (hb1.trans hb2) (p := ⟨w.heap.size, 0, none⟩) (Nat.le_refl _) _⟩

set_option maxHeartbeats 400000 in
theorem clone_any (s : ByteArray) (w : World) (hlim : s.size ≤ 281474976710656) :
    Calls Tryd.prog 26 #[.string s] w fun e w' => e = .returned (.string s) ∧ Below w.heap.size w w' := by
  have HL := Lib.hid hlim; clear hlim
  go_enter Tryd.func26, Tryd.ntmps26
  go_wp2_with fail
  refine (liteClone_any _ _ HL.out).mono ?_
  rintro e w1 ⟨rfl, hb⟩
  go_wp2_with fail
  go_ret
  exact ⟨rfl, hb⟩

end Go.Proofs.YtphoihkbdogkhaaDoor.Bn

/- The walk of num.Var. -/
namespace Go.Proofs.YtphoihkbdogkhaaDoor.Bn
set_option maxRecDepth 100000
open Go.RowKit

/-- Numbers' rows, one behind the other. -/
def varl (ns : List Nat) : List UInt8 := ns.flatMap Nm.row
theorem varl_length (ns : List Nat) : (varl ns).length ≤ 9 * ns.length := by
  induction ns with
  | nil => simp [varl]
  | cons n ns ih =>
    have := (Nm.row_length n).2
    simp only [varl, List.flatMap_cons, List.length_append, List.length_cons] at ih ⊢
    omega
theorem varl_snoc (ns : List Nat) (k : Nat) (h : k < ns.length) : varl (ns.take (k + 1)) = varl (ns.take k) ++ Nm.row (ns.getD k 0) := by
  have e : ns.getD k 0 = ns[k] := by simp [h]
  unfold varl
  rw [List.take_succ_eq_append_getElem h, List.flatMap_append, e, List.flatMap_singleton]
/-- A slice of numbers that lies in memory. -/
def SeesU (w : World) (v : Value) (ns : List Nat) : Prop :=
  (ns = [] ∧ ∃ a cap, v = .slice a 0 cap) ∨
  ∃ b off cap, v = .slice (some ⟨b, off, none⟩) ns.length cap ∧ b < w.heap.size ∧ ∀ i, i < ns.length → w.cell? ⟨b, off + i, none⟩ = some (.int .u64 (ns.getD i 0 : Nat))
theorem SeesU.below {w w' : World} {v : Value} {ns : List Nat} (h : SeesU w v ns) (hb : Below w.heap.size w w') : SeesU w' v ns := by
  rcases h with h | ⟨b, off, cap, rfl, hlt, hc⟩
  · exact Or.inl h
  · exact Or.inr ⟨b, off, cap, rfl, Nat.lt_of_lt_of_le hlt hb.size, fun i hi => (hb.cell (p := ⟨b, off + i, none⟩) hlt).trans (hc i hi)⟩
set_option maxHeartbeats 400000 in
theorem var_nil (a : Option Addr) (cap : Nat) (w : World) :
    Calls Tryd.prog 58 #[.slice a 0 cap] w (Gives (.string ByteArray.empty) w) := by
  have hc := (Owns.nil w w.heap.size).convert
  go_enter Tryd.func58, Tryd.ntmps58
  go_wp2_with fail
  refine wp_loop_rounds 1 ?_
  rw [rounds_succ]
  go_wp2_with fail
  go_ret
  exact ⟨rfl, Below.refl _ _⟩

set_option maxHeartbeats 800000 in
theorem var_some (b off cap : Nat) (ns : List Nat) (w : World) (hb : b < w.heap.size) (hc : ∀ i, i < ns.length → w.cell? ⟨b, off + i, none⟩ = some (.int .u64 (ns.getD i 0 : Nat)))
    (hn : ∀ i, ns.getD i 0 < 18446744073709551616) (hl : ns.length ≤ 100000000) :
    Calls Tryd.prog 58 #[.slice (some ⟨b, off, none⟩) ns.length cap] w (Gives (.string ⟨(varl ns).toArray⟩) w) := by
  have HC := Lib.hid hc; clear hc
  have HN := Lib.hid hn; clear hn
  have hl2 := varl_length ns
  generalize hlen : ns.length = len at *
  have HLEN := Lib.hid hlen; clear hlen
  have HLL := Lib.hid hl2; clear hl2
  have HL := Lib.hid hl
  go_enter Tryd.func58, Tryd.ntmps58
  go_wp2_with fail
  go_loopw [3, 8] (fun u i wr => ∃ k : Nat, k ≤ len ∧ i = .int .i64 k ∧ Owns wr w.heap.size u (varl (ns.take k)) ∧ Below w.heap.size w wr) (fun _ i _ => len - (intOf i).toNat)
  case atStart => exact ⟨0, Nat.zero_le _, rfl, by simpa [varl] using Owns.nil w w.heap.size, Below.refl _ _⟩
  case round =>
    obtain ⟨k, hk, rfl, hown, hbel⟩ := hrel
    have hsz := hbel.size
    have HO := Lib.hid hown; clear hown
    by_cases hlt : k < len
    · have hcell : wr.cell? ⟨b, off + k, none⟩ = some (.int .u64 (ns.getD k 0 : Nat)) := (hbel.cell (p := ⟨b, off + k, none⟩) hb).trans (HC.out k hlt)
      have HS : Hid (varl (ns.take (k + 1)) = varl (ns.take k) ++ Nm.row (ns.getD k 0)) := varl_snoc ns k (by rw [HLEN.out]; exact hlt)
      have HX : Hid (ns.getD k 0 < 18446744073709551616) := HN.out k
      generalize ns.getD k 0 = x at *
      go_wp2_with fail
      refine (appendRow_any w.heap.size _ _ _ _ HO.out hsz ?_ (by omega) (by have := HX.out; omega)).mono ?_
      · have h1 := varl_length (ns.take k)
        have h2 : (ns.take k).length ≤ k := List.length_take_le ..
        have h3 := HL.out
        omega
      rintro e w1 ⟨v1, rfl, ho1, hb1⟩
      rw [Int.toNat_natCast, ← HS.out] at ho1
      have HO1 := Lib.hid ho1; clear ho1
      go_wp2_with fail
      go_roundw
      case rel => exact ⟨k + 1, by omega, by go_num, HO1.out, hbel.trans hb1⟩
      case measure => simp [intOf]; omega
    · have hc := HO.out.convert
      go_wp2_with fail
      go_ret
      have : ns.take k = ns := List.take_of_length_le (by rw [HLEN.out]; omega)
      rw [this]
      exact ⟨rfl, hbel⟩

/-- Var, of numbers wherever they lie. -/
theorem var_any (v : Value) (ns : List Nat) (w : World) (hs : SeesU w v ns) (hn : ∀ i, ns.getD i 0 < 18446744073709551616) (hl : ns.length ≤ 100000000) :
    Calls Tryd.prog 58 #[v] w (Gives (.string ⟨(varl ns).toArray⟩) w) := by
  rcases hs with ⟨rfl, a, cap, rfl⟩ | ⟨b, off, cap, rfl, hb, hc⟩
  · exact var_nil a cap w
  · exact var_some b off cap ns w hb hc hn hl

end Go.Proofs.YtphoihkbdogkhaaDoor.Bn

/- Walks of num.ReadText. -/
namespace Go.Proofs.YtphoihkbdogkhaaDoor.Bn
set_option maxRecDepth 100000
open Go.RowKit

/-- What ReadText answers: no text. -/
def noText : Value := .tuple #[.string ByteArray.empty, .int .i64 0, .bool false]

/-- The text that a text begins with, and its row's length. -/
def rt (l : List UInt8) (most : Int) : Option (List UInt8 × Nat) :=
  match Nm.rv l with
  | none => none
  | some (n, k) => if most < n ∨ l.length < k + n then none else some ((l.drop k).take n, k + n)

def rtV (l : List UInt8) (most : Int) : Value :=
  match rt l most with
  | none => noText
  | some (t, k) => .tuple #[.string ⟨t.toArray⟩, .int .i64 k, .bool true]

set_option maxHeartbeats 400000 in
theorem readText_none (s : ByteArray) (most : Int) (w : World) (hs : s.size ≤ 9223372036854775807) (hv : rvV s.data.toList = .tuple #[.int .u64 0, .int .i64 0, .bool false]) :
    Calls Tryd.prog 100 #[.string s, .int .i64 most] w (Gives noText w) := by
  have HV := Lib.hid hv; clear hv
  have HS := Lib.hid hs; clear hs
  go_enter Tryd.func100, Tryd.ntmps100
  go_wp2_with fail
  refine (readVar_any _ _ HS.out).mono ?_
  rintro e w' ⟨rfl, rfl⟩
  rw [HV.out]
  go_wp2_with fail
  go_ret3
  exact ⟨rfl, Below.refl _ _⟩

set_option maxHeartbeats 400000 in
theorem readText_less (s : ByteArray) (most n k : Int) (w : World) (hs : s.size ≤ 9223372036854775807) (hv : rvV s.data.toList = .tuple #[.int .u64 n, .int .i64 k, .bool true]) (h0 : most < 0) :
    Calls Tryd.prog 100 #[.string s, .int .i64 most] w (Gives noText w) := by
  have HV := Lib.hid hv; clear hv
  have HS := Lib.hid hs; clear hs
  go_enter Tryd.func100, Tryd.ntmps100
  go_wp2_with fail
  refine (readVar_any _ _ HS.out).mono ?_
  rintro e w' ⟨rfl, rfl⟩
  rw [HV.out]
  go_wp2_with fail
  go_ret3
  exact ⟨rfl, Below.refl _ _⟩

set_option maxHeartbeats 400000 in
theorem readText_most (s : ByteArray) (most n k : Int) (w : World) (hs : s.size ≤ 9223372036854775807) (hv : rvV s.data.toList = .tuple #[.int .u64 n, .int .i64 k, .bool true]) (h0 : 0 ≤ most) (h1 : most < n) (hm : most ≤ 9223372036854775807) :
    Calls Tryd.prog 100 #[.string s, .int .i64 most] w (Gives noText w) := by
  have HV := Lib.hid hv; clear hv
  have HS := Lib.hid hs; clear hs
  go_enter Tryd.func100, Tryd.ntmps100
  go_wp2_with fail
  refine (readVar_any _ _ HS.out).mono ?_
  rintro e w' ⟨rfl, rfl⟩
  rw [HV.out]
  go_wp2_with fail
  go_ret3
  exact ⟨rfl, Below.refl _ _⟩

set_option maxHeartbeats 400000 in
theorem readText_cut (s : ByteArray) (most n k : Int) (w : World) (hs : s.size ≤ 9223372036854775807) (hv : rvV s.data.toList = .tuple #[.int .u64 n, .int .i64 k, .bool true]) (h0 : 0 ≤ most) (h1 : n ≤ most) (hm : most ≤ 9223372036854775807)
    (_hk0 : 1 ≤ k) (hk : k ≤ s.size) (hn : s.size < k + n) :
    Calls Tryd.prog 100 #[.string s, .int .i64 most] w (Gives noText w) := by
  have HV := Lib.hid hv; clear hv
  have hn' : (s.size : Int) - k < n := by omega
  go_enter Tryd.func100, Tryd.ntmps100
  go_wp2_with fail
  refine (readVar_any _ _ hs).mono ?_
  rintro e w' ⟨rfl, rfl⟩
  rw [HV.out]
  go_wp2_with fail
  go_ret3
  exact ⟨rfl, Below.refl _ _⟩

set_option maxHeartbeats 400000 in
theorem readText_yes (s : ByteArray) (most : Int) (n k : Nat) (w : World) (hs : s.size ≤ 281474976710656) (hv : rvV s.data.toList = .tuple #[.int .u64 n, .int .i64 k, .bool true]) (h0 : 0 ≤ most) (h1 : n ≤ most) (hm : most ≤ 9223372036854775807)
    (hk0 : 1 ≤ k) (hn : k + n ≤ s.size) :
    Calls Tryd.prog 100 #[.string s, .int .i64 most] w (Gives (.tuple #[.string (s.extract k (k + n)), .int .i64 ((k : Int) + n), .bool true]) w) := by
  have HV := Lib.hid hv; clear hv
  have hn' : (n : Int) ≤ (s.size : Int) - k := by omega
  have hle : (s.extract k (k + n)).size ≤ 281474976710656 := by rw [ByteArray.size_extract]; omega
  have HLE := Lib.hid hle; clear hle
  go_enter Tryd.func100, Tryd.ntmps100
  go_wp2_with fail
  refine (readVar_any _ _ (by omega)).mono ?_
  rintro e w' ⟨rfl, rfl⟩
  rw [HV.out]
  go_wp2_with fail
  refine (clone_any _ _ HLE.out).mono ?_
  rintro e w1 ⟨rfl, hb⟩
  go_wp2_with fail
  go_ret3
  exact ⟨rfl, hb⟩

theorem rvV_some {l : List UInt8} {n k : Nat} (h : Nm.rv l = some (n, k)) : rvV l = .tuple #[.int .u64 n, .int .i64 k, .bool true] := by unfold rvV; rw [h]
theorem rvV_none {l : List UInt8} (h : Nm.rv l = none) : rvV l = .tuple #[.int .u64 0, .int .i64 0, .bool false] := by unfold rvV; rw [h]

/-- ReadText, of every text of at most 2^48 bytes. -/
theorem readText_any (s : ByteArray) (most : Int) (w : World) (hs : s.size ≤ 281474976710656) (hm : most ≤ 9223372036854775807) :
    Calls Tryd.prog 100 #[.string s, .int .i64 most] w (Gives (rtV s.data.toList most) w) := by
  cases h : Nm.rv s.data.toList with
  | none =>
    have e : rtV s.data.toList most = noText := by unfold rtV rt; rw [h]
    rw [e]
    exact readText_none s most w (by omega) (rvV_none h)
  | some p =>
    obtain ⟨n, k⟩ := p
    have hv := rvV_some h
    obtain ⟨hk0, hk, -, -⟩ := Nm.row_rv h
    rw [length_list] at hk
    by_cases hc : most < n ∨ s.data.toList.length < k + n
    · have e : rtV s.data.toList most = noText := by unfold rtV rt; rw [h]; simp only [if_pos hc]
      rw [e]
      rw [length_list] at hc
      by_cases h0 : most < 0
      · exact readText_less s most n k w (by omega) hv h0
      · by_cases h1 : most < n
        · exact readText_most s most n k w (by omega) hv (by omega) h1 hm
        · exact readText_cut s most n k w (by omega) hv (by omega) (by omega) hm (by omega) (by omega) (by omega)
    · have e : rtV s.data.toList most = .tuple #[.string (s.extract k (k + n)), .int .i64 ((k : Int) + n), .bool true] := by
        unfold rtV rt
        rw [h]
        simp only [if_neg hc]
        rw [Lib.extract_eq, Nat.add_sub_cancel_left, Int.natCast_add]
      rw [e]
      rw [length_list] at hc
      exact readText_yes s most n k w hs hv (by omega) (by omega) hm hk0 (by omega)

end Go.Proofs.YtphoihkbdogkhaaDoor.Bn

/- The walk of num.Text. -/
namespace Go.Proofs.YtphoihkbdogkhaaDoor.Bn
set_option maxRecDepth 100000
open Go.RowKit

/-- Texts' rows, one behind the other. -/
def textl (ss : List ByteArray) : List UInt8 := ss.flatMap fun s => Nm.row s.size ++ s.data.toList

theorem textl_snoc (ss : List ByteArray) (k : Nat) (h : k < ss.length) : textl (ss.take (k + 1)) = textl (ss.take k) ++ Nm.row (ss.getD k ByteArray.empty).size ++ (ss.getD k ByteArray.empty).data.toList := by
  have e : ss.getD k ByteArray.empty = ss[k] := by simp [h]
  unfold textl
  rw [List.take_succ_eq_append_getElem h, List.flatMap_append, e, List.flatMap_singleton, List.append_assoc]
/-- How many bytes texts have in all. -/
def suml : List ByteArray → Nat
  | [] => 0
  | s :: ss => s.size + suml ss
theorem suml_take : ∀ (ss : List ByteArray) (k : Nat), suml (ss.take k) ≤ suml ss
  | [], k => by simp [suml]
  | s :: ss, 0 => by simp [suml]
  | s :: ss, k + 1 => by have := suml_take ss k; simp only [List.take_succ_cons, suml]; omega
theorem suml_snoc : ∀ (ss : List ByteArray) (k : Nat), k < ss.length → suml (ss.take (k + 1)) = suml (ss.take k) + (ss.getD k ByteArray.empty).size
  | [], k, h => by simp at h
  | s :: ss, 0, _ => by simp [suml]
  | s :: ss, k + 1, h => by
    have := suml_snoc ss k (by simpa using h)
    rw [List.take_succ_cons, List.take_succ_cons, suml, suml, this, List.getD_cons_succ]
    omega
theorem textl_length (ss : List ByteArray) : (textl ss).length ≤ 9 * ss.length + suml ss := by
  induction ss with
  | nil => simp [textl]
  | cons s ss ih =>
    have := (Nm.row_length s.size).2
    simp only [textl, List.flatMap_cons, List.length_append, List.length_cons, suml, length_list] at ih ⊢
    omega

/-- A slice of texts that lies in memory. -/
def SeesS (w : World) (v : Value) (ss : List ByteArray) : Prop :=
  (ss = [] ∧ ∃ a cap, v = .slice a 0 cap) ∨
  ∃ b off cap, v = .slice (some ⟨b, off, none⟩) ss.length cap ∧ b < w.heap.size ∧ ∀ i, i < ss.length → w.cell? ⟨b, off + i, none⟩ = some (.string (ss.getD i ByteArray.empty))

theorem SeesS.below {w w' : World} {v : Value} {ss : List ByteArray} (h : SeesS w v ss) (hb : Below w.heap.size w w') : SeesS w' v ss := by
  rcases h with h | ⟨b, off, cap, rfl, hlt, hc⟩
  · exact Or.inl h
  · exact Or.inr ⟨b, off, cap, rfl, Nat.lt_of_lt_of_le hlt hb.size, fun i hi => (hb.cell (p := ⟨b, off + i, none⟩) hlt).trans (hc i hi)⟩

theorem strCells_eq (s : ByteArray) : Lib.strCells s = s.data.toList.map cellOf := rfl

set_option maxHeartbeats 400000 in
theorem text_nil (a : Option Addr) (cap : Nat) (w : World) :
    Calls Tryd.prog 59 #[.slice a 0 cap] w (Gives (.string ByteArray.empty) w) := by
  have hc := (Owns.nil w w.heap.size).convert
  go_enter Tryd.func59, Tryd.ntmps59
  go_wp2_with fail
  refine wp_loop_rounds 1 ?_
  rw [rounds_succ]
  go_wp2_with fail
  go_ret
  exact ⟨rfl, Below.refl _ _⟩

set_option maxHeartbeats 800000 in
theorem text_some (b off cap : Nat) (ss : List ByteArray) (w : World) (hb : b < w.heap.size) (hc : ∀ i, i < ss.length → w.cell? ⟨b, off + i, none⟩ = some (.string (ss.getD i ByteArray.empty)))
    (hl : ss.length ≤ 100000000) (hsum : suml ss ≤ 100000000) :
    Calls Tryd.prog 59 #[.slice (some ⟨b, off, none⟩) ss.length cap] w (Gives (.string ⟨(textl ss).toArray⟩) w) := by
  obtain ⟨i0, hi, hz0, hz1, hz2⟩ := info_parts info_u8
  have HC := Lib.hid hc; clear hc
  generalize hlen : ss.length = len at *
  have HLEN := Lib.hid hlen; clear hlen
  have HL := Lib.hid hl
  have HSUM := Lib.hid hsum; clear hsum
  go_enter Tryd.func59, Tryd.ntmps59
  go_wp2_with fail
  go_loopw [3, 8] (fun u i wr => ∃ k : Nat, k ≤ len ∧ i = .int .i64 k ∧ Owns wr w.heap.size u (textl (ss.take k)) ∧ Below w.heap.size w wr) (fun _ i _ => len - (intOf i).toNat)
  case atStart => exact ⟨0, Nat.zero_le _, rfl, by simpa [textl] using Owns.nil w w.heap.size, Below.refl _ _⟩
  case round =>
    obtain ⟨k, hk, rfl, hown, hbel⟩ := hrel
    have hsz := hbel.size
    have HO := Lib.hid hown; clear hown
    by_cases hlt : k < len
    · have hcell : wr.cell? ⟨b, off + k, none⟩ = some (.string (ss.getD k ByteArray.empty)) := (hbel.cell (p := ⟨b, off + k, none⟩) hb).trans (HC.out k hlt)
      have hk' : k < ss.length := by rw [HLEN.out]; exact hlt
      have HS : Hid (textl (ss.take (k + 1)) = textl (ss.take k) ++ Nm.row (ss.getD k ByteArray.empty).size ++ (ss.getD k ByteArray.empty).data.toList) := textl_snoc ss k hk'
      have hx1 : suml (ss.take k) + (ss.getD k ByteArray.empty).size ≤ 100000000 := by rw [← suml_snoc ss k hk']; exact Nat.le_trans (suml_take _ _) HSUM.out
      have hx2 : (textl (ss.take k)).length ≤ 900000000 + suml (ss.take k) := by
        have h1 := textl_length (ss.take k)
        have h2 : (ss.take k).length ≤ k := List.length_take_le ..
        have h3 := HL.out
        omega
      clear hk'
      generalize ss.getD k ByteArray.empty = x at *
      generalize textl (ss.take k) = T at *
      generalize suml (ss.take k) = S at *
      have hxs : x.size ≤ 100000000 := by omega
      have hT : T.length ≤ 1000000000 := by omega
      have HXS := Lib.hid hT; clear hx1 hx2 hT
      go_wp2_with fail
      refine (appendRow_any w.heap.size _ _ _ _ HO.out hsz (by have := HXS.out; omega) (by omega) (by omega)).mono ?_
      rintro e w1 ⟨v1, rfl, ho1, hb1⟩
      rw [Int.toNat_natCast] at ho1
      have hraw : w1.ownsRow w.heap.size 5 1 v1 (T ++ Nm.row x.size).length ((T ++ Nm.row x.size).map cellOf) := ho1
      have hrl := (Nm.row_length x.size).2
      have hTl : (T ++ Nm.row x.size).length ≤ 1000000009 := by rw [List.length_append]; have := HXS.out; omega
      have hsz1 := hb1.size
      clear ho1 hrl
      generalize hTR : T ++ Nm.row x.size = TR at *
      clear hTR
      have HTL := Lib.hid hTl; clear hTl
      go_wp2_with (at_builtin; go_must (refine Lib.wpList_append_own_string _ rfl _ _ 34 9 rfl w.heap.size 5 i0 Tryd.underlying34 Tryd.underlying9 hi hz0 hz1 hz2 _ _ _ rfl hraw x rfl ?c3 ?c4 ?c5 ?_))
      case c3 => have := HTL.out; unfold maxLen; omega
      case c4 => have := HTL.out; omega
      case c5 => omega
      intro v2 w2 hown2 hgrow _
      have R : Owns w2 w.heap.size v2 (textl (ss.take (k + 1))) ∧ Below w.heap.size w w2 := by
        rw [HS.out]
        refine ⟨?_, (hbel.trans hb1).grown hgrow (by omega) (fun j hj => (hraw.lt j hj).1)⟩
        unfold Owns
        rw [List.length_append, List.map_append, length_list, ← strCells_eq]
        exact hown2
      clear hown2 hgrow hraw
      go_wp2_with fail
      go_roundw
      case rel => exact ⟨k + 1, by omega, by go_num, R.1, R.2⟩
      case measure => simp [intOf]; omega
    · have hc := HO.out.convert
      go_wp2_with fail
      go_ret
      have : ss.take k = ss := List.take_of_length_le (by rw [HLEN.out]; omega)
      rw [this]
      exact ⟨rfl, hbel⟩

/-- Text, of texts wherever they lie. -/
theorem text_any (v : Value) (ss : List ByteArray) (w : World) (hs : SeesS w v ss) (hl : ss.length ≤ 100000000) (hsum : suml ss ≤ 100000000) :
    Calls Tryd.prog 59 #[v] w (Gives (.string ⟨(textl ss).toArray⟩) w) := by
  rcases hs with ⟨rfl, a, cap, rfl⟩ | ⟨b, off, cap, rfl, hb, hc⟩
  · exact text_nil a cap w
  · exact text_some b off cap ss w hb hc hl hsum

end Go.Proofs.YtphoihkbdogkhaaDoor.Bn

/- Blocks as plain lists: their bytes, what is read of bytes, and that each is read of its own bytes alone. -/
namespace Go.Proofs.YtphoihkbdogkhaaDoor.Bn
set_option maxRecDepth 100000

/-- A key with its value. -/
structure En where
  key : ByteArray
  val : ByteArray
namespace Bo

def txt (s : List UInt8) : List UInt8 := Nm.row s.length ++ s
/-- With how many bytes both begin. -/
def cm : List UInt8 → List UInt8 → Nat
  | a :: x, b :: y => if a = b then cm x y + 1 else 0
  | _, _ => 0
theorem cm_le : ∀ x y : List UInt8, cm x y ≤ x.length ∧ cm x y ≤ y.length
  | [], _ => by simp [cm]
  | _ :: _, [] => by simp [cm]
  | a :: x, b :: y => by
    have := cm_le x y
    unfold cm
    split <;> simp <;> omega
theorem cm_take : ∀ x y : List UInt8, y.take (cm x y) = x.take (cm x y)
  | [], _ => by simp [cm]
  | _ :: _, [] => by simp [cm]
  | a :: x, b :: y => by
    unfold cm
    split
    · rename_i h
      subst h
      simp [cm_take x y]
    · simp
theorem cm_at : ∀ (x y : List UInt8) (i : Nat), i < cm x y → ∃ b, x[i]? = some b ∧ y[i]? = some b
  | [], _, i, h => by simp [cm] at h
  | _ :: _, [], i, h => by simp [cm] at h
  | a :: x, b :: y, i, h => by
    unfold cm at h
    split at h
    · rename_i e
      subst e
      cases i with
      | zero => exact ⟨a, rfl, rfl⟩
      | succ i => simpa using cm_at x y i (by omega)
    · omega
theorem cm_stop : ∀ (x y : List UInt8), cm x y < x.length → cm x y < y.length → x[cm x y]? ≠ y[cm x y]?
  | [], _, h, _ => by simp at h
  | _ :: _, [], _, h => by simp at h
  | a :: x, b :: y, h, k => by
    unfold cm at h k ⊢
    split at h
    · rename_i e
      subst e
      simp only [if_true, List.length_cons] at h k ⊢
      simpa using cm_stop x y (by omega) (by omega)
    · rename_i e
      rw [if_neg e]
      simpa using e
/-- The only place where that may be. -/
theorem cm_eq {x y : List UInt8} {n : Nat} (h1 : n ≤ x.length) (h2 : n ≤ y.length) (hs : ∀ i, i < n → x[i]? = y[i]?) (he : n = x.length ∨ n = y.length ∨ x[n]? ≠ y[n]?) : cm x y = n := by
  rcases Nat.lt_trichotomy (cm x y) n with h | h | h
  · exact absurd (hs _ h) (cm_stop x y (by omega) (by omega))
  · exact h
  · obtain ⟨b, e1, e2⟩ := cm_at x y n h
    have := cm_le x y
    rcases he with he | he | he
    · omega
    · omega
    · exact absurd (e1.trans e2.symm) he

/-- What a builder holds. -/
structure St where
  rows : List UInt8
  foot : List UInt8
  n : Nat
  last : ByteArray
def st0 : St := ⟨[], [], 0, ByteArray.empty⟩
def sh (s : St) (k : ByteArray) : Nat := if s.n % 4 = 0 then 0 else cm s.last.data.toList k.data.toList
def one (s : St) (e : En) : List UInt8 := Nm.row (sh s e.key) ++ (txt (e.key.data.toList.drop (sh s e.key)) ++ txt e.val.data.toList)
def ftn (s : St) : List UInt8 := if s.n % 4 = 0 then s.foot ++ Nm.big s.rows.length 4 else s.foot
def step (s : St) (e : En) : St := ⟨s.rows ++ one s e, ftn s, s.n + 1, e.key⟩
def run (s : St) (l : List En) : St := l.foldl step s
def fin (s : St) : List UInt8 := s.rows ++ (s.foot ++ Nm.big s.n 4)
def bytes (l : List En) : List UInt8 := fin (run st0 l)
/-- What Add answers. -/
def err (s : St) (e : En) : Nat := if 1024 < e.key.size ∨ 1024 < e.val.size then 3 else if s.n ≠ 0 ∧ Op.bytesLess s.last.data.toList e.key.data.toList = false then 1 else 0
def goodb : St → List En → Bool
  | _, [] => true
  | s, e :: l => decide (err s e = 0) && goodb (step s e) l

theorem run_snoc (s : St) (l : List En) (e : En) : run s (l ++ [e]) = step (run s l) e := by unfold run; rw [List.foldl_append]; rfl
theorem run_cons (s : St) (l : List En) (e : En) : run s (e :: l) = run (step s e) l := rfl
theorem good_snoc : ∀ (l : List En) (s : St) (e : En), goodb s (l ++ [e]) = (goodb s l && decide (err (run s l) e = 0))
  | [], s, e => by rw [List.nil_append, goodb, goodb, goodb, Bool.and_true, Bool.true_and]; rfl
  | a :: l, s, e => by rw [List.cons_append, goodb, good_snoc l, goodb, run_cons, Bool.and_assoc]
theorem run_n : ∀ (l : List En) (s : St), (run s l).n = s.n + l.length
  | [], s => by simp [run]
  | e :: l, s => by rw [run_cons, run_n l, List.length_cons]; show s.n + 1 + _ = _; omega
theorem err_size {s : St} {e : En} (h : err s e = 0) : e.key.size ≤ 1024 ∧ e.val.size ≤ 1024 := by
  unfold err at h
  split at h
  · omega
  · omega
theorem err_less {s : St} {e : En} (h : err s e = 0) : s.n = 0 ∨ Op.bytesLess s.last.data.toList e.key.data.toList = true := by
  unfold err at h
  split at h
  · omega
  · split at h
    · omega
    · rename_i h2
      by_cases h0 : s.n = 0
      · exact Or.inl h0
      · right
        cases hb : Op.bytesLess s.last.data.toList e.key.data.toList with
        | true => rfl
        | false => exact absurd ⟨h0, hb⟩ h2
theorem txt_length (s : List UInt8) : 1 ≤ (txt s).length ∧ (txt s).length ≤ 9 + s.length ∧ s.length ≤ (txt s).length := by
  have := Nm.row_length s.length
  unfold txt
  rw [List.length_append]
  omega
theorem len (s : ByteArray) : s.data.toList.length = s.size := by simp
theorem one_length (s : St) (e : En) : 3 + e.val.size ≤ (one s e).length ∧ (one s e).length ≤ 27 + e.key.size + e.val.size := by
  have h1 := Nm.row_length (sh s e.key)
  have h2 := txt_length (e.key.data.toList.drop (sh s e.key))
  have h3 := txt_length e.val.data.toList
  have h4 := Nm.row_length e.val.data.toList.length
  have h5 : (txt e.val.data.toList).length = (Nm.row e.val.data.toList.length).length + e.val.data.toList.length := by unfold txt; rw [List.length_append]
  rw [List.length_drop, len] at h2
  rw [len] at h3 h4 h5
  unfold one
  rw [List.length_append, List.length_append]
  omega

/-! ### The bytes, read again -/

/-- The entry that a text begins with, behind a key. -/
def rdE (s ahead : List UInt8) : Option (En × Nat) :=
  match Nm.rv s with
  | none => none
  | some (n, a) => if ahead.length < n then none else match rt (s.drop a) 1024 with
    | none => none
    | some (r, b) => match rt (s.drop (a + b)) 1024 with
      | none => none
      | some (v, c) => some (⟨⟨(ahead.take n ++ r).toArray⟩, ⟨v.toArray⟩⟩, a + b + c)
/-- So many entries, the i-th one first. -/
def rds : Nat → Nat → List UInt8 → List UInt8 → Option (List En)
  | 0, _, _, _ => some []
  | n + 1, i, p, s => match rdE s (if i % 4 = 0 then [] else p) with
    | none => none
    | some (e, k) => match rds n (i + 1) e.key.data.toList (s.drop k) with
      | none => none
      | some l => some (e :: l)
/-- As the document reads them. -/
def rdsR : Nat → St → List UInt8 → Option (List En)
  | 0, _, _ => some []
  | n + 1, p, s => match rdE s p.last.data.toList with
    | none => none
    | some (e, k) => if err p e = 0 then (match rdsR n (step p e) (s.drop k) with
      | none => none
      | some l => some (e :: l)) else none
def rows : St → List En → List UInt8
  | _, [] => []
  | s, e :: l => one s e ++ rows (step s e) l
theorem run_rows : ∀ (l : List En) (s : St), (run s l).rows = s.rows ++ rows s l
  | [], s => by simp [run, rows]
  | e :: l, s => by rw [run_cons, run_rows l, rows, ← List.append_assoc]; rfl
theorem rt_txt (s t : List UInt8) (hs : s.length ≤ 1024) : rt (txt s ++ t) 1024 = some (s, (txt s).length) := by
  unfold rt txt
  rw [List.append_assoc, Nm.rv_row (by omega)]
  simp only
  rw [if_neg (by simp; omega)]
  simp
theorem txt_rt {l t : List UInt8} {most : Int} {k : Nat} (h : rt l most = some (t, k)) : 1 ≤ k ∧ k ≤ l.length ∧ l.take k = txt t ∧ (t.length : Int) ≤ most := by
  unfold rt at h
  cases hv : Nm.rv l with
  | none => rw [hv] at h; cases h
  | some x =>
    obtain ⟨n, j⟩ := x
    rw [hv] at h
    simp only at h
    split at h
    · cases h
    · rename_i hc
      simp only [Option.some.injEq, Prod.mk.injEq] at h
      obtain ⟨rfl, rfl⟩ := h
      obtain ⟨h1, h2, h3, h4⟩ := Nm.row_rv hv
      have hl : ((l.drop j).take n).length = n := by rw [List.length_take, List.length_drop]; omega
      refine ⟨by omega, by omega, ?_, by rw [hl]; omega⟩
      unfold txt
      rw [hl, h3, List.take_add]
theorem rdE_take {s p : List UInt8} {e : En} {k : Nat} (h : rdE s p = some (e, k)) : 3 ≤ k ∧ k ≤ s.length ∧ e.val.size ≤ 1024 ∧ e.key.size + p.length ≤ 2 * p.length + 1024 := by
  unfold rdE at h
  cases hv : Nm.rv s with
  | none => rw [hv] at h; cases h
  | some x =>
    obtain ⟨n, a⟩ := x
    rw [hv] at h
    simp only at h
    split at h
    · cases h
    · rename_i hc
      cases h1 : rt (s.drop a) 1024 with
      | none => rw [h1] at h; cases h
      | some y =>
        obtain ⟨r, b⟩ := y
        rw [h1] at h
        simp only at h
        cases h2 : rt (s.drop (a + b)) 1024 with
        | none => rw [h2] at h; cases h
        | some z =>
          obtain ⟨v, c⟩ := z
          rw [h2] at h
          simp only [Option.some.injEq, Prod.mk.injEq] at h
          obtain ⟨rfl, rfl⟩ := h
          obtain ⟨a1, a2, _, _⟩ := Nm.row_rv hv
          obtain ⟨b1, b2, _, b4⟩ := txt_rt h1
          obtain ⟨c1, c2, _, c4⟩ := txt_rt h2
          rw [List.length_drop] at b2 c2
          refine ⟨by omega, by omega, ?_, ?_⟩
          · show v.toArray.size ≤ 1024
            rw [List.size_toArray]; omega
          · have : (⟨(p.take n ++ r).toArray⟩ : ByteArray).size = (p.take n ++ r).length := by show (p.take n ++ r).toArray.size = _; rw [List.size_toArray]
            rw [this, List.length_append, List.length_take]
            omega
theorem sh_le (s : St) (k : ByteArray) : sh s k ≤ k.size ∧ sh s k ≤ s.last.size := by
  have := cm_le s.last.data.toList k.data.toList
  rw [len, len] at this
  unfold sh
  split <;> omega
theorem sh_take (s : St) (k : ByteArray) : s.last.data.toList.take (sh s k) = k.data.toList.take (sh s k) := by
  unfold sh
  split
  · simp
  · exact (cm_take _ _).symm
theorem rdE_one (s : St) (e : En) (p t : List UInt8) (h : err s e = 0) (hp : p = s.last.data.toList ∨ (s.n % 4 = 0 ∧ p = [])) : rdE (one s e ++ t) p = some (e, (one s e).length) := by
  obtain ⟨hk, hv⟩ := err_size h
  obtain ⟨s1, s2⟩ := sh_le s e.key
  have ht := sh_take s e.key
  have hpl : ¬ p.length < sh s e.key := by
    rcases hp with rfl | ⟨h0, rfl⟩
    · rw [len]; omega
    · unfold sh; rw [if_pos h0]; simp
  have hpt : p.take (sh s e.key) = e.key.data.toList.take (sh s e.key) := by
    rcases hp with rfl | ⟨h0, rfl⟩
    · exact ht
    · unfold sh; rw [if_pos h0]; simp
  unfold rdE one
  rw [List.append_assoc, Nm.rv_row (by omega)]
  simp only
  rw [if_neg hpl, List.drop_left, List.append_assoc, rt_txt _ _ (by rw [List.length_drop, len]; omega)]
  simp only
  rw [show Nm.row (sh s e.key) ++ (txt (e.key.data.toList.drop (sh s e.key)) ++ (txt e.val.data.toList ++ t)) = (Nm.row (sh s e.key) ++ txt (e.key.data.toList.drop (sh s e.key))) ++ (txt e.val.data.toList ++ t) from (List.append_assoc _ _ _).symm]
  rw [← List.length_append, List.drop_left, rt_txt _ _ (by rw [len]; omega)]
  simp only [hpt, List.take_append_drop, List.length_append, Nat.add_assoc]
theorem rds_rows : ∀ (l : List En) (s : St) (t : List UInt8), goodb s l = true → rds l.length s.n s.last.data.toList (rows s l ++ t) = some l
  | [], s, t, _ => rfl
  | e :: l, s, t, h => by
    rw [goodb, Bool.and_eq_true, decide_eq_true_eq] at h
    have hp : (if s.n % 4 = 0 then [] else s.last.data.toList) = s.last.data.toList ∨ (s.n % 4 = 0 ∧ (if s.n % 4 = 0 then [] else s.last.data.toList) = []) := by
      by_cases h0 : s.n % 4 = 0
      · exact Or.inr ⟨h0, if_pos h0⟩
      · exact Or.inl (if_neg h0)
    rw [List.length_cons, rds, rows, List.append_assoc, rdE_one s e _ _ h.1 hp]
    simp only [List.drop_left]
    have := rds_rows l (step s e) t h.2
    rw [show (step s e).n = s.n + 1 from rfl, show (step s e).last = e.key from rfl] at this
    rw [this]
theorem rdsR_rows : ∀ (l : List En) (s : St) (t : List UInt8), goodb s l = true → rdsR l.length s (rows s l ++ t) = some l
  | [], s, t, _ => rfl
  | e :: l, s, t, h => by
    rw [goodb, Bool.and_eq_true, decide_eq_true_eq] at h
    rw [List.length_cons, rdsR, rows, List.append_assoc, rdE_one s e _ _ h.1 (Or.inl rfl)]
    simp only [List.drop_left]
    rw [if_pos h.1, rdsR_rows l (step s e) t h.2]
theorem rdsR_good : ∀ (n : Nat) (s : St) (x : List UInt8) (l : List En), rdsR n s x = some l → goodb s l = true ∧ l.length = n
  | 0, s, x, l, h => by
    rw [rdsR] at h
    simp only [Option.some.injEq] at h
    subst h
    exact ⟨rfl, rfl⟩
  | n + 1, s, x, l, h => by
    rw [rdsR] at h
    cases h1 : rdE x s.last.data.toList with
    | none => rw [h1] at h; cases h
    | some y =>
      obtain ⟨e, k⟩ := y
      rw [h1] at h
      simp only at h
      split at h
      · rename_i h0
        cases h2 : rdsR n (step s e) (x.drop k) with
        | none => rw [h2] at h; cases h
        | some l2 =>
          rw [h2] at h
          simp only [Option.some.injEq] at h
          subst h
          obtain ⟨g1, g2⟩ := rdsR_good n _ _ _ h2
          exact ⟨by rw [goodb, decide_eq_true h0, g1]; rfl, by rw [List.length_cons, g2]⟩
      · cases h
theorem rds_length : ∀ (n i : Nat) (p x : List UInt8) (l : List En), rds n i p x = some l → l.length = n
  | 0, _, _, _, l, h => by
    rw [rds] at h
    simp only [Option.some.injEq] at h
    subst h
    rfl
  | n + 1, i, p, x, l, h => by
    rw [rds] at h
    cases h1 : rdE x (if i % 4 = 0 then [] else p) with
    | none => rw [h1] at h; cases h
    | some y =>
      obtain ⟨e, k⟩ := y
      rw [h1] at h
      simp only at h
      cases h2 : rds n (i + 1) e.key.data.toList (x.drop k) with
      | none => rw [h2] at h; cases h
      | some l2 =>
        rw [h2] at h
        simp only [Option.some.injEq] at h
        subst h
        rw [List.length_cons, rds_length n _ _ _ _ h2]

/-- The entries' bytes, and how many entries there are said to be. -/
def parts (s : List UInt8) : Option (List UInt8 × Nat) :=
  if s.length < 4 then none
  else if s.length - 4 < (Nm.val (s.drop (s.length - 4)) + 3) / 4 * 4 then none
  else some (s.take (s.length - 4 - (Nm.val (s.drop (s.length - 4)) + 3) / 4 * 4), Nm.val (s.drop (s.length - 4)))
def bld (l : List En) : List UInt8 := if goodb st0 l = true then bytes l else []
/-- What Open opens. -/
def opn (s : List UInt8) : Option (List En) :=
  match parts s with
  | none => none
  | some (r, n) => match rds n 0 [] r with
    | none => none
    | some l => if bld l = s then some l else none
/-- What the document opens. -/
def opnR (s : List UInt8) : Option (List En) :=
  if s.length < 4 then none
  else if s.length < Nm.val (s.drop (s.length - 4)) then none
  else match rdsR (Nm.val (s.drop (s.length - 4))) st0 s with
    | none => none
    | some l => if bytes l = s then some l else none

theorem foot_length : ∀ (l : List En) (s : St), s.foot.length = (s.n + 3) / 4 * 4 → (run s l).foot.length = ((run s l).n + 3) / 4 * 4
  | [], s, h => h
  | e :: l, s, h => by
    rw [run_cons]
    refine foot_length l _ ?_
    show (ftn s).length = (s.n + 1 + 3) / 4 * 4
    unfold ftn
    split
    · rw [List.length_append, Nm.big_length]; omega
    · omega
theorem rows_least : ∀ (l : List En) (s : St), 3 * l.length ≤ (rows s l).length
  | [], _ => by simp
  | e :: l, s => by
    have h1 := rows_least l (step s e)
    have h2 := one_length s e
    rw [rows, List.length_append, List.length_cons]
    omega
theorem fin_length (s : St) : (fin s).length = s.rows.length + s.foot.length + 4 := by
  unfold fin
  rw [List.length_append, List.length_append, Nm.big_length]
  omega
theorem bytes_last (l : List En) (h : l.length < 4294967296) : Nm.val ((bytes l).drop ((bytes l).length - 4)) = l.length ∧ 4 ≤ (bytes l).length ∧ (bytes l).length = (rows st0 l).length + (l.length + 3) / 4 * 4 + 4 ∧ ∃ t, bytes l = rows st0 l ++ t := by
  have e1 := fin_length (run st0 l)
  have e2 := foot_length l st0 rfl
  have e3 := run_rows l st0
  have e4 : (run st0 l).n = l.length := by rw [run_n]; show 0 + _ = _; omega
  rw [e4] at e2
  rw [show st0.rows = [] from rfl, List.nil_append] at e3
  rw [e3, e2] at e1
  have e5 : bytes l = rows st0 l ++ ((run st0 l).foot ++ Nm.big l.length 4) := by unfold bytes fin; rw [e3, e4]
  refine ⟨?_, by unfold bytes; omega, e1, _, e5⟩
  have e6 : (bytes l).length - 4 = (rows st0 l ++ (run st0 l).foot).length := by rw [List.length_append, e2]; unfold bytes; omega
  rw [e6, e5, ← List.append_assoc, List.drop_left, Nm.val_big, Nat.mod_eq_of_lt (by simpa using h)]
/-- A block is opened of its bytes. -/
theorem opn_bytes (l : List En) (h : goodb st0 l = true) (hl : l.length < 4294967296) : opn (bytes l) = some l := by
  obtain ⟨h1, h2, h3, t, h4⟩ := bytes_last l hl
  unfold opn parts
  rw [if_neg (by omega), h1, if_neg (by omega)]
  simp only
  have e : (bytes l).take ((bytes l).length - 4 - (l.length + 3) / 4 * 4) = rows st0 l := by
    rw [show (bytes l).length - 4 - (l.length + 3) / 4 * 4 = (rows st0 l).length by omega]
    conv => lhs; rw [h4]
    exact List.take_left
  have h5 := rds_rows l st0 [] h
  rw [List.append_nil, show st0.n = 0 from rfl, show st0.last.data.toList = [] from rfl] at h5
  rw [e, h5]
  simp only
  rw [bld, if_pos h, if_pos rfl]
theorem opnR_bytes (l : List En) (h : goodb st0 l = true) (hl : l.length < 4294967296) : opnR (bytes l) = some l := by
  obtain ⟨h1, h2, h3, t, h4⟩ := bytes_last l hl
  have h6 := rows_least l st0
  unfold opnR
  rw [if_neg (by omega), h1, if_neg (by omega)]
  have h5 := rdsR_rows l st0 t h
  rw [← h4] at h5
  rw [h5]
  simp only
  rw [if_pos trivial]
theorem opn_some {s : List UInt8} {l : List En} (h : opn s = some l) : goodb st0 l = true ∧ bytes l = s := by
  unfold opn at h
  cases hp : parts s with
  | none => rw [hp] at h; cases h
  | some x =>
    obtain ⟨r, n⟩ := x
    rw [hp] at h
    simp only at h
    cases hr : rds n 0 [] r with
    | none => rw [hr] at h; cases h
    | some l' =>
      rw [hr] at h
      simp only at h
      by_cases hb : bld l' = s
      · rw [if_pos hb] at h
        simp only [Option.some.injEq] at h
        subst h
        unfold bld at hb
        cases hg : goodb st0 l' with
        | true => rw [if_pos hg] at hb; exact ⟨rfl, hb⟩
        | false =>
          rw [if_neg (by rw [hg]; decide)] at hb
          subst hb
          cases hp
      · rw [if_neg hb] at h
        cases h
theorem opnR_some {s : List UInt8} {l : List En} (h : opnR s = some l) : goodb st0 l = true ∧ bytes l = s := by
  unfold opnR at h
  split at h
  · cases h
  · split at h
    · cases h
    · split at h
      · cases h
      · split at h
        · rename_i l' hr hb
          simp only [Option.some.injEq] at h
          subst h
          exact ⟨(rdsR_good _ _ _ _ hr).1, hb⟩
        · cases h
theorem few {l : List En} {s : List UInt8} (h : bytes l = s) (hs : s.length < 4294967296) : l.length < 4294967296 := by
  have e1 := fin_length (run st0 l)
  have e3 := run_rows l st0
  have e4 := rows_least l st0
  rw [show st0.rows = [] from rfl, List.nil_append] at e3
  rw [e3] at e1
  have : (bytes l).length = (fin (run st0 l)).length := rfl
  rw [h] at this
  omega
/-- The code and the document open the same. -/
theorem opnR_eq (s : List UInt8) (hs : s.length < 4294967296) : opnR s = opn s := by
  cases h : opn s with
  | some l =>
    obtain ⟨h1, h2⟩ := opn_some h
    have := opnR_bytes l h1 (few h2 hs)
    rw [h2] at this
    exact this
  | none =>
    cases h2 : opnR s with
    | none => rfl
    | some l =>
      obtain ⟨h3, h4⟩ := opnR_some h2
      have := opn_bytes l h3 (few h4 hs)
      rw [h4, h] at this
      cases this

end Bo
end Go.Proofs.YtphoihkbdogkhaaDoor.Bn

/- Rows of cells in memory, and what stays of them while other blocks are turned. No function is named. -/
namespace Go.Proofs.YtphoihkbdogkhaaDoor.Bn.Bo
set_option maxRecDepth 100000
open Go Go.RowKit

/-- Of what was there, but for these blocks, nothing has turned. -/
structure Turns (P : Nat → Prop) (w w' : World) : Prop where
  os : w'.os = w.os
  tape : w'.tape = w.tape
  output : w'.output = w.output
  size : w.heap.size ≤ w'.heap.size
  block : ∀ k, k < w.heap.size → ¬ P k → w'.heap[k]? = w.heap[k]?
theorem Turns.refl (P : Nat → Prop) (w : World) : Turns P w w := ⟨rfl, rfl, rfl, Nat.le_refl _, fun _ _ _ => rfl⟩
/-- One behind the other; the second one's blocks are the first one's, or new. -/
theorem Turns.trans {P Q : Nat → Prop} {a b c : World} (h : Turns P a b) (k : Turns Q b c) (hQ : ∀ x, Q x → P x ∨ a.heap.size ≤ x) : Turns P a c :=
  ⟨k.os.trans h.os, k.tape.trans h.tape, k.output.trans h.output, Nat.le_trans h.size k.size, fun i hi hp =>
    (k.block i (Nat.lt_of_lt_of_le hi h.size) (fun hq => (hQ i hq).elim hp (fun e => by omega))).trans (h.block i hi hp)⟩
theorem Turns.mono {P Q : Nat → Prop} {a b : World} (h : Turns P a b) (hQ : ∀ x, P x → Q x ∨ a.heap.size ≤ x) : Turns Q a b :=
  ⟨h.os, h.tape, h.output, h.size, fun i hi hq => h.block i hi (fun hp => (hQ i hp).elim hq (fun e => by omega))⟩
theorem Turns.of_below {P : Nat → Prop} {w w' : World} (h : Below w.heap.size w w') : Turns P w w' := ⟨h.os, h.tape, h.output, h.size, fun k hk _ => h.block k hk⟩
theorem Turns.of_grown {P : Nat → Prop} {w w' : World} {row : Option Nat} (h : w.grownBy w' row) (hP : ∀ k, row = some k → P k) : Turns P w w' :=
  ⟨h.os, h.tape, h.output, h.size, fun k hk hp => h.block k hk (fun e => hp (hP k e.symm))⟩
theorem Turns.of_setCell {P : Nat → Prop} (w : World) (a : Addr) (v : Value) (h : P a.block) : Turns P w (w.setCell a v) :=
  ⟨rfl, rfl, rfl, by simp [World.setCell], fun k _ hp => RowKit.Below.heap_setCell w a v k (fun e => hp (e ▸ h))⟩
theorem Turns.to_below {P : Nat → Prop} {w w' : World} {B : Nat} (h : Turns P w w') (hB : B ≤ w.heap.size) (hP : ∀ k, P k → B ≤ k) : Below B w w' :=
  ⟨h.os, h.tape, h.output, h.size, fun k hk => h.block k (Nat.lt_of_lt_of_le hk hB) (fun hp => by have := hP k hp; omega)⟩
theorem Turns.alloc {P : Nat → Prop} {w w' : World} (h : Turns P w w') (o : Obj) : Turns P w (w'.alloc o) :=
  h.trans (Turns.of_below (P := fun _ => False) ((Below.refl _ _).alloc (Nat.le_refl _) o)) (fun _ hx => hx.elim)
theorem Turns.drew {P : Nat → Prop} {w w' : World} (h : Turns P w w') : Turns P w w'.drew := ⟨h.os, h.tape, h.output, h.size, h.block⟩
theorem Turns.below {P : Nat → Prop} {w w' w2 : World} (h : Turns P w w') (hb : Below w'.heap.size w' w2) : Turns P w w2 :=
  h.trans (Turns.of_below (P := fun _ => False) hb) (fun _ hx => hx.elim)

theorem ownsRow_frame {w w' : World} {base : Nat} {e : TypeId} {z n : Nat} {v : Value} {xs : List Value} (h : w.ownsRow base e z v n xs) (hk : ∀ b, v.ownBlock = some b → w'.heap[b]? = w.heap[b]?) : w'.ownsRow base e z v n xs := by
  obtain ⟨h1, h2⟩ := h
  refine ⟨h1, ?_⟩
  rcases h2 with h2 | ⟨g, cap, cur, rfl, hg, hb, r⟩
  · exact Or.inl h2
  · exact Or.inr ⟨g, cap, cur, rfl, hg, (hk g rfl).trans hb, r⟩
theorem heap_lt {w : World} {b : Nat} {o : Obj} (h : w.heap[b]? = some o) : b < w.heap.size := (Array.getElem?_eq_some_iff.1 h).1
theorem ownsRow_lt {w : World} {base : Nat} {e : TypeId} {z n : Nat} {v : Value} {xs : List Value} (h : w.ownsRow base e z v n xs) {b : Nat} (hb : v.ownBlock = some b) : b < w.heap.size := (World.ownsRow.lt h b hb).2
theorem ownsRow_below {w w' : World} {base : Nat} {e : TypeId} {z n : Nat} {v : Value} {xs : List Value} (h : w.ownsRow base e z v n xs) (hb : Below w.heap.size w w') : w'.ownsRow base e z v n xs :=
  ownsRow_frame h fun _ hv => hb.block _ (ownsRow_lt h hv)
theorem ownsRow_obj {w : World} {base : Nat} {e : TypeId} {z n : Nat} {v : Value} {xs : List Value} (h : w.ownsRow base e z v n xs) {b : Nat} (hb : v.ownBlock = some b) : ∃ cur, w.heap[b]? = some (.cells cur e (0, 0)) := by
  rcases h.2 with ⟨rfl, _⟩ | ⟨g, cap, cur, rfl, _, hg, _⟩
  · simp [Value.ownBlock] at hb
  · simp only [Value.ownBlock, Option.some.injEq] at hb
    subst hb
    exact ⟨cur, hg⟩
theorem obj_cells_ne {w : World} {a b : Nat} {c c' : Array Value} {t t' : TypeId} (ha : w.heap[a]? = some (.cells c t (0, 0))) (hb : w.heap[b]? = some (.cells c' t' (0, 0))) (h : t ≠ t') : a ≠ b := by
  intro e
  subst e
  rw [ha] at hb
  simp only [Option.some.injEq, Obj.cells.injEq] at hb
  exact h hb.2.1
theorem setCell_kept (w : World) (a : Addr) (v : Value) {k : Nat} (h : k ≠ a.block) : (w.setCell a v).heap[k]? = w.heap[k]? := RowKit.Below.heap_setCell w a v k h
theorem cell_of {w : World} {b : Nat} {cs : Array Value} {t : TypeId} {k : Nat} (h : w.heap[b]? = some (.cells cs t (0, 0))) : w.cell? ⟨b, k, none⟩ = cs[k]? := by
  simp [World.cell?, h]
theorem unfrozen_of {w : World} {b : Nat} {cs : Array Value} {t : TypeId} (h : w.heap[b]? = some (.cells cs t (0, 0))) (k : Nat) : w.frozen? ⟨b, k, none⟩ = false := by
  simp [World.frozen?, h]
theorem add_none (g j : Nat) : (⟨g, 0, none⟩ : Addr).add j = ⟨g, j, none⟩ := by unfold Addr.add; split <;> simp_all
/-- The shape of a row that is owned, and its cells. -/
theorem row_shape {w : World} {base : Nat} {e : TypeId} {z n : Nat} {v : Value} {xs : List Value} (h : w.ownsRow base e z v n xs) (hn : 0 < n) : ∃ g cap, v = .slice (some ⟨g, 0, none⟩) n cap ∧ n ≤ cap ∧ g < w.heap.size ∧ base ≤ g ∧ (∀ k, w.frozen? ⟨g, k, none⟩ = false) ∧ ∀ j u, xs[j]? = some u → w.cell? ⟨g, j, none⟩ = some u := by
  have h0 := h
  rcases h.2 with ⟨rfl, h1⟩ | ⟨g, cap, cur, rfl, hb, hg, hnc, _⟩
  · omega
  · refine ⟨g, cap, rfl, hnc, heap_lt hg, hb, fun k => unfrozen_of hg k, fun j u hj => ?_⟩
    have := h0.cells (g := g) rfl j u hj
    rwa [add_none] at this
theorem row_any {w : World} {base : Nat} {e : TypeId} {z n : Nat} {v : Value} {xs : List Value} (h : w.ownsRow base e z v n xs) : ∃ ao cap, v = .slice ao n cap := by
  rcases h.2 with ⟨rfl, rfl⟩ | ⟨g, cap, cur, rfl, _⟩
  · exact ⟨none, 0, rfl⟩
  · exact ⟨_, cap, rfl⟩

end Go.Proofs.YtphoihkbdogkhaaDoor.Bn.Bo

/- Walks of the small functions of okey: Num, Str, comparePart. -/
namespace Go.Proofs.YtphoihkbdogkhaaDoor.Bn
set_option maxRecDepth 100000
open Go.RowKit

/-- A part. -/
structure Pt where
  t : Bool
  s : ByteArray
  n : Nat

/-- A part, as a value. -/
def partV (t : Bool) (s : ByteArray) (n : Nat) : Value := .agg #[.bool t, .string s, .int .u64 n]

set_option maxHeartbeats 400000 in
theorem num_any (n : Nat) (w : World) :
    Calls Tryd.prog 96 #[.int .u64 n] w (Gives (partV false ⟨#[]⟩ n) w) := by
  go_enter Tryd.func96, Tryd.ntmps96
  go_wp2_with fail
  exact bodyPost_ret (v := partV false ⟨#[]⟩ n) (by simp [results, Tryd.results96, go_sem, partV]) rfl ⟨rfl, (Below.refl _ _).alloc (Nat.le_refl _) _⟩

theorem bcell {W w1 : World} (hb : Below W.heap.size W w1) : (∀ b o, b < W.heap.size → w1.cell? ⟨b, o, none⟩ = W.cell? ⟨b, o, none⟩) ∧ (∀ b o, b < W.heap.size → w1.frozen? ⟨b, o, none⟩ = W.frozen? ⟨b, o, none⟩) :=
  ⟨fun b o h => hb.cell (p := ⟨b, o, none⟩) h, fun b o h => hb.frozen (p := ⟨b, o, none⟩) h⟩

set_option maxHeartbeats 400000 in
theorem str_any (s : ByteArray) (w : World) (hs : s.size ≤ 281474976710656) :
    Calls Tryd.prog 41 #[.string s] w (Gives (partV true s 0) w) := by
  have HS := Lib.hid hs; clear hs
  go_enter Tryd.func41, Tryd.ntmps41
  go_wp2_with fail
  refine (clone_any _ _ HS.out).mono ?_
  rintro e w1 ⟨rfl, hb⟩
  obtain ⟨hc, hf⟩ := bcell hb
  have hz : w.heap.size < w1.heap.size := by have := hb.size; simp at this; omega
  go_wp2_with fail
  refine bodyPost_ret (v := partV true s 0) (by simp [results, Tryd.results41, go_sem, partV, hc]) rfl ⟨rfl, ?_⟩
  exact ((((((Below.refl _ _).alloc (Nat.le_refl _) _).trans (hb.mono (by simp))).setCell (Nat.le_refl _) _).setCell (Nat.le_refl _) _).setCell (Nat.le_refl _) _)

end Go.Proofs.YtphoihkbdogkhaaDoor.Bn

/- Walks of okey.Compare, over slices.CompareFunc. -/
namespace Go.Proofs.YtphoihkbdogkhaaDoor.Bn
set_option maxRecDepth 100000
open Go.RowKit

/-- No part. -/
def pd : Pt := ⟨false, ByteArray.empty, 0⟩

/-- A part that lies in memory. -/
def PtAt (w : World) (b off : Nat) (p : Pt) : Prop := w.cell? ⟨b, off, none⟩ = some (.bool p.t) ∧ w.cell? ⟨b, off + 1, none⟩ = some (.string p.s) ∧ w.cell? ⟨b, off + 2, none⟩ = some (.int .u64 p.n)

/-- A slice of parts that lies in memory. -/
def SeesP (w : World) (v : Value) (ps : List Pt) : Prop :=
  (ps = [] ∧ ∃ a cap, v = .slice a 0 cap) ∨
  ∃ b off cap, v = .slice (some ⟨b, off, none⟩) ps.length cap ∧ b < w.heap.size ∧ ∀ i, i < ps.length → PtAt w b (off + i * 3) (ps.getD i pd)

theorem PtAt.below {w w' : World} {b off : Nat} {p : Pt} (h : PtAt w b off p) {B : Nat} (hb : Below B w w') (hB : b < B) : PtAt w' b off p := by
  obtain ⟨h0, h1, h2⟩ := h
  exact ⟨(hb.cell (p := ⟨b, off, none⟩) hB).trans h0, (hb.cell (p := ⟨b, off + 1, none⟩) hB).trans h1, (hb.cell (p := ⟨b, off + 2, none⟩) hB).trans h2⟩
theorem SeesP.below {w w' : World} {v : Value} {ps : List Pt} (h : SeesP w v ps) (hb : Below w.heap.size w w') : SeesP w' v ps := by
  rcases h with h | ⟨b, off, cap, rfl, hlt, hc⟩
  · exact Or.inl h
  · exact Or.inr ⟨b, off, cap, rfl, Nat.lt_of_lt_of_le hlt hb.size, fun i hi => (hc i hi).below hb hlt⟩
theorem SeesP.get {w : World} {ao : Option Addr} {len cap : Nat} {ps : List Pt} (h : SeesP w (.slice ao len cap) ps) :
    ps.length = len ∧ ∃ b off, ∀ i, i < len → ao = some ⟨b, off, none⟩ ∧ b < w.heap.size ∧ PtAt w b (off + i * 3) (ps.getD i pd) := by
  rcases h with ⟨rfl, a, c, h⟩ | ⟨b, off, c, h, hb, hc⟩
  · simp only [Value.slice.injEq] at h
    obtain ⟨rfl, rfl, rfl⟩ := h
    exact ⟨rfl, 0, 0, fun i hi => by omega⟩
  · simp only [Value.slice.injEq] at h
    obtain ⟨rfl, rfl, rfl⟩ := h
    exact ⟨rfl, b, off, fun i hi => ⟨rfl, hb, hc i hi⟩⟩

end Go.Proofs.YtphoihkbdogkhaaDoor.Bn

/- Walks of okey.appendText. -/
namespace Go.Proofs.YtphoihkbdogkhaaDoor.Bn
set_option maxRecDepth 100000
open Go.RowKit

/-- A byte of a text, as it stands in a key. -/
def esc1 (b : UInt8) : List UInt8 := if b = 0 then [0, 255] else [b]
/-- A text's bytes, as they stand in a key. -/
def esc (l : List UInt8) : List UInt8 := l.flatMap esc1
theorem esc_length (l : List UInt8) : (esc l).length ≤ 2 * l.length := by
  induction l with
  | nil => simp [esc]
  | cons b l ih =>
    have : (esc1 b).length ≤ 2 := by unfold esc1; split <;> simp
    simp only [esc, List.flatMap_cons, List.length_append, List.length_cons] at ih ⊢
    omega
theorem esc_snoc (s : ByteArray) (k : Nat) (h : k < s.size) : esc (s.data.toList.take (k + 1)) = esc (s.data.toList.take k) ++ esc1 s[k] := by
  unfold esc
  rw [take_snoc s k h, List.flatMap_append, List.flatMap_singleton]

theorem Owns.snoc2 {w' : World} {base : Nat} {v' : Value} {l : List UInt8} {b c : UInt8} (h : w'.ownsRow base 5 1 v' (l.length + 2) (l.map cellOf ++ [cellOf b, cellOf c])) : Owns w' base v' (l ++ [b, c]) := by
  unfold Owns
  rw [List.length_append, List.map_append]
  exact h

set_option maxHeartbeats 1000000 in
theorem appendText_any (base : Nat) (v : Value) (l : List UInt8) (s : ByteArray) (w : World) (hown : Owns w base v l) (hb : base ≤ w.heap.size) (hl : l.length + 2 * s.size ≤ 1099511627776) :
    Calls Tryd.prog 92 #[v, .string s] w (GrewAt base (l ++ (esc s.data.toList ++ [0, 1])) v w) := by
  obtain ⟨i0, hi, hz0, hz1, hz2⟩ := info_parts info_u8
  have hs : s.size ≤ 1099511627776 := by omega
  have HLN := Lib.hid hl; clear hl
  have HOW := Lib.hid hown; clear hown
  go_enter Tryd.func92, Tryd.ntmps92
  go_wp2_with fail
  go_loopw [0, 8] (fun u i wr => ∃ (k : Nat), k ≤ s.size ∧ i = .int .i64 k ∧ Owns wr base u (l ++ esc (s.data.toList.take k)) ∧ Grows w wr v u) (fun _ i _ => s.size - (intOf i).toNat)
  case atStart => exact ⟨0, Nat.zero_le _, rfl, by simpa [esc] using HOW.out, Grows.refl _ _⟩
  case round =>
    obtain ⟨k, hk, rfl, hown, hbel⟩ := hrel
    have hlen : (l ++ esc (s.data.toList.take k)).length ≤ 1099511627776 := by
      have h1 := esc_length (s.data.toList.take k)
      have h2 : (s.data.toList.take k).length ≤ k := List.length_take_le ..
      have h3 := HLN.out
      rw [List.length_append]; omega
    have HLL := Lib.hid hlen; clear hlen
    have hsz := hbel.size
    have hraw : wr.ownsRow base 5 1 u0 (l ++ esc (s.data.toList.take k)).length ((l ++ esc (s.data.toList.take k)).map cellOf) := hown
    clear hown
    by_cases hlt : k < s.size
    · have HS : Hid (esc (s.data.toList.take (k + 1)) = esc (s.data.toList.take k) ++ esc1 s[k]) := esc_snoc s k hlt
      have hx := index_byte s k hlt
      generalize hB : s[k]'hlt = B at *
      clear hB
      generalize hL : l ++ esc (s.data.toList.take k) = L at *
      have HL := Lib.hid hL; clear hL
      obtain ⟨c, hc⟩ : ∃ c : Int, c = B.toNat := ⟨_, rfl⟩
      rw [← hc] at hx
      have HC := Lib.hid hc; clear hc
      by_cases hz : c = 0
      · have HB : Hid (B = 0) := UInt8.toNat.inj (by have := HC.out; rw [hz] at this; simp; omega)
        have HE : Hid (l ++ esc (s.data.toList.take (k + 1)) = (L ++ [0]) ++ [255]) := by rw [HS.out, HB.out, ← List.append_assoc, HL.out, List.append_assoc]; exact rfl
        subst hz
        go_wp2_with (at_builtin; go_must (refine wpList_append_own_at _ rfl _ _ 34 rfl base 5 i0 (.int .u8 0) 1 1 Tryd.underlying34 hi hz0 hz1 hz2 rfl (by decide) _ _ _ rfl (hraw.alloc _) ⟨wr.heap.size, 0, none⟩ 1 1 [_] rfl rfl (cell_one_new _ _ _) ?c2 ?c3 ?c4 ?c5 ?_))
        case c2 => intro u hu; simp at hu; subst hu; rfl
        case c3 => have hlen := HLL.out; unfold maxLen; omega
        case c4 => have hlen := HLL.out; omega
        case c5 => simp; omega
        intro v1 w1 hown1 hgrow1 _ hat1
        have hb1 : Grows w w1 v v1 := (hbel.alloc _).app hgrow1 hat1 (by simp)
        have hraw1 : w1.ownsRow base 5 1 v1 (L ++ [0]).length ((L ++ [(0 : UInt8)]).map cellOf) := Owns.snoc hown1
        have hsz1 := hb1.size
        clear hown1 hgrow1 hraw hat1
        have HLL1 : Hid ((L ++ [(0 : UInt8)]).length ≤ 1099511627777) := by have := HLL.out; rw [List.length_append, List.length_singleton]; exact Lib.hid (by omega)
        generalize hL1 : L ++ [(0 : UInt8)] = L1 at *
        clear hL1
        go_wp2_with (at_builtin; go_must (refine wpList_append_own_at _ rfl _ _ 34 rfl base 5 i0 (.int .u8 0) 1 1 Tryd.underlying34 hi hz0 hz1 hz2 rfl (by decide) _ _ _ rfl (hraw1.alloc _) ⟨w1.heap.size, 0, none⟩ 1 1 [_] rfl rfl (cell_one_new _ _ _) ?c2 ?c3 ?c4 ?c5 ?_))
        case c2 => intro u hu; simp at hu; subst hu; rfl
        case c3 => have hlen := HLL1.out; unfold maxLen; omega
        case c4 => have hlen := HLL1.out; omega
        case c5 => simp; omega
        intro v2 w2 hown2 hgrow2 _ hat2
        have R : Owns w2 base v2 (l ++ esc (s.data.toList.take (k + 1))) ∧ Grows w w2 v v2 := by
          rw [HE.out]
          exact ⟨Owns.snoc hown2, (hb1.alloc _).app hgrow2 hat2 (by simp)⟩
        clear hown2 hgrow2 hraw1 hat2
        go_wp2_with fail
        go_roundw
        case rel => exact ⟨k + 1, by omega, by go_num, R.1, R.2⟩
        case measure => simp [intOf]; omega
      · have HB : Hid (B ≠ 0) := fun e => hz (by rw [HC.out, e]; rfl)
        have HE : Hid (l ++ esc (s.data.toList.take (k + 1)) = L ++ [B]) := by rw [HS.out, ← List.append_assoc, HL.out, esc1, if_neg HB.out]; exact rfl
        go_wp2_with (at_builtin; go_must (refine wpList_append_own_at _ rfl _ _ 34 rfl base 5 i0 (.int .u8 0) 1 1 Tryd.underlying34 hi hz0 hz1 hz2 rfl (by decide) _ _ _ rfl (hraw.alloc _) ⟨wr.heap.size, 0, none⟩ 1 1 [_] rfl rfl (cell_one_new _ _ _) ?c2 ?c3 ?c4 ?c5 ?_))
        case c2 => intro u hu; simp at hu; subst hu; rfl
        case c3 => have hlen := HLL.out; unfold maxLen; omega
        case c4 => have hlen := HLL.out; omega
        case c5 => simp; omega
        intro v1 w1 hown1 hgrow1 _ hat1
        have R : Owns w1 base v1 (l ++ esc (s.data.toList.take (k + 1))) ∧ Grows w w1 v v1 := by
          rw [HE.out]
          refine ⟨Owns.snoc ?_, (hbel.alloc _).app hgrow1 hat1 (by simp)⟩
          rw [HC.out] at hown1
          exact hown1
        clear hown1 hgrow1 hraw hat1
        go_wp2_with fail
        go_roundw
        case rel => exact ⟨k + 1, by omega, by go_num, R.1, R.2⟩
        case measure => simp [intOf]; omega
    · have e : s.data.toList.take k = s.data.toList := List.take_of_length_le (by rw [length_list]; omega)
      rw [e] at hraw HLL
      clear e
      have HA : Hid (l ++ (esc s.data.toList ++ [0, 1]) = l ++ esc s.data.toList ++ [0, 1]) := by rw [List.append_assoc]; exact rfl
      generalize hL : l ++ esc s.data.toList = L at *
      go_wp2_with (at_builtin; go_must (refine wpList_append_own_at _ rfl _ _ 34 rfl base 5 i0 (.int .u8 0) 1 1 Tryd.underlying34 hi hz0 hz1 hz2 rfl (by decide) _ _ _ rfl (hraw.alloc _) ⟨wr.heap.size, 0, none⟩ 2 2 [_, _] rfl rfl (cell_two_new _ _ _ _) ?c2 ?c3 ?c4 ?c5 ?_))
      case c2 => intro u hu; simp at hu; rcases hu with hu | hu <;> subst hu <;> rfl
      case c3 => have hlen := HLL.out; unfold maxLen; omega
      case c4 => have hlen := HLL.out; omega
      case c5 => simp; omega
      intro v1 w1 hown1 hgrow1 _ hat1
      go_wp2_with fail
      go_ret
      rw [HA.out]
      exact ⟨_, rfl, Owns.snoc2 hown1, (hbel.alloc _).app hgrow1 hat1 (by simp)⟩

end Go.Proofs.YtphoihkbdogkhaaDoor.Bn

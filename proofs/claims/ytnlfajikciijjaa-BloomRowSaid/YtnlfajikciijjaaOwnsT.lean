/- Slices of bytes and of texts that a call owns, grown step by step; no function is named. -/
import Derived.Test.YtnlfajikciijjaaBytes
import Derived.Test.YtnlfajikciijjaaSeesT
import Derived.Maps.AppendAt
import Derived.Lib.AppendStr
import Derived.ArgAppend
namespace Go.Proofs.Ytnlfajikciijjaa
open Go.RowKit

/-- A slice of bytes that is the call's own, from a block on. -/
def Owns (w : World) (base : Nat) (v : Value) (l : List UInt8) : Prop := w.ownsRow base 5 1 v l.length (Lib.byteCells l)
/-- A slice comes back that owns these bytes; what was below 'base' is as it was. -/
def Grew (base : Nat) (l : List UInt8) (w : World) (e : Ending) (w' : World) : Prop := ∃ v, e = .returned v ∧ Owns w' base v l ∧ Below base w w'
theorem Owns.nil (w : World) (base : Nat) : Owns w base (.slice none 0 0) [] := World.ownsRow_nil ..
theorem Owns.cat {w' : World} {base : Nat} {v' : Value} {l : List UInt8} {s : ByteArray} (h : w'.ownsRow base 5 1 v' (l.length + s.size) (Lib.byteCells l ++ Lib.strCells s)) : Owns w' base v' (l ++ s.data.toList) := by
  unfold Owns
  rw [List.length_append, size_list, byteCells_append]
  exact h
theorem ownsRow_below {w w' : World} {base : Nat} {e : TypeId} {z n : Nat} {v : Value} {xs : List Value} (h : w.ownsRow base e z v n xs) (hb : Below w.heap.size w w') : w'.ownsRow base e z v n xs :=
  h.kept (row := none) ⟨hb.os, hb.tape, hb.output, hb.size, fun k hk _ => hb.block k hk⟩ (by cases v.ownBlock with
    | none => exact Or.inl rfl
    | some k => exact Or.inr (by simp))
theorem heap_new2 (w : World) (o o2 : Obj) : ((w.alloc o).alloc o2).heap[w.heap.size + 1]? = some o2 := by
  have := heap_alloc_new (w.alloc o) o2
  rw [World.size_alloc] at this
  exact this
theorem below_next {B : Nat} {w w1 : World} (h : Below B w w1) (hB : B ≤ w.heap.size) : B ≤ w1.heap.size := Nat.le_trans hB h.size
theorem Owns.kept {w w' : World} {base : Nat} {v : Value} {l : List UInt8} (h : Owns w base v l) (hb : Below w.heap.size w w') : Owns w' base v l := ownsRow_below h hb
/-- 'string(b)' of a slice that is the call's own. -/
theorem Owns.convert {w : World} {base : Nat} {v : Value} {l : List UInt8} (h : Owns w base v l) : (convert 32 9 v).run Try.prog w = .ok (.string ⟨l.toArray⟩) w := by
  have h' : w.ownsRow base 5 1 v l.length (Lib.byteCells l) := h
  rcases h'.2 with ⟨rfl, h0⟩ | ⟨g, cap, cur, rfl, _, _, _⟩
  · have : l = [] := List.eq_nil_of_length_eq_zero h0
    subst this
    rw [run_convert_bytes_string w _ _ _ _ _ _ Try.underlying32 Try.underlying5 Try.underlying9]
    simp [Conv.bytesToString]
    rfl
  · refine run_convert_bytes_back w _ _ _ _ _ _ Try.underlying32 Try.underlying5 Try.underlying9 ?_
    intro j hj
    refine h'.cells (g := g) rfl j _ ?_
    simp [Lib.byteCells, List.getElem?_eq_getElem hj]
/-- Its length. -/
theorem Owns.shape {w : World} {base : Nat} {v : Value} {l : List UInt8} (h : Owns w base v l) : ∃ a cap, v = .slice a l.length cap := by
  have h' : w.ownsRow base 5 1 v l.length (Lib.byteCells l) := h
  rcases h'.2 with ⟨rfl, h0⟩ | ⟨g, cap, cur, rfl, _, _, _⟩
  · exact ⟨none, 0, by rw [h0]⟩
  · exact ⟨_, cap, rfl⟩

/-- 'make([]byte, 0, n)'. -/
theorem make_owns (w : World) (n : Nat) (hn : n ≤ 281474976710656) (base : Nat) (hb : base ≤ w.heap.size) :
    ∃ M : Array Value, (Instr.makeSlice 32 (.int .i64 0) (.int .i64 n)).run Try.prog w = .ok (.slice (some ⟨w.heap.size, 0, none⟩) 0 n) (w.alloc (.cells M 5)) ∧ Owns (w.alloc (.cells M 5)) base (.slice (some ⟨w.heap.size, 0, none⟩) 0 n) [] := by
  obtain ⟨i0, hi, hz0, hz1, hz2⟩ := info_parts info_u8
  have h := run_make (P := Try.prog) w 32 5 i0 (.int .u8 0) Try.underlying32 hi hz0 .i64 .i64 0 (n : Int) (by omega) (by omega) (by rw [hz2]; omega) (by omega)
  refine ⟨_, by simpa using h, rfl, Or.inr ⟨w.heap.size, n, _, rfl, hb, heap_alloc_new w _, Nat.zero_le _, by unfold maxLen; omega, ?_, rfl⟩⟩
  rw [size_madeCells, hz1]

theorem info_string : (Try.prog.info? 9).map (fun i => (i.zero, i.size, i.bytes)) = some (some (.string ⟨#[]⟩), 1, 16) := by kernel_rfl

/-- A slice of texts that is the call's own, from a block on. -/
def OwnsS (w : World) (base : Nat) (v : Value) (ss : List ByteArray) : Prop := w.ownsRow base 9 1 v ss.length (ss.map .string)
theorem OwnsS.nil (w : World) (base : Nat) : OwnsS w base (.slice none 0 0) [] := World.ownsRow_nil ..
theorem OwnsS.kept {w w' : World} {base : Nat} {v : Value} {l : List ByteArray} (h : OwnsS w base v l) (hb : Below w.heap.size w w') : OwnsS w' base v l := ownsRow_below h hb
theorem OwnsS.snoc {w' : World} {base : Nat} {v' : Value} {ss : List ByteArray} {s : ByteArray} (h : w'.ownsRow base 9 1 v' (ss.length + 1) (ss.map .string ++ [.string s])) : OwnsS w' base v' (ss ++ [s]) := by
  unfold OwnsS
  rw [List.length_append, List.map_append]
  exact h
theorem OwnsS.cat {w' : World} {base : Nat} {v' : Value} {ss us : List ByteArray} (h : w'.ownsRow base 9 1 v' (ss.length + us.length) (ss.map .string ++ us.map .string)) : OwnsS w' base v' (ss ++ us) := by
  unfold OwnsS
  rw [List.length_append, List.map_append]
  exact h
/-- What is the call's own lies in memory. -/
theorem OwnsS.sees {w : World} {base : Nat} {v : Value} {ss : List ByteArray} (h : OwnsS w base v ss) : SeesS w v ss := by
  have h' : w.ownsRow base 9 1 v ss.length (ss.map .string) := h
  rcases h'.2 with ⟨rfl, h0⟩ | ⟨g, cap, cur, rfl, hb, hg, hnc, hcm, hcs, htake⟩
  · exact Or.inl ⟨List.eq_nil_of_length_eq_zero h0, none, 0, rfl⟩
  · have hcell := h'.cells (g := g) rfl
    refine Or.inr ⟨g, 0, cap, rfl, ?_, fun i hi => ?_⟩
    · rcases Nat.lt_or_ge g w.heap.size with hlt | hge
      · exact hlt
      · rw [Array.getElem?_eq_none hge] at hg; cases hg
    · have e : (⟨g, 0, none⟩ : Addr).add i = ⟨g, i, none⟩ := by unfold Addr.add; split <;> simp_all
      have c0 := hcell i (.string (ss.getD i ByteArray.empty)) (by simp [hi])
      rw [e] at c0
      rw [Nat.zero_add]; exact c0

end Go.Proofs.Ytnlfajikciijjaa

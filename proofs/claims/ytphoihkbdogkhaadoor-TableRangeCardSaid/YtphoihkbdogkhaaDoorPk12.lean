/- Texts on the program's own functions, several in one: Bytes, Row, OwnsT, AppT. -/
import Derived.Test.YtphoihkbdogkhaaDoorPk10
import Derived.Lib.Strings
import Derived.Lib.BufferWrite
import Derived.Lib.UnsafeStr
import Derived.Laws.MakeOwn
import Derived.RowKit3
import Derived.Laws.IdiomStrings
import Derived.Maps.AppendAt
import Derived.Lib.AppendStr
import Derived.ArgAppend
import Derived.BigFrame

/- Rows of bytes in memory, and their texts. -/
namespace Go.Proofs.YtphoihkbdogkhaaDoor
open Go.RowKit

theorem info_u8 : (Tryd.prog.info? 5).map (fun i => (i.zero, i.size, i.bytes)) = some (some (.int .u8 0), 1, 1) := by kernel_rfl
theorem byteCells_append (a b : List UInt8) : Lib.byteCells (a ++ b) = Lib.byteCells a ++ Lib.byteCells b := by simp [Lib.byteCells]
theorem byteCells_noughts (n : Nat) : Lib.byteCells (List.replicate n 0) = List.replicate n (.int .u8 0) := by simp [Lib.byteCells]
theorem set_cells (P Z : List UInt8) (x b : UInt8) (i : Nat) (h : P.length = i) (v : Value) (hv : v = .int .u8 b.toNat) : (Lib.byteCells (P ++ x :: Z)).toArray.setIfInBounds i v = (Lib.byteCells (P ++ b :: Z)).toArray := by
  subst hv
  rw [List.setIfInBounds_toArray]
  congr 1
  simp only [Lib.byteCells, List.map_append, List.map_cons]
  rw [List.set_append_right _ _ (by rw [List.length_map]; omega), List.length_map, h, Nat.sub_self, List.set_cons_zero]
theorem byte_cell (l : List UInt8) (i : Nat) (h : i < l.length) : (Lib.byteCells l).toArray[i]? = some (.int .u8 l[i].toNat) := by
  simp [Lib.byteCells, h]

/-- The text of the first bytes of a row that lies whole. -/
theorem row_text {w : World} {B : Nat} {l : List UInt8} {t : TypeId} (h : w.heap[B]? = some (.cells (Lib.byteCells l).toArray t (0, 0))) (k : Nat) (hk : k ≤ l.length) (cap : Nat) :
    (convert 34 9 (.slice (some ⟨B, 0, none⟩) k cap)).run Tryd.prog w = .ok (.string ⟨(l.take k).toArray⟩) w := by
  have e : (l.take k).length = k := by rw [List.length_take]; omega
  have := run_convert_bytes_back (P := Tryd.prog) w 34 9 5 ⟨B, 0, none⟩ cap (l.take k) Tryd.underlying34 Tryd.underlying5 Tryd.underlying9 (fun j hj => by
    have hj' : j < k := by omega
    have ea : (⟨B, 0, none⟩ : Addr).add j = ⟨B, j, none⟩ := by simp [Addr.add]; exact fun h => h.symm
    rw [ea, cell_of_row w B j _ _ _ h]
    simp only [Lib.byteCells, List.getElem?_toArray, List.getElem?_map, List.getElem_take]
    rw [List.getElem?_eq_getElem (by omega)]
    rfl)
  rw [e] at this
  exact this


end Go.Proofs.YtphoihkbdogkhaaDoor

/- Rows of bytes that are written: their cells, one by one. -/
namespace Go.Proofs.YtphoihkbdogkhaaDoor
open Go.RowKit

/-- In block B, from its beginning on, lie these bytes, and may be written. -/
def Row (w : World) (B : Nat) (l : List UInt8) : Prop := ∀ i (h : i < l.length), w.cell? ⟨B, i, none⟩ = some (.int .u8 (l[i].toNat : Int)) ∧ w.frozen? ⟨B, i, none⟩ = false

theorem Row.set {w : World} {B : Nat} {l : List UInt8} (h : Row w B l) (i : Nat) (b : UInt8) : Row (w.setCell ⟨B, i, none⟩ (.int .u8 (b.toNat : Int))) B (l.set i b) := by
  intro j hj
  have hj' : j < l.length := by simpa using hj
  refine ⟨?_, (World.frozen?_setCell _ _ _ _).trans (h j hj').2⟩
  by_cases e : i = j
  · subst e
    rw [World.cell?_setCell_same _ _ _ (h i hj').1]
    simp
  · rw [World.cell?_setCell_other _ _ _ _ (show (⟨B, i, none⟩ : Addr) ≠ ⟨B, j, none⟩ from fun hc => e (by injection hc)), (h j hj').1, List.getElem_set_ne e]
theorem Row.below {w w' : World} {B : Nat} {l : List UInt8} (h : Row w B l) (hB : B < w.heap.size) (hb : Below w.heap.size w w') : Row w' B l := fun i hi =>
  ⟨(hb.cell (p := ⟨B, i, none⟩) hB).trans (h i hi).1, (hb.frozen (p := ⟨B, i, none⟩) hB).trans (h i hi).2⟩
/-- What '[]byte(s)' lays. -/
theorem row_new (w : World) (s : ByteArray) (c : Nat) (t : TypeId) : Row (w.alloc (.cells (bytesRow s c) t ((bytesRow s c).size, (bytesRow s c).size + 1))) w.heap.size s.data.toList := by
  intro i hi
  have hi' : i < s.data.size := by simpa using hi
  have hh := heap_alloc_new w (.cells (bytesRow s c) t ((bytesRow s c).size, (bytesRow s c).size + 1))
  constructor
  · rw [cell_of_row _ _ _ _ _ _ hh]
    unfold bytesRow
    rw [Array.getElem?_append_left (by simpa using hi')]
    simp
    exact ⟨_, Array.getElem?_eq_getElem hi', rfl⟩
  · have hlt : i < (bytesRow s c).size := by unfold bytesRow; rw [Array.size_append, Array.size_map]; omega
    unfold World.frozen?
    rw [hh]
    simp
    omega
/-- Its text. -/
theorem Row.text {w : World} {B : Nat} {l : List UInt8} (h : Row w B l) (cap : Nat) :
    (convert 34 9 (.slice (some ⟨B, 0, none⟩) l.length cap)).run Tryd.prog w = .ok (.string ⟨l.toArray⟩) w :=
  run_convert_bytes_back (P := Tryd.prog) w 34 9 5 ⟨B, 0, none⟩ cap l Tryd.underlying34 Tryd.underlying5 Tryd.underlying9 (fun j hj => by
    have ea : (⟨B, 0, none⟩ : Addr).add j = ⟨B, j, none⟩ := by simp [Addr.add]; exact fun h => h.symm
    rw [ea]
    exact (h j hj).1)

end Go.Proofs.YtphoihkbdogkhaaDoor

/- Slices of bytes and of texts that a call owns, grown step by step; no function is named. -/
namespace Go.Proofs.YtphoihkbdogkhaaDoor
open Go.RowKit

/-- A slice of bytes that is the call's own, from a block on. -/
def Owns (w : World) (base : Nat) (v : Value) (l : List UInt8) : Prop := w.ownsRow base 5 1 v l.length (Lib.byteCells l)
/-- A slice comes back that owns these bytes; what was below 'base' is as it was. -/
def Grew (base : Nat) (l : List UInt8) (w : World) (e : Ending) (w' : World) : Prop := ∃ v, e = .returned v ∧ Owns w' base v l ∧ Below base w w'
theorem Owns.nil (w : World) (base : Nat) : Owns w base (.slice none 0 0) [] := World.ownsRow_nil ..
theorem Owns.cat {w' : World} {base : Nat} {v' : Value} {l : List UInt8} {s : ByteArray} (h : w'.ownsRow base 5 1 v' (l.length + s.size) (Lib.byteCells l ++ Lib.strCells s)) : Owns w' base v' (l ++ s.data.toList) := by
  unfold Owns
  rw [List.length_append, size_list, byteCells_append]
  exact h
theorem ownsRow_below {w w' : World} {base : Nat} {e : TypeId} {z n : Nat} {v : Value} {xs : List Value} (h : w.ownsRow base e z v n xs) (hb : Below w.heap.size w w') : w'.ownsRow base e z v n xs :=
  h.kept (row := none) ⟨hb.os, hb.tape, hb.output, hb.size, fun k hk _ => hb.block k hk⟩ (by cases v.ownBlock with
    | none => exact Or.inl rfl
    | some k => exact Or.inr (by simp))
theorem heap_new2 (w : World) (o o2 : Obj) : ((w.alloc o).alloc o2).heap[w.heap.size + 1]? = some o2 := by
  have := heap_alloc_new (w.alloc o) o2
  rw [World.size_alloc] at this
  exact this
theorem below_next {B : Nat} {w w1 : World} (h : Below B w w1) (hB : B ≤ w.heap.size) : B ≤ w1.heap.size := Nat.le_trans hB h.size
theorem Owns.kept {w w' : World} {base : Nat} {v : Value} {l : List UInt8} (h : Owns w base v l) (hb : Below w.heap.size w w') : Owns w' base v l := ownsRow_below h hb
/-- 'string(b)' of a slice that is the call's own. -/
theorem Owns.convert {w : World} {base : Nat} {v : Value} {l : List UInt8} (h : Owns w base v l) : (convert 34 9 v).run Tryd.prog w = .ok (.string ⟨l.toArray⟩) w := by
  have h' : w.ownsRow base 5 1 v l.length (Lib.byteCells l) := h
  rcases h'.2 with ⟨rfl, h0⟩ | ⟨g, cap, cur, rfl, _, _, _⟩
  · have : l = [] := List.eq_nil_of_length_eq_zero h0
    subst this
    rw [run_convert_bytes_string w _ _ _ _ _ _ Tryd.underlying34 Tryd.underlying5 Tryd.underlying9]
    simp [Conv.bytesToString]
    rfl
  · refine run_convert_bytes_back w _ _ _ _ _ _ Tryd.underlying34 Tryd.underlying5 Tryd.underlying9 ?_
    intro j hj
    refine h'.cells (g := g) rfl j _ ?_
    simp [Lib.byteCells, List.getElem?_eq_getElem hj]
/-- Its length. -/
theorem Owns.shape {w : World} {base : Nat} {v : Value} {l : List UInt8} (h : Owns w base v l) : ∃ a cap, v = .slice a l.length cap := by
  have h' : w.ownsRow base 5 1 v l.length (Lib.byteCells l) := h
  rcases h'.2 with ⟨rfl, h0⟩ | ⟨g, cap, cur, rfl, _, _, _⟩
  · exact ⟨none, 0, by rw [h0]⟩
  · exact ⟨_, cap, rfl⟩

/-- 'make([]byte, 0, n)'. -/
theorem make_owns (w : World) (n : Nat) (hn : n ≤ 281474976710656) (base : Nat) (hb : base ≤ w.heap.size) :
    ∃ M : Array Value, (Instr.makeSlice 34 (.int .i64 0) (.int .i64 n)).run Tryd.prog w = .ok (.slice (some ⟨w.heap.size, 0, none⟩) 0 n) (w.alloc (.cells M 5)) ∧ Owns (w.alloc (.cells M 5)) base (.slice (some ⟨w.heap.size, 0, none⟩) 0 n) [] := by
  obtain ⟨i0, hi, hz0, hz1, hz2⟩ := info_parts info_u8
  have h := run_make (P := Tryd.prog) w 34 5 i0 (.int .u8 0) Tryd.underlying34 hi hz0 .i64 .i64 0 (n : Int) (by omega) (by omega) (by rw [hz2]; omega) (by omega)
  refine ⟨_, by simpa using h, rfl, Or.inr ⟨w.heap.size, n, _, rfl, hb, heap_alloc_new w _, Nat.zero_le _, by unfold maxLen; omega, ?_, rfl⟩⟩
  rw [size_madeCells, hz1]

theorem info_string : (Tryd.prog.info? 9).map (fun i => (i.zero, i.size, i.bytes)) = some (some (.string ⟨#[]⟩), 1, 16) := by kernel_rfl

/-- A slice of texts that is the call's own, from a block on. -/
def OwnsS (w : World) (base : Nat) (v : Value) (ss : List ByteArray) : Prop := w.ownsRow base 9 1 v ss.length (ss.map .string)
theorem OwnsS.nil (w : World) (base : Nat) : OwnsS w base (.slice none 0 0) [] := World.ownsRow_nil ..
theorem OwnsS.kept {w w' : World} {base : Nat} {v : Value} {l : List ByteArray} (h : OwnsS w base v l) (hb : Below w.heap.size w w') : OwnsS w' base v l := ownsRow_below h hb
theorem OwnsS.snoc {w' : World} {base : Nat} {v' : Value} {ss : List ByteArray} {s : ByteArray} (h : w'.ownsRow base 9 1 v' (ss.length + 1) (ss.map .string ++ [.string s])) : OwnsS w' base v' (ss ++ [s]) := by
  unfold OwnsS
  rw [List.length_append, List.map_append]
  exact h
theorem OwnsS.cat {w' : World} {base : Nat} {v' : Value} {ss us : List ByteArray} (h : w'.ownsRow base 9 1 v' (ss.length + us.length) (ss.map .string ++ us.map .string)) : OwnsS w' base v' (ss ++ us) := by
  unfold OwnsS
  rw [List.length_append, List.map_append]
  exact h
/-- What is the call's own lies in memory. -/
theorem OwnsS.sees {w : World} {base : Nat} {v : Value} {ss : List ByteArray} (h : OwnsS w base v ss) : SeesS w v ss := by
  have h' : w.ownsRow base 9 1 v ss.length (ss.map .string) := h
  rcases h'.2 with ⟨rfl, h0⟩ | ⟨g, cap, cur, rfl, hb, hg, hnc, hcm, hcs, htake⟩
  · exact Or.inl ⟨List.eq_nil_of_length_eq_zero h0, none, 0, rfl⟩
  · have hcell := h'.cells (g := g) rfl
    refine Or.inr ⟨g, 0, cap, rfl, ?_, fun i hi => ?_⟩
    · rcases Nat.lt_or_ge g w.heap.size with hlt | hge
      · exact hlt
      · rw [Array.getElem?_eq_none hge] at hg; cases hg
    · have e : (⟨g, 0, none⟩ : Addr).add i = ⟨g, i, none⟩ := by unfold Addr.add; split <;> simp_all
      have c0 := hcell i (.string (ss.getD i ByteArray.empty)) (by simp [hi])
      rw [e] at c0
      rw [Nat.zero_add]; exact c0

end Go.Proofs.YtphoihkbdogkhaaDoor

/- append of texts: any slice of them that lies in memory, nil among them, onto one that the call owns. -/
namespace Go.Proofs.YtphoihkbdogkhaaDoor
open Go.RowKit

theorem run_append_nilsrc {P : Program} (w : World) (t ty e : TypeId) (i : TypeInfo) (base size : Nat) (ht : P.underlying t = some (.slice e)) (hi : P.info? e = some i)
    (v : Value) (n : Nat) (xs : List Value) (hown : w.ownsRow base e size v n xs) (c : Nat) : (Builtin.append_ #[t, t] ty #[v, .slice none 0 c]).run P w = .ok v w := by
  rcases hown.2 with ⟨rfl, rfl⟩ | ⟨g, cap, cur, rfl, hbg, hg, hnc, hcm, hcs, htake⟩
  · simp [Builtin.append_, run_underlying ht, sizeOf, typeInfo, hi, Builtin.lenOf, Builtin.firstCells]
  · simp [Builtin.append_, run_underlying ht, sizeOf, typeInfo, hi, Builtin.lenOf, Builtin.firstCells, hnc, storeCells]

theorem run_append_seesS (w : World) (ty : TypeId) (base : Nat) (v : Value) (qs : List ByteArray) (hown : OwnsS w base v qs) (ao : Option Addr) (n c : Nat) (ps : List ByteArray) (hs : SeesS w (.slice ao n c) ps)
    (hl : qs.length + n ≤ 1000000000) (hbase : base ≤ w.heap.size) :
    ∃ v' w', (Builtin.append_ #[62, 62] ty #[v, .slice ao n c]).run Tryd.prog w = .ok v' w' ∧ OwnsS w' base v' (qs ++ ps) ∧ w.grownBy w' v.ownBlock := by
  obtain ⟨i0, hi, hz0, hz1, hz2⟩ := info_parts info_string
  have hraw : w.ownsRow base 9 1 v qs.length (qs.map .string) := hown
  obtain ⟨hlen, b, off, hc⟩ := hs.get
  have big : ∀ ad : Addr, ao = some ad → (∀ j u, (ps.map Value.string)[j]? = some u → w.cell? (ad.add j) = some u) → ∃ v' w', (Builtin.append_ #[62, 62] ty #[v, .slice ao n c]).run Tryd.prog w = .ok v' w' ∧ OwnsS w' base v' (qs ++ ps) ∧ w.grownBy w' v.ownBlock := by
    intro ad had hcell
    subst had
    have hpl : (ps.map Value.string).length = n * 1 := by rw [List.length_map, hlen, Nat.mul_one]
    have h1 : ∀ u ∈ ps.map Value.string, u.oneCell' = true := by
      intro u hu
      obtain ⟨p, _, rfl⟩ := List.mem_map.1 hu
      rfl
    obtain ⟨v', w', hr, h2, h3, _⟩ := run_append_own_at (P := Tryd.prog) w base 62 ty 9 i0 _ 1 16 Tryd.underlying62 hi hz0 hz1 hz2 rfl (by omega) v _ _ hraw ad n c _ hpl hcell h1 (by unfold maxLen; omega) (by omega) hbase
    refine ⟨v', w', hr, OwnsS.cat ?_, h3⟩
    rw [hlen]
    exact h2
  by_cases h0 : n = 0
  · subst h0
    obtain rfl : ps = [] := List.eq_nil_of_length_eq_zero hlen
    cases ao with
    | none => exact ⟨v, w, run_append_nilsrc w _ _ _ i0 base 1 Tryd.underlying62 hi v _ _ hraw c, by rw [List.append_nil]; exact hown, ⟨rfl, rfl, rfl, Nat.le_refl _, fun _ _ _ => rfl⟩⟩
    | some ad => exact big ad rfl (fun j u hu => by simp at hu)
  · obtain ⟨rfl, hlt, _⟩ := hc 0 (by omega)
    refine big _ rfl ?_
    intro j u hu
    have hj : j < ps.length := by
      have h1 := (List.getElem?_eq_some_iff.1 hu).1
      simpa using h1
    have hadd : (⟨b, off, none⟩ : Addr).add j = ⟨b, off + j, none⟩ := by unfold Addr.add; split <;> simp_all
    rw [hadd]
    obtain ⟨_, _, p0⟩ := hc j (by omega)
    rw [p0]
    simp [hj] at hu ⊢
    exact hu

theorem wpList_append_seesS {w : World} {ops : Array Oper} {rest : List Oper} {o : Oper} {a : Act} {Q : Exit → Act → World → Prop} (hgd : o.guard = none) (s x : Operand)
    (ho : o.op = .call { callee := .builtin .append, args := #[s, x], argTypes := #[62, 62] })
    (base : Nat) (v : Value) (qs : List ByteArray) (hs : a.eval s = v) (hown : OwnsS w base v qs) (ao : Option Addr) (n c : Nat) (ps : List ByteArray) (hx : a.eval x = .slice ao n c) (hsee : SeesS w (.slice ao n c) ps)
    (hl : qs.length + n ≤ 1000000000) (hbase : base ≤ w.heap.size)
    (h : ∀ v' w', OwnsS w' base v' (qs ++ ps) → w.grownBy w' v.ownBlock → wpList Tryd.prog ops Q rest (a.put o.dst v') w') : wpList Tryd.prog ops Q (o :: rest) a w := by
  refine wpList_plain hgd fun K hK => ?_
  obtain ⟨v', w', hr, h2, h3⟩ := run_append_seesS w o.type base v qs hown ao n c ps hsee hl hbase
  unfold Oper.wp execOp
  simp only [ho, resolve, invoke, builtin, Sem.run_bind, Sem.run_pure, Result.andThen_ok, List.map_toArray, List.map_cons, List.map_nil, hs, hx, hr]
  exact hK _ _ (h v' w' h2 h3)

/-- The same at an operation that is guarded, whose guard says yes. -/
theorem wpList_append_seesS_want {w : World} {ops : Array Oper} {rest : List Oper} {o : Oper} {a : Act} {Q : Exit → Act → World → Prop} (hw : Region.wanted o (yielded ops a.tmps) = true) (s x : Operand)
    (ho : o.op = .call { callee := .builtin .append, args := #[s, x], argTypes := #[62, 62] })
    (base : Nat) (v : Value) (qs : List ByteArray) (hs : a.eval s = v) (hown : OwnsS w base v qs) (ao : Option Addr) (n c : Nat) (ps : List ByteArray) (hx : a.eval x = .slice ao n c) (hsee : SeesS w (.slice ao n c) ps)
    (hl : qs.length + n ≤ 1000000000) (hbase : base ≤ w.heap.size)
    (h : ∀ v' w', OwnsS w' base v' (qs ++ ps) → w.grownBy w' v.ownBlock → wpList Tryd.prog ops Q rest (a.put o.dst v') w') : wpList Tryd.prog ops Q (o :: rest) a w := by
  refine BigFrame.wpList_want hw fun K hK => ?_
  obtain ⟨v', w', hr, h2, h3⟩ := run_append_seesS w o.type base v qs hown ao n c ps hsee hl hbase
  unfold Oper.wp execOp
  simp only [ho, resolve, invoke, builtin, Sem.run_bind, Sem.run_pure, Result.andThen_ok, List.map_toArray, List.map_cons, List.map_nil, hs, hx, hr]
  exact hK _ _ (h v' w' h2 h3)

theorem ownsS_empty (w : World) : OwnsS (w.alloc (.cells #[] 9)) w.heap.size (.slice (some ⟨w.heap.size, 0, none⟩) 0 0) [] :=
  ⟨rfl, Or.inr ⟨w.heap.size, 0, #[], rfl, Nat.le_refl _, heap_alloc_new w _, Nat.le_refl _, by unfold maxLen; omega, rfl, rfl⟩⟩

end Go.Proofs.YtphoihkbdogkhaaDoor

/- Texts on the program's own functions, several in one: Bytes, Clone, Owns, AppS. -/
import Derived.Test.YtfeconankopjmaaGreatDoorPk8
import Derived.Lib.Strings
import Derived.Lib.BufferWrite
import Derived.Lib.UnsafeStr
import Derived.Laws.MakeOwn
import Derived.Maps.AppendAt
import Derived.Lib.AppendStr
import Derived.ArgAppend
import Derived.BigFrame

/- Rows of bytes in memory, and their texts. -/
namespace Go.Proofs.YtfeconankopjmaaGreatDoor
open Go.RowKit

theorem info_u8 : (Tryz.prog.info? 5).map (fun i => (i.zero, i.size, i.bytes)) = some (some (.int .u8 0), 1, 1) := by kernel_rfl
theorem byteCells_append (a b : List UInt8) : Lib.byteCells (a ++ b) = Lib.byteCells a ++ Lib.byteCells b := by simp [Lib.byteCells]
theorem byteCells_noughts (n : Nat) : Lib.byteCells (List.replicate n 0) = List.replicate n (.int .u8 0) := by simp [Lib.byteCells]
theorem set_cells (P Z : List UInt8) (x b : UInt8) (i : Nat) (h : P.length = i) (v : Value) (hv : v = .int .u8 b.toNat) : (Lib.byteCells (P ++ x :: Z)).toArray.setIfInBounds i v = (Lib.byteCells (P ++ b :: Z)).toArray := by
  subst hv
  rw [List.setIfInBounds_toArray]
  congr 1
  simp only [Lib.byteCells, List.map_append, List.map_cons]
  rw [List.set_append_right _ _ (by rw [List.length_map]; omega), List.length_map, h, Nat.sub_self, List.set_cons_zero]
theorem byte_cell (l : List UInt8) (i : Nat) (h : i < l.length) : (Lib.byteCells l).toArray[i]? = some (.int .u8 l[i].toNat) := by
  simp [Lib.byteCells, h]

/-- The text of the first bytes of a row that lies whole. -/
theorem row_text {w : World} {B : Nat} {l : List UInt8} {t : TypeId} (h : w.heap[B]? = some (.cells (Lib.byteCells l).toArray t (0, 0))) (k : Nat) (hk : k ≤ l.length) (cap : Nat) :
    (convert 128 9 (.slice (some ⟨B, 0, none⟩) k cap)).run Tryz.prog w = .ok (.string ⟨(l.take k).toArray⟩) w := by
  have e : (l.take k).length = k := by rw [List.length_take]; omega
  have := run_convert_bytes_back (P := Tryz.prog) w 128 9 5 ⟨B, 0, none⟩ cap (l.take k) Tryz.underlying128 Tryz.underlying5 Tryz.underlying9 (fun j hj => by
    have hj' : j < k := by omega
    have ea : (⟨B, 0, none⟩ : Addr).add j = ⟨B, j, none⟩ := by simp [Addr.add]; exact fun h => h.symm
    rw [ea, cell_of_row w B j _ _ _ h]
    simp only [Lib.byteCells, List.getElem?_toArray, List.getElem?_map, List.getElem_take]
    rw [List.getElem?_eq_getElem (by omega)]
    rfl)
  rw [e] at this
  exact this


end Go.Proofs.YtfeconankopjmaaGreatDoor

/- The walk of strings.Clone over this program: the same bytes; of what was there nothing has turned. Condition: at most 2^48 bytes. -/
namespace Go.Proofs.YtfeconankopjmaaGreatDoor
open Go.RowKit

set_option maxHeartbeats 4000000 in
set_option maxRecDepth 100000 in
theorem liteClone_any (s : ByteArray) (w : World) (hlim : s.size ≤ 281474976710656) :
    Calls Tryz.prog 128 #[.string s] w fun e w' => e = .returned (.string s) ∧ Below w.heap.size w w' := by
  by_cases h0 : s.size = 0
  · obtain rfl := empty_of_size h0
    go_enter Tryz.func128, Tryz.ntmps128
    go_wp2
    go_ret
    exact ⟨rfl, Below.refl _ _⟩
  · obtain ⟨i0, hi, hz0, hz1, hz2⟩ := info_parts info_u8
    have hinfo : (Tryz.prog.info? 5).map (·.size) = some 1 := by rw [hi]; simp [hz1]
    have hco : Tryz.prog.cellsOf 5 = 1 := by simp [Program.cellsOf, hi, hz1]
    obtain ⟨M, hM⟩ : ∃ M, M = madeCells (Value.int .u8 0).cells (((s.size : Nat) : Int).toNat * i0.size) := ⟨_, rfl⟩
    have hMs : M.size = s.size := by rw [hM, size_madeCells, hz1]; simp
    have hmk : ∀ W : World, (Instr.makeSlice 128 (.int .i64 (s.size : Int)) (.int .i64 (s.size : Int))).run Tryz.prog W = .ok (.slice (some ⟨W.heap.size, 0, none⟩) s.size s.size) (W.alloc (.cells M 5)) := fun W => by
      have h := run_make (P := Tryz.prog) W 128 5 i0 (.int .u8 0) Tryz.underlying128 hi hz0 .i64 .i64 (s.size : Int) (s.size : Int) (by omega) (by omega) (by rw [hz2]; omega) (by omega)
      rw [← hM] at h
      simpa using h
    clear hM
    have hcp := Lib.run_copy_row_string (P := Tryz.prog) (w.alloc (.cells M 5)) 128 9 3 5 w.heap.size 0 s.size s.size s M 5 Tryz.underlying128 hinfo (heap_alloc_new w _) (Nat.le_refl _) (by omega)
    obtain ⟨Y, hY⟩ : ∃ Y, Y = (M.toList.take 0 ++ Lib.byteCells s.data.toList ++ M.toList.drop (0 + s.size)).toArray := ⟨_, rfl⟩
    rw [← hY] at hcp
    have hYl : Y.toList = Lib.byteCells s.data.toList := by
      rw [hY, List.toList_toArray, List.take_zero, List.nil_append, List.drop_of_length_le (by rw [Array.length_toList]; omega), List.append_nil]
    have hYs : Y.size = s.size := by rw [← Array.length_toList, hYl, Lib.byteCells_length, ← Lib.size_eq]
    have hgY : ((w.alloc (.cells M 5)).setRow w.heap.size Y).heap[w.heap.size]? = some (.cells Y 5 (0, 0)) := setRow_heap _ _ M _ 5 (0, 0) (heap_alloc_new w _)
    have hne : s.data.toList ≠ [] := fun e => h0 (by rw [Lib.size_eq, e]; rfl)
    have hUS := Lib.run_unsafeString_row (P := Tryz.prog) ((w.alloc (.cells M 5)).setRow w.heap.size Y) 186 3 9 5 Tryz.underlying186 hco w.heap.size Y.size (by unfold World.shape?; rw [hgY]) s.data.toList hne (by rw [← Lib.size_eq]; omega) (by rw [← Lib.size_eq]; omega)
      (fun j x hx => Lib.cells_of_row hgY Y.size j _ (by rw [List.take_of_length_le (by rw [Array.length_toList]; exact Nat.le_refl _), hYl]; simp [Lib.byteCells, hx]))
    rw [← Lib.size_eq] at hUS
    clear hY
    go_enter Tryz.func128, Tryz.ntmps128
    go_wp2
    go_ret
    have hb1 : Below w.heap.size w (w.alloc (.cells M 5)) := (Below.refl _ w).alloc (Nat.le_refl _) _
    have hb2 : Below w.heap.size (w.alloc (.cells M 5)) ((w.alloc (.cells M 5)).setRow w.heap.size Y) := ⟨rfl, rfl, rfl, by simp, fun k hk => setRow_other _ _ _ _ (by omega)⟩
    exact ⟨rfl, Lib.below_freeze (hb1.trans hb2) (p := ⟨w.heap.size, 0, none⟩) (Nat.le_refl _) _⟩

set_option maxHeartbeats 400000 in
theorem clone_any (s : ByteArray) (w : World) (hlim : s.size ≤ 281474976710656) :
    Calls Tryz.prog 95 #[.string s] w fun e w' => e = .returned (.string s) ∧ Below w.heap.size w w' := by
  have HL := Lib.hid hlim; clear hlim
  go_enter Tryz.func95, Tryz.ntmps95
  go_wp2_with fail
  refine (liteClone_any _ _ HL.out).mono ?_
  rintro e w1 ⟨rfl, hb⟩
  go_wp2_with fail
  go_ret
  exact ⟨rfl, hb⟩

end Go.Proofs.YtfeconankopjmaaGreatDoor

/- Slices of bytes and of texts that a call owns, grown step by step; no function is named. -/
namespace Go.Proofs.YtfeconankopjmaaGreatDoor
open Go.RowKit

/-- A slice of bytes that is the call's own, from a block on. -/
def Owns (w : World) (base : Nat) (v : Value) (l : List UInt8) : Prop := w.ownsRow base 5 1 v l.length (Lib.byteCells l)
/-- A slice comes back that owns these bytes; what was below 'base' is as it was. -/
def Grew (base : Nat) (l : List UInt8) (w : World) (e : Ending) (w' : World) : Prop := ∃ v, e = .returned v ∧ Owns w' base v l ∧ Below base w w'
theorem Owns.nil (w : World) (base : Nat) : Owns w base (.slice none 0 0) [] := World.ownsRow_nil ..
theorem Owns.cat {w' : World} {base : Nat} {v' : Value} {l : List UInt8} {s : ByteArray} (h : w'.ownsRow base 5 1 v' (l.length + s.size) (Lib.byteCells l ++ Lib.strCells s)) : Owns w' base v' (l ++ s.data.toList) := by
  unfold Owns
  rw [List.length_append, Cr.size_list, byteCells_append]
  exact h
theorem ownsRow_below {w w' : World} {base : Nat} {e : TypeId} {z n : Nat} {v : Value} {xs : List Value} (h : w.ownsRow base e z v n xs) (hb : Below w.heap.size w w') : w'.ownsRow base e z v n xs :=
  h.kept (row := none) ⟨hb.os, hb.tape, hb.output, hb.size, fun k hk _ => hb.block k hk⟩ (by cases v.ownBlock with
    | none => exact Or.inl rfl
    | some k => exact Or.inr (by simp))
theorem heap_new2 (w : World) (o o2 : Obj) : ((w.alloc o).alloc o2).heap[w.heap.size + 1]? = some o2 := by
  have := heap_alloc_new (w.alloc o) o2
  rw [World.size_alloc] at this
  exact this
theorem below_next {B : Nat} {w w1 : World} (h : Below B w w1) (hB : B ≤ w.heap.size) : B ≤ w1.heap.size := Nat.le_trans hB h.size
theorem Owns.kept {w w' : World} {base : Nat} {v : Value} {l : List UInt8} (h : Owns w base v l) (hb : Below w.heap.size w w') : Owns w' base v l := ownsRow_below h hb
/-- 'string(b)' of a slice that is the call's own. -/
theorem Owns.convert {w : World} {base : Nat} {v : Value} {l : List UInt8} (h : Owns w base v l) : (convert 128 9 v).run Tryz.prog w = .ok (.string ⟨l.toArray⟩) w := by
  have h' : w.ownsRow base 5 1 v l.length (Lib.byteCells l) := h
  rcases h'.2 with ⟨rfl, h0⟩ | ⟨g, cap, cur, rfl, _, _, _⟩
  · have : l = [] := List.eq_nil_of_length_eq_zero h0
    subst this
    rw [run_convert_bytes_string w _ _ _ _ _ _ Tryz.underlying128 Tryz.underlying5 Tryz.underlying9]
    simp [Conv.bytesToString]
    rfl
  · refine run_convert_bytes_back w _ _ _ _ _ _ Tryz.underlying128 Tryz.underlying5 Tryz.underlying9 ?_
    intro j hj
    refine h'.cells (g := g) rfl j _ ?_
    simp [Lib.byteCells, List.getElem?_eq_getElem hj]
/-- Its length. -/
theorem Owns.shape {w : World} {base : Nat} {v : Value} {l : List UInt8} (h : Owns w base v l) : ∃ a cap, v = .slice a l.length cap := by
  have h' : w.ownsRow base 5 1 v l.length (Lib.byteCells l) := h
  rcases h'.2 with ⟨rfl, h0⟩ | ⟨g, cap, cur, rfl, _, _, _⟩
  · exact ⟨none, 0, by rw [h0]⟩
  · exact ⟨_, cap, rfl⟩

/-- 'make([]byte, 0, n)'. -/
theorem make_owns (w : World) (n : Nat) (hn : n ≤ 281474976710656) (base : Nat) (hb : base ≤ w.heap.size) :
    ∃ M : Array Value, (Instr.makeSlice 128 (.int .i64 0) (.int .i64 n)).run Tryz.prog w = .ok (.slice (some ⟨w.heap.size, 0, none⟩) 0 n) (w.alloc (.cells M 5)) ∧ Owns (w.alloc (.cells M 5)) base (.slice (some ⟨w.heap.size, 0, none⟩) 0 n) [] := by
  obtain ⟨i0, hi, hz0, hz1, hz2⟩ := info_parts info_u8
  have h := run_make (P := Tryz.prog) w 128 5 i0 (.int .u8 0) Tryz.underlying128 hi hz0 .i64 .i64 0 (n : Int) (by omega) (by omega) (by rw [hz2]; omega) (by omega)
  refine ⟨_, by simpa using h, rfl, Or.inr ⟨w.heap.size, n, _, rfl, hb, heap_alloc_new w _, Nat.zero_le _, by unfold maxLen; omega, ?_, rfl⟩⟩
  rw [size_madeCells, hz1]

theorem info_string : (Tryz.prog.info? 9).map (fun i => (i.zero, i.size, i.bytes)) = some (some (.string ⟨#[]⟩), 1, 16) := by kernel_rfl

/-- A slice of texts that is the call's own, from a block on. -/
def OwnsS (w : World) (base : Nat) (v : Value) (ss : List ByteArray) : Prop := w.ownsRow base 9 1 v ss.length (ss.map .string)
theorem OwnsS.nil (w : World) (base : Nat) : OwnsS w base (.slice none 0 0) [] := World.ownsRow_nil ..
theorem OwnsS.kept {w w' : World} {base : Nat} {v : Value} {l : List ByteArray} (h : OwnsS w base v l) (hb : Below w.heap.size w w') : OwnsS w' base v l := ownsRow_below h hb
theorem OwnsS.snoc {w' : World} {base : Nat} {v' : Value} {ss : List ByteArray} {s : ByteArray} (h : w'.ownsRow base 9 1 v' (ss.length + 1) (ss.map .string ++ [.string s])) : OwnsS w' base v' (ss ++ [s]) := by
  unfold OwnsS
  rw [List.length_append, List.map_append]
  exact h
theorem OwnsS.cat {w' : World} {base : Nat} {v' : Value} {ss us : List ByteArray} (h : w'.ownsRow base 9 1 v' (ss.length + us.length) (ss.map .string ++ us.map .string)) : OwnsS w' base v' (ss ++ us) := by
  unfold OwnsS
  rw [List.length_append, List.map_append]
  exact h
/-- What is the call's own lies in memory. -/
theorem OwnsS.sees {w : World} {base : Nat} {v : Value} {ss : List ByteArray} (h : OwnsS w base v ss) : SeesS w v ss := by
  have h' : w.ownsRow base 9 1 v ss.length (ss.map .string) := h
  rcases h'.2 with ⟨rfl, h0⟩ | ⟨g, cap, cur, rfl, hb, hg, hnc, hcm, hcs, htake⟩
  · exact Or.inl ⟨List.eq_nil_of_length_eq_zero h0, none, 0, rfl⟩
  · have hcell := h'.cells (g := g) rfl
    refine Or.inr ⟨g, 0, cap, rfl, ?_, fun i hi => ?_⟩
    · rcases Nat.lt_or_ge g w.heap.size with hlt | hge
      · exact hlt
      · rw [Array.getElem?_eq_none hge] at hg; cases hg
    · have e : (⟨g, 0, none⟩ : Addr).add i = ⟨g, i, none⟩ := by unfold Addr.add; split <;> simp_all
      have c0 := hcell i (.string (ss.getD i ByteArray.empty)) (by simp [hi])
      rw [e] at c0
      rw [Nat.zero_add]; exact c0

end Go.Proofs.YtfeconankopjmaaGreatDoor

/- append of texts: any slice of them that lies in memory, nil among them, onto one that the call owns. -/
namespace Go.Proofs.YtfeconankopjmaaGreatDoor
open Go.RowKit

theorem run_append_nilsrc {P : Program} (w : World) (t ty e : TypeId) (i : TypeInfo) (base size : Nat) (ht : P.underlying t = some (.slice e)) (hi : P.info? e = some i)
    (v : Value) (n : Nat) (xs : List Value) (hown : w.ownsRow base e size v n xs) (c : Nat) : (Builtin.append_ #[t, t] ty #[v, .slice none 0 c]).run P w = .ok v w := by
  rcases hown.2 with ⟨rfl, rfl⟩ | ⟨g, cap, cur, rfl, hbg, hg, hnc, hcm, hcs, htake⟩
  · simp [Builtin.append_, run_underlying ht, sizeOf, typeInfo, hi, Builtin.lenOf, Builtin.firstCells]
  · simp [Builtin.append_, run_underlying ht, sizeOf, typeInfo, hi, Builtin.lenOf, Builtin.firstCells, hnc, storeCells]

theorem run_append_seesS (w : World) (ty : TypeId) (base : Nat) (v : Value) (qs : List ByteArray) (hown : OwnsS w base v qs) (ao : Option Addr) (n c : Nat) (ps : List ByteArray) (hs : SeesS w (.slice ao n c) ps)
    (hl : qs.length + n ≤ 1000000000) (hbase : base ≤ w.heap.size) :
    ∃ v' w', (Builtin.append_ #[99, 99] ty #[v, .slice ao n c]).run Tryz.prog w = .ok v' w' ∧ OwnsS w' base v' (qs ++ ps) ∧ w.grownBy w' v.ownBlock := by
  obtain ⟨i0, hi, hz0, hz1, hz2⟩ := info_parts info_string
  have hraw : w.ownsRow base 9 1 v qs.length (qs.map .string) := hown
  obtain ⟨hlen, b, off, hc⟩ := hs.get
  have big : ∀ ad : Addr, ao = some ad → (∀ j u, (ps.map Value.string)[j]? = some u → w.cell? (ad.add j) = some u) → ∃ v' w', (Builtin.append_ #[99, 99] ty #[v, .slice ao n c]).run Tryz.prog w = .ok v' w' ∧ OwnsS w' base v' (qs ++ ps) ∧ w.grownBy w' v.ownBlock := by
    intro ad had hcell
    subst had
    have hpl : (ps.map Value.string).length = n * 1 := by rw [List.length_map, hlen, Nat.mul_one]
    have h1 : ∀ u ∈ ps.map Value.string, u.oneCell' = true := by
      intro u hu
      obtain ⟨p, _, rfl⟩ := List.mem_map.1 hu
      rfl
    obtain ⟨v', w', hr, h2, h3, _⟩ := run_append_own_at (P := Tryz.prog) w base 99 ty 9 i0 _ 1 16 Tryz.underlying99 hi hz0 hz1 hz2 rfl (by omega) v _ _ hraw ad n c _ hpl hcell h1 (by unfold maxLen; omega) (by omega) hbase
    refine ⟨v', w', hr, OwnsS.cat ?_, h3⟩
    rw [hlen]
    exact h2
  by_cases h0 : n = 0
  · subst h0
    obtain rfl : ps = [] := List.eq_nil_of_length_eq_zero hlen
    cases ao with
    | none => exact ⟨v, w, run_append_nilsrc w _ _ _ i0 base 1 Tryz.underlying99 hi v _ _ hraw c, by rw [List.append_nil]; exact hown, ⟨rfl, rfl, rfl, Nat.le_refl _, fun _ _ _ => rfl⟩⟩
    | some ad => exact big ad rfl (fun j u hu => by simp at hu)
  · obtain ⟨rfl, hlt, _⟩ := hc 0 (by omega)
    refine big _ rfl ?_
    intro j u hu
    have hj : j < ps.length := by
      have h1 := (List.getElem?_eq_some_iff.1 hu).1
      simpa using h1
    have hadd : (⟨b, off, none⟩ : Addr).add j = ⟨b, off + j, none⟩ := by unfold Addr.add; split <;> simp_all
    rw [hadd]
    obtain ⟨_, _, p0⟩ := hc j (by omega)
    rw [p0]
    simp [hj] at hu ⊢
    exact hu

theorem wpList_append_seesS {w : World} {ops : Array Oper} {rest : List Oper} {o : Oper} {a : Act} {Q : Exit → Act → World → Prop} (hgd : o.guard = none) (s x : Operand)
    (ho : o.op = .call { callee := .builtin .append, args := #[s, x], argTypes := #[99, 99] })
    (base : Nat) (v : Value) (qs : List ByteArray) (hs : a.eval s = v) (hown : OwnsS w base v qs) (ao : Option Addr) (n c : Nat) (ps : List ByteArray) (hx : a.eval x = .slice ao n c) (hsee : SeesS w (.slice ao n c) ps)
    (hl : qs.length + n ≤ 1000000000) (hbase : base ≤ w.heap.size)
    (h : ∀ v' w', OwnsS w' base v' (qs ++ ps) → w.grownBy w' v.ownBlock → wpList Tryz.prog ops Q rest (a.put o.dst v') w') : wpList Tryz.prog ops Q (o :: rest) a w := by
  refine wpList_plain hgd fun K hK => ?_
  obtain ⟨v', w', hr, h2, h3⟩ := run_append_seesS w o.type base v qs hown ao n c ps hsee hl hbase
  unfold Oper.wp execOp
  simp only [ho, resolve, invoke, builtin, Sem.run_bind, Sem.run_pure, Result.andThen_ok, List.map_toArray, List.map_cons, List.map_nil, hs, hx, hr]
  exact hK _ _ (h v' w' h2 h3)

/-- The same at an operation that is guarded, whose guard says yes. -/
theorem wpList_append_seesS_want {w : World} {ops : Array Oper} {rest : List Oper} {o : Oper} {a : Act} {Q : Exit → Act → World → Prop} (hw : Region.wanted o (yielded ops a.tmps) = true) (s x : Operand)
    (ho : o.op = .call { callee := .builtin .append, args := #[s, x], argTypes := #[99, 99] })
    (base : Nat) (v : Value) (qs : List ByteArray) (hs : a.eval s = v) (hown : OwnsS w base v qs) (ao : Option Addr) (n c : Nat) (ps : List ByteArray) (hx : a.eval x = .slice ao n c) (hsee : SeesS w (.slice ao n c) ps)
    (hl : qs.length + n ≤ 1000000000) (hbase : base ≤ w.heap.size)
    (h : ∀ v' w', OwnsS w' base v' (qs ++ ps) → w.grownBy w' v.ownBlock → wpList Tryz.prog ops Q rest (a.put o.dst v') w') : wpList Tryz.prog ops Q (o :: rest) a w := by
  refine BigFrame.wpList_want hw fun K hK => ?_
  obtain ⟨v', w', hr, h2, h3⟩ := run_append_seesS w o.type base v qs hown ao n c ps hsee hl hbase
  unfold Oper.wp execOp
  simp only [ho, resolve, invoke, builtin, Sem.run_bind, Sem.run_pure, Result.andThen_ok, List.map_toArray, List.map_cons, List.map_nil, hs, hx, hr]
  exact hK _ _ (h v' w' h2 h3)

theorem ownsS_empty (w : World) : OwnsS (w.alloc (.cells #[] 9)) w.heap.size (.slice (some ⟨w.heap.size, 0, none⟩) 0 0) [] :=
  ⟨rfl, Or.inr ⟨w.heap.size, 0, #[], rfl, Nat.le_refl _, heap_alloc_new w _, Nat.le_refl _, by unfold maxLen; omega, rfl, rfl⟩⟩

end Go.Proofs.YtfeconankopjmaaGreatDoor

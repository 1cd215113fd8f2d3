/- A slice of bytes that '[]byte(s)' laid, grown byte by byte. No function is named. -/
import Derived.Test.YtmdnmabbphnhaaaBnOkeyD
import Derived.Laws.IdiomStrings
import Derived.Laws.AppendOwn
namespace Go.Proofs.Ytmdnmabbphnhaaa.Mm
open Go Go.RowKit Go.Proofs.Ytmdnmabbphnhaaa.Bn

/-- A slice of bytes that is the call's own, from a block on: as it was grown, or as '[]byte(s)' laid it. -/
def Bu (w : World) (base : Nat) (v : Value) (l : List UInt8) : Prop :=
  Owns w base v l ∨ ∃ g cap cur, v = .slice (some ⟨g, 0, none⟩) l.length cap ∧ base ≤ g ∧ w.heap[g]? = some (.cells cur 5 (cur.size, cur.size + 1)) ∧ l.length ≤ cap ∧ cap ≤ maxLen ∧ cur.size = cap ∧ cur.toList.take l.length = l.map cellOf
theorem Bu.lt {w : World} {base : Nat} {v : Value} {l : List UInt8} (h : Bu w base v l) : ∀ k, v.ownBlock = some k → base ≤ k ∧ k < w.heap.size := by
  intro k hk
  rcases h with h | ⟨g, cap, cur, rfl, hb, hg, _⟩
  · exact World.ownsRow.lt h k hk
  · simp [Value.ownBlock] at hk
    subst hk
    exact ⟨hb, (Array.getElem?_eq_some_iff.1 hg).1⟩
theorem Bu.below {w w' : World} {base : Nat} {v : Value} {l : List UInt8} (h : Bu w base v l) (hb : Below w.heap.size w w') : Bu w' base v l := by
  rcases h with h | ⟨g, cap, cur, rfl, h1, hg, h2⟩
  · exact Or.inl (ownsRow_below h hb)
  · exact Or.inr ⟨g, cap, cur, rfl, h1, (hb.block g (Array.getElem?_eq_some_iff.1 hg).1).trans hg, h2⟩
theorem add_plain (g j : Nat) : (⟨g, 0, none⟩ : Addr).add j = ⟨g, j, none⟩ := by unfold Addr.add; split <;> simp_all
theorem odd_cells {w : World} {g : Nat} {cur : Array Value} {t : TypeId} {fz : Nat × Nat} {l : List UInt8} (hg : w.heap[g]? = some (.cells cur t fz)) (ht : cur.toList.take l.length = l.map cellOf) : ∀ j u, (l.map cellOf)[j]? = some u → w.cell? ((⟨g, 0, none⟩ : Addr).add j) = some u := by
  intro j u hu
  rw [add_plain, cell_of_row w g j cur t fz hg]
  rw [← ht, List.getElem?_take] at hu
  split at hu
  · simpa using hu
  · cases hu
/-- What '[]byte(s)' lays. -/
theorem bu_new (w : World) (base : Nat) (s : ByteArray) (c : Nat) (hb : base ≤ w.heap.size) (hc : s.size ≤ c) (hm : c ≤ maxLen) :
    Bu (w.alloc (.cells (bytesRow s c) 5 ((bytesRow s c).size, (bytesRow s c).size + 1))) base (.slice (some ⟨w.heap.size, 0, none⟩) s.size c) s.data.toList := by
  have hl : s.data.toList.length = s.size := by rw [Array.length_toList]; rfl
  have hcs : (bytesRow s c).size = c := by
    unfold bytesRow
    have : s.data.size = s.size := rfl
    simp
    omega
  refine Or.inr ⟨w.heap.size, c, bytesRow s c, by rw [hl], hb, heap_alloc_new w _, by rw [hl]; exact hc, hm, hcs, ?_⟩
  unfold bytesRow
  rw [hl, Array.toList_append, List.take_append_of_le_length (by simp), List.take_of_length_le (by simp), Array.toList_map]
  rfl
theorem Bu.convert {w : World} {base : Nat} {v : Value} {l : List UInt8} (h : Bu w base v l) : (convert 82 9 v).run Try.prog w = .ok (.string ⟨l.toArray⟩) w := by
  rcases h with h | ⟨g, cap, cur, rfl, h1, hg, h2, h3, h4, h5⟩
  · exact Owns.convert h
  · refine run_convert_bytes_back w _ _ _ _ _ _ Try.underlying82 Try.underlying5 Try.underlying9 ?_
    intro j hj
    refine odd_cells hg h5 j _ ?_
    simp [List.getElem?_eq_getElem hj, cellOf]

theorem set_tail {cur : Array Value} {l : List UInt8} {n : Nat} (hlt : n < cur.size) (ht : cur.toList.take n = l.map cellOf) (b : UInt8) : (cur.setIfInBounds n (cellOf b)).toList.take (n + 1) = (l ++ [b]).map cellOf := by
  rw [Array.toList_setIfInBounds, List.take_add_one, List.take_set_of_le (by omega), ht, List.getElem?_set_self (by simpa using hlt), List.map_append]
  rfl
theorem run_append_bu {w : World} {base : Nat} {v : Value} {l : List UInt8} (h : Bu w base v l) (b : UInt8) (ad : Addr) (c : Nat) (hnew : w.cell? ad = some (cellOf b)) (hadd : ad.add 0 = ad) (hl : l.length ≤ 1099511627776) (hbase : base ≤ w.heap.size) (ty : TypeId) :
    ∃ v' w', (Builtin.append_ #[82, 82] ty #[v, .slice (some ad) 1 c]).run Try.prog w = .ok v' w' ∧ Bu w' base v' (l ++ [b]) ∧ w.grownBy w' v.ownBlock := by
  obtain ⟨i0, hi, hz0, hz1, hz2⟩ := info_parts info_u8
  have hnews : ∀ j u, [cellOf b][j]? = some u → w.cell? (ad.add j) = some u := by
    intro j u hu
    cases j with
    | zero =>
      simp only [List.getElem?_cons_zero, Option.some.injEq] at hu
      rw [hadd, hnew, hu]
    | succ j => simp at hu
  have h1 : ∀ u ∈ [cellOf b], u.oneCell' = true := by intro u hu; simp at hu; subst hu; rfl
  rcases h with h | ⟨g, cap, cur, rfl, hbg, hg, hlc, hcm, hcs, ht⟩
  · obtain ⟨v', w', e1, e2, e3, _⟩ := run_append_own (P := Try.prog) w base 82 ty 5 i0 (.int .u8 0) 1 1 Try.underlying82 hi hz0 hz1 hz2 rfl (by omega) v l.length (l.map cellOf) h ad 1 c [cellOf b] rfl hnews h1 (by unfold maxLen; omega) (by omega) hbase
    exact ⟨v', w', e1, Or.inl (Owns.snoc e2), e3⟩
  · by_cases hroom : l.length + 1 ≤ cap
    · have hadd2 : (⟨g, l.length, none⟩ : Addr).add 0 = ⟨g, l.length, none⟩ := by unfold Addr.add; split <;> simp_all
      have hst : (storeCells ⟨g, l.length, none⟩ [cellOf b] 0).run Try.prog w = .ok () (w.setCell ⟨g, l.length, none⟩ (cellOf b)) := by
        have hcell : w.cell? ⟨g, l.length, none⟩ = some cur[l.length] := by rw [cell_of_row w g _ cur _ _ hg]; exact Array.getElem?_eq_getElem (by omega)
        have hfro : w.frozen? ⟨g, l.length, none⟩ = false := by
          simp only [World.frozen?, hg, Bool.and_eq_false_iff, decide_eq_false_iff_not]
          left
          omega
        simp only [storeCells, Sem.run_bind, hadd2, run_store Try.prog w _ (cellOf b) _ rfl, hcell]
        simp [hfro]
      have hf := run_firstCells_some (P := Try.prog) w 1 1 ad 1 c [cellOf b] rfl hnews
      have hr : (Builtin.append_ #[82, 82] ty #[.slice (some ⟨g, 0, none⟩) l.length cap, .slice (some ad) 1 c]).run Try.prog w = .ok (.slice (some ⟨g, 0, none⟩) (l.length + 1) cap) (w.setCell ⟨g, l.length, none⟩ (cellOf b)) := by
        simp [Builtin.append_, run_underlying Try.underlying82, sizeOf, typeInfo, hi, hz1, Builtin.lenOf, hroom, hf, Addr.add_lit, hst]
      refine ⟨_, _, hr, Or.inr ⟨g, cap, cur.setIfInBounds l.length (cellOf b), by rw [List.length_append]; rfl, hbg, ?_, by rw [List.length_append]; exact hroom, hcm, by simpa using hcs, ?_⟩, ⟨rfl, rfl, rfl, by simp [World.setCell], fun k _ hk => Below.heap_setCell _ _ _ _ (fun e => hk (by simp [Value.ownBlock, e]))⟩⟩
      · rw [setCell_eq_setRow w g l.length cur _ _ _ hg]
        have := setRow_heap w g cur (cur.setIfInBounds l.length (cellOf b)) _ _ hg
        simpa using this
      · rw [List.length_append]
        exact set_tail (by omega) ht b
    · have hr := run_append_grow (P := Try.prog) w 82 ty 5 i0 (.int .u8 0) Try.underlying82 hi hz0 ⟨g, 0, none⟩ l.length cap (l.map cellOf) (by simp [hz1]) (odd_cells hg ht) ad 1 c [cellOf b] (by simp [hz1]) hnews (by omega) (by omega) (by rw [hz2]; exact growslice_fits (by omega) (by omega))
      have hge := grownCap_ge w (l.length + 1) cap 5
      have hcm2 : grownCap w (l.length + 1) cap 5 ≤ maxLen := grownCap_le_maxLen w (l.length + 1) cap 5 (by unfold maxLen; omega)
      refine ⟨_, _, hr, Or.inl (Owns.snoc ⟨by simp, .inr ⟨w.heap.size, _, _, rfl, hbase, heap_alloc_new w.drew _, hge, hcm2, ?_, ?_⟩⟩), ⟨rfl, rfl, rfl, by simp, fun k hk _ => Below.heap_alloc w.drew _ k hk⟩⟩
      · have hzz : (Value.int IntKind.u8 0).cells.size = 1 := rfl
        simp only [Array.size_append, List.size_toArray, size_zeroCells, hzz, List.length_map, List.length_singleton]
        omega
      · simp only [Array.toList_append, List.append_assoc]
        rw [← List.append_assoc]
        have : (l.map cellOf ++ [cellOf b]).length = (l.length + 1) * 1 := by simp
        rw [← this]
        exact List.take_left
theorem wpList_append_bu {ops : Array Oper} {rest : List Oper} {o : Oper} {a : Act} {w : World} {Q : Exit → Act → World → Prop} (hgd : o.guard = none) (s x : Operand)
    (ho : o.op = .call { callee := .builtin .append, args := #[s, x], argTypes := #[82, 82] }) (base : Nat) (v : Value) (l : List UInt8) (hs : a.eval s = v) (h : Bu w base v l)
    (b : UInt8) (B : Nat) (c : Nat) (hx : a.eval x = .slice (some ⟨B, 0, none⟩) 1 c) (hnew : w.cell? ⟨B, 0, none⟩ = some (cellOf b)) (hl : l.length ≤ 1099511627776) (hbase : base ≤ w.heap.size)
    (hk : ∀ v' w', Bu w' base v' (l ++ [b]) → w.grownBy w' v.ownBlock → wpList Try.prog ops Q rest (a.put o.dst v') w') : wpList Try.prog ops Q (o :: rest) a w :=
  wpList_plain hgd fun _ hK => by
    obtain ⟨v', w', hr, h2, h3⟩ := run_append_bu h b ⟨B, 0, none⟩ c hnew rfl hl hbase o.type
    unfold Oper.wp execOp
    simp only [ho, resolve, invoke, builtin, Sem.run_bind, Sem.run_pure, Result.andThen_ok, List.map_toArray, List.map_cons, List.map_nil, hs, hx, hr]
    exact hK _ _ (hk v' w' h2 h3)
end Go.Proofs.Ytmdnmabbphnhaaa.Mm

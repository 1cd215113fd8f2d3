/- Appending any tables, or numbers, to a slice of the call's own; the parts of a slice. -/
import Derived.Test.YtbdoekogoiijeaaEdN
import Derived.Laws.AppendOwnNone
namespace Go.Proofs.Ytbdoekogoiijeaa
open Go.RowKit Sk
set_option linter.unusedVariables false
set_option maxRecDepth 20000

theorem run_append_empty {P : Program} {w : World} (base : Nat) (t ty e : TypeId) (i : TypeInfo) (size : Nat) (ht : P.underlying t = some (.slice e)) (hi : P.info? e = some i)
    (v : Value) (n : Nat) (xs : List Value) (hown : w.ownsRow base e size v n xs) (a : Option Addr) (c : Nat) :
    (Builtin.append_ #[t, t] ty #[v, .slice a 0 c]).run P w = .ok v w := by
  cases a with
  | none =>
    rcases hown.2 with ⟨rfl, rfl⟩ | ⟨g, cap, cur, rfl, _, _, hnc, _⟩
    · simp [Builtin.append_, run_underlying ht, sizeOf, typeInfo, hi, Builtin.lenOf, Builtin.firstCells]
    · simp [Builtin.append_, run_underlying ht, sizeOf, typeInfo, hi, Builtin.lenOf, Builtin.firstCells, hnc, storeCells]
  | some ad =>
    have h0 : (loadCells ad 0).run P w = .ok #[] w := by first | rfl | simp [loadCells] | (simp [loadCells]; rfl)
    rcases hown.2 with ⟨rfl, rfl⟩ | ⟨g, cap, cur, rfl, _, _, hnc, _⟩
    · simp [Builtin.append_, run_underlying ht, sizeOf, typeInfo, hi, Builtin.lenOf, Builtin.firstCells, h0, Result.andThen]
    · simp [Builtin.append_, run_underlying ht, sizeOf, typeInfo, hi, Builtin.lenOf, Builtin.firstCells, hnc, storeCells, h0, Result.andThen]

theorem cellsTb_length (l : List Tbl) : (l.flatMap cellsTb).length = l.length * 8 := by
  induction l with
  | nil => rfl
  | cons t l ih => rw [List.flatMap_cons, List.length_append, ih, List.length_cons]; simp [cellsTb]; omega
theorem cellsTb_one (l : List Tbl) : ∀ u ∈ l.flatMap cellsTb, u.oneCell' = true := by
  intro u hu
  obtain ⟨y, _, hy⟩ := List.mem_flatMap.1 hu
  simp [cellsTb] at hy
  rcases hy with rfl | rfl | rfl | rfl | rfl | rfl | rfl | rfl <;> rfl
theorem seesTb_all : ∀ (ts : List Tbl) (w : World) (b off : Nat), (∀ i, i < ts.length → TbAt w b (off + i * 8) (ts.getD i tbd)) → ∀ j u, (ts.flatMap cellsTb)[j]? = some u → w.cell? ⟨b, off + j, none⟩ = some u
  | [], w, b, off, _, j, u, hj => by simp at hj
  | t :: ts, w, b, off, h, j, u, hj => by
    rw [List.flatMap_cons] at hj
    by_cases h8 : j < 8
    · rw [List.getElem?_append_left (by simpa [cellsTb] using h8)] at hj
      have h0 := h 0 (by simp)
      rw [List.getD_cons_zero, Nat.zero_mul, Nat.add_zero] at h0
      obtain ⟨c0, c1, c2, c3, c4, c5, c6, c7⟩ := h0
      match j, h8 with
      | 0, _ => rw [← hj]; exact c0
      | 1, _ => rw [← hj]; exact c1
      | 2, _ => rw [← hj]; exact c2
      | 3, _ => rw [← hj]; exact c3
      | 4, _ => rw [← hj]; exact c4
      | 5, _ => rw [← hj]; exact c5
      | 6, _ => rw [← hj]; exact c6
      | 7, _ => rw [← hj]; exact c7
    · rw [List.getElem?_append_right (by simp [cellsTb]; omega)] at hj
      have e8 : (cellsTb t).length = 8 := rfl
      rw [e8] at hj
      have := seesTb_all ts w b (off + 8) (fun i hi => by
        have := h (i + 1) (by simpa using hi)
        rw [List.getD_cons_succ] at this
        rw [show off + 8 + i * 8 = off + (i + 1) * 8 by omega]
        exact this) (j - 8) u hj
      rw [show off + j = off + 8 + (j - 8) by omega]
      exact this
theorem add_off (b off j : Nat) : (⟨b, off, none⟩ : Addr).add j = ⟨b, off + j, none⟩ := by unfold Addr.add; split <;> simp_all

/-- A row of the call's own, grown by tables that lie in memory. -/
theorem wpList_append_tbs {W : World} {ops : Array Oper} {rest : List Oper} {o : Oper} {a : Act} {Q : Exit → Act → World → Prop} (hgd : o.guard = none) (s x : Operand) (ho : o.op = .call { callee := .builtin .append, args := #[s, x], argTypes := #[26, 26] })
    {base : Nat} {l r : List Tbl} (v vx : Value) (hs : a.eval s = v) (hown : OwnsTb W base v l) (hbase : base ≤ W.heap.size) (hx : a.eval x = vx) (h : SeesTb W vx r) (hl : l.length + r.length ≤ 1000000)
    (hq : ∀ v' W', OwnsTb W' base v' (l ++ r) → W.grownBy W' v.ownBlock → wpList Try.prog ops Q rest (a.put o.dst v') W') : wpList Try.prog ops Q (o :: rest) a W := by
  obtain ⟨i0, hi, hz0, hz1, hz2⟩ := info_parts info_tb
  rcases h with ⟨rfl, ad, cap, e1⟩ | ⟨b, off, cap, e1, hb, hc⟩
  · subst e1
    refine wpList_plain hgd fun K hK => ?_
    have hrun := run_append_empty (P := Try.prog) (w := W) base 26 o.type 38 i0 8 Try.underlying26 hi v l.length _ hown ad cap
    unfold Oper.wp
    simp [execOp, ho, resolve, invoke, builtin, hs, hx, hrun, Result.andThen]
    exact hK _ _ (hq v W (by rw [List.append_nil]; exact hown) ⟨rfl, rfl, rfl, Nat.le_refl _, fun _ _ _ => rfl⟩)
  · subst e1
    refine wpList_append_own W hgd s x _ ho base 38 i0 _ 8 80 Try.underlying26 hi hz0 hz1 hz2 rfl (by decide) v l.length _ hs hown ⟨b, off, none⟩ r.length cap (r.flatMap cellsTb) hx (cellsTb_length r) (fun j u hu => ?_) (cellsTb_one r) (by unfold maxLen; omega) (by omega) hbase fun v' w' h1 h2 _ => hq v' w' ?_ h2
    · rw [add_off]; exact seesTb_all r W b off hc j u hu
    · unfold OwnsTb
      rw [List.length_append, List.flatMap_append]
      exact h1

/-- The same as one step of a region that draws. -/
theorem step_append_tbs {W : World} {ops : Array Oper} {o : Oper} {a : Act} {K : Act → World → Prop} {Q : Exit → Act → World → Prop} {E : Prop} (hg : o.guard = none) (s x : Operand) (hop : o.op = .call { callee := .builtin .append, args := #[s, x], argTypes := #[26, 26] })
    {base : Nat} {l r : List Tbl} {v vx : Value} (hown : OwnsTb W base v l) (hbase : base ≤ W.heap.size) (h : SeesTb W vx r) (hs : a.eval s = v) (hx : a.eval x = vx) (hl : l.length + r.length ≤ 1000000)
    (hK : ∀ v' W', OwnsTb W' base v' (l ++ r) → W.grownBy W' v.ownBlock → K (a.put o.dst v') W') : if Region.wanted o (yielded ops a.tmps) = true then Oper.wp Try.prog o a W K Q else E := by
  have hw : Region.wanted o (yielded ops a.tmps) = true := by simp [Region.wanted, hg]
  rw [if_pos hw]
  obtain ⟨i0, hi, hz0, hz1, hz2⟩ := info_parts info_tb
  rcases h with ⟨rfl, ad, cap, e1⟩ | ⟨b, off, cap, e1, hb, hc⟩
  · subst e1
    have hrun := run_append_empty (P := Try.prog) (w := W) base 26 o.type 38 i0 8 Try.underlying26 hi v l.length _ hown ad cap
    unfold Oper.wp
    simp [execOp, hop, resolve, invoke, builtin, hs, hx, hrun, Result.andThen]
    exact hK v W (by rw [List.append_nil]; exact hown) ⟨rfl, rfl, rfl, Nat.le_refl _, fun _ _ _ => rfl⟩
  · subst e1
    obtain ⟨v', w', hrun, r1, r2, _⟩ := run_append_own (P := Try.prog) W base 26 o.type 38 i0 _ 8 80 Try.underlying26 hi hz0 hz1 hz2 rfl (by decide) v l.length _ hown ⟨b, off, none⟩ r.length cap (r.flatMap cellsTb) (cellsTb_length r) (fun j u hu => by rw [add_off]; exact seesTb_all r W b off hc j u hu) (cellsTb_one r) (by unfold maxLen; omega) (by omega) hbase
    unfold Oper.wp
    simp [execOp, hop, resolve, invoke, builtin, hs, hx, hrun, Result.andThen]
    refine hK v' w' ?_ r2
    unfold OwnsTb
    rw [List.length_append, List.flatMap_append]
    exact r1

/-- 'l[:j]' and 'l[j:]' of tables that lie in memory. -/
theorem tbs_first {w : World} {base : Nat} {ao : Option Addr} {n c : Nat} {l : List Tbl} (h : OwnsTb w base (.slice ao n c) l) (j : Nat) (hj : j ≤ l.length) :
    ∃ v, (∀ w', (Instr.slice 26 (.slice ao n c) none (some (.int .i64 (j : Int))) none).run Try.prog w' = .ok v w') ∧ SeesTb w v (l.take j) := by
  obtain ⟨i0, hi, hz0, hz1, hz2⟩ := info_parts info_tb
  have hn : n = l.length := by rcases h.2 with ⟨e, h1⟩ | ⟨g, cap, cur, e, _⟩ <;> simp only [Value.slice.injEq] at e <;> omega
  have hnc : l.length ≤ c := by
    rcases h.2 with ⟨e, h1⟩ | ⟨g, cap, cur, e, _, _, h2, _⟩
    · simp only [Value.slice.injEq] at e
      omega
    · simp only [Value.slice.injEq] at e
      omega
  refine ⟨sliced ao 0 j c 8, fun w' => ?_, ?_⟩
  · rw [run_slice_h w' 26 ao n c (by kernel_rfl) .i64 j (by omega) (by omega)]
    have he : Try.prog.elem 26 = 38 := by kernel_rfl
    rw [he]
    have hs : (sizeOf 38).run Try.prog w' = .ok 8 w' := by simp [sizeOf, typeInfo, hi, hz1]
    rw [hs]
    simp only [Result.andThen, Int.toNat_natCast]
  · rcases h.sees with ⟨rfl, ad, cap, e⟩ | ⟨b, off, cap, e, hb, hc⟩
    · simp only [Value.slice.injEq] at e
      obtain ⟨rfl, rfl, rfl⟩ := e
      obtain rfl : j = 0 := by simpa using hj
      refine Or.inl ⟨rfl, ?_⟩
      unfold sliced
      exact ⟨_, _, rfl⟩
    · simp only [Value.slice.injEq] at e
      obtain ⟨rfl, _, rfl⟩ := e
      refine Or.inr ⟨b, off, c, ?_, hb, fun i hi => ?_⟩
      · unfold sliced
        rw [List.length_take, Nat.min_eq_left hj]
        simp [add_off]
      · rw [List.length_take, Nat.min_eq_left hj] at hi
        have := hc i (by omega)
        have e : (l.take j).getD i tbd = l.getD i tbd := by
          simp [hi]
        rw [e]; exact this
theorem tbs_rest {w : World} {base : Nat} {ao : Option Addr} {n c : Nat} {l : List Tbl} (h : OwnsTb w base (.slice ao n c) l) (j : Nat) (hj : j ≤ l.length) :
    ∃ v, (∀ w', (Instr.slice 26 (.slice ao n c) (some (.int .i64 (j : Int))) none none).run Try.prog w' = .ok v w') ∧ SeesTb w v (l.drop j) := by
  obtain ⟨i0, hi, hz0, hz1, hz2⟩ := info_parts info_tb
  have hn : n = l.length := by rcases h.2 with ⟨e, h1⟩ | ⟨g, cap, cur, e, _⟩ <;> simp only [Value.slice.injEq] at e <;> omega
  refine ⟨sliced ao j n c 8, fun w' => ?_, ?_⟩
  · rw [run_slice_l w' 26 ao n c (by kernel_rfl) .i64 j (by omega) (by omega)]
    have he : Try.prog.elem 26 = 38 := by kernel_rfl
    rw [he]
    have hs : (sizeOf 38).run Try.prog w' = .ok 8 w' := by simp [sizeOf, typeInfo, hi, hz1]
    rw [hs]
    simp only [Result.andThen, Int.toNat_natCast]
  · rcases h.sees with ⟨rfl, ad, cap, e⟩ | ⟨b, off, cap, e, hb, hc⟩
    · simp only [Value.slice.injEq] at e
      obtain ⟨rfl, rfl, rfl⟩ := e
      obtain rfl : j = 0 := by simpa using hj
      refine Or.inl ⟨rfl, ?_⟩
      unfold sliced
      exact ⟨_, _, rfl⟩
    · simp only [Value.slice.injEq] at e
      obtain ⟨rfl, _, rfl⟩ := e
      subst hn
      by_cases hjl : j = l.length
      · refine Or.inl ⟨by rw [hjl]; simp, ?_⟩
        unfold sliced
        rw [hjl, Nat.sub_self]
        exact ⟨_, _, rfl⟩
      · have hcap : l.length ≤ c := by
          rcases h.2 with ⟨e, _⟩ | ⟨g, cap, cur, e, _, _, h3, _⟩
          · simp at e
          · simp only [Value.slice.injEq] at e
            omega
        refine Or.inr ⟨b, off + j * 8, c - j, ?_, hb, fun i hi => ?_⟩
        · unfold sliced
          rw [List.length_drop, if_neg (by omega)]
          simp [add_off]
        · rw [List.length_drop] at hi
          have := hc (j + i) (by omega)
          have e : (l.drop j).getD i tbd = l.getD (j + i) tbd := by
            simp [List.getElem?_drop]
          rw [e, show off + j * 8 + i * 8 = off + (j + i) * 8 by omega]
          exact this

end Go.Proofs.Ytbdoekogoiijeaa

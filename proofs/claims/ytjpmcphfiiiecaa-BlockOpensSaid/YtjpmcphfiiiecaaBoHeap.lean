/- A builder as it lies in memory. No function is named. -/
import Derived.Test.YtjpmcphfiiiecaaBoTurns
import Derived.Deep.AppendLies
namespace Go.Proofs.Ytjpmcphfiiiecaa.Bo
open Go Go.RowKit
set_option linter.unusedVariables false

theorem strCells_eq' (s : ByteArray) : Lib.strCells s = s.data.toList.map cellOf := rfl
/-- append(b, s...): where the answer lies. -/
theorem run_append_str_lies (w : World) (base : Nat) (v : Value) (l : List UInt8) (hown : Owns w base v l) (s : ByteArray) (hl : l.length + s.size ≤ 100000000000) (hbase : base ≤ w.heap.size) (ty : TypeId) :
    ∃ ao cap w', (Builtin.append_ #[22, 9] ty #[v, .string s]).run Try.prog w = .ok (.slice ao (l.length + s.size) cap) w' ∧ Owns w' base (.slice ao (l.length + s.size) cap) (l ++ s.data.toList) ∧ w.grownBy w' v.ownBlock ∧
      (∀ k, (Value.slice ao (l.length + s.size) cap).ownBlock = some k → v.ownBlock = some k ∨ w.heap.size ≤ k) := by
  obtain ⟨i0, hi, hz0, hz1, hz2⟩ := info_parts info_u8
  have hraw : w.ownsRow base 5 1 v l.length (l.map cellOf) := hown
  obtain ⟨v', w', hr, h2, h3, _⟩ := Lib.run_append_own_string (P := Try.prog) w base 22 9 ty 5 i0 Try.underlying22 Try.underlying9 hi hz0 hz1 hz2 v _ _ hraw s (by unfold maxLen; omega) (by omega) hbase
  obtain ⟨ao, cap, rfl⟩ := row_any h2
  have hls : s.data.toList.length = s.size := by simp
  refine ⟨ao, cap, w', hr, ?_, h3, ?_⟩
  · unfold Owns
    rw [List.length_append, List.map_append, hls]
    exact h2
  · rcases hown.2 with ⟨rfl, h0⟩ | ⟨g, cap0, cur, rfl, hbg, hg, hnc, hcm, hcs, htake⟩
    · obtain rfl : l = [] := List.eq_nil_of_length_eq_zero h0
      obtain ⟨v2, w2, hr2, h4, _, _⟩ := Lib.run_append_own_string (P := Try.prog) w w.heap.size 22 9 ty 5 i0 Try.underlying22 Try.underlying9 hi hz0 hz1 hz2 (.slice none 0 0) 0 [] (World.ownsRow_nil w _ _ _) s (by unfold maxLen; simp at hl; omega) (by simp at hl; omega) (Nat.le_refl _)
      have he := hr.symm.trans hr2
      simp only [Result.ok.injEq] at he
      obtain ⟨rfl, rfl⟩ := he
      intro k hk
      right
      exact (World.ownsRow.lt h4 k hk).1
    · by_cases hroom : l.length + s.size ≤ cap0
      · have hr2 := Lib.run_append_room_string (P := Try.prog) (w := w) 22 9 ty 5 i0 Try.underlying22 Try.underlying9 hi hz1 g l.length cap0 cur hg s hroom (by omega)
        have he := hr.symm.trans hr2
        simp only [Result.ok.injEq, Value.slice.injEq] at he
        obtain ⟨⟨rfl, _, rfl⟩, _⟩ := he
        intro k hk
        exact Or.inl hk
      · have hr2 := Lib.run_append_grow_string (P := Try.prog) (w := w) 22 9 ty 5 i0 (.int .u8 0) Try.underlying22 Try.underlying9 hi hz0 ⟨g, 0, none⟩ l.length cap0 (l.map cellOf) (by simp [hz1]) (hraw.cells (g := g) rfl) s (by omega) (by omega) (by rw [hz2]; exact growslice_fits (by omega) (by omega))
        have he := hr.symm.trans hr2
        simp only [Result.ok.injEq, Value.slice.injEq] at he
        obtain ⟨⟨rfl, _, rfl⟩, _⟩ := he
        intro k hk
        right
        simp only [Value.ownBlock, Option.some.injEq] at hk
        omega
/-- The same, at a step of a region that draws its order. -/
theorem step_append_str {w : World} {ops : Array Oper} {o : Oper} {a : Act} {K : Act → World → Prop} {Q : Exit → Act → World → Prop} {E : Prop} (hgd : o.guard = none) (sl x : Operand)
    (ho : o.op = .call { callee := .builtin .append, args := #[sl, x], argTypes := #[22, 9] })
    (base : Nat) (v : Value) (l : List UInt8) (hs : a.eval sl = v) (hown : Owns w base v l) (s : ByteArray) (hx : a.eval x = .string s) (hl : l.length + s.size ≤ 100000000000) (hbase : base ≤ w.heap.size)
    (h : ∀ ao cap w', Owns w' base (.slice ao (l.length + s.size) cap) (l ++ s.data.toList) → w.grownBy w' v.ownBlock →
      (∀ k, (Value.slice ao (l.length + s.size) cap).ownBlock = some k → v.ownBlock = some k ∨ w.heap.size ≤ k) → K (a.put o.dst (.slice ao (l.length + s.size) cap)) w') :
    if Region.wanted o (yielded ops a.tmps) = true then Oper.wp Try.prog o a w K Q else E := by
  have hw : Region.wanted o (yielded ops a.tmps) = true := by simp [Region.wanted, hgd]
  rw [if_pos hw]
  obtain ⟨ao, cap, w', hr, h2, h3, h4⟩ := run_append_str_lies w base v l hown s hl hbase o.type
  unfold Oper.wp execOp
  simp only [ho, resolve, invoke, builtin, Sem.run_bind, Sem.run_pure, Result.andThen_ok, List.map_toArray, List.map_cons, List.map_nil, hs, hx, hr]
  exact h ao cap w' h2 h3 h4

/-- Where a builder lies: its box, its two rows. -/
structure BL where
  b : Nat
  rv : Value
  fv : Value
/-- Its blocks. -/
def OwnB (L : BL) (k : Nat) : Prop := k = L.b ∨ L.rv.ownBlock = some k ∨ L.fv.ownBlock = some k
/-- A builder that holds this lies there. -/
structure Built (w : World) (base : Nat) (L : BL) (s : St) : Prop where
  box : w.heap[L.b]? = some (.cells #[L.rv, L.fv, .int .i64 (s.n : Int), .string s.last] 25 (0, 0))
  rows : Owns w base L.rv s.rows
  foot : Owns w base L.fv s.foot
  apart : ∀ k, L.rv.ownBlock = some k → L.fv.ownBlock ≠ some k
  low : base ≤ L.b
/-- What a builder holds that added what it may. -/
structure Sound (s : St) : Prop where
  foot : s.foot.length = (s.n + 3) / 4 * 4
  rows : s.rows.length ≤ 2075 * s.n
  last : s.last.size ≤ 1024
theorem sound0 : Sound st0 := ⟨rfl, by simp [st0], by simp [st0]⟩
theorem Sound.step {s : St} (h : Sound s) {e : En} (he : err s e = 0) : Sound (step s e) := by
  obtain ⟨h1, h2⟩ := err_size he
  refine ⟨?_, ?_, h1⟩
  · show (ftn s).length = (s.n + 1 + 3) / 4 * 4
    have := h.foot
    unfold ftn
    split
    · rw [List.length_append, Nm.big_length]; omega
    · omega
  · show (s.rows ++ one s e).length ≤ 2075 * (s.n + 1)
    have := h.rows
    have := (one_length s e).2
    rw [List.length_append]
    omega
theorem sound_run : ∀ (l : List En) (s : St), Sound s → goodb s l = true → Sound (run s l)
  | [], s, h, _ => h
  | e :: l, s, h, hg => by
    rw [goodb, Bool.and_eq_true, decide_eq_true_eq] at hg
    rw [run_cons]
    exact sound_run l _ (h.step hg.1) hg.2
section
variable {w w' : World} {base : Nat} {L : BL} {s : St}
theorem Built.own_lt (h : Built w base L s) {k : Nat} (hk : OwnB L k) : k < w.heap.size := by
  rcases hk with rfl | hk | hk
  · exact heap_lt h.box
  · exact ownsRow_lt h.rows hk
  · exact ownsRow_lt h.foot hk
theorem Built.own_ge (h : Built w base L s) {k : Nat} (hk : OwnB L k) : base ≤ k := by
  rcases hk with rfl | hk | hk
  · exact h.low
  · exact (World.ownsRow.lt h.rows k hk).1
  · exact (World.ownsRow.lt h.foot k hk).1
theorem Built.frame (h : Built w base L s) (hk : ∀ k, OwnB L k → w'.heap[k]? = w.heap[k]?) : Built w' base L s where
  box := (hk _ (Or.inl rfl)).trans h.box
  rows := ownsRow_frame h.rows fun k e => hk k (Or.inr (Or.inl e))
  foot := ownsRow_frame h.foot fun k e => hk k (Or.inr (Or.inr e))
  apart := h.apart
  low := h.low
theorem Built.below (h : Built w base L s) (hb : Below w.heap.size w w') : Built w' base L s := h.frame fun k ho => hb.block k (h.own_lt ho)
theorem Built.drew (h : Built w base L s) : Built w.drew base L s := h.frame fun _ _ => rfl
theorem Built.turned {P : Nat → Prop} (h : Built w base L s) (ht : Turns P w w') (hP : ∀ k, OwnB L k → ¬ P k) : Built w' base L s := h.frame fun k hk => ht.block k (h.own_lt hk) (hP k hk)
/-- Its box is none of its rows. -/
theorem Built.box_ne (h : Built w base L s) : L.rv.ownBlock ≠ some L.b ∧ L.fv.ownBlock ≠ some L.b := by
  constructor <;> intro e
  · obtain ⟨cs, hc⟩ := ownsRow_obj h.rows e
    exact obj_cells_ne h.box hc (by decide) rfl
  · obtain ⟨cs, hc⟩ := ownsRow_obj h.foot e
    exact obj_cells_ne h.box hc (by decide) rfl
theorem Built.c0 (h : Built w base L s) : w.cell? ⟨L.b, 0, none⟩ = some L.rv := by rw [cell_of h.box]; rfl
theorem Built.c1 (h : Built w base L s) : w.cell? ⟨L.b, 1, none⟩ = some L.fv := by rw [cell_of h.box]; rfl
theorem Built.c2 (h : Built w base L s) : w.cell? ⟨L.b, 2, none⟩ = some (.int .i64 (s.n : Int)) := by rw [cell_of h.box]; rfl
theorem Built.c3 (h : Built w base L s) : w.cell? ⟨L.b, 3, none⟩ = some (.string s.last) := by rw [cell_of h.box]; rfl
theorem Built.soft (h : Built w base L s) (k : Nat) : w.frozen? ⟨L.b, k, none⟩ = false := unfrozen_of h.box k
theorem Built.shapes (h : Built w base L s) : (∃ a c, L.rv = .slice a s.rows.length c) ∧ ∃ a c, L.fv = .slice a s.foot.length c :=
  ⟨by obtain ⟨a, c, e⟩ := row_any h.rows; exact ⟨a, c, e⟩, by obtain ⟨a, c, e⟩ := row_any h.foot; exact ⟨a, c, e⟩⟩
end
/-- From w to w' a builder has come to hold s'. -/
def GoesB (base : Nat) (L : BL) (w : World) (s' : St) (w' : World) : Prop :=
  ∃ L', L'.b = L.b ∧ Built w' base L' s' ∧ Turns (OwnB L) w w' ∧ ∀ k, OwnB L' k → OwnB L k ∨ w.heap.size ≤ k
theorem GoesB.refl {w : World} {base : Nat} {L : BL} {s : St} (h : Built w base L s) : GoesB base L w s w := ⟨L, rfl, h, Turns.refl _ _, fun _ h => Or.inl h⟩
theorem GoesB.below {w w1 w2 : World} {base : Nat} {L : BL} {s : St} (h : GoesB base L w s w1) (hb : Below w1.heap.size w1 w2) : GoesB base L w s w2 := by
  obtain ⟨L', e, h1, h2, h3⟩ := h
  exact ⟨L', e, h1.below hb, h2.below hb, h3⟩
/-- Two steps of a builder, one behind the other. -/
theorem GoesB.trans {w w1 w2 : World} {base : Nat} {L L1 : BL} {s : St} (e1 : L1.b = L.b) (h2 : Turns (OwnB L) w w1) (h3 : ∀ k, OwnB L1 k → OwnB L k ∨ w.heap.size ≤ k) (k : GoesB base L1 w1 s w2) : GoesB base L w s w2 := by
  obtain ⟨L2, f1, g1, g2, g3⟩ := k
  refine ⟨L2, f1.trans e1, g1, h2.trans g2 h3, fun k hk => ?_⟩
  rcases g3 k hk with h | h
  · exact h3 k h
  · exact Or.inr (Nat.le_trans h2.size h)
/-- Its rows have grown, and are stored. -/
theorem Built.grow_rows {w w1 : World} {base : Nat} {L : BL} {s : St} (h : Built w base L s) {v : Value} {l : List UInt8} (hown : Owns w1 base v l) (hg : w.grownBy w1 L.rv.ownBlock) (hb : ∀ k, v.ownBlock = some k → L.rv.ownBlock = some k ∨ w.heap.size ≤ k) :
    GoesB base L w { s with rows := l } (w1.setCell ⟨L.b, 0, none⟩ v) := by
  obtain ⟨n1, n2⟩ := h.box_ne
  have hlt : L.b < w.heap.size := heap_lt h.box
  have hbox1 := (hg.block L.b hlt (Ne.symm n1)).trans h.box
  have hsv : ∀ k, v.ownBlock = some k → k ≠ L.b := fun k hk e => by
    subst e
    rcases hb _ hk with e | e
    · exact n1 e
    · omega
  have hf1 : ∀ k, L.fv.ownBlock = some k → w1.heap[k]? = w.heap[k]? := fun k hk => hg.block k (ownsRow_lt h.foot hk) (fun e => h.apart k e.symm hk)
  refine ⟨{ L with rv := v }, rfl, ⟨?_, ?_, ?_, ?_, h.low⟩, ?_, ?_⟩
  · rw [heap_setCell_same w1 L.b 0 _ _ v hbox1]
    rfl
  · exact ownsRow_frame hown fun k hk => setCell_kept _ _ _ (hsv k hk)
  · refine ownsRow_frame h.foot fun k hk => ?_
    rw [setCell_kept _ _ _ (fun e => n2 (by rw [hk]; exact congrArg some e))]
    exact hf1 k hk
  · intro k hk e
    rcases hb k hk with h1 | h1
    · exact h.apart k h1 e
    · have := ownsRow_lt h.foot e; omega
  · refine (Turns.of_grown (P := OwnB L) hg (fun k e => Or.inr (Or.inl e))).trans (Turns.of_setCell (P := fun k => k = L.b) _ _ _ rfl) (fun x hx => Or.inl (Or.inl hx))
  · intro k hk
    rcases hk with hk | hk | hk
    · exact Or.inl (Or.inl hk)
    · exact (hb k hk).imp (fun e => Or.inr (Or.inl e)) id
    · exact Or.inl (Or.inr (Or.inr hk))
/-- Its foot has grown, and is stored. -/
theorem Built.grow_foot {w w1 : World} {base : Nat} {L : BL} {s : St} (h : Built w base L s) {v : Value} {l : List UInt8} (hown : Owns w1 base v l) (hg : w.grownBy w1 L.fv.ownBlock) (hb : ∀ k, v.ownBlock = some k → L.fv.ownBlock = some k ∨ w.heap.size ≤ k) :
    GoesB base L w { s with foot := l } (w1.setCell ⟨L.b, 1, none⟩ v) := by
  obtain ⟨n1, n2⟩ := h.box_ne
  have hlt : L.b < w.heap.size := heap_lt h.box
  have hbox1 := (hg.block L.b hlt (Ne.symm n2)).trans h.box
  have hsv : ∀ k, v.ownBlock = some k → k ≠ L.b := fun k hk e => by
    subst e
    rcases hb _ hk with e | e
    · exact n2 e
    · omega
  have hf1 : ∀ k, L.rv.ownBlock = some k → w1.heap[k]? = w.heap[k]? := fun k hk => hg.block k (ownsRow_lt h.rows hk) (fun e => h.apart k hk e.symm)
  refine ⟨{ L with fv := v }, rfl, ⟨?_, ?_, ?_, ?_, h.low⟩, ?_, ?_⟩
  · rw [heap_setCell_same w1 L.b 1 _ _ v hbox1]
    rfl
  · refine ownsRow_frame h.rows fun k hk => ?_
    rw [setCell_kept _ _ _ (fun e => n1 (by rw [hk]; exact congrArg some e))]
    exact hf1 k hk
  · exact ownsRow_frame hown fun k hk => setCell_kept _ _ _ (hsv k hk)
  · intro k hk e
    rcases hb k e with h1 | h1
    · exact h.apart k hk h1
    · have := ownsRow_lt h.rows hk; omega
  · refine (Turns.of_grown (P := OwnB L) hg (fun k e => Or.inr (Or.inr e))).trans (Turns.of_setCell (P := fun k => k = L.b) _ _ _ rfl) (fun x hx => Or.inl (Or.inl hx))
  · intro k hk
    rcases hk with hk | hk | hk
    · exact Or.inl (Or.inl hk)
    · exact Or.inl (Or.inr (Or.inl hk))
    · exact (hb k hk).imp (fun e => Or.inr (Or.inr e)) id
/-- A number, or a text, of its own is stored. -/
theorem Built.set_n {w : World} {base : Nat} {L : BL} {s : St} (h : Built w base L s) (n : Nat) : GoesB base L w { s with n := n } (w.setCell ⟨L.b, 2, none⟩ (.int .i64 (n : Int))) := by
  obtain ⟨n1, n2⟩ := h.box_ne
  refine ⟨L, rfl, ⟨?_, ?_, ?_, h.apart, h.low⟩, Turns.of_setCell (P := OwnB L) _ _ _ (Or.inl rfl), fun k hk => Or.inl hk⟩
  · rw [heap_setCell_same w L.b 2 _ _ _ h.box]
    rfl
  · exact ownsRow_frame h.rows fun k hk => setCell_kept _ _ _ (fun e => n1 (by rw [hk]; exact congrArg some e))
  · exact ownsRow_frame h.foot fun k hk => setCell_kept _ _ _ (fun e => n2 (by rw [hk]; exact congrArg some e))
theorem Built.set_last {w : World} {base : Nat} {L : BL} {s : St} (h : Built w base L s) (x : ByteArray) : GoesB base L w { s with last := x } (w.setCell ⟨L.b, 3, none⟩ (.string x)) := by
  obtain ⟨n1, n2⟩ := h.box_ne
  refine ⟨L, rfl, ⟨?_, ?_, ?_, h.apart, h.low⟩, Turns.of_setCell (P := OwnB L) _ _ _ (Or.inl rfl), fun k hk => Or.inl hk⟩
  · rw [heap_setCell_same w L.b 3 _ _ _ h.box]
    rfl
  · exact ownsRow_frame h.rows fun k hk => setCell_kept _ _ _ (fun e => n1 (by rw [hk]; exact congrArg some e))
  · exact ownsRow_frame h.foot fun k hk => setCell_kept _ _ _ (fun e => n2 (by rw [hk]; exact congrArg some e))

end Go.Proofs.Ytjpmcphfiiiecaa.Bo

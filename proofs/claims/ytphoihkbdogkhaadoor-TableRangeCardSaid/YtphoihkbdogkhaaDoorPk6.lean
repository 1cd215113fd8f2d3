/- Texts on the program's own functions, several in one: BnBoHeap, BnBoA, BnBoD, BnBoE, BnBoF. -/
import Derived.Test.YtphoihkbdogkhaaDoorPk5
import Derived.Deep.AppendLies
import Derived.Test.YtphoihkbdogkhaaDoorPk4

/- A builder as it lies in memory. No function is named. -/
namespace Go.Proofs.YtphoihkbdogkhaaDoor.Bn.Bo
set_option maxRecDepth 100000
open Go Go.RowKit
set_option linter.unusedVariables false

theorem strCells_eq' (s : ByteArray) : Lib.strCells s = s.data.toList.map cellOf := rfl
/-- append(b, s...): where the answer lies. -/
theorem run_append_str_lies (w : World) (base : Nat) (v : Value) (l : List UInt8) (hown : Owns w base v l) (s : ByteArray) (hl : l.length + s.size ≤ 100000000000) (hbase : base ≤ w.heap.size) (ty : TypeId) :
    ∃ ao cap w', (Builtin.append_ #[34, 9] ty #[v, .string s]).run Tryd.prog w = .ok (.slice ao (l.length + s.size) cap) w' ∧ Owns w' base (.slice ao (l.length + s.size) cap) (l ++ s.data.toList) ∧ w.grownBy w' v.ownBlock ∧
      (∀ k, (Value.slice ao (l.length + s.size) cap).ownBlock = some k → v.ownBlock = some k ∨ w.heap.size ≤ k) := by
  obtain ⟨i0, hi, hz0, hz1, hz2⟩ := info_parts info_u8
  have hraw : w.ownsRow base 5 1 v l.length (l.map cellOf) := hown
  obtain ⟨v', w', hr, h2, h3, _⟩ := Lib.run_append_own_string (P := Tryd.prog) w base 34 9 ty 5 i0 Tryd.underlying34 Tryd.underlying9 hi hz0 hz1 hz2 v _ _ hraw s (by unfold maxLen; omega) (by omega) hbase
  obtain ⟨ao, cap, rfl⟩ := row_any h2
  have hls : s.data.toList.length = s.size := by simp
  refine ⟨ao, cap, w', hr, ?_, h3, ?_⟩
  · unfold Owns
    rw [List.length_append, List.map_append, hls]
    exact h2
  · rcases hown.2 with ⟨rfl, h0⟩ | ⟨g, cap0, cur, rfl, hbg, hg, hnc, hcm, hcs, htake⟩
    · obtain rfl : l = [] := List.eq_nil_of_length_eq_zero h0
      obtain ⟨v2, w2, hr2, h4, _, _⟩ := Lib.run_append_own_string (P := Tryd.prog) w w.heap.size 34 9 ty 5 i0 Tryd.underlying34 Tryd.underlying9 hi hz0 hz1 hz2 (.slice none 0 0) 0 [] (World.ownsRow_nil w _ _ _) s (by unfold maxLen; simp at hl; omega) (by simp at hl; omega) (Nat.le_refl _)
      have he := hr.symm.trans hr2
      simp only [Result.ok.injEq] at he
      obtain ⟨rfl, rfl⟩ := he
      intro k hk
      right
      exact (World.ownsRow.lt h4 k hk).1
    · by_cases hroom : l.length + s.size ≤ cap0
      · have hr2 := Lib.run_append_room_string (P := Tryd.prog) (w := w) 34 9 ty 5 i0 Tryd.underlying34 Tryd.underlying9 hi hz1 g l.length cap0 cur hg s hroom (by omega)
        have he := hr.symm.trans hr2
        simp only [Result.ok.injEq, Value.slice.injEq] at he
        obtain ⟨⟨rfl, _, rfl⟩, _⟩ := he
        intro k hk
        exact Or.inl hk
      · have hr2 := Lib.run_append_grow_string (P := Tryd.prog) (w := w) 34 9 ty 5 i0 (.int .u8 0) Tryd.underlying34 Tryd.underlying9 hi hz0 ⟨g, 0, none⟩ l.length cap0 (l.map cellOf) (by simp [hz1]) (hraw.cells (g := g) rfl) s (by omega) (by omega) (by rw [hz2]; exact growslice_fits (by omega) (by omega))
        have he := hr.symm.trans hr2
        simp only [Result.ok.injEq, Value.slice.injEq] at he
        obtain ⟨⟨rfl, _, rfl⟩, _⟩ := he
        intro k hk
        right
        simp only [Value.ownBlock, Option.some.injEq] at hk
        omega
/-- The same, at a step of a region that draws its order. -/
theorem step_append_str {w : World} {ops : Array Oper} {o : Oper} {a : Act} {K : Act → World → Prop} {Q : Exit → Act → World → Prop} {E : Prop} (hgd : o.guard = none) (sl x : Operand)
    (ho : o.op = .call { callee := .builtin .append, args := #[sl, x], argTypes := #[34, 9] })
    (base : Nat) (v : Value) (l : List UInt8) (hs : a.eval sl = v) (hown : Owns w base v l) (s : ByteArray) (hx : a.eval x = .string s) (hl : l.length + s.size ≤ 100000000000) (hbase : base ≤ w.heap.size)
    (h : ∀ ao cap w', Owns w' base (.slice ao (l.length + s.size) cap) (l ++ s.data.toList) → w.grownBy w' v.ownBlock →
      (∀ k, (Value.slice ao (l.length + s.size) cap).ownBlock = some k → v.ownBlock = some k ∨ w.heap.size ≤ k) → K (a.put o.dst (.slice ao (l.length + s.size) cap)) w') :
    if Region.wanted o (yielded ops a.tmps) = true then Oper.wp Tryd.prog o a w K Q else E := by
  have hw : Region.wanted o (yielded ops a.tmps) = true := by simp [Region.wanted, hgd]
  rw [if_pos hw]
  obtain ⟨ao, cap, w', hr, h2, h3, h4⟩ := run_append_str_lies w base v l hown s hl hbase o.type
  unfold Oper.wp execOp
  simp only [ho, resolve, invoke, builtin, Sem.run_bind, Sem.run_pure, Result.andThen_ok, List.map_toArray, List.map_cons, List.map_nil, hs, hx, hr]
  exact h ao cap w' h2 h3 h4

/-- Where a builder's four cells stand: in which block, behind how many cells, what stands around them. -/
structure Seat where
  b : Nat
  o : Nat
  pre : List Value
  post : List Value
  ty : TypeId
  ho : pre.length = o
  ht : ty ≠ 5
/-- A block with four cells at a seat. -/
def Seat.obj (S : Seat) (x y u v : Value) : Obj := .cells (S.pre ++ x :: y :: u :: v :: S.post).toArray S.ty (0, 0)
set_option linter.unusedSimpArgs false in
theorem Seat.get (S : Seat) (x y u v : Value) : (S.pre ++ x :: y :: u :: v :: S.post).toArray[S.o]? = some x ∧ (S.pre ++ x :: y :: u :: v :: S.post).toArray[S.o + 1]? = some y ∧ (S.pre ++ x :: y :: u :: v :: S.post).toArray[S.o + 2]? = some u ∧ (S.pre ++ x :: y :: u :: v :: S.post).toArray[S.o + 3]? = some v := by
  obtain ⟨b, o, pre, post, ty, rfl, ht⟩ := S
  simp
section
variable {w : World} {S : Seat} {x y u v : Value} (z : Value) (h : w.heap[S.b]? = some (S.obj x y u v))
include h
theorem Seat.put0 : (w.setCell ⟨S.b, S.o, none⟩ z).heap[S.b]? = some (S.obj z y u v) := by
  obtain ⟨b, o, pre, post, ty, rfl, ht⟩ := S
  rw [heap_setCell_same w b pre.length _ _ z h]
  simp [Seat.obj]
theorem Seat.put1 : (w.setCell ⟨S.b, S.o + 1, none⟩ z).heap[S.b]? = some (S.obj x z u v) := by
  obtain ⟨b, o, pre, post, ty, rfl, ht⟩ := S
  rw [heap_setCell_same w b (pre.length + 1) _ _ z h]
  simp [Seat.obj]
theorem Seat.put2 : (w.setCell ⟨S.b, S.o + 2, none⟩ z).heap[S.b]? = some (S.obj x y z v) := by
  obtain ⟨b, o, pre, post, ty, rfl, ht⟩ := S
  rw [heap_setCell_same w b (pre.length + 2) _ _ z h]
  simp [Seat.obj]
theorem Seat.put3 : (w.setCell ⟨S.b, S.o + 3, none⟩ z).heap[S.b]? = some (S.obj x y u z) := by
  obtain ⟨b, o, pre, post, ty, rfl, ht⟩ := S
  rw [heap_setCell_same w b (pre.length + 3) _ _ z h]
  simp [Seat.obj]
end
/-- Where a builder lies: its seat, its two rows. -/
structure BL where
  se : Seat
  rv : Value
  fv : Value
/-- Its blocks. -/
def OwnB (L : BL) (k : Nat) : Prop := k = L.se.b ∨ L.rv.ownBlock = some k ∨ L.fv.ownBlock = some k
/-- A builder that holds this lies there. -/
structure Built (w : World) (base : Nat) (L : BL) (s : St) : Prop where
  box : w.heap[L.se.b]? = some (L.se.obj L.rv L.fv (.int .i64 (s.n : Int)) (.string s.last))
  rows : Owns w base L.rv s.rows
  foot : Owns w base L.fv s.foot
  apart : ∀ k, L.rv.ownBlock = some k → L.fv.ownBlock ≠ some k
  low : base ≤ L.se.b
/-- What a builder holds that added what it may. -/
structure Sound (s : St) : Prop where
  foot : s.foot.length = (s.n + 3) / 4 * 4
  rows : s.rows.length ≤ 2075 * s.n
  last : s.last.size ≤ 1024
theorem sound0 : Sound st0 := ⟨rfl, by simp [st0], by simp [st0]⟩
theorem Sound.step {s : St} (h : Sound s) {e : En} (he : err s e = 0) : Sound (step s e) := by
  obtain ⟨h1, h2⟩ := err_size he
  refine ⟨?_, ?_, h1⟩
  · show (ftn s).length = (s.n + 1 + 3) / 4 * 4
    have := h.foot
    unfold ftn
    split
    · rw [List.length_append, Nm.big_length]; omega
    · omega
  · show (s.rows ++ one s e).length ≤ 2075 * (s.n + 1)
    have := h.rows
    have := (one_length s e).2
    rw [List.length_append]
    omega
theorem sound_run : ∀ (l : List En) (s : St), Sound s → goodb s l = true → Sound (run s l)
  | [], s, h, _ => h
  | e :: l, s, h, hg => by
    rw [goodb, Bool.and_eq_true, decide_eq_true_eq] at hg
    rw [run_cons]
    exact sound_run l _ (h.step hg.1) hg.2
section
variable {w w' : World} {base : Nat} {L : BL} {s : St}
theorem Built.own_lt (h : Built w base L s) {k : Nat} (hk : OwnB L k) : k < w.heap.size := by
  rcases hk with rfl | hk | hk
  · exact heap_lt h.box
  · exact ownsRow_lt h.rows hk
  · exact ownsRow_lt h.foot hk
theorem Built.own_ge (h : Built w base L s) {k : Nat} (hk : OwnB L k) : base ≤ k := by
  rcases hk with rfl | hk | hk
  · exact h.low
  · exact (World.ownsRow.lt h.rows k hk).1
  · exact (World.ownsRow.lt h.foot k hk).1
theorem Built.frame (h : Built w base L s) (hk : ∀ k, OwnB L k → w'.heap[k]? = w.heap[k]?) : Built w' base L s where
  box := (hk _ (Or.inl rfl)).trans h.box
  rows := ownsRow_frame h.rows fun k e => hk k (Or.inr (Or.inl e))
  foot := ownsRow_frame h.foot fun k e => hk k (Or.inr (Or.inr e))
  apart := h.apart
  low := h.low
theorem Built.below (h : Built w base L s) (hb : Below w.heap.size w w') : Built w' base L s := h.frame fun k ho => hb.block k (h.own_lt ho)
theorem Built.drew (h : Built w base L s) : Built w.drew base L s := h.frame fun _ _ => rfl
theorem Built.turned {P : Nat → Prop} (h : Built w base L s) (ht : Turns P w w') (hP : ∀ k, OwnB L k → ¬ P k) : Built w' base L s := h.frame fun k hk => ht.block k (h.own_lt hk) (hP k hk)
/-- Its box is none of its rows. -/
theorem Built.box_ne (h : Built w base L s) : L.rv.ownBlock ≠ some L.se.b ∧ L.fv.ownBlock ≠ some L.se.b := by
  constructor <;> intro e
  · obtain ⟨cs, hc⟩ := ownsRow_obj h.rows e
    exact obj_cells_ne h.box hc L.se.ht rfl
  · obtain ⟨cs, hc⟩ := ownsRow_obj h.foot e
    exact obj_cells_ne h.box hc L.se.ht rfl
theorem Built.c0 (h : Built w base L s) : w.cell? ⟨L.se.b, L.se.o, none⟩ = some L.rv := by rw [cell_of h.box]; exact (L.se.get _ _ _ _).1
theorem Built.c1 (h : Built w base L s) : w.cell? ⟨L.se.b, L.se.o + 1, none⟩ = some L.fv := by rw [cell_of h.box]; exact (L.se.get _ _ _ _).2.1
theorem Built.c2 (h : Built w base L s) : w.cell? ⟨L.se.b, L.se.o + 2, none⟩ = some (.int .i64 (s.n : Int)) := by rw [cell_of h.box]; exact (L.se.get _ _ _ _).2.2.1
theorem Built.c3 (h : Built w base L s) : w.cell? ⟨L.se.b, L.se.o + 3, none⟩ = some (.string s.last) := by rw [cell_of h.box]; exact (L.se.get _ _ _ _).2.2.2
theorem Built.soft (h : Built w base L s) (k : Nat) : w.frozen? ⟨L.se.b, L.se.o + k, none⟩ = false := unfrozen_of h.box _
theorem Built.soft0 (h : Built w base L s) : w.frozen? ⟨L.se.b, L.se.o, none⟩ = false := unfrozen_of h.box _
theorem Built.shapes (h : Built w base L s) : (∃ a c, L.rv = .slice a s.rows.length c) ∧ ∃ a c, L.fv = .slice a s.foot.length c :=
  ⟨by obtain ⟨a, c, e⟩ := row_any h.rows; exact ⟨a, c, e⟩, by obtain ⟨a, c, e⟩ := row_any h.foot; exact ⟨a, c, e⟩⟩
end
/-- From w to w' a builder has come to hold s'. -/
def GoesB (base : Nat) (L : BL) (w : World) (s' : St) (w' : World) : Prop :=
  ∃ L', L'.se = L.se ∧ Built w' base L' s' ∧ Turns (OwnB L) w w' ∧ ∀ k, OwnB L' k → OwnB L k ∨ w.heap.size ≤ k
theorem GoesB.refl {w : World} {base : Nat} {L : BL} {s : St} (h : Built w base L s) : GoesB base L w s w := ⟨L, rfl, h, Turns.refl _ _, fun _ h => Or.inl h⟩
theorem GoesB.below {w w1 w2 : World} {base : Nat} {L : BL} {s : St} (h : GoesB base L w s w1) (hb : Below w1.heap.size w1 w2) : GoesB base L w s w2 := by
  obtain ⟨L', e, h1, h2, h3⟩ := h
  exact ⟨L', e, h1.below hb, h2.below hb, h3⟩
/-- Two steps of a builder, one behind the other. -/
theorem GoesB.trans {w w1 w2 : World} {base : Nat} {L L1 : BL} {s : St} (e1 : L1.se = L.se) (h2 : Turns (OwnB L) w w1) (h3 : ∀ k, OwnB L1 k → OwnB L k ∨ w.heap.size ≤ k) (k : GoesB base L1 w1 s w2) : GoesB base L w s w2 := by
  obtain ⟨L2, f1, g1, g2, g3⟩ := k
  refine ⟨L2, f1.trans e1, g1, h2.trans g2 h3, fun k hk => ?_⟩
  rcases g3 k hk with h | h
  · exact h3 k h
  · exact Or.inr (Nat.le_trans h2.size h)
/-- Its rows have grown, and are stored. -/
theorem Built.grow_rows {w w1 : World} {base : Nat} {L : BL} {s : St} (h : Built w base L s) {v : Value} {l : List UInt8} (hown : Owns w1 base v l) (hg : w.grownBy w1 L.rv.ownBlock) (hb : ∀ k, v.ownBlock = some k → L.rv.ownBlock = some k ∨ w.heap.size ≤ k) :
    GoesB base L w { s with rows := l } (w1.setCell ⟨L.se.b, L.se.o, none⟩ v) := by
  obtain ⟨n1, n2⟩ := h.box_ne
  have hlt : L.se.b < w.heap.size := heap_lt h.box
  have hbox1 := (hg.block L.se.b hlt (Ne.symm n1)).trans h.box
  have hsv : ∀ k, v.ownBlock = some k → k ≠ L.se.b := fun k hk e => by
    subst e
    rcases hb _ hk with e | e
    · exact n1 e
    · omega
  have hf1 : ∀ k, L.fv.ownBlock = some k → w1.heap[k]? = w.heap[k]? := fun k hk => hg.block k (ownsRow_lt h.foot hk) (fun e => h.apart k e.symm hk)
  refine ⟨{ L with rv := v }, rfl, ⟨?_, ?_, ?_, ?_, h.low⟩, ?_, ?_⟩
  · exact L.se.put0 v hbox1
  · exact ownsRow_frame hown fun k hk => setCell_kept _ _ _ (hsv k hk)
  · refine ownsRow_frame h.foot fun k hk => ?_
    rw [setCell_kept _ _ _ (fun e => n2 (by rw [hk]; exact congrArg some e))]
    exact hf1 k hk
  · intro k hk e
    rcases hb k hk with h1 | h1
    · exact h.apart k h1 e
    · have := ownsRow_lt h.foot e; omega
  · refine (Turns.of_grown (P := OwnB L) hg (fun k e => Or.inr (Or.inl e))).trans (Turns.of_setCell (P := fun k => k = L.se.b) _ _ _ rfl) (fun x hx => Or.inl (Or.inl hx))
  · intro k hk
    rcases hk with hk | hk | hk
    · exact Or.inl (Or.inl hk)
    · exact (hb k hk).imp (fun e => Or.inr (Or.inl e)) id
    · exact Or.inl (Or.inr (Or.inr hk))
/-- Its foot has grown, and is stored. -/
theorem Built.grow_foot {w w1 : World} {base : Nat} {L : BL} {s : St} (h : Built w base L s) {v : Value} {l : List UInt8} (hown : Owns w1 base v l) (hg : w.grownBy w1 L.fv.ownBlock) (hb : ∀ k, v.ownBlock = some k → L.fv.ownBlock = some k ∨ w.heap.size ≤ k) :
    GoesB base L w { s with foot := l } (w1.setCell ⟨L.se.b, L.se.o + 1, none⟩ v) := by
  obtain ⟨n1, n2⟩ := h.box_ne
  have hlt : L.se.b < w.heap.size := heap_lt h.box
  have hbox1 := (hg.block L.se.b hlt (Ne.symm n2)).trans h.box
  have hsv : ∀ k, v.ownBlock = some k → k ≠ L.se.b := fun k hk e => by
    subst e
    rcases hb _ hk with e | e
    · exact n2 e
    · omega
  have hf1 : ∀ k, L.rv.ownBlock = some k → w1.heap[k]? = w.heap[k]? := fun k hk => hg.block k (ownsRow_lt h.rows hk) (fun e => h.apart k hk e.symm)
  refine ⟨{ L with fv := v }, rfl, ⟨?_, ?_, ?_, ?_, h.low⟩, ?_, ?_⟩
  · exact L.se.put1 v hbox1
  · refine ownsRow_frame h.rows fun k hk => ?_
    rw [setCell_kept _ _ _ (fun e => n1 (by rw [hk]; exact congrArg some e))]
    exact hf1 k hk
  · exact ownsRow_frame hown fun k hk => setCell_kept _ _ _ (hsv k hk)
  · intro k hk e
    rcases hb k e with h1 | h1
    · exact h.apart k hk h1
    · have := ownsRow_lt h.rows hk; omega
  · refine (Turns.of_grown (P := OwnB L) hg (fun k e => Or.inr (Or.inr e))).trans (Turns.of_setCell (P := fun k => k = L.se.b) _ _ _ rfl) (fun x hx => Or.inl (Or.inl hx))
  · intro k hk
    rcases hk with hk | hk | hk
    · exact Or.inl (Or.inl hk)
    · exact Or.inl (Or.inr (Or.inl hk))
    · exact (hb k hk).imp (fun e => Or.inr (Or.inr e)) id
/-- A number, or a text, of its own is stored. -/
theorem Built.set_n {w : World} {base : Nat} {L : BL} {s : St} (h : Built w base L s) (n : Nat) : GoesB base L w { s with n := n } (w.setCell ⟨L.se.b, L.se.o + 2, none⟩ (.int .i64 (n : Int))) := by
  obtain ⟨n1, n2⟩ := h.box_ne
  refine ⟨L, rfl, ⟨?_, ?_, ?_, h.apart, h.low⟩, Turns.of_setCell (P := OwnB L) _ _ _ (Or.inl rfl), fun k hk => Or.inl hk⟩
  · exact L.se.put2 _ h.box
  · exact ownsRow_frame h.rows fun k hk => setCell_kept _ _ _ (fun e => n1 (by rw [hk]; exact congrArg some e))
  · exact ownsRow_frame h.foot fun k hk => setCell_kept _ _ _ (fun e => n2 (by rw [hk]; exact congrArg some e))
theorem Built.set_last {w : World} {base : Nat} {L : BL} {s : St} (h : Built w base L s) (x : ByteArray) : GoesB base L w { s with last := x } (w.setCell ⟨L.se.b, L.se.o + 3, none⟩ (.string x)) := by
  obtain ⟨n1, n2⟩ := h.box_ne
  refine ⟨L, rfl, ⟨?_, ?_, ?_, h.apart, h.low⟩, Turns.of_setCell (P := OwnB L) _ _ _ (Or.inl rfl), fun k hk => Or.inl hk⟩
  · exact L.se.put3 _ h.box
  · exact ownsRow_frame h.rows fun k hk => setCell_kept _ _ _ (fun e => n1 (by rw [hk]; exact congrArg some e))
  · exact ownsRow_frame h.foot fun k hk => setCell_kept _ _ _ (fun e => n2 (by rw [hk]; exact congrArg some e))

end Go.Proofs.YtphoihkbdogkhaaDoor.Bn.Bo

/- The walks of block.isRestart, placeRow, common, Count, Size, Finish. -/
namespace Go.Proofs.YtphoihkbdogkhaaDoor.Bn.Bo
set_option maxRecDepth 100000
open Go Go.RowKit
set_option linter.unusedVariables false

theorem isRestart_any (n : Nat) (w : World) (hn : n ≤ 1000000000) :
    Calls Tryd.prog 55 #[.int .i64 (n : Int)] w fun e w' => e = .returned (.bool (decide (n % 4 = 0))) ∧ w = w' := by
  by_cases h : n % 4 = 0
  · have h4 : ((n : Int) % 4 == 0) = true := by simp; omega
    have h5 : (Int.tmod (n : Int) 4 == 0) = true := by rw [Int.tmod_eq_emod_of_nonneg (by omega)]; exact h4
    go_enter Tryd.func55, Tryd.ntmps55
    go_wp2_with fail
    go_ret
    rw [decide_eq_true h]
    exact ⟨rfl, rfl⟩
  · have h4 : ((n : Int) % 4 == 0) = false := by simp; omega
    have h5 : (Int.tmod (n : Int) 4 == 0) = false := by rw [Int.tmod_eq_emod_of_nonneg (by omega)]; exact h4
    go_enter Tryd.func55, Tryd.ntmps55
    go_wp2_with fail
    go_ret
    rw [decide_eq_false h]
    exact ⟨rfl, rfl⟩

def place (n : Nat) : ByteArray := ⟨(Nm.big n 4).toArray⟩
theorem place_size (n : Nat) : (place n).size = 4 := by show (Nm.big n 4).toArray.size = 4; rw [List.size_toArray, Nm.big_length]
theorem place_list (n : Nat) : (place n).data.toList = Nm.big n 4 := rfl
theorem placeRow_any (n : Nat) (w : World) (hn : n < 4294967296) :
    Calls Tryd.prog 56 #[.int .i64 (n : Int)] w (Gives (.string (place n)) w) := by
  have hb : Told (bigL n 4) (bigE n 4) = Told (Nm.big n 4) 0 := by
    have h1 : Nm.wid n ≤ 4 := (Nm.wid_le (by omega) (by omega)).2 (by simpa using hn)
    have e1 : bigL n 4 = Nm.big n 4 := by unfold bigL; rw [if_neg (by omega), if_neg (by rw [Int.toNat_natCast]; omega)]; rfl
    have e2 : bigE n 4 = 0 := by unfold bigE; rw [if_neg (by omega), if_neg (by rw [Int.toNat_natCast]; omega)]
    rw [e1, e2]
  have HB : Hid (∀ W, Calls Tryd.prog 39 #[.int .u64 (n : Int), .int .i64 4] W (Told (Nm.big n 4) 0 W)) := Lib.hid (fun W => by
    have := big_any (n : Int) 4 W (by omega) (by omega)
    rwa [hb] at this)
  clear hb
  unfold place
  generalize Nm.big n 4 = X at *
  go_enter Tryd.func56, Tryd.ntmps56
  go_wp2_with fail
  refine (HB.out _).mono ?_
  rintro e w1 ⟨rfl, hb⟩
  go_wp2_with fail
  go_ret
  exact ⟨rfl, hb⟩

set_option maxHeartbeats 1000000 in
theorem common_any (a b : ByteArray) (w : World) (ha : a.size ≤ 281474976710656) (hb : b.size ≤ 281474976710656) :
    Calls Tryd.prog 57 #[.string a, .string b] w (Gives (.int .i64 (cm a.data.toList b.data.toList : Int)) w) := by
  obtain ⟨m, hm⟩ : ∃ m, m = min a.size b.size := ⟨_, rfl⟩
  have hma : m ≤ a.size := by omega
  have hmb : m ≤ b.size := by omega
  have hmi : min (a.size : Int) (b.size : Int) = (m : Int) := by omega
  have HX : Hid (∀ i (h : i < m) (h1 : i < a.size) (h2 : i < b.size), (∀ j, j < i → a.data.toList[j]? = b.data.toList[j]?) → a[i] ≠ b[i] → cm a.data.toList b.data.toList = i) := Lib.hid (fun i h h1 h2 hs hne => by
    refine cm_eq (by rw [len]; omega) (by rw [len]; omega) hs (Or.inr (Or.inr ?_))
    rw [List.getElem?_eq_getElem (by rw [len]; omega), List.getElem?_eq_getElem (by rw [len]; omega)]
    intro e
    simp only [Option.some.injEq] at e
    exact hne e)
  have HY : Hid ((∀ j, j < m → a.data.toList[j]? = b.data.toList[j]?) → cm a.data.toList b.data.toList = m) := Lib.hid (fun hs => by
    refine cm_eq (by rw [len]; omega) (by rw [len]; omega) hs ?_
    rw [len, len]; omega)
  have HM := Lib.hid hm; clear hm
  generalize cm a.data.toList b.data.toList = C at *
  go_enter Tryd.func57, Tryd.ntmps57
  go_wp2_with fail
  clear hmi
  go_loopw [13] (fun i wr => ∃ k : Nat, k ≤ m ∧ i = .int .i64 k ∧ Hid (∀ j, j < k → a.data.toList[j]? = b.data.toList[j]?) ∧ Hid (Below w.heap.size w wr)) (fun i _ => m - (intOf i).toNat)
  case atStart => exact ⟨0, Nat.zero_le _, rfl, Lib.hid (fun j hj => by omega), Lib.hid (Below.refl _ _)⟩
  case round =>
    obtain ⟨k, hk, rfl, HS, HB⟩ := hrel
    by_cases hlt : k < m
    · have h1 : k < a.size := by omega
      have h2 : k < b.size := by omega
      have ia := index_byte a k h1
      have ib := index_byte b k h2
      have HE : Hid (a[k] = b[k] → a.data.toList[k]? = b.data.toList[k]?) := Lib.hid (fun e => by
        rw [List.getElem?_eq_getElem (by rw [len]; omega), List.getElem?_eq_getElem (by rw [len]; omega)]
        exact congrArg some e)
      have HN := Lib.hid (HX.out k hlt h1 h2 HS.out)
      generalize a[k] = x at *
      generalize b[k] = y at *
      by_cases e : x = y
      · have HEE := Lib.hid (HE.out e)
        have hxy : ((x.toNat : Int) == (y.toNat : Int)) = true := by rw [e]; simp
        clear HN HE
        subst e
        go_wp2_with fail
        go_region
        go_wp2_with fail
        go_roundw
        case rel => exact ⟨k + 1, by omega, by go_num, Lib.hid (fun j hj => by
          by_cases h : j < k
          · exact HS.out j h
          · obtain rfl : j = k := by omega
            exact HEE.out), Lib.hid HB.out.drew⟩
        case measure => simp [intOf]; omega
      · have hxy : ((x.toNat : Int) == (y.toNat : Int)) = false := by
          have : x.toNat ≠ y.toNat := fun h => e (UInt8.toNat.inj h)
          simp; omega
        have HC := Lib.hid (HN.out e)
        clear HN HE e
        go_wp2_with fail
        go_region
        go_wp2_with fail
        go_ret
        rw [HC.out]
        exact ⟨rfl, HB.out.drew⟩
    · obtain rfl : k = m := by omega
      have HC := Lib.hid (HY.out HS.out)
      go_wp2
      go_ret
      rw [HC.out]
      exact ⟨rfl, HB.out⟩
section
variable {w : World} {base : Nat} {L : BL} {s : St}
theorem count_any (h : Built w base L s) :
    Calls Tryd.prog 49 #[.pointer (some ⟨L.se.b, L.se.o, none⟩)] w fun e w' => e = .returned (.int .i64 (s.n : Int)) ∧ w' = w := by
  have c2 := h.c2
  clear h
  go_enter Tryd.func49, Tryd.ntmps49
  go_wp2_with fail
  go_ret
  exact ⟨rfl, rfl⟩
theorem size_any (h : Built w base L s) (h1 : s.rows.length ≤ 100000000000) (h2 : s.foot.length ≤ 100000000000) :
    Calls Tryd.prog 31 #[.pointer (some ⟨L.se.b, L.se.o, none⟩)] w (Gives (.int .i64 ((fin s).length : Int)) w) := by
  obtain ⟨⟨a, ca, ea⟩, b, cb, eb⟩ := h.shapes
  have c0 := h.c0
  have c1 := h.c1
  rw [ea] at c0
  rw [eb] at c1
  have HL : Hid (((fin s).length : Int) = s.rows.length + s.foot.length + 4) := Lib.hid (by rw [fin_length]; omega)
  rw [HL.out]
  clear h ea eb HL
  generalize s.rows.length = x at *
  generalize s.foot.length = y at *
  go_enter Tryd.func31, Tryd.ntmps31
  go_wp2_with fail
  go_region
  go_wp2_with fail
  go_ret
  exact ⟨rfl, (Below.refl _ _).drew⟩
end
theorem count_nil (w : World) : Calls Tryd.prog 49 #[.pointer none] w fun e w' => e = .returned (.int .i64 0) ∧ w' = w := by
  go_enter Tryd.func49, Tryd.ntmps49
  go_wp2_with fail
  go_ret
  exact ⟨rfl, rfl⟩
theorem size_nil (w : World) : Calls Tryd.prog 31 #[.pointer none] w fun e w' => e = .returned (.int .i64 0) ∧ w' = w := by
  go_enter Tryd.func31, Tryd.ntmps31
  go_wp2_with fail
  go_ret
  exact ⟨rfl, rfl⟩
theorem finish_nil (w : World) : Calls Tryd.prog 51 #[.pointer none] w fun e w' => e = .returned (.string ⟨#[]⟩) ∧ w' = w := by
  go_enter Tryd.func51, Tryd.ntmps51
  go_wp2_with fail
  go_ret
  exact ⟨rfl, rfl⟩
theorem add_nil (k v : ByteArray) (w : World) : Calls Tryd.prog 28 #[.pointer none, .string k, .string v] w fun e w' => e = .returned (.int .i64 2) ∧ w' = w := by
  go_enter Tryd.func28, Tryd.ntmps28
  go_wp2_with fail
  go_ret
  exact ⟨rfl, rfl⟩
end Go.Proofs.YtphoihkbdogkhaaDoor.Bn.Bo

/- The walk of block's readEntry. -/
namespace Go.Proofs.YtphoihkbdogkhaaDoor.Bn.Bo
set_option maxRecDepth 100000
open Go Go.RowKit
set_option linter.unusedVariables false

/-- A slice of bytes that lies in memory. -/
def SeesB (w : World) (v : Value) (p : List UInt8) : Prop :=
  ∃ (a : Option Addr) (cap : Nat), v = .slice a p.length cap ∧ p.length ≤ cap ∧ (a = none → cap = 0) ∧ (∀ A, a = some A → ∃ b, A = ⟨b, 0, none⟩ ∧ (∃ cs fz, w.heap[b]? = some (.cells cs 5 fz)) ∧ ∀ (j : Nat) (u : Value), (p.map cellOf)[j]? = some u → w.cell? ⟨b, j, none⟩ = some u)
theorem SeesB.below {w w' : World} {v : Value} {p : List UInt8} (h : SeesB w v p) (hb : Below w.heap.size w w') : SeesB w' v p := by
  obtain ⟨a, cap, e, h1, h0, h2⟩ := h
  refine ⟨a, cap, e, h1, h0, fun A hA => ?_⟩
  obtain ⟨b, e2, ⟨cs, fz, hh⟩, hc⟩ := h2 A hA
  have hlt := heap_lt hh
  exact ⟨b, e2, ⟨cs, fz, (hb.block b hlt).trans hh⟩, fun j u hu => (hb.cell (p := ⟨b, j, none⟩) hlt).trans (hc j u hu)⟩
theorem SeesB.nil (w : World) : SeesB w (.slice none 0 0) [] := ⟨none, 0, rfl, Nat.le_refl _, fun _ => rfl, fun A h => by cases h⟩
theorem SeesB.of_owns {w : World} {base : Nat} {v : Value} {l : List UInt8} (h : Owns w base v l) : SeesB w v l := by
  have h' : w.ownsRow base 5 1 v l.length (l.map cellOf) := h
  rcases h'.2 with ⟨rfl, h0⟩ | ⟨g, cap, cur, rfl, hbg, hg, hnc, hcm, hcs, htake⟩
  · obtain rfl : l = [] := List.eq_nil_of_length_eq_zero h0
    exact SeesB.nil w
  · refine ⟨_, cap, rfl, hnc, (fun h => by cases h), fun A hA => ?_⟩
    simp only [Option.some.injEq] at hA
    subst hA
    refine ⟨g, rfl, ⟨_, _, hg⟩, fun j u hu => ?_⟩
    have := h'.cells (g := g) rfl j u hu
    rwa [add_none] at this
theorem SeesB.convert {w : World} {v : Value} {l : List UInt8} (h : SeesB w v l) : (convert 34 9 v).run Tryd.prog w = .ok (.string ⟨l.toArray⟩) w := by
  obtain ⟨a, cap, rfl, h1, h0, h2⟩ := h
  cases a with
  | none =>
    have hc := h0 rfl
    obtain rfl : l = [] := List.eq_nil_of_length_eq_zero (by omega)
    rw [run_convert_bytes_string w _ _ _ _ _ _ Tryd.underlying34 Tryd.underlying5 Tryd.underlying9]
    simp [Conv.bytesToString]
    rfl
  | some A =>
    obtain ⟨b, rfl, hlt, hc⟩ := h2 A rfl
    refine run_convert_bytes_back w _ _ _ _ _ _ Tryd.underlying34 Tryd.underlying5 Tryd.underlying9 ?_
    intro j hj
    rw [add_none]
    refine hc j _ ?_
    simp [List.getElem?_eq_getElem hj, cellOf]
/-- It lies still where other blocks have changed. -/
theorem SeesB.frame {w w' : World} {v : Value} {p : List UInt8} (h : SeesB w v p) (hf : ∀ (b : Nat) cs fz, w.heap[b]? = some (.cells cs 5 fz) → w'.heap[b]? = w.heap[b]?) : SeesB w' v p := by
  obtain ⟨a, cap, e, h1, h0, h2⟩ := h
  refine ⟨a, cap, e, h1, h0, fun A hA => ?_⟩
  obtain ⟨b, e2, ⟨cs, fz, hh⟩, hc⟩ := h2 A hA
  have hb := hf b cs fz hh
  exact ⟨b, e2, ⟨cs, fz, hb.trans hh⟩, fun j u hu => (World.cell?_of_block (a := ⟨b, j, none⟩) hb).trans (hc j u hu)⟩
/-- append(v[:n:n], r...): what was there is as it was. -/
theorem run_append_cut (w : World) (a : Option Addr) (cap : Nat) (p : List UInt8) (hs : SeesB w (.slice a p.length cap) p) (n : Nat) (hn : n ≤ p.length) (r : ByteArray) (hl : n + r.size ≤ 100000000000) (ty : TypeId) :
    ∃ a' c' w', (Builtin.append_ #[34, 9] ty #[.slice a n n, .string r]).run Tryd.prog w = .ok (.slice a' (n + r.size) c') w' ∧ SeesB w' (.slice a' (n + r.size) c') (p.take n ++ r.data.toList) ∧ Below w.heap.size w w' := by
  obtain ⟨i0, hi, hz0, hz1, hz2⟩ := info_parts info_u8
  obtain ⟨a2, cap2, e, h1, h0, h2⟩ := hs
  simp only [Value.slice.injEq, true_and] at e
  obtain ⟨rfl, rfl⟩ := e
  have hlen : (p.take n ++ r.data.toList).length = n + r.size := by rw [List.length_append, List.length_take, len]; omega
  by_cases hr0 : r.size = 0
  · obtain rfl := empty_of_size hr0
    have hz : ByteArray.empty.size = 0 := rfl
    refine ⟨a, n, w, ?_, ?_, Below.refl _ _⟩
    · cases a with
      | none => simp [Builtin.append_, run_underlying Tryd.underlying34, run_underlying Tryd.underlying9, sizeOf, typeInfo, hi, Builtin.lenOf, Builtin.firstCells]
      | some A =>
        obtain ⟨b, rfl, hlt, hc⟩ := h2 A rfl
        simp [Builtin.append_, run_underlying Tryd.underlying34, run_underlying Tryd.underlying9, sizeOf, typeInfo, hi, Builtin.lenOf, Builtin.firstCells, storeCells]
    · refine ⟨a, n, by rw [hlen], by rw [hlen, hz]; omega, fun h => by have := h0 h; omega, fun A hA => ?_⟩
      obtain ⟨b, e2, hlt, hc⟩ := h2 A hA
      refine ⟨b, e2, hlt, fun j u hu => hc j u ?_⟩
      have e3 : p.take n ++ ByteArray.empty.data.toList = p.take n := by simp
      rw [e3, List.map_take, List.getElem?_take] at hu
      split at hu
      · exact hu
      · cases hu
  · have hext : ∀ w' : World, w.heap.size ≤ w'.heap.size → True := fun _ _ => trivial
    cases a with
    | none =>
      have hc0 := h0 rfl
      obtain rfl : n = 0 := by omega
      obtain ⟨ao, c, w', e1, e2, e3, _⟩ := run_append_str_lies w w.heap.size (.slice none 0 0) [] (Owns.nil _ _) r (by simpa using hl) (Nat.le_refl _) ty
      refine ⟨ao, c, w', e1, SeesB.of_owns e2, ?_⟩
      exact ⟨e3.os, e3.tape, e3.output, e3.size, fun k hk => e3.block k hk (by simp [Value.ownBlock])⟩
    | some A =>
      obtain ⟨b, rfl, hlt, hc⟩ := h2 A rfl
      have hr := Lib.run_append_grow_string (P := Tryd.prog) (w := w) 34 9 ty 5 i0 (.int .u8 0) Tryd.underlying34 Tryd.underlying9 hi hz0 ⟨b, 0, none⟩ n n ((p.take n).map cellOf) (by simp [hz1]; omega) (fun j u hu => by
        rw [add_none]
        refine hc j u ?_
        rw [List.map_take, List.getElem?_take] at hu
        split at hu
        · exact hu
        · cases hu) r (by omega) (by omega) (by rw [hz2]; exact growslice_fits (by omega) (by omega))
      refine ⟨_, _, _, hr, ?_, ⟨rfl, rfl, rfl, by simp, fun k hk => Below.heap_alloc w.drew _ k hk⟩⟩
      have hge := grownCap_ge w (n + r.size) n 5
      refine ⟨_, _, by rw [hlen], by rw [hlen]; exact hge, (fun h => by cases h), fun A hA => ?_⟩
      simp only [Option.some.injEq] at hA
      subst hA
      refine ⟨w.heap.size, rfl, ⟨_, _, heap_alloc_new w.drew _⟩, fun j u hu => ?_⟩
      have hh := heap_alloc_new w.drew (.cells (((p.take n).map cellOf).toArray ++ (Lib.strCells r).toArray ++ Builtin.zeroCells (Value.int .u8 0).cells (grownCap w (n + r.size) n 5 - (n + r.size))) 5)
      have hcell := cell_of (k := j) hh
      refine Eq.trans ?_ (Eq.trans hcell ?_)
      · rfl
      · have hjl := (List.getElem?_eq_some_iff.1 hu).1
        rw [List.length_map] at hjl
        rw [Array.getElem?_append_left (by simp [Lib.strCells_length]; rw [hlen] at hjl; omega)]
        rw [List.map_append] at hu
        simp only [List.append_toArray, List.getElem?_toArray]
        exact hu
theorem wpList_append_cut {w : World} {ops : Array Oper} {rest : List Oper} {o : Oper} {a : Act} {Q : Exit → Act → World → Prop} (hgd : o.guard = none) (s x : Operand)
    (ho : o.op = .call { callee := .builtin .append, args := #[s, x], argTypes := #[34, 9] })
    (ao : Option Addr) (cap : Nat) (p : List UInt8) (n : Nat) (hs : a.eval s = .slice ao n n) (hsee : SeesB w (.slice ao p.length cap) p) (hn : n ≤ p.length) (r : ByteArray) (hx : a.eval x = .string r) (hl : n + r.size ≤ 100000000000)
    (h : ∀ a' c' w', SeesB w' (.slice a' (n + r.size) c') (p.take n ++ r.data.toList) → Below w.heap.size w w' → wpList Tryd.prog ops Q rest (a.put o.dst (.slice a' (n + r.size) c')) w') : wpList Tryd.prog ops Q (o :: rest) a w := by
  refine wpList_plain hgd fun K hK => ?_
  obtain ⟨a', c', w', hr, h2, h3⟩ := run_append_cut w ao cap p hsee n hn r hl o.type
  unfold Oper.wp execOp
  simp only [ho, resolve, invoke, builtin, Sem.run_bind, Sem.run_pure, Result.andThen_ok, List.map_toArray, List.map_cons, List.map_nil, hs, hx, hr]
  exact hK _ _ (h a' c' w' h2 h3)

/-- What readEntry answers, where it reads none. -/
def noE : Value := .tuple #[.agg #[.slice none 0 0, .string ⟨#[]⟩], .int .i64 0, .bool false]
/-- An entry was read, or none. -/
def ERead (o : Option (En × Nat)) (w : World) (e : Ending) (w' : World) : Prop :=
  Below w.heap.size w w' ∧ match o with
  | none => e = .returned noE
  | some (en, k) => ∃ a c, e = .returned (.tuple #[.agg #[.slice a en.key.size c, .string en.val], .int .i64 (k : Int), .bool true]) ∧ SeesB w' (.slice a en.key.size c) en.key.data.toList

abbrev set2 (w : World) (b : Nat) (x y : Value) : World := (w.setCell ⟨b, 0, none⟩ x).setCell ⟨b, 1, none⟩ y
theorem set2_heap {w : World} {b : Nat} {x0 y0 : Value} (x y : Value) {t : TypeId} (h : w.heap[b]? = some (.cells #[x0, y0] t (0, 0))) : (set2 w b x y).heap[b]? = some (.cells #[x, y] t (0, 0)) := by
  have h1 := heap_setCell_same w b 0 _ _ x h
  exact heap_setCell_same _ b 1 _ _ y h1
theorem set2_below {w0 w : World} {B b : Nat} (x y : Value) (h : Below B w0 w) (hb : B ≤ b) : Below B w0 (set2 w b x y) :=
  (h.setCell (p := ⟨b, 0, none⟩) hb _).setCell (p := ⟨b, 1, none⟩) hb _
/-- The box of an answer under way. -/
structure Boxed (w0 : World) (x y : Value) (w' : World) : Prop where
  h : w'.heap[w0.heap.size]? = some (.cells #[x, y] 139 (0, 0))
  hb : Below w0.heap.size w0 w'
theorem Boxed.new (w : World) (x y : Value) : Boxed w x y (w.alloc (.cells #[x, y] 139)) := ⟨heap_alloc_new w _, (Below.refl _ _).alloc (Nat.le_refl _) _⟩
theorem Boxed.call {w0 w' w2 : World} {x y : Value} (h : Boxed w0 x y w') (hb : Below w'.heap.size w' w2) : Boxed w0 x y w2 := ⟨(hb.block _ (heap_lt h.h)).trans h.h, h.hb.trans (hb.mono h.hb.size)⟩
theorem Boxed.set {w0 w' : World} {x y : Value} (h : Boxed w0 x y w') (x' y' : Value) : Boxed w0 x' y' (set2 w' w0.heap.size x' y') := ⟨set2_heap _ _ h.h, set2_below _ _ h.hb (Nat.le_refl _)⟩
theorem Boxed.cells {w0 w' : World} {x y : Value} (h : Boxed w0 x y w') : w'.cell? ⟨w0.heap.size, 0, none⟩ = some x ∧ w'.cell? ⟨w0.heap.size, 1, none⟩ = some y ∧ w'.frozen? ⟨w0.heap.size, 0, none⟩ = false ∧ w'.frozen? ⟨w0.heap.size, 1, none⟩ = false :=
  ⟨by rw [cell_of h.h]; rfl, by rw [cell_of h.h]; rfl, unfrozen_of h.h 0, unfrozen_of h.h 1⟩
theorem size_mk (l : List UInt8) : (⟨l.toArray⟩ : ByteArray).size = l.length := by show l.toArray.size = _; simp

set_option maxHeartbeats 1000000 in
theorem readEntry_none (s : ByteArray) (a : Option Addr) (pl cap : Nat) (w : World) (hs : s.size ≤ 100000000) (hv : Nm.rv s.data.toList = none) :
    Calls Tryd.prog 98 #[.string s, .slice a pl cap] w (Gives noE w) := by
  have HV := Lib.hid (rvV_none hv)
  have hbx := Boxed.new w (.slice none 0 0) (.string ⟨#[]⟩)
  have HB := Lib.hid hbx; clear hbx hv
  go_enter Tryd.func98, Tryd.ntmps98
  go_wp2_with fail
  refine (readVar_any _ _ (by omega)).mono ?_
  rintro e w1 ⟨rfl, rfl⟩
  rw [HV.out]
  obtain ⟨c0, c1, f0, f1⟩ := HB.out.cells
  go_wp2_with fail
  exact bodyPost_ret (v := noE) (by simp [results, Tryd.results98, go_sem, noE]) rfl ⟨rfl, HB.out.hb⟩

set_option maxHeartbeats 1000000 in
theorem readEntry_less (s : ByteArray) (a : Option Addr) (pl cap n k : Nat) (w : World) (hs : s.size ≤ 100000000) (hv : Nm.rv s.data.toList = some (n, k)) (hpl : pl ≤ 100000000000) (h : (pl : Int) < n) :
    Calls Tryd.prog 98 #[.string s, .slice a pl cap] w (Gives noE w) := by
  have HV := Lib.hid (rvV_some hv)
  have hbx := Boxed.new w (.slice none 0 0) (.string ⟨#[]⟩)
  have hwr : IntKind.u64.wrap (pl : Int) = pl := by rw [IntKind.wrap_u64]; omega
  have HB := Lib.hid hbx; clear hbx hv
  go_enter Tryd.func98, Tryd.ntmps98
  go_wp2_with fail
  refine (readVar_any _ _ (by omega)).mono ?_
  rintro e w1 ⟨rfl, rfl⟩
  rw [HV.out]
  obtain ⟨c0, c1, f0, f1⟩ := HB.out.cells
  go_wp2_with fail
  exact bodyPost_ret (v := noE) (by simp [results, Tryd.results98, go_sem, noE]) rfl ⟨rfl, HB.out.hb⟩

set_option maxHeartbeats 1000000 in
theorem readEntry_key (s : ByteArray) (a : Option Addr) (pl cap n k : Nat) (w : World) (hs : s.size ≤ 100000000) (hv : Nm.rv s.data.toList = some (n, k)) (hpl : pl ≤ 100000000000) (h : ¬ (pl : Int) < n)
    (hr : rt (s.data.toList.drop k) 1024 = none) :
    Calls Tryd.prog 98 #[.string s, .slice a pl cap] w (Gives noE w) := by
  have HV := Lib.hid (rvV_some hv)
  have HR : Hid (rtV (s.data.toList.drop k) 1024 = noText) := Lib.hid (by unfold rtV; rw [hr])
  have hk := (Nm.row_rv hv).2.1
  rw [len] at hk
  have hki : (k : Int) ≤ s.size := by omega
  have hbx := Boxed.new w (.slice none 0 0) (.string ⟨#[]⟩)
  have hwr : IntKind.u64.wrap (pl : Int) = pl := by rw [IntKind.wrap_u64]; omega
  have HB := Lib.hid hbx; clear hbx hv hr hk
  go_enter Tryd.func98, Tryd.ntmps98
  go_wp2_with fail
  refine (readVar_any _ _ (by omega)).mono ?_
  rintro e w1 ⟨rfl, rfl⟩
  rw [HV.out]
  go_wp2_with fail
  refine (readText_any _ _ _ (by rw [ByteArray.size_extract]; omega) (by omega)).mono ?_
  rintro e w1 ⟨rfl, hb⟩
  rw [Lib.extract_to_end, HR.out]
  have HB1 := Lib.hid (HB.out.call hb)
  clear hb
  unfold noText
  obtain ⟨c0, c1, f0, f1⟩ := HB1.out.cells
  have HZ := Lib.hid (HB1.out.set (.slice none 0 0) (.string ⟨#[]⟩))
  go_wp2_with fail
  obtain ⟨d0, d1, -, -⟩ := HZ.out.cells
  exact bodyPost_ret (v := noE) (by simp [results, Tryd.results98, go_sem, noE, d0, d1]) rfl ⟨rfl, HZ.out.hb⟩

set_option maxHeartbeats 1000000 in
theorem readEntry_val (s : ByteArray) (a : Option Addr) (pl cap n k j : Nat) (r : List UInt8) (w : World) (hs : s.size ≤ 100000000) (hv : Nm.rv s.data.toList = some (n, k)) (hpl : pl ≤ 100000000000) (h : ¬ (pl : Int) < n)
    (hr : rt (s.data.toList.drop k) 1024 = some (r, j)) (hr2 : rt (s.data.toList.drop (k + j)) 1024 = none) :
    Calls Tryd.prog 98 #[.string s, .slice a pl cap] w (Gives noE w) := by
  have HV := Lib.hid (rvV_some hv)
  have HR : Hid (rtV (s.data.toList.drop k) 1024 = .tuple #[.string ⟨r.toArray⟩, .int .i64 (j : Int), .bool true]) := Lib.hid (by unfold rtV; rw [hr])
  have hkj : ((k + j : Nat) : Int) = (k : Int) + j := by omega
  have HR2 : Hid (rtV (s.data.toList.drop (k + j)) 1024 = noText) := Lib.hid (by unfold rtV; rw [hr2])
  have hk := (Nm.row_rv hv).2.1
  rw [len] at hk
  have hj := (txt_rt hr).2.1
  rw [List.length_drop, len] at hj
  have hki : (k : Int) ≤ s.size := by omega
  have hji : (k : Int) + j ≤ s.size := by omega
  have hbx := Boxed.new w (.slice none 0 0) (.string ⟨#[]⟩)
  have hwr : IntKind.u64.wrap (pl : Int) = pl := by rw [IntKind.wrap_u64]; omega
  have hnat : ((k : Int) + (j : Int)).toNat = k + j := by omega
  have HNT := Lib.hid hnat
  have HB := Lib.hid hbx; clear hbx hv hr hr2 hk hj hkj hnat
  go_enter Tryd.func98, Tryd.ntmps98
  go_wp2_with fail
  refine (readVar_any _ _ (by omega)).mono ?_
  rintro e w1 ⟨rfl, rfl⟩
  rw [HV.out]
  go_wp2_with fail
  refine (readText_any _ _ _ (by rw [ByteArray.size_extract]; omega) (by omega)).mono ?_
  rintro e w1 ⟨rfl, hb⟩
  rw [Lib.extract_to_end, HR.out]
  have HB1 := Lib.hid (HB.out.call hb)
  clear hb
  go_wp2_with fail
  refine (readText_any _ _ _ (by rw [ByteArray.size_extract]; omega) (by omega)).mono ?_
  rintro e w2 ⟨rfl, hb⟩
  rw [Lib.extract_to_end, HR2.out]
  have HB2 := Lib.hid (HB1.out.call hb)
  clear hb
  unfold noText
  obtain ⟨c0, c1, f0, f1⟩ := HB2.out.cells
  have HZ := Lib.hid (HB2.out.set (.slice none 0 0) (.string ⟨#[]⟩))
  go_wp2_with fail
  obtain ⟨d0, d1, -, -⟩ := HZ.out.cells
  exact bodyPost_ret (v := noE) (by simp [results, Tryd.results98, go_sem, noE, d0, d1]) rfl ⟨rfl, HZ.out.hb⟩

end Go.Proofs.YtphoihkbdogkhaaDoor.Bn.Bo

/- The walk of block's readEntry, where it reads one. -/
namespace Go.Proofs.YtphoihkbdogkhaaDoor.Bn.Bo
set_option maxRecDepth 100000
open Go Go.RowKit
set_option linter.unusedVariables false

/-- 'v[:n:n]'. -/
theorem slice_cut {w : World} {a : Option Addr} {cap : Nat} {p : List UInt8} (h : SeesB w (.slice a p.length cap) p) (n : Nat) (hn : n ≤ cap) :
    ∀ w' : World, (Instr.slice 34 (.slice a p.length cap) none (some (.int .u64 (n : Int))) (some (.int .u64 (n : Int)))).run Tryd.prog w' = .ok (.slice a n n) w' := by
  intro w'
  obtain ⟨i0, hi, hz0, hz1, hz2⟩ := info_parts info_u8
  obtain ⟨a2, c2, e, h1, h0, h2⟩ := h
  simp only [Value.slice.injEq, true_and] at e
  obtain ⟨rfl, rfl⟩ := e
  rw [run_slice_hm w' 34 a p.length cap (by kernel_rfl) .u64 .u64 n n (by omega) (by omega) (by omega)]
  have he : Tryd.prog.elem 34 = 5 := by kernel_rfl
  rw [he]
  have hs : (sizeOf 5).run Tryd.prog w' = .ok 1 w' := by simp [sizeOf, typeInfo, hi, hz1]
  rw [hs]
  simp only [Result.andThen, sliced, Int.toNat_natCast, Nat.sub_zero]
  cases a with
  | none => simp
  | some A =>
    obtain ⟨b, rfl, -, -⟩ := h2 A rfl
    simp [Addr.add]

set_option maxHeartbeats 1000000 in
theorem readEntry_ok (s : ByteArray) (a : Option Addr) (p : List UInt8) (cap n k j i : Nat) (r v : List UInt8) (w : World) (hs : s.size ≤ 100000000) (hsee : SeesB w (.slice a p.length cap) p) (hv : Nm.rv s.data.toList = some (n, k)) (hpl : p.length ≤ 10000000000) (h : ¬ (p.length : Int) < n)
    (hr : rt (s.data.toList.drop k) 1024 = some (r, j)) (hr2 : rt (s.data.toList.drop (k + j)) 1024 = some (v, i)) :
    Calls Tryd.prog 98 #[.string s, .slice a p.length cap] w (ERead (some (⟨⟨(p.take n ++ r).toArray⟩, ⟨v.toArray⟩⟩, k + j + i)) w) := by
  have HV := Lib.hid (rvV_some hv)
  obtain ⟨RB, hRB⟩ : ∃ RB : ByteArray, RB = ⟨r.toArray⟩ := ⟨_, rfl⟩
  have HRB := Lib.hid hRB
  have HRZ : Hid (RB.size = r.length) := Lib.hid (by rw [hRB, size_mk])
  have HRL : Hid (RB.data.toList = r) := Lib.hid (by rw [hRB])
  have HR : Hid (rtV (s.data.toList.drop k) 1024 = .tuple #[.string RB, .int .i64 (j : Int), .bool true]) := Lib.hid (by unfold rtV; rw [hr, hRB])
  have HR2 : Hid (rtV (s.data.toList.drop (k + j)) 1024 = .tuple #[.string ⟨v.toArray⟩, .int .i64 (i : Int), .bool true]) := Lib.hid (by unfold rtV; rw [hr2])
  have hk := (Nm.row_rv hv).2.1
  rw [len] at hk
  have hj := (txt_rt hr).2.1
  rw [List.length_drop, len] at hj
  have hi := (txt_rt hr2).2.1
  rw [List.length_drop, len] at hi
  have hrl := (txt_rt hr).2.2.2
  have hki : (k : Int) ≤ s.size := by omega
  have hji : (k : Int) + j ≤ s.size := by omega
  have hii : (k : Int) + j + i ≤ s.size := by omega
  have hbx := Boxed.new w (.slice none 0 0) (.string ⟨#[]⟩)
  have hwr : IntKind.u64.wrap (p.length : Int) = p.length := by rw [IntKind.wrap_u64]; omega
  have hcp : p.length ≤ cap := by
    obtain ⟨a2, c2, e, h1, -⟩ := hsee
    simp only [Value.slice.injEq] at e
    omega
  have hnc : (n : Int) ≤ cap := by omega
  have HNP : Hid (n ≤ p.length) := Lib.hid (by omega)
  have HNP0 : Hid (n ≤ p.length) := HNP
  have hrs : Hid (n + RB.size ≤ 100000000000) := Lib.hid (by rw [HRZ.out]; omega)
  have HSE := Lib.hid hsee
  have hsl := slice_cut hsee n (by omega)
  have HB := Lib.hid hbx; clear hRB; clear hbx hv hr hr2 hk hj hi hsee
  clear HNP
  generalize hPL : p.length = pl at *
  have HPL := Lib.hid hPL; clear hPL
  have HNL : Hid (n ≤ p.length) := Lib.hid (by rw [HPL.out]; exact HNP0.out)
  go_enter Tryd.func98, Tryd.ntmps98
  go_wp2_with fail
  refine (readVar_any _ _ (by omega)).mono ?_
  rintro e w1 ⟨rfl, rfl⟩
  rw [HV.out]
  go_wp2_with fail
  refine (readText_any _ _ _ (by rw [ByteArray.size_extract]; omega) (by omega)).mono ?_
  rintro e w1 ⟨rfl, hb⟩
  rw [Lib.extract_to_end, HR.out]
  have HB1 := Lib.hid (HB.out.call hb)
  clear hb
  go_wp2_with fail
  refine (readText_any _ _ _ (by rw [ByteArray.size_extract]; omega) (by omega)).mono ?_
  rintro e w2 ⟨rfl, hb⟩
  rw [Lib.extract_to_end, HR2.out]
  have HB2 := Lib.hid (HB1.out.call hb)
  clear hb
  go_wp2_with (at_builtin; go_must (refine wpList_append_cut rfl _ _ rfl a cap p n rfl ?c1 HNL.out RB rfl hrs.out ?_))
  case c1 => rw [HPL.out]; exact HSE.out.below HB2.out.hb
  intro a' c' w3 hsee3 hb3
  have HB3 := Lib.hid (HB2.out.call hb3)
  have hkz : (⟨(p.take n ++ r).toArray⟩ : ByteArray).size = n + RB.size := by
    rw [size_mk, HRZ.out, List.length_append, List.length_take]
    have := HNP0.out
    have := HPL.out
    omega
  have HKZ := Lib.hid hkz
  have HS3 : Hid (SeesB w3 (.slice a' (n + RB.size) c') (p.take n ++ r)) := Lib.hid (by rw [HRL.out] at hsee3; exact hsee3)
  clear hb3 hsee3 hkz
  generalize n + RB.size = kz at *
  obtain ⟨c0, c1, f0, f1⟩ := HB3.out.cells
  have HZ := Lib.hid (HB3.out.set (.slice a' kz c') (.string ⟨v.toArray⟩))
  go_wp2_with fail
  obtain ⟨d0, d1, -, -⟩ := HZ.out.cells
  refine bodyPost_ret (v := .tuple #[.agg #[.slice a' kz c', .string ⟨v.toArray⟩], .int .i64 ((k : Int) + j + i), .bool true]) (by simp [results, Tryd.results98, go_sem, d0, d1]) rfl ⟨HZ.out.hb, a', c', ?_, ?_⟩
  · dsimp only
    rw [HKZ.out]
    have e : ((k + j + i : Nat) : Int) = (k : Int) + j + i := by omega
    rw [e]
  · dsimp only
    rw [HKZ.out]
    refine HS3.out.frame fun b cs fz hb => ?_
    have hne : b ≠ w.heap.size := by
      intro e
      rw [e, HB3.out.h] at hb
      simp only [Option.some.injEq, Obj.cells.injEq] at hb
      exact absurd hb.2.1 (by decide)
    exact (setCell_kept _ _ _ hne).trans (setCell_kept _ _ _ hne)
end Go.Proofs.YtphoihkbdogkhaaDoor.Bn.Bo

/- The walk of block's readEntries. -/
namespace Go.Proofs.YtphoihkbdogkhaaDoor.Bn.Bo
set_option maxRecDepth 100000
open Go Go.RowKit
set_option linter.unusedVariables false

/-- readEntry, of every text of at most 10^8 bytes. -/
theorem readEntry_any (s : ByteArray) (a : Option Addr) (p : List UInt8) (cap : Nat) (w : World) (hs : s.size ≤ 100000000) (hsee : SeesB w (.slice a p.length cap) p) (hpl : p.length ≤ 10000000000) :
    Calls Tryd.prog 98 #[.string s, .slice a p.length cap] w (ERead (rdE s.data.toList p) w) := by
  have hno : ∀ {e w'}, Gives noE w e w' → ERead none w e w' := fun h => ⟨h.2, h.1⟩
  cases hv : Nm.rv s.data.toList with
  | none =>
    have e : rdE s.data.toList p = none := by unfold rdE; rw [hv]
    rw [e]
    exact (readEntry_none s a _ cap w hs hv).mono fun _ _ h => hno h
  | some x =>
    obtain ⟨n, k⟩ := x
    by_cases h : p.length < n
    · have e : rdE s.data.toList p = none := by unfold rdE; rw [hv]; simp only; rw [if_pos h]
      rw [e]
      exact (readEntry_less s a _ cap n k w hs hv (by omega) (by omega)).mono fun _ _ h => hno h
    · cases hr : rt (s.data.toList.drop k) 1024 with
      | none =>
        have e : rdE s.data.toList p = none := by unfold rdE; rw [hv]; simp only; rw [if_neg h, hr]
        rw [e]
        exact (readEntry_key s a _ cap n k w hs hv (by omega) (by omega) hr).mono fun _ _ h => hno h
      | some y =>
        obtain ⟨r, j⟩ := y
        cases hr2 : rt (s.data.toList.drop (k + j)) 1024 with
        | none =>
          have e : rdE s.data.toList p = none := by unfold rdE; rw [hv]; simp only; rw [if_neg h, hr]; simp only; rw [hr2]
          rw [e]
          exact (readEntry_val s a _ cap n k j r w hs hv (by omega) (by omega) hr hr2).mono fun _ _ h => hno h
        | some z =>
          obtain ⟨v, i⟩ := z
          have e : rdE s.data.toList p = some (⟨⟨(p.take n ++ r).toArray⟩, ⟨v.toArray⟩⟩, k + j + i) := by unfold rdE; rw [hv]; simp only; rw [if_neg h, hr]; simp only; rw [hr2]
          rw [e]
          exact readEntry_ok s a p cap n k j i r v w hs hsee hv hpl (by omega) hr hr2

/-- An entry that was read: its key as it lies, and what it is. -/
abbrev Row := Value × En
def cellsE (x : Row) : List Value := [x.1, .string x.2.val]
theorem info_entry : (Tryd.prog.info? 139).map (fun i => (i.zero, i.size, i.bytes)) = some (some (.agg #[.slice none 0 0, .string ⟨#[]⟩]), 2, 40) := by kernel_rfl
/-- Entries that a call laid, from a block on. -/
structure OwnsR (w : World) (base : Nat) (v : Value) (rs : List Row) : Prop where
  own : w.ownsRow base 139 2 v rs.length (rs.flatMap cellsE)
  sees : ∀ x ∈ rs, SeesB w x.1 x.2.key.data.toList
theorem OwnsR.nil (w : World) (base : Nat) : OwnsR w base (.slice none 0 0) [] := ⟨World.ownsRow_nil .., fun x hx => by cases hx⟩
theorem OwnsR.below {w w' : World} {base : Nat} {v : Value} {rs : List Row} (h : OwnsR w base v rs) (hb : Below w.heap.size w w') : OwnsR w' base v rs :=
  ⟨ownsRow_below h.own hb, fun x hx => (h.sees x hx).below hb⟩
theorem cellsE_at : ∀ (rs : List Row) (i : Nat) (x : Row), rs[i]? = some x → (rs.flatMap cellsE)[i * 2]? = some x.1 ∧ (rs.flatMap cellsE)[i * 2 + 1]? = some (.string x.2.val)
  | [], _, _, h => by simp at h
  | r :: rs, 0, x, h => by
    simp only [List.getElem?_cons_zero, Option.some.injEq] at h
    subst h
    simp [cellsE]
  | r :: rs, i + 1, x, h => by
    simp only [List.getElem?_cons_succ] at h
    obtain ⟨h0, h1⟩ := cellsE_at rs i x h
    have e : ∀ j, ((r :: rs).flatMap cellsE)[(i + 1) * 2 + j]? = (rs.flatMap cellsE)[i * 2 + j]? := by
      intro j
      rw [List.flatMap_cons, List.getElem?_append_right (by simp [cellsE]; omega)]
      congr 1
      simp [cellsE]; omega
    exact ⟨(e 0).trans h0, (e 1).trans h1⟩
theorem OwnsR.at {w : World} {base : Nat} {a : Option Addr} {n c : Nat} {rs : List Row} (h : OwnsR w base (.slice a n c) rs) {i : Nat} {x : Row} (hi : rs[i]? = some x) :
    ∃ g, a = some ⟨g, 0, none⟩ ∧ g < w.heap.size ∧ w.cell? ⟨g, i * 2, none⟩ = some x.1 ∧ w.cell? ⟨g, i * 2 + 1, none⟩ = some (.string x.2.val) := by
  have hlt := (List.getElem?_eq_some_iff.1 hi).1
  obtain ⟨g, cap, e, h1, h2, h3, h4, h5⟩ := row_shape h.own (by omega)
  simp only [Value.slice.injEq] at e
  obtain ⟨k0, k1⟩ := cellsE_at rs i x hi
  exact ⟨g, e.1, h2, h5 _ _ k0, h5 _ _ k1⟩
theorem OwnsR.shape {w : World} {base : Nat} {v : Value} {rs : List Row} (h : OwnsR w base v rs) : ∃ a c, v = .slice a rs.length c := row_any h.own

/-- Entries were read, or none. -/
def EsRead (o : Option (List En)) (w : World) (e : Ending) (w' : World) : Prop :=
  Below w.heap.size w w' ∧ match o with
  | none => e = .returned (.tuple #[.slice none 0 0, .bool false])
  | some l => ∃ v rs, e = .returned (.tuple #[v, .bool true]) ∧ OwnsR w' w.heap.size v rs ∧ rs.map Prod.snd = l
def contE (l : List En) : Option (List En) → Option (List En)
  | none => none
  | some l' => some (l ++ l')
theorem contE_end (l : List En) (i : Nat) (p s : List UInt8) : contE l (rds 0 i p s) = some l := by simp [rds, contE]
theorem contE_none (l : List En) (n i : Nat) (p s : List UInt8) (h : rdE s (if i % 4 = 0 then [] else p) = none) : contE l (rds (n + 1) i p s) = none := by rw [rds, h]; rfl
theorem contE_some (l : List En) (n i k : Nat) (p s : List UInt8) (e : En) (h : rdE s (if i % 4 = 0 then [] else p) = some (e, k)) : contE l (rds (n + 1) i p s) = contE (l ++ [e]) (rds n (i + 1) e.key.data.toList (s.drop k)) := by
  rw [rds, h]
  simp only
  cases rds n (i + 1) e.key.data.toList (s.drop k) with
  | none => rfl
  | some l' => simp [contE]

set_option maxHeartbeats 4000000 in
set_option maxRecDepth 100000 in
theorem readEntries_any (s : ByteArray) (n : Nat) (w : World) (hs : s.size ≤ 1000000) (hn : n ≤ 1000000) :
    Calls Tryd.prog 87 #[.string s, .int .u64 (n : Int)] w (EsRead (rds n 0 [] s.data.toList) w) := by
  obtain ⟨i0, hi, hz0, hz1, hz2⟩ := info_parts info_entry
  have HS := Lib.hid hs
  obtain ⟨R, hR⟩ : ∃ R, R = rds n 0 [] s.data.toList := ⟨_, rfl⟩
  rw [← hR]
  have HE : Hid (R = contE [] (rds (n - 0) 0 [] s.data.toList)) := Lib.hid (by rw [hR]; show rds n 0 [] s.data.toList = contE [] (rds n 0 [] s.data.toList); cases rds n 0 [] s.data.toList <;> rfl)
  clear hR
  go_enter Tryd.func87, Tryd.ntmps87
  go_wp2_with fail
  go_loopw [0, 6, 7, 12] (fun t u av i wr => ∃ (k : Nat) (T : ByteArray) (rs : List Row) (a : Option Addr) (c : Nat) (p : List UInt8), k ≤ n ∧ i = .int .u64 k ∧ t = .string T ∧ T.size ≤ s.size ∧ rs.length = k ∧ av = .slice a p.length c ∧ SeesB wr (.slice a p.length c) p ∧ p.length ≤ 1024 * k ∧
    R = contE (rs.map Prod.snd) (rds (n - k) k p T.data.toList) ∧ OwnsR wr w.heap.size u rs ∧ Below w.heap.size w wr) (fun _ _ _ i _ => n - (intOf i).toNat)
  case atStart => exact ⟨0, s, [], none, 0, [], Nat.zero_le _, rfl, rfl, Nat.le_refl _, rfl, rfl, SeesB.nil _, by simp, HE.out, OwnsR.nil _ _, Below.refl _ _⟩
  case round =>
    obtain ⟨k, T, rs, a, c, p, hk, rfl, rfl, hT, hrl, rfl, hsee, hpl, hR, hown, hbel⟩ := hrel
    have HR := Lib.hid hR; clear hR HE
    have hszw := hbel.size
    by_cases hlt : k < n
    · obtain ⟨j, hj⟩ : ∃ j, n - k = j + 1 := ⟨n - k - 1, by omega⟩
      have HJ : Hid (n - (k + 1) = j) := Lib.hid (by omega)
      rw [hj] at HR
      clear hj
      obtain ⟨ua, uc, hu⟩ := hown.shape
      rw [hrl] at hu
      subst hu
      have HRS := Lib.hid (fun W => isRestart_any k W (by omega))
      have HT := Lib.hid hT
      have HPL := Lib.hid hpl; have HSEE := Lib.hid hsee; have HOWN := Lib.hid hown; have HBEL := Lib.hid hbel; have HRL := Lib.hid hrl
      clear hT hpl hsee hown hbel hrl
      go_wp2_with fail
      refine (HRS.out _).mono ?_
      rintro e w1 ⟨rfl, rfl⟩
      by_cases hr4 : k % 4 = 0
      · have HI := Lib.hid hr4
        rw [decide_eq_true hr4]
        clear hr4
        go_wp2_with fail
        have HC := Lib.hid (readEntry_any T none [] 0 wr (by have := HT.out; have := HS.out; omega) (SeesB.nil wr) (by simp))
        cases hro : rdE T.data.toList [] with
        | none =>
          have HN : Hid (R = none) := by rw [HR.out, contE_none _ _ _ _ _ (by rw [if_pos HI.out]; exact hro)]; exact Lib.hid rfl
          rw [hro] at HC
          clear hro
          refine HC.out.mono ?_
          rintro e w1 ⟨hb1, he⟩
          dsimp only at he
          subst he
          unfold noE
          have HB1 := Lib.hid hb1; clear hb1
          go_wp2_with fail
          go_ret2
          refine ⟨Below.alloc (HBEL.out.trans (HB1.out.mono hszw)) (Nat.le_trans hszw HB1.out.size) _, ?_⟩
          rw [HN.out]
          exact rfl
        | some x =>
          obtain ⟨en, m⟩ := x
          have HN : Hid (R = contE (rs.map Prod.snd ++ [en]) (rds j (k + 1) en.key.data.toList (T.data.toList.drop m))) := by rw [HR.out, contE_some _ _ _ _ _ _ _ (by rw [if_pos HI.out]; exact hro)]; exact Lib.hid rfl
          obtain ⟨m1, m2, m3, m4⟩ := rdE_take hro
          rw [len] at m2
          have hmi : (m : Int) ≤ T.size := by omega
          have HM4 : Hid (en.key.size ≤ 1024 * (k + 1)) := Lib.hid (by have := (show ([] : List UInt8).length = 0 from rfl); omega)
          rw [hro] at HC
          clear hro m1 m2 m3 m4
          refine HC.out.mono ?_
          rintro e w1 ⟨hb1, ka, kc, rfl, hks⟩
          obtain ⟨ksz, hksz⟩ : ∃ z, z = en.key.size := ⟨_, rfl⟩
          rw [← hksz] at hks ⊢
          have HKZ := Lib.hid hksz; clear hksz
          have HKS := Lib.hid hks; clear hks
          obtain ⟨vl, hvl⟩ : ∃ z, z = en.val := ⟨_, rfl⟩
          rw [← hvl]
          have HVL := Lib.hid hvl; clear hvl
          have HB1 := Lib.hid hb1; clear hb1
          have hraw : w1.ownsRow w.heap.size 139 2 (.slice ua k uc) k (rs.flatMap cellsE) := by
            have := ownsRow_below HOWN.out.own HB1.out
            rw [HRL.out] at this
            exact this
          have hszb : w.heap.size ≤ w1.heap.size := Nat.le_trans hszw HB1.out.size
          have hbk : ∀ g, (Value.slice ua k uc).ownBlock = some g → g < w1.heap.size := fun g hg => ownsRow_lt hraw hg
          have HBK := Lib.hid hbk; clear hbk
          go_wp2_with (at_builtin; go_must (refine wpList_append_own _ rfl _ _ 140 rfl w.heap.size 139 i0 _ 2 40 Tryd.underlying140 hi hz0 hz1 hz2 rfl (by decide) _ _ _ rfl ((hraw.alloc _).alloc _) ⟨w1.heap.size + 1, 0, none⟩ 1 1 [_, _] rfl rfl (World.news_of_block (cs := #[_, _]) (fr := (0, 0)) (heap_alloc2_new w1 _ _)) ?c2 ?c3 ?c4 ?c5 ?_))
          case c2 => intro u hu; simp at hu; rcases hu with hu | hu <;> subst hu <;> rfl
          case c3 => unfold maxLen; omega
          case c4 => omega
          case c5 => simp; omega
          intro v2 w2 hown2 hgrow2 _
          have hbox : w2.cell? ⟨w1.heap.size, 0, none⟩ = some (.slice ka ksz kc) := by
            rw [hgrow2.cell_far ⟨w1.heap.size, 0, none⟩ (by simp; omega) (fun e => by have := HBK.out _ e.symm; simp at this)]
            have h0 := (Below.refl _ (w1.alloc (.cells #[.slice ka ksz kc, .string vl] 139))).alloc (Nat.le_refl _) (.cells #[.slice ka ksz kc, .string vl] 139)
            refine (h0.cell (p := ⟨w1.heap.size, 0, none⟩) (by simp)).trans ?_
            rw [cell_of (heap_alloc_new w1 _)]
            rfl
          have hb2 : Below w1.heap.size w1 w2 ∨ True := Or.inr trivial
          have R1 : OwnsR w2 w.heap.size v2 (rs ++ [(.slice ka ksz kc, en)]) ∧ Below w.heap.size w w2 ∧ SeesB w2 (.slice ka ksz kc) en.key.data.toList := by
            have hstep : ∀ {v : Value} {l : List UInt8}, SeesB w1 v l → SeesB w2 v l := by
              intro v l hv
              refine hv.frame fun b cs fz hb => ?_
              have hlt := heap_lt hb
              have hne : (Value.slice ua k uc).ownBlock ≠ some b := by
                intro e
                obtain ⟨cs2, hc2⟩ := ownsRow_obj hraw e
                rw [hb] at hc2
                simp only [Option.some.injEq, Obj.cells.injEq] at hc2
                exact absurd hc2.2.1 (by decide)
              exact (hgrow2.block b (by simp; omega) (Ne.symm hne)).trans (((((Below.refl _ w1).alloc (Nat.le_refl _) _).alloc (by simp) _)).block b hlt)
            refine ⟨⟨?_, ?_⟩, ?_, hstep HKS.out⟩
            · rw [List.length_append, List.flatMap_append, HRL.out]
              have e : [((.slice ka ksz kc : Value), en)].flatMap cellsE = [.slice ka ksz kc, .string vl] := by rw [HVL.out]; rfl
              rw [e]
              exact hown2
            · intro y hy
              rcases List.mem_append.1 hy with h1 | h1
              · exact hstep ((HOWN.out.sees y h1).below HB1.out)
              · obtain rfl : y = _ := by simpa using h1
                exact hstep HKS.out
            · exact (((HBEL.out.trans (HB1.out.mono hszw)).alloc hszb _).alloc (by simp; omega) _).grown hgrow2 (by simp; omega) (fun q hq => (hraw.lt q hq).1)
          clear hown2 hgrow2 hraw hb2
          have HR1 := Lib.hid R1; clear R1
          go_wp2_with fail
          go_roundw
          case rel => exact ⟨k + 1, _, _, ka, kc, en.key.data.toList, by omega, by go_num, rfl, by rw [ByteArray.size_extract]; have := HT.out; omega, by rw [List.length_append, HRL.out]; rfl, by rw [len, ← HKZ.out], by rw [len, ← HKZ.out]; exact HR1.out.2.2, by rw [len]; exact HM4.out, by rw [HJ.out, Lib.extract_to_end, List.map_append]; exact HN.out, HR1.out.1, HR1.out.2.1⟩
          case measure => simp [intOf]; omega
      · have HI := Lib.hid hr4
        rw [decide_eq_false hr4]
        clear hr4
        go_wp2_with fail
        have HC := Lib.hid (readEntry_any T a p c wr (by have := HT.out; have := HS.out; omega) HSEE.out (by have := HPL.out; omega))
        cases hro : rdE T.data.toList p with
        | none =>
          have HN : Hid (R = none) := by rw [HR.out, contE_none _ _ _ _ _ (by rw [if_neg HI.out]; exact hro)]; exact Lib.hid rfl
          rw [hro] at HC
          clear hro
          refine HC.out.mono ?_
          rintro e w1 ⟨hb1, he⟩
          dsimp only at he
          subst he
          unfold noE
          have HB1 := Lib.hid hb1; clear hb1
          go_wp2_with fail
          go_ret2
          refine ⟨Below.alloc (HBEL.out.trans (HB1.out.mono hszw)) (Nat.le_trans hszw HB1.out.size) _, ?_⟩
          rw [HN.out]
          exact rfl
        | some x =>
          obtain ⟨en, m⟩ := x
          have HN : Hid (R = contE (rs.map Prod.snd ++ [en]) (rds j (k + 1) en.key.data.toList (T.data.toList.drop m))) := by rw [HR.out, contE_some _ _ _ _ _ _ _ (by rw [if_neg HI.out]; exact hro)]; exact Lib.hid rfl
          obtain ⟨m1, m2, m3, m4⟩ := rdE_take hro
          rw [len] at m2
          have hmi : (m : Int) ≤ T.size := by omega
          have HM4 : Hid (en.key.size ≤ 1024 * (k + 1)) := Lib.hid (by have := HPL.out; omega)
          rw [hro] at HC
          clear hro m1 m2 m3 m4
          refine HC.out.mono ?_
          rintro e w1 ⟨hb1, ka, kc, rfl, hks⟩
          obtain ⟨ksz, hksz⟩ : ∃ z, z = en.key.size := ⟨_, rfl⟩
          rw [← hksz] at hks ⊢
          have HKZ := Lib.hid hksz; clear hksz
          have HKS := Lib.hid hks; clear hks
          obtain ⟨vl, hvl⟩ : ∃ z, z = en.val := ⟨_, rfl⟩
          rw [← hvl]
          have HVL := Lib.hid hvl; clear hvl
          have HB1 := Lib.hid hb1; clear hb1
          have hraw : w1.ownsRow w.heap.size 139 2 (.slice ua k uc) k (rs.flatMap cellsE) := by
            have := ownsRow_below HOWN.out.own HB1.out
            rw [HRL.out] at this
            exact this
          have hszb : w.heap.size ≤ w1.heap.size := Nat.le_trans hszw HB1.out.size
          have hbk : ∀ g, (Value.slice ua k uc).ownBlock = some g → g < w1.heap.size := fun g hg => ownsRow_lt hraw hg
          have HBK := Lib.hid hbk; clear hbk
          go_wp2_with (at_builtin; go_must (refine wpList_append_own _ rfl _ _ 140 rfl w.heap.size 139 i0 _ 2 40 Tryd.underlying140 hi hz0 hz1 hz2 rfl (by decide) _ _ _ rfl ((hraw.alloc _).alloc _) ⟨w1.heap.size + 1, 0, none⟩ 1 1 [_, _] rfl rfl (World.news_of_block (cs := #[_, _]) (fr := (0, 0)) (heap_alloc2_new w1 _ _)) ?c2 ?c3 ?c4 ?c5 ?_))
          case c2 => intro u hu; simp at hu; rcases hu with hu | hu <;> subst hu <;> rfl
          case c3 => unfold maxLen; omega
          case c4 => omega
          case c5 => simp; omega
          intro v2 w2 hown2 hgrow2 _
          have hbox : w2.cell? ⟨w1.heap.size, 0, none⟩ = some (.slice ka ksz kc) := by
            rw [hgrow2.cell_far ⟨w1.heap.size, 0, none⟩ (by simp; omega) (fun e => by have := HBK.out _ e.symm; simp at this)]
            have h0 := (Below.refl _ (w1.alloc (.cells #[.slice ka ksz kc, .string vl] 139))).alloc (Nat.le_refl _) (.cells #[.slice ka ksz kc, .string vl] 139)
            refine (h0.cell (p := ⟨w1.heap.size, 0, none⟩) (by simp)).trans ?_
            rw [cell_of (heap_alloc_new w1 _)]
            rfl
          have hb2 : Below w1.heap.size w1 w2 ∨ True := Or.inr trivial
          have R1 : OwnsR w2 w.heap.size v2 (rs ++ [(.slice ka ksz kc, en)]) ∧ Below w.heap.size w w2 ∧ SeesB w2 (.slice ka ksz kc) en.key.data.toList := by
            have hstep : ∀ {v : Value} {l : List UInt8}, SeesB w1 v l → SeesB w2 v l := by
              intro v l hv
              refine hv.frame fun b cs fz hb => ?_
              have hlt := heap_lt hb
              have hne : (Value.slice ua k uc).ownBlock ≠ some b := by
                intro e
                obtain ⟨cs2, hc2⟩ := ownsRow_obj hraw e
                rw [hb] at hc2
                simp only [Option.some.injEq, Obj.cells.injEq] at hc2
                exact absurd hc2.2.1 (by decide)
              exact (hgrow2.block b (by simp; omega) (Ne.symm hne)).trans (((((Below.refl _ w1).alloc (Nat.le_refl _) _).alloc (by simp) _)).block b hlt)
            refine ⟨⟨?_, ?_⟩, ?_, hstep HKS.out⟩
            · rw [List.length_append, List.flatMap_append, HRL.out]
              have e : [((.slice ka ksz kc : Value), en)].flatMap cellsE = [.slice ka ksz kc, .string vl] := by rw [HVL.out]; rfl
              rw [e]
              exact hown2
            · intro y hy
              rcases List.mem_append.1 hy with h1 | h1
              · exact hstep ((HOWN.out.sees y h1).below HB1.out)
              · obtain rfl : y = _ := by simpa using h1
                exact hstep HKS.out
            · exact (((HBEL.out.trans (HB1.out.mono hszw)).alloc hszb _).alloc (by simp; omega) _).grown hgrow2 (by simp; omega) (fun q hq => (hraw.lt q hq).1)
          clear hown2 hgrow2 hraw hb2
          have HR1 := Lib.hid R1; clear R1
          go_wp2_with fail
          go_roundw
          case rel => exact ⟨k + 1, _, _, ka, kc, en.key.data.toList, by omega, by go_num, rfl, by rw [ByteArray.size_extract]; have := HT.out; omega, by rw [List.length_append, HRL.out]; rfl, by rw [len, ← HKZ.out], by rw [len, ← HKZ.out]; exact HR1.out.2.2, by rw [len]; exact HM4.out, by rw [HJ.out, Lib.extract_to_end, List.map_append]; exact HN.out, HR1.out.1, HR1.out.2.1⟩
          case measure => simp [intOf]; omega
    · obtain rfl : k = n := by omega
      have HN : Hid (R = some (rs.map Prod.snd)) := by rw [HR.out, Nat.sub_self, contE_end]; exact Lib.hid rfl
      go_wp2_with fail
      go_ret2
      exact ⟨hbel, by rw [HN.out]; exact ⟨_, rs, rfl, hown, rfl⟩⟩
end Go.Proofs.YtphoihkbdogkhaaDoor.Bn.Bo

/- Texts on the program's own functions, several in one: WlApp. -/
import Derived.Test.YtfeconankopjmaaGreatDoorPk9
import Derived.Test.YtfeconankopjmaaGreatDoorPk7
import Derived.Test.YtfeconankopjmaaGreatDoorPk26
import Derived.Deep.AppendLies

/- append of rows of batches; what a slice of batches holds. -/
namespace Go.Proofs.YtfeconankopjmaaGreatDoor
set_option linter.unusedVariables false
open Go.RowKit

theorem info_bat : (Tryz.prog.info? 32).map (fun i => (i.zero, i.size, i.bytes)) = some (some (.agg #[.int .u64 0, .slice none 0 0]), 2, 32) := by kernel_rfl

theorem ownsRow_mono {w : World} {base base' : Nat} {e : TypeId} {z n : Nat} {v : Value} {xs : List Value} (h : w.ownsRow base e z v n xs) (hb : base' ≤ base) : w.ownsRow base' e z v n xs :=
  ⟨h.1, h.2.imp id fun ⟨g, cap, cur, hv, hg, r⟩ => ⟨g, cap, cur, hv, Nat.le_trans hb hg, r⟩⟩

/-- append(v, x...): x a row of the same type, nil among them. -/
theorem run_append_row {P : Program} (w : World) (base base' : Nat) (t ty e : TypeId) (i : TypeInfo) (z : Value) (size bytes : Nat) (ht : P.underlying t = some (.slice e)) (hi : P.info? e = some i) (hz : i.zero = some z)
    (hsize : i.size = size) (hby : i.bytes = bytes) (hzs : z.cells.size = size) (hsz : 0 < size)
    (v : Value) (n : Nat) (xs : List Value) (hown : w.ownsRow base e size v n xs) (x : Value) (m : Nat) (ys : List Value) (hx : w.ownsRow base' e size x m ys) (h1 : ∀ u ∈ ys, u.oneCell' = true)
    (h63 : n + m ≤ maxLen) (hbytes : (n + m) * bytes ≤ 140737488355328) (hbase : base ≤ w.heap.size) :
    ∃ v' w', (Builtin.append_ #[t, t] ty #[v, x]).run P w = .ok v' w' ∧ w'.ownsRow base e size v' (n + m) (xs ++ ys) ∧ w.grownBy w' v.ownBlock := by
  have hcell := fun (g : Nat) (h : x.ownBlock = some g) => hx.cells (g := g) h
  obtain ⟨hl, ⟨rfl, rfl⟩ | ⟨g, cap, cur, rfl, hbg, hg, hnc, hcm, hcs, htk⟩⟩ := hx
  · obtain rfl : ys = [] := List.eq_nil_of_length_eq_zero (by omega)
    exact ⟨v, w, run_append_nilsrc w _ _ _ i base size ht hi v _ _ hown 0, by rw [List.append_nil]; exact hown, ⟨rfl, rfl, rfl, Nat.le_refl _, fun _ _ _ => rfl⟩⟩
  · obtain ⟨v', w', hr, h2, h3, _⟩ := run_append_own_at (P := P) w base t ty e i z size bytes ht hi hz hsize hby hzs hsz v _ _ hown ⟨g, 0, none⟩ m cap ys hl (hcell g rfl) h1 h63 hbytes hbase
    exact ⟨v', w', hr, h2, h3⟩

theorem wpList_append_row {P : Program} {w : World} {ops : Array Oper} {rest : List Oper} {o : Oper} {a : Act} {Q : Exit → Act → World → Prop} (hgd : o.guard = none) (s xo : Operand) (t : TypeId)
    (ho : o.op = .call { callee := .builtin .append, args := #[s, xo], argTypes := #[t, t] })
    (base base' : Nat) (e : TypeId) (i : TypeInfo) (z : Value) (size bytes : Nat) (ht : P.underlying t = some (.slice e)) (hi : P.info? e = some i) (hz : i.zero = some z)
    (hsize : i.size = size) (hby : i.bytes = bytes) (hzs : z.cells.size = size) (hsz : 0 < size)
    (v : Value) (n : Nat) (xs : List Value) (hs : a.eval s = v) (hown : w.ownsRow base e size v n xs) (x : Value) (m : Nat) (ys : List Value) (hxv : a.eval xo = x) (hx : w.ownsRow base' e size x m ys) (h1 : ∀ u ∈ ys, u.oneCell' = true)
    (h63 : n + m ≤ maxLen) (hbytes : (n + m) * bytes ≤ 140737488355328) (hbase : base ≤ w.heap.size)
    (h : ∀ v' w', w'.ownsRow base e size v' (n + m) (xs ++ ys) → w.grownBy w' v.ownBlock → wpList P ops Q rest (a.put o.dst v') w') : wpList P ops Q (o :: rest) a w := by
  refine wpList_plain hgd fun K hK => ?_
  obtain ⟨v', w', hr, h2, h3⟩ := run_append_row w base base' t o.type e i z size bytes ht hi hz hsize hby hzs hsz v n xs hown x m ys hx h1 h63 hbytes hbase
  unfold Oper.wp execOp
  simp only [ho, resolve, invoke, builtin, Sem.run_bind, Sem.run_pure, Result.andThen_ok, List.map_toArray, List.map_cons, List.map_nil, hs, hxv, hr]
  exact hK _ _ (h v' w' h2 h3)

/-! ### batches in a row -/
def cellsB (p : Nat × Value) : List Value := [.int .u64 p.1, p.2]
theorem cellsB_length (ps : List (Nat × Value)) : (ps.flatMap cellsB).length = ps.length * 2 := by
  induction ps with
  | nil => rfl
  | cons p ps ih => rw [List.flatMap_cons, List.length_append, ih, List.length_cons]; show 2 + _ = _; omega
theorem cellsB_at (ps : List (Nat × Value)) (i : Nat) (p : Nat × Value) (h : ps[i]? = some p) : (ps.flatMap cellsB)[i * 2]? = some (.int .u64 p.1) ∧ (ps.flatMap cellsB)[i * 2 + 1]? = some p.2 := by
  induction ps generalizing i with
  | nil => simp at h
  | cons q ps ih =>
    cases i with
    | zero => simp only [List.getElem?_cons_zero, Option.some.injEq] at h; subst h; simp [cellsB]
    | succ i =>
      rw [List.getElem?_cons_succ] at h
      obtain ⟨h0, h1⟩ := ih i h
      rw [List.flatMap_cons]
      have e : ∀ j, (cellsB q ++ ps.flatMap cellsB)[(i + 1) * 2 + j]? = (ps.flatMap cellsB)[i * 2 + j]? := by
        intro j
        rw [List.getElem?_append_right (by simp [cellsB]; omega)]
        congr 1
        simp [cellsB]; omega
      exact ⟨(e 0).trans h0, (e 1).trans h1⟩
/-- A slice whose operations are these, the call's own. -/
def isSlice : Value → Bool
  | .slice .. => true
  | _ => false
/-- Which raw rows are which batches. -/
def AreB (w : World) (base : Nat) : List (Nat × Value) → List Wl.Bat → Prop
  | [], [] => True
  | p :: ps, b :: bs => p.1 = b.1 ∧ Bn.OwnsO w base p.2 b.2 ∧ AreB w base ps bs
  | _, _ => False
theorem AreB.length {w : World} {base : Nat} : ∀ {ps : List (Nat × Value)} {bs : List Wl.Bat}, AreB w base ps bs → ps.length = bs.length
  | [], [], _ => rfl
  | p :: ps, b :: bs, h => by rw [List.length_cons, List.length_cons, AreB.length h.2.2]
theorem AreB.append {w : World} {base : Nat} : ∀ {ps : List (Nat × Value)} {bs : List Wl.Bat} {qs : List (Nat × Value)} {cs : List Wl.Bat}, AreB w base ps bs → AreB w base qs cs → AreB w base (ps ++ qs) (bs ++ cs)
  | [], [], _, _, _, k => k
  | p :: ps, b :: bs, _, _, h, k => ⟨h.1, h.2.1, AreB.append h.2.2 k⟩
theorem AreB.mono {w : World} {base base' : Nat} (hb : base' ≤ base) : ∀ {ps : List (Nat × Value)} {bs : List Wl.Bat}, AreB w base ps bs → AreB w base' ps bs
  | [], [], _ => trivial
  | p :: ps, b :: bs, h => ⟨h.1, ownsRow_mono h.2.1 hb, AreB.mono hb h.2.2⟩
/-- Rows of operations stay what they are while no block of operations is turned. -/
theorem AreB.frame {w w' : World} {base : Nat} (hk : ∀ (g : Nat) (cur : Array Value), w.heap[g]? = some (Obj.cells cur 42 (0, 0)) → w'.heap[g]? = w.heap[g]?) : ∀ {ps : List (Nat × Value)} {bs : List Wl.Bat}, AreB w base ps bs → AreB w' base ps bs
  | [], [], _ => trivial
  | p :: ps, b :: bs, h => by
    refine ⟨h.1, ?_, AreB.frame hk h.2.2⟩
    obtain ⟨h1, h2⟩ := h.2.1
    refine ⟨h1, ?_⟩
    rcases h2 with h2 | ⟨g, cap, cur, hv, hg, hb, r⟩
    · exact Or.inl h2
    · exact Or.inr ⟨g, cap, cur, hv, hg, (hk g cur hb).trans hb, r⟩
theorem AreB.below {w w' : World} {base : Nat} {ps : List (Nat × Value)} {bs : List Wl.Bat} (h : AreB w base ps bs) (hb : Below w.heap.size w w') : AreB w' base ps bs :=
  h.frame fun g cur hg => hb.block g (Array.getElem?_eq_some_iff.1 hg).1
theorem AreB.one {w : World} {base : Nat} : ∀ {ps : List (Nat × Value)} {bs : List Wl.Bat}, AreB w base ps bs → ∀ u ∈ ps.flatMap cellsB, u.oneCell' = true
  | [], [], _, u, hu => by simp at hu
  | p :: ps, b :: bs, h, u, hu => by
    rw [List.flatMap_cons, List.mem_append] at hu
    rcases hu with hu | hu
    · simp only [cellsB, List.mem_cons, List.not_mem_nil, or_false] at hu
      rcases hu with rfl | rfl
      · rfl
      · obtain ⟨ao, cap, e⟩ := h.2.1.slice
        rw [e]; rfl
    · exact AreB.one h.2.2 u hu
theorem AreB.at {w : World} {base : Nat} : ∀ {ps : List (Nat × Value)} {bs : List Wl.Bat} {i : Nat} {b : Wl.Bat}, AreB w base ps bs → bs[i]? = some b → ∃ v, ps[i]? = some (b.1, v) ∧ Bn.OwnsO w base v b.2
  | [], [], i, b, _, hi => by simp at hi
  | p :: ps, c :: bs, 0, b, h, hi => by
    simp only [List.getElem?_cons_zero, Option.some.injEq] at hi
    subst hi
    exact ⟨p.2, by rw [List.getElem?_cons_zero, ← h.1], h.2.1⟩
  | p :: ps, c :: bs, i + 1, b, h, hi => by
    rw [List.getElem?_cons_succ] at hi ⊢
    exact AreB.at h.2.2 hi

/-- A slice of batches that is the call's own. -/
def OwnsB (w : World) (base : Nat) (v : Value) (bs : List Wl.Bat) : Prop := ∃ ps, w.ownsRow base 32 2 v bs.length (ps.flatMap cellsB) ∧ AreB w base ps bs
theorem OwnsB.nil (w : World) (base : Nat) : OwnsB w base (.slice none 0 0) [] := ⟨[], World.ownsRow_nil .., trivial⟩
theorem OwnsB.slice {w : World} {base : Nat} {v : Value} {bs : List Wl.Bat} (h : OwnsB w base v bs) : ∃ ao cap, v = .slice ao bs.length cap := by
  obtain ⟨ps, h, _⟩ := h
  rcases h.2 with ⟨rfl, h0⟩ | ⟨g, cap, cur, rfl, _⟩
  · exact ⟨none, 0, by rw [h0]⟩
  · exact ⟨_, _, rfl⟩
theorem OwnsB.below {w w' : World} {base : Nat} {v : Value} {bs : List Wl.Bat} (h : OwnsB w base v bs) (hb : Below w.heap.size w w') : OwnsB w' base v bs := by
  obtain ⟨ps, h1, h2⟩ := h
  exact ⟨ps, ownsRow_below h1 hb, h2.below hb⟩
theorem OwnsB.mono {w : World} {base base' : Nat} {v : Value} {bs : List Wl.Bat} (h : OwnsB w base v bs) (hb : base' ≤ base) : OwnsB w base' v bs := by
  obtain ⟨ps, h1, h2⟩ := h
  exact ⟨ps, ownsRow_mono h1 hb, h2.mono hb⟩
/-- A row of batches that grew: the rows of operations are as they were. -/
theorem AreB.grown {w w' : World} {base : Nat} {ps : List (Nat × Value)} {bs : List Wl.Bat} {v : Value} {n : Nat} {xs : List Value} (h : AreB w base ps bs) (hg : w.grownBy w' v.ownBlock) (hv : w.ownsRow base 32 2 v n xs) : AreB w' base ps bs := by
  refine h.frame fun g cur hgc => hg.block g (Array.getElem?_eq_some_iff.1 hgc).1 fun e => ?_
  rcases hv.2 with ⟨rfl, _⟩ | ⟨g2, cap, cur2, rfl, _, hg2, _⟩
  · simp [Value.ownBlock] at e
  · simp only [Value.ownBlock, Option.some.injEq] at e
    subst e
    rw [hgc] at hg2
    simp only [Option.some.injEq, Obj.cells.injEq] at hg2
    exact absurd hg2.2.1 (by decide)

end Go.Proofs.YtfeconankopjmaaGreatDoor

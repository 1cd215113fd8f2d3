/- Rows of edits that are the call's own. -/
import Derived.Test.YtbdoekogoiijeaaEdX
namespace Go.Proofs.Ytbdoekogoiijeaa
open Go.RowKit Sk
set_option linter.unusedVariables false
set_option maxRecDepth 20000

theorem info_ed : (Try.prog.info? 30).map (fun i => (i.zero, i.size, i.bytes)) = some (some (.agg #[.slice none 0 0, .slice none 0 0, .int .u64 0, .int .u64 0, .int .u64 0]), 5, 72) := by kernel_rfl
theorem info_ey : (Try.prog.info? 31).map (fun i => (i.zero, i.size, i.bytes)) = some (some (.agg #[.slice none 0 0, .slice none 0 0, .int .u64 0, .int .u64 0, .int .u64 0]), 5, 72) := by kernel_rfl

/-- The cells of an edit whose rows are the call's own. -/
def EdRow (w : World) (base : Nat) (e : Edt) (cs : List Value) : Prop := ∃ ao ac bo bc, cs = [.slice ao e.add.length ac, .slice bo e.drop.length bc, .int .u64 (e.log : Nat), .int .u64 (e.seq : Nat), .int .u64 (e.next : Nat)] ∧ OwnsTb w base (.slice ao e.add.length ac) e.add ∧ OwnsN w base (.slice bo e.drop.length bc) e.drop
def OwnsEs (w : World) (base : Nat) (ty : TypeId) (v : Value) (es : List Edt) : Prop := ∃ css : List (List Value), css.length = es.length ∧ w.ownsRow base ty 5 v es.length css.flatten ∧ ∀ i, i < es.length → EdRow w base (es.getD i edd) (css.getD i [])
theorem OwnsEs.nil (w : World) (base : Nat) (ty : TypeId) : OwnsEs w base ty (.slice none 0 0) [] := ⟨[], rfl, World.ownsRow_nil .., fun i hi => absurd hi (Nat.not_lt_zero i)⟩
theorem OwnsEs.slice {w : World} {base : Nat} {ty : TypeId} {v : Value} {es : List Edt} (h : OwnsEs w base ty v es) : ∃ ao cap, v = .slice ao es.length cap := by
  obtain ⟨css, _, h2, _⟩ := h
  exact Sk.row_any h2
theorem EdRow.below {w w' : World} {base : Nat} {e : Edt} {cs : List Value} (h : EdRow w base e cs) (hb : Below w.heap.size w w') : EdRow w' base e cs := by
  obtain ⟨ao, ac, bo, bc, e1, h1, h2⟩ := h
  exact ⟨ao, ac, bo, bc, e1, h1.below hb, h2.below hb⟩
theorem OwnsEs.below {w w' : World} {base : Nat} {ty : TypeId} {v : Value} {es : List Edt} (h : OwnsEs w base ty v es) (hb : Below w.heap.size w w') : OwnsEs w' base ty v es := by
  obtain ⟨css, h1, h2, h3⟩ := h
  exact ⟨css, h1, Sk.ownsRow_below h2 hb, fun i hi => (h3 i hi).below hb⟩
theorem EdRow.grown {w w' : World} {base : Nat} {e : Edt} {cs : List Value} (h : EdRow w base e cs) {row : Option Nat} (hg : w.grownBy w' row) (hr : ∀ b, row = some b → ∃ cur t, w.heap[b]? = some (.cells cur t (0, 0)) ∧ t ≠ 38) (hr2 : ∀ b, row = some b → ∃ cur t, w.heap[b]? = some (.cells cur t (0, 0)) ∧ t ≠ 28) : EdRow w' base e cs := by
  obtain ⟨ao, ac, bo, bc, e1, h1, h2⟩ := h
  exact ⟨ao, ac, bo, bc, e1, h1.grown hg hr, h2.grown hg hr2⟩
theorem OwnsEs.grown {w w' : World} {base : Nat} {ty : TypeId} {v : Value} {es : List Edt} (h : OwnsEs w base ty v es) {row : Option Nat} (hg : w.grownBy w' row) (hr : ∀ b, row = some b → ∃ cur t, w.heap[b]? = some (.cells cur t (0, 0)) ∧ t ≠ 38) (hr2 : ∀ b, row = some b → ∃ cur t, w.heap[b]? = some (.cells cur t (0, 0)) ∧ t ≠ 28) (hr3 : ∀ b, row = some b → ∃ cur t, w.heap[b]? = some (.cells cur t (0, 0)) ∧ t ≠ ty) : OwnsEs w' base ty v es := by
  obtain ⟨css, h1, h2, h3⟩ := h
  refine ⟨css, h1, Sk.ownsRow_frame h2 fun k hk => hg.block k (Sk.ownsRow_lt h2 hk) (fun e => ?_), fun i hi => (h3 i hi).grown hg hr hr2⟩
  obtain ⟨c1, h1⟩ := Sk.ownsRow_obj h2 hk
  obtain ⟨c2, t, h2, hne⟩ := hr3 k e.symm
  exact Sk.obj_cells_ne h2 h1 hne rfl
theorem OwnsEs.snoc {w w' : World} {base : Nat} {ty : TypeId} {v v' : Value} {es : List Edt} {e : Edt} {css : List (List Value)} {cs : List Value} (hl : css.length = es.length) (hr : ∀ i, i < es.length → EdRow w base (es.getD i edd) (css.getD i [])) (he : EdRow w base e cs) (hraw : w.ownsRow base ty 5 v es.length css.flatten)
    (hown : w'.ownsRow base ty 5 v' (es.length + 1) (css.flatten ++ cs)) (hg : w.grownBy w' v.ownBlock) (ht1 : ty ≠ 38) (ht2 : ty ≠ 28) : OwnsEs w' base ty v' (es ++ [e]) := by
  refine ⟨css ++ [cs], by simp [hl], ?_, fun i hi => ?_⟩
  · rw [List.length_append, List.flatten_append]
    simpa using hown
  · rw [List.length_append, List.length_singleton] at hi
    by_cases h : i < es.length
    · have e1 : (es ++ [e]).getD i edd = es.getD i edd := Ed.getD_left h
      have e2 : (css ++ [cs]).getD i [] = css.getD i [] := Ed.getD_left (by omega)
      rw [e1, e2]
      exact (hr i h).grown hg (own_of hraw ht1) (own_of hraw ht2)
    · obtain rfl : i = es.length := by omega
      have e1 : (es ++ [e]).getD es.length edd = e := Ed.getD_end es e edd
      have e2 : (css ++ [cs]).getD es.length [] = cs := by rw [← hl]; exact Ed.getD_end css cs []
      rw [e1, e2]
      exact he.grown hg (own_of hraw ht1) (own_of hraw ht2)
theorem flat_at : ∀ (css : List (List Value)) (i r : Nat), (∀ j, j < css.length → (css.getD j []).length = 5) → i < css.length → r < 5 → css.flatten[i * 5 + r]? = (css.getD i [])[r]?
  | [], i, r, _, h, _ => by simp at h
  | c :: css, 0, r, hc, _, hr => by
    have := hc 0 (by simp)
    rw [List.getD_cons_zero] at this ⊢
    rw [List.flatten_cons, Nat.zero_mul, Nat.zero_add, List.getElem?_append_left (by omega)]
  | c :: css, i + 1, r, hc, hi, hr => by
    have h0 := hc 0 (by simp)
    rw [List.getD_cons_zero] at h0
    rw [List.flatten_cons, List.getD_cons_succ, List.getElem?_append_right (by omega), h0, show (i + 1) * 5 + r - 5 = i * 5 + r by omega]
    exact flat_at css i r (fun j hj => by
      have := hc (j + 1) (by simpa using hj)
      rwa [List.getD_cons_succ] at this) (by simpa using hi) hr
theorem OwnsEs.sees {w : World} {base : Nat} {ty : TypeId} {v : Value} {es : List Edt} (h : OwnsEs w base ty v es) : SeesEd w v es := by
  obtain ⟨css, hl, hraw, hr⟩ := h
  rcases hraw.2 with ⟨rfl, h0⟩ | ⟨g, cap, cur, rfl, hb, hg, hnc, hcm, hcs, htake⟩
  · exact Or.inl ⟨List.eq_nil_of_length_eq_zero h0, none, 0, rfl⟩
  · have hcell := hraw.cells (g := g) rfl
    have h5 : ∀ j, j < css.length → (css.getD j []).length = 5 := fun j hj => by
      obtain ⟨_, _, _, _, e1, _, _⟩ := hr j (by omega)
      rw [e1]; rfl
    refine Or.inr ⟨g, 0, cap, rfl, Sk.heap_lt hg, fun i hi => ?_⟩
    obtain ⟨ao, ac, bo, bc, e1, h1, h2⟩ := hr i hi
    have c : ∀ r u, r < 5 → (css.getD i [])[r]? = some u → w.cell? ⟨g, i * 5 + r, none⟩ = some u := fun r u hr5 hu => by
      have := hcell (i * 5 + r) u (by rw [flat_at css i r h5 (by omega) hr5]; exact hu)
      rwa [Sk.add_none] at this
    rw [Nat.zero_add]
    refine ⟨ao, _, ac, bo, _, bc, c 0 _ (by omega) (by rw [e1]; rfl), c 1 _ (by omega) (by rw [e1]; rfl), c 2 _ (by omega) (by rw [e1]; rfl), c 3 _ (by omega) (by rw [e1]; rfl), c 4 _ (by omega) (by rw [e1]; rfl), h1.sees, h2.sees⟩

end Go.Proofs.Ytbdoekogoiijeaa

/- A memory as it lies: its box, its sums, its list. No function is named. -/
import Derived.Test.YtmdnmabbphnhaaaMmAbs
import Derived.Test.YtmdnmabbphnhaaaSmI
namespace Go.Proofs.Ytmdnmabbphnhaaa.Mm
open Go Go.RowKit Go.Proofs.Ytmdnmabbphnhaaa.Sk Go.Proofs.Ytmdnmabbphnhaaa.Sm

structure MLay where
  L : Lay
  m : Nat
  u : Nat
/-- What entries have to be. -/
structure Fit (e : Ent) : Prop where
  key : e.key.size ≤ 20000
  val : e.val.size ≤ 20000
  seq : e.seq < 18446744073709551616
structure Held (w : World) (M : MLay) (s r : List (It Ent)) : Prop where
  lies : ListS w M.L s r
  placed : Placed s
  fit : ∀ y ∈ s, Fit y.val
  box : w.heap[M.m]? = some (.cells #[.pointer (some ⟨M.L.b, 0, none⟩), .pointer (some ⟨M.u, 0, none⟩)] 40 (0, 0))
  sums : w.heap[M.u]? = some (.cells #[.int .u64 (newestL (ents r) : Int), .int .i64 (bytesL (ents r) : Int)] 60 (0, 0))
/-- Its blocks. -/
def OwnM (M : MLay) (s : List (It Ent)) (b : Nat) : Prop := Own M.L s b ∨ b = M.m ∨ b = M.u
section
variable {w w' : World} {M : MLay} {s r : List (It Ent)}
theorem Held.own_lt (h : Held w M s r) {b : Nat} (hb : OwnM M s b) : b < w.heap.size := by
  rcases hb with hb | rfl | rfl
  · exact h.lies.own_lt hb
  · exact heap_lt h.box
  · exact heap_lt h.sums
theorem Held.frame (h : Held w M s r) (hk : ∀ b, OwnM M s b → w'.heap[b]? = w.heap[b]?) : Held w' M s r where
  lies := h.lies.frame fun b hb => hk b (Or.inl hb)
  placed := h.placed
  fit := h.fit
  box := (hk _ (Or.inr (Or.inl rfl))).trans h.box
  sums := (hk _ (Or.inr (Or.inr rfl))).trans h.sums
theorem Held.below (h : Held w M s r) (hb : Below w.heap.size w w') : Held w' M s r := h.frame fun b ho => hb.block b (h.own_lt ho)
theorem Held.drew (h : Held w M s r) : Held w.drew M s r := h.frame fun _ _ => rfl
theorem Held.turned {P : Nat → Prop} (h : Held w M s r) (ht : Turns P w w') (hP : ∀ b, OwnM M s b → ¬ P b) : Held w' M s r := h.frame fun b hb => ht.block b (h.own_lt hb) (hP b hb)
/-- Its boxes are none of its list's blocks. -/
theorem Held.apart (h : Held w M s r) : ¬ Own M.L s M.m ∧ ¬ Own M.L s M.u ∧ M.m ≠ M.u := by
  refine ⟨fun ho => ?_, fun ho => ?_, obj_cells_ne h.box h.sums (by decide)⟩
  · obtain ⟨cs, t, e, ht⟩ := h.lies.own_type ho
    have := h.box.symm.trans e
    simp only [Option.some.injEq, Obj.cells.injEq] at this
    rw [← this.2.1] at ht
    revert ht
    decide
  · obtain ⟨cs, t, e, ht⟩ := h.lies.own_type ho
    have := h.sums.symm.trans e
    simp only [Option.some.injEq, Obj.cells.injEq] at this
    rw [← this.2.1] at ht
    revert ht
    decide
theorem Held.c0 (h : Held w M s r) : w.cell? ⟨M.m, 0, none⟩ = some (.pointer (some ⟨M.L.b, 0, none⟩)) := by rw [cell_of h.box]; rfl
theorem Held.c1 (h : Held w M s r) : w.cell? ⟨M.m, 1, none⟩ = some (.pointer (some ⟨M.u, 0, none⟩)) := by rw [cell_of h.box]; rfl
theorem Held.d0 (h : Held w M s r) : w.cell? ⟨M.u, 0, none⟩ = some (.int .u64 (newestL (ents r) : Int)) := by rw [cell_of h.sums]; rfl
theorem Held.d1 (h : Held w M s r) : w.cell? ⟨M.u, 1, none⟩ = some (.int .i64 (bytesL (ents r) : Int)) := by rw [cell_of h.sums]; rfl
theorem Held.f0 (h : Held w M s r) : w.frozen? ⟨M.u, 0, none⟩ = false := unfrozen_of h.sums 0
theorem Held.f1 (h : Held w M s r) : w.frozen? ⟨M.u, 1, none⟩ = false := unfrozen_of h.sums 1
theorem Held.mem_ents (h : Held w M s r) (e : Ent) : e ∈ ents r ↔ e ∈ ents s := by
  rw [Mm.mem_ents, Mm.mem_ents]
  constructor <;> rintro ⟨y, hy, rfl⟩
  · exact ⟨y, (h.lies.kin.mem y).2 hy, rfl⟩
  · exact ⟨y, (h.lies.kin.mem y).1 hy, rfl⟩
theorem Held.fits (h : Held w M s r) {e : Ent} (he : e ∈ ents s) : Fit e := by
  obtain ⟨y, hy, rfl⟩ := Mm.mem_ents.1 he
  exact h.fit y hy
theorem Held.newest_lt (h : Held w M s r) : newestL (ents r) < 18446744073709551616 := Mm.newest_lt fun e he => (h.fits ((h.mem_ents e).1 he)).seq
theorem Held.bytes_le (h : Held w M s r) : bytesL (ents r) ≤ 4000000000 := by
  have h1 := Mm.bytes_le (l := ents r) fun e he => ⟨(h.fits ((h.mem_ents e).1 he)).key, (h.fits ((h.mem_ents e).1 he)).val⟩
  have h2 := h.lies.few
  have h3 : (ents r).length = r.length := by simp [ents]
  omega
end
/-! ### Put -/
def badE (e : Ent) : Bool := e.gone && decide (e.val.size ≠ 0)
/-- What Put answers. -/
def putE (e : Ent) (s : List (It Ent)) : Int := if badE e = true then 1 else if (Sk.find (placeE e) s).isSome = true then 5 else 0
def putS (e : Ent) (H : Int) (s : List (It Ent)) : List (It Ent) := if putE e s = 0 then put ⟨placeE e, e, clampH H⟩ s else s
def putR (e : Ent) (H : Int) (s r : List (It Ent)) : List (It Ent) := if putE e s = 0 then r ++ [⟨placeE e, e, clampH H⟩] else r
theorem putE_zero {e : Ent} {s : List (It Ent)} (h : putE e s = 0) : badE e = false ∧ Sk.find (placeE e) s = none := by
  unfold putE at h
  cases hb : badE e with
  | true => rw [hb, if_pos rfl] at h; cases h
  | false =>
    rw [hb, if_neg (by decide)] at h
    cases hf : Sk.find (placeE e) s with
    | none => exact ⟨rfl, rfl⟩
    | some y => rw [hf] at h; simp at h
/-- What a Put leaves. -/
structure PutTo (M : MLay) (s s' r' : List (It Ent)) (w w' : World) : Prop where
  ex : ∃ M', M'.m = M.m ∧ Held w' M' s' r' ∧ Turns (OwnM M s) w w' ∧ ∀ b, OwnM M' s' b → OwnM M s b ∨ w.heap.size ≤ b
end Go.Proofs.Ytmdnmabbphnhaaa.Mm

/- Rows of cells in memory, and what stays of them while other blocks are turned. No function is named. -/
import Derived.Test.YtbdoekogoiijeaaGrow
import Derived.Maps.AppendAt
namespace Go.Proofs.Ytbdoekogoiijeaa.Sk
open Go Go.RowKit

/-- Of what was there, but for these blocks, nothing has turned. -/
structure Turns (P : Nat → Prop) (w w' : World) : Prop where
  os : w'.os = w.os
  tape : w'.tape = w.tape
  output : w'.output = w.output
  size : w.heap.size ≤ w'.heap.size
  block : ∀ k, k < w.heap.size → ¬ P k → w'.heap[k]? = w.heap[k]?
theorem Turns.refl (P : Nat → Prop) (w : World) : Turns P w w := ⟨rfl, rfl, rfl, Nat.le_refl _, fun _ _ _ => rfl⟩
/-- One behind the other; the second one's blocks are the first one's, or new. -/
theorem Turns.trans {P Q : Nat → Prop} {a b c : World} (h : Turns P a b) (k : Turns Q b c) (hQ : ∀ x, Q x → P x ∨ a.heap.size ≤ x) : Turns P a c :=
  ⟨k.os.trans h.os, k.tape.trans h.tape, k.output.trans h.output, Nat.le_trans h.size k.size, fun i hi hp =>
    (k.block i (Nat.lt_of_lt_of_le hi h.size) (fun hq => (hQ i hq).elim hp (fun e => by omega))).trans (h.block i hi hp)⟩
theorem Turns.mono {P Q : Nat → Prop} {a b : World} (h : Turns P a b) (hQ : ∀ x, P x → Q x ∨ a.heap.size ≤ x) : Turns Q a b :=
  ⟨h.os, h.tape, h.output, h.size, fun i hi hq => h.block i hi (fun hp => (hQ i hp).elim hq (fun e => by omega))⟩
theorem Turns.of_below {P : Nat → Prop} {w w' : World} (h : Below w.heap.size w w') : Turns P w w' := ⟨h.os, h.tape, h.output, h.size, fun k hk _ => h.block k hk⟩
theorem Turns.of_grown {P : Nat → Prop} {w w' : World} {row : Option Nat} (h : w.grownBy w' row) (hP : ∀ k, row = some k → P k) : Turns P w w' :=
  ⟨h.os, h.tape, h.output, h.size, fun k hk hp => h.block k hk (fun e => hp (hP k e.symm))⟩
theorem Turns.of_setCell {P : Nat → Prop} (w : World) (a : Addr) (v : Value) (h : P a.block) : Turns P w (w.setCell a v) :=
  ⟨rfl, rfl, rfl, by simp [World.setCell], fun k _ hp => RowKit.Below.heap_setCell w a v k (fun e => hp (e ▸ h))⟩
theorem Turns.to_below {P : Nat → Prop} {w w' : World} {B : Nat} (h : Turns P w w') (hB : B ≤ w.heap.size) (hP : ∀ k, P k → B ≤ k) : Below B w w' :=
  ⟨h.os, h.tape, h.output, h.size, fun k hk => h.block k (Nat.lt_of_lt_of_le hk hB) (fun hp => by have := hP k hp; omega)⟩
theorem Turns.alloc {P : Nat → Prop} {w w' : World} (h : Turns P w w') (o : Obj) : Turns P w (w'.alloc o) :=
  h.trans (Turns.of_below (P := fun _ => False) ((Below.refl _ _).alloc (Nat.le_refl _) o)) (fun _ hx => hx.elim)
theorem Turns.drew {P : Nat → Prop} {w w' : World} (h : Turns P w w') : Turns P w w'.drew := ⟨h.os, h.tape, h.output, h.size, h.block⟩
theorem Turns.below {P : Nat → Prop} {w w' w2 : World} (h : Turns P w w') (hb : Below w'.heap.size w' w2) : Turns P w w2 :=
  h.trans (Turns.of_below (P := fun _ => False) hb) (fun _ hx => hx.elim)

theorem ownsRow_frame {w w' : World} {base : Nat} {e : TypeId} {z n : Nat} {v : Value} {xs : List Value} (h : w.ownsRow base e z v n xs) (hk : ∀ b, v.ownBlock = some b → w'.heap[b]? = w.heap[b]?) : w'.ownsRow base e z v n xs := by
  obtain ⟨h1, h2⟩ := h
  refine ⟨h1, ?_⟩
  rcases h2 with h2 | ⟨g, cap, cur, rfl, hg, hb, r⟩
  · exact Or.inl h2
  · exact Or.inr ⟨g, cap, cur, rfl, hg, (hk g rfl).trans hb, r⟩
theorem heap_lt {w : World} {b : Nat} {o : Obj} (h : w.heap[b]? = some o) : b < w.heap.size := (Array.getElem?_eq_some_iff.1 h).1
theorem ownsRow_lt {w : World} {base : Nat} {e : TypeId} {z n : Nat} {v : Value} {xs : List Value} (h : w.ownsRow base e z v n xs) {b : Nat} (hb : v.ownBlock = some b) : b < w.heap.size := (World.ownsRow.lt h b hb).2
theorem ownsRow_below {w w' : World} {base : Nat} {e : TypeId} {z n : Nat} {v : Value} {xs : List Value} (h : w.ownsRow base e z v n xs) (hb : Below w.heap.size w w') : w'.ownsRow base e z v n xs :=
  ownsRow_frame h fun _ hv => hb.block _ (ownsRow_lt h hv)
theorem ownsRow_obj {w : World} {base : Nat} {e : TypeId} {z n : Nat} {v : Value} {xs : List Value} (h : w.ownsRow base e z v n xs) {b : Nat} (hb : v.ownBlock = some b) : ∃ cur, w.heap[b]? = some (.cells cur e (0, 0)) := by
  rcases h.2 with ⟨rfl, _⟩ | ⟨g, cap, cur, rfl, _, hg, _⟩
  · simp [Value.ownBlock] at hb
  · simp only [Value.ownBlock, Option.some.injEq] at hb
    subst hb
    exact ⟨cur, hg⟩
theorem obj_cells_ne {w : World} {a b : Nat} {c c' : Array Value} {t t' : TypeId} (ha : w.heap[a]? = some (.cells c t (0, 0))) (hb : w.heap[b]? = some (.cells c' t' (0, 0))) (h : t ≠ t') : a ≠ b := by
  intro e
  subst e
  rw [ha] at hb
  simp only [Option.some.injEq, Obj.cells.injEq] at hb
  exact h hb.2.1
theorem setCell_kept (w : World) (a : Addr) (v : Value) {k : Nat} (h : k ≠ a.block) : (w.setCell a v).heap[k]? = w.heap[k]? := RowKit.Below.heap_setCell w a v k h
theorem cell_of {w : World} {b : Nat} {cs : Array Value} {t : TypeId} {k : Nat} (h : w.heap[b]? = some (.cells cs t (0, 0))) : w.cell? ⟨b, k, none⟩ = cs[k]? := by
  simp [World.cell?, h]
theorem unfrozen_of {w : World} {b : Nat} {cs : Array Value} {t : TypeId} (h : w.heap[b]? = some (.cells cs t (0, 0))) (k : Nat) : w.frozen? ⟨b, k, none⟩ = false := by
  simp [World.frozen?, h]
theorem add_none (g j : Nat) : (⟨g, 0, none⟩ : Addr).add j = ⟨g, j, none⟩ := by unfold Addr.add; split <;> simp_all
/-- The shape of a row that is owned, and its cells. -/
theorem row_shape {w : World} {base : Nat} {e : TypeId} {z n : Nat} {v : Value} {xs : List Value} (h : w.ownsRow base e z v n xs) (hn : 0 < n) : ∃ g cap, v = .slice (some ⟨g, 0, none⟩) n cap ∧ n ≤ cap ∧ g < w.heap.size ∧ base ≤ g ∧ (∀ k, w.frozen? ⟨g, k, none⟩ = false) ∧ ∀ j u, xs[j]? = some u → w.cell? ⟨g, j, none⟩ = some u := by
  have h0 := h
  rcases h.2 with ⟨rfl, h1⟩ | ⟨g, cap, cur, rfl, hb, hg, hnc, _⟩
  · omega
  · refine ⟨g, cap, rfl, hnc, heap_lt hg, hb, fun k => unfrozen_of hg k, fun j u hj => ?_⟩
    have := h0.cells (g := g) rfl j u hj
    rwa [add_none] at this
theorem row_any {w : World} {base : Nat} {e : TypeId} {z n : Nat} {v : Value} {xs : List Value} (h : w.ownsRow base e z v n xs) : ∃ ao cap, v = .slice ao n cap := by
  rcases h.2 with ⟨rfl, rfl⟩ | ⟨g, cap, cur, rfl, _⟩
  · exact ⟨none, 0, rfl⟩
  · exact ⟨_, cap, rfl⟩

end Go.Proofs.Ytbdoekogoiijeaa.Sk

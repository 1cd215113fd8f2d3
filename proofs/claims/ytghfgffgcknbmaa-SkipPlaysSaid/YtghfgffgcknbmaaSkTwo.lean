/- Two rows of texts that a loop collects, each in its box: keys, and values. No function is named. -/
import Derived.Test.YtghfgffgcknbmaaSkRange
import Derived.RangeFuncBox
import Derived.Maps.OwnIn
namespace Go.Proofs.Ytghfgffgcknbmaa.Sk
open Go Go.RowKit Go.Shelf
set_option linter.unusedVariables false

def Two (base Bk Bv : Nat) (pre : List (It ByteArray)) (W : World) : Prop := ∃ vk vv, W.heap[Bk]? = some (.cells #[vk] 58 (0, 0)) ∧ W.heap[Bv]? = some (.cells #[vv] 58 (0, 0)) ∧
  W.ownsRow base 9 1 vk pre.length (keyCells pre) ∧ W.ownsRow base 9 1 vv pre.length (pre.map fun y => .string y.val) ∧ ∀ b, vk.ownBlock = some b → vv.ownBlock ≠ some b
theorem cells_stay {A B : World} {row : Option Nat} (hg : A.grownBy B row) (hr : ∀ r, row = some r → ∃ o : Obj, A.heap[r]? = some o ∧ o.isCells = false) {b : Nat} {cs : Array Value} {t : TypeId} {m : Nat × Nat} (h : A.heap[b]? = some (.cells cs t m)) : B.heap[b]? = A.heap[b]? :=
  hg.block b (heap_lt h) (fun e => by
    obtain ⟨o, ho, hc⟩ := hr b e.symm
    rw [h] at ho
    obtain rfl := Option.some.inj ho
    cases hc)
theorem row_stay {A B : World} {row : Option Nat} (hg : A.grownBy B row) (hr : ∀ r, row = some r → ∃ o : Obj, A.heap[r]? = some o ∧ o.isCells = false) {base : Nat} {e : TypeId} {z n : Nat} {v : Value} {xs : List Value} (h : A.ownsRow base e z v n xs) : B.ownsRow base e z v n xs :=
  ownsRow_frame h fun b hb => by
    obtain ⟨cs, e⟩ := ownsRow_obj h hb
    exact cells_stay hg hr e
theorem Two.own (base Bk Bv : Nat) : Go.Own (Two base Bk Bv) := fun s A B row hs hg hr => by
  obtain ⟨vk, vv, h1, h2, h3, h4, h5⟩ := hs
  exact ⟨vk, vv, (cells_stay hg hr h1).trans h1, (cells_stay hg hr h2).trans h2, row_stay hg hr h3, row_stay hg hr h4, h5⟩
theorem turns_from {β : Type} {Wr : Nat → Prop} {n₁ : Nat} {Ws : World} (hw : ∀ k, n₁ ≤ k → Wr k) : OwnFrom n₁ (fun (_ : β) W => Turns Wr Ws W) := fun s A B row hs hg hr =>
  hs.trans (Turns.of_grown (P := Wr) hg fun k e => hw k (hr k e).1) (fun _ hx => Or.inl hx)

/-- A row in a box, grown by one. -/
structure Grown1 (Wr : Nat → Prop) (base B n : Nat) (v v' : Value) (cs : List Value) (W w1 W3 : World) : Prop where
  cell : w1.cell? ⟨B, 0, none⟩ = some v
  soft : w1.frozen? ⟨B, 0, none⟩ = false
  box : W3.heap[B]? = some (.cells #[v'] 58 (0, 0))
  row : W3.ownsRow base 9 1 v' n cs
  turns : Turns Wr W W3
  keeps : KeepsOthers W W3
  block : ∀ b, b < W.heap.size → b ≠ B → v.ownBlock ≠ some b → W3.heap[b]? = W.heap[b]? ∧ w1.heap[b]? = W.heap[b]?
  place : ∀ b, v'.ownBlock = some b → v.ownBlock = some b ∨ W.heap.size ≤ b
  size : W.heap.size ≤ W3.heap.size
theorem grow_one {Wr : Nat → Prop} {W w1 : World} {B base n m : Nat} {v v' : Value} {cs cs' : List Value} {o : Obj} (hB : W.heap[B]? = some (.cells #[v] 58 (0, 0))) (hr : W.ownsRow base 9 1 v n cs) (hg : (W.alloc o).grownBy w1 v.ownBlock) (hown : w1.ownsRow base 9 1 v' m cs')
    (hat : v'.ownBlock = v.ownBlock ∨ v'.ownBlock = some (W.alloc o).heap.size) (h1 : Wr B) (h2 : ∀ k, base ≤ k → Wr k) : Grown1 Wr base B m v v' cs' W w1 (w1.setCell ⟨B, 0, none⟩ v') := by
  have hvB : v.ownBlock ≠ some B := fun e => by
    obtain ⟨c, e2⟩ := ownsRow_obj hr e
    exact obj_cells_ne hB e2 (by decide) rfl
  have hlt := heap_lt hB
  have hk : ∀ b, b < W.heap.size → v.ownBlock ≠ some b → w1.heap[b]? = W.heap[b]? := fun b hb hne => by
    rw [hg.block b (by simp; omega) (fun e => hne e.symm), RowKit.Below.heap_alloc _ _ _ hb]
  have hs := hg.size
  simp at hs
  have hbx := (hk B hlt hvB).trans hB
  have hv'B : v'.ownBlock ≠ some B := fun e => by
    obtain ⟨c, e2⟩ := ownsRow_obj hown e
    exact obj_cells_ne hbx e2 (by decide) rfl
  have hsz : (w1.setCell ⟨B, 0, none⟩ v').heap.size = w1.heap.size := by simp [World.setCell]
  refine ⟨?_, unfrozen_of hbx 0, ?_, ?_, ?_, ?_, fun b hb h3 h4 => ⟨?_, hk b hb h4⟩, fun b hb => ?_, by omega⟩
  · rw [cell_of hbx]; rfl
  · rw [heap_setCell_same w1 B 0 _ _ _ hbx]; rfl
  · exact ownsRow_frame hown fun b hb => setCell_kept _ _ _ fun e => hv'B (by rw [hb]; exact congrArg some e)
  · refine ⟨hg.os, hg.tape, hg.output, by omega, fun k hkk hp => ?_⟩
    rw [setCell_kept _ _ _ (fun e => hp (by have e : k = B := e; rw [e]; exact h1))]
    exact hk k hkk fun e => hp (h2 k (World.ownsRow.lt hr k e).1)
  · refine ((KeepsOthers.alloc W o).trans (KeepsOthers.of_grownBy hg fun j oo hj hoo => ?_)).trans (KeepsOthers.setCell _ _ _)
    obtain ⟨c, e2⟩ := ownsRow_obj hr hj
    rw [RowKit.Below.heap_alloc _ _ _ (heap_lt e2), e2] at hoo
    obtain rfl := Option.some.inj hoo
    rfl
  · rw [setCell_kept _ _ _ (by exact h3)]
    exact hk b hb h4
  · rcases hat with e | e
    · exact Or.inl (e ▸ hb)
    · right
      rw [hb] at e
      have := Option.some.inj e
      simp at this
      omega
theorem two_mid {Wr : Nat → Prop} {W w1 : World} {base Bk Bv n m : Nat} {vk vk' vv : Value} {ck cv : List Value} (hk : W.heap[Bk]? = some (.cells #[vk] 58 (0, 0))) (hv : W.heap[Bv]? = some (.cells #[vv] 58 (0, 0)))
    (hb : Bk ≠ Bv) (rk : W.ownsRow base 9 1 vk n ck) (rv : W.ownsRow base 9 1 vv n cv) (hap : ∀ b, vk.ownBlock = some b → vv.ownBlock ≠ some b) {c' : List Value} (G : Grown1 Wr base Bk m vk vk' c' W w1 (w1.setCell ⟨Bk, 0, none⟩ vk')) :
    w1.cell? ⟨Bv, 0, none⟩ = some vv ∧ (w1.setCell ⟨Bk, 0, none⟩ vk').heap[Bv]? = some (.cells #[vv] 58 (0, 0)) ∧ (w1.setCell ⟨Bk, 0, none⟩ vk').ownsRow base 9 1 vv n cv := by
  have hne : vk.ownBlock ≠ some Bv := fun e => by
    obtain ⟨c, e2⟩ := ownsRow_obj rk e
    exact obj_cells_ne hv e2 (by decide) rfl
  obtain ⟨e1, e2⟩ := G.block Bv (heap_lt hv) hb.symm hne
  refine ⟨?_, e1.trans hv, ownsRow_frame rv fun b hbb => ?_⟩
  · rw [cell_of (e2.trans hv)]; rfl
  · refine (G.block b (ownsRow_lt rv hbb) ?_ fun e => hap b e hbb).1
    obtain ⟨c, e3⟩ := ownsRow_obj rv hbb
    exact (obj_cells_ne hk e3 (by decide)).symm
theorem two_step {Wr : Nat → Prop} {W W3 w4 W6 : World} {w1 : World} {base Bk Bv : Nat} {pre : List (It ByteArray)} {x : It ByteArray} {vk vk' vv vv' : Value} (hk : W.heap[Bk]? = some (.cells #[vk] 58 (0, 0))) (hv : W.heap[Bv]? = some (.cells #[vv] 58 (0, 0)))
    (hb : Bk ≠ Bv) (rk : W.ownsRow base 9 1 vk pre.length (keyCells pre)) (rv : W.ownsRow base 9 1 vv pre.length (pre.map fun y => .string y.val)) (hap : ∀ b, vk.ownBlock = some b → vv.ownBlock ≠ some b)
    (G : Grown1 Wr base Bk (pre.length + 1) vk vk' (keyCells pre ++ [.string (txt x.key)]) W w1 W3) (G2 : Grown1 Wr base Bv (pre.length + 1) vv vv' ((pre.map fun y => .string y.val) ++ [.string x.val]) W3 w4 W6) (h3 : W3.ownsRow base 9 1 vv pre.length (pre.map fun y => .string y.val)) :
    Two base Bk Bv (pre ++ [x]) W6 ∧ Turns Wr W W6 ∧ KeepsOthers W W6 := by
  have hl : (pre ++ [x]).length = pre.length + 1 := by simp
  have hvk' : ∀ b, vk'.ownBlock = some b → vv.ownBlock ≠ some b := fun b h1 h2 => by
    rcases G.place b h1 with e | e
    · exact hap b e h2
    · have := ownsRow_lt rv h2; omega
  have hbk := G.box
  refine ⟨⟨vk', vv', ?_, G2.box, ?_, ?_, fun b h1 h2 => ?_⟩, G.turns.trans G2.turns (fun _ hx => Or.inl hx), G.keeps.trans G2.keeps⟩
  · refine ((G2.block Bk (heap_lt hbk) hb ?_).1).trans hbk
    intro e
    obtain ⟨c, e2⟩ := ownsRow_obj h3 e
    exact obj_cells_ne hbk e2 (by decide) rfl
  · rw [hl, show keyCells (pre ++ [x]) = keyCells pre ++ [.string (txt x.key)] by simp [keyCells]]
    refine ownsRow_frame G.row fun b h1 => (G2.block b (ownsRow_lt G.row h1) ?_ (hvk' b h1)).1
    obtain ⟨c, e2⟩ := ownsRow_obj G.row h1
    intro e
    subst e
    rcases G.place b h1 with e3 | e3
    · obtain ⟨c', e4⟩ := ownsRow_obj rk e3
      exact obj_cells_ne hv e4 (by decide) rfl
    · have := heap_lt hv; omega
  · rw [hl, show ((pre ++ [x]).map fun y : It ByteArray => Value.string y.val) = (pre.map fun y => .string y.val) ++ [.string x.val] by simp]
    exact G2.row
  · rcases G2.place b h2 with e | e
    · exact hvk' b h1 e
    · have := ownsRow_lt G.row h1; omega

theorem one_cell (W : World) (n : Nat) (hn : W.heap.size = n) (v : Value) (t : TypeId) : ∀ j u, [v][j]? = some u → (W.alloc (.cells #[v] t)).cell? ((⟨n, 0, none⟩ : Addr).add j) = some u := by
  subst hn
  exact cell_one_new W v t

theorem row_here {w : World} {base : Nat} {e : TypeId} {z n m cap : Nat} {ao : Option Addr} {xs : List Value} (h : w.ownsRow base e z (.slice ao m cap) n xs) : m = n ∧ ∀ j u, xs[j]? = some u → ∃ g, ao = some ⟨g, 0, none⟩ ∧ base ≤ g ∧ g < w.heap.size ∧ w.cell? ⟨g, j, none⟩ = some u := by
  rcases h.2 with ⟨e1, e2⟩ | ⟨g, cap', cur, e1, hb, hg, _⟩
  · simp only [Value.slice.injEq] at e1
    obtain ⟨rfl, rfl, rfl⟩ := e1
    subst e2
    refine ⟨rfl, fun j u hj => ?_⟩
    have : xs = [] := List.eq_nil_of_length_eq_zero (by simpa using h.1)
    rw [this] at hj
    simp at hj
  · simp only [Value.slice.injEq] at e1
    obtain ⟨rfl, rfl, rfl⟩ := e1
    refine ⟨rfl, fun j u hj => ⟨g, rfl, hb, heap_lt hg, ?_⟩⟩
    have := h.cells (g := g) rfl j u hj
    rwa [add_none] at this

end Go.Proofs.Ytghfgffgcknbmaa.Sk

/- A range over what From tells whose value's variable lies in a box; a row of entries that a loop collects. No function is named but that one. -/
import Derived.Test.YtmdnmabbphnhaaaMmHeap
import Derived.Test.YtmdnmabbphnhaaaSmRange
import Derived.RangeFuncBox
import Derived.RangeFuncNested
import Derived.Maps.OwnIn
namespace Go.Proofs.Ytmdnmabbphnhaaa.Mm
open Go Go.RowKit Go.Shelf Go.Proofs.Ytmdnmabbphnhaaa.Sk Go.Proofs.Ytmdnmabbphnhaaa.Sm
set_option linter.unusedVariables false

abbrev entCells (e : Ent) : List Value := [.string e.key, .string e.val, .int .u64 (e.seq : Int), .bool e.gone]
abbrev rowCells (l : List Ent) : List Value := l.flatMap entCells
theorem rowCells_snoc (l : List Ent) (e : Ent) : rowCells (l ++ [e]) = rowCells l ++ entCells e := by simp [rowCells]
theorem rowCells_length (l : List Ent) : (rowCells l).length = l.length * 4 := by
  induction l with
  | nil => rfl
  | cons a l ih => simp only [rowCells, List.flatMap_cons, List.length_append, List.length_cons, List.length_nil] at ih ⊢; omega
/-- A slice of entries that is the call's own, from a block on. -/
def OwnsE (w : World) (base : Nat) (v : Value) (l : List Ent) : Prop := w.ownsRow base 32 4 v l.length (rowCells l)
theorem info_ent : (Try.prog.info? 32).map (fun i => (i.zero, i.size, i.bytes)) = some (some (.agg #[.string ⟨#[]⟩, .string ⟨#[]⟩, .int .u64 0, .bool false]), 4, 48) := by kernel_rfl
theorem OwnsE.nil (w : World) (base : Nat) : OwnsE w base (.slice none 0 0) [] := World.ownsRow_nil ..
theorem OwnsE.snoc {w : World} {base : Nat} {v : Value} {l : List Ent} {e : Ent} (h : w.ownsRow base 32 4 v (l.length + 1) (rowCells l ++ entCells e)) : OwnsE w base v (l ++ [e]) := by
  unfold OwnsE
  rw [List.length_append, rowCells_snoc]
  exact h
theorem OwnsE.below {w w' : World} {base : Nat} {v : Value} {l : List Ent} (h : OwnsE w base v l) (hb : Below w.heap.size w w') : OwnsE w' base v l := ownsRow_below h hb

theorem OwnsE.low {w : World} {base b2 : Nat} {v : Value} {l : List Ent} (hb : b2 ≤ base) (h : OwnsE w base v l) : OwnsE w b2 v l := by
  refine ⟨h.1, ?_⟩
  rcases h.2 with h1 | ⟨g, cap, cur, h1, h2, h3⟩
  · exact Or.inl h1
  · exact Or.inr ⟨g, cap, cur, h1, Nat.le_trans hb h2, h3⟩
theorem cells_stay {A B : World} {row : Option Nat} (hg : A.grownBy B row) (hr : ∀ r, row = some r → ∃ o : Obj, A.heap[r]? = some o ∧ o.isCells = false) {b : Nat} {cs : Array Value} {t : TypeId} {fz : Nat × Nat} (h : A.heap[b]? = some (.cells cs t fz)) : B.heap[b]? = A.heap[b]? :=
  hg.block b (heap_lt h) (fun e => by
    obtain ⟨o, ho, hc⟩ := hr b e.symm
    rw [h] at ho
    obtain rfl := Option.some.inj ho
    cases hc)
theorem row_stay {A B : World} {row : Option Nat} (hg : A.grownBy B row) (hr : ∀ r, row = some r → ∃ o : Obj, A.heap[r]? = some o ∧ o.isCells = false) {base : Nat} {v : Value} {l : List Ent} (h : OwnsE A base v l) : OwnsE B base v l :=
  ownsRow_frame h fun b hb => by
    obtain ⟨cs, e⟩ := ownsRow_obj h hb
    exact cells_stay hg hr e
/-- A box that holds a collected row, grown by one entry. -/
theorem grow_ent {Wr : Nat → Prop} {W w1 : World} {n2 eb : Nat} {v v' : Value} {l l' : List Ent} {tmp : Obj} (hv : Boxed W eb 28 v) (hrow : OwnsE W n2 v l) (hn : n2 ≤ W.heap.size)
    (hown' : OwnsE w1 n2 v' l') (hgrow : (W.alloc tmp).grownBy w1 v.ownBlock) (h1 : Wr eb) (h2 : ∀ k, n2 ≤ k → Wr k) :
    Boxed w1 eb 28 v ∧ Boxed (w1.setCell ⟨eb, 0, none⟩ v') eb 28 v' ∧ OwnsE (w1.setCell ⟨eb, 0, none⟩ v') n2 v' l' ∧ KeepsOthers W (w1.setCell ⟨eb, 0, none⟩ v') ∧ Turns Wr W (w1.setCell ⟨eb, 0, none⟩ v') := by
  have hne : 28 ≠ 32 := by decide
  have hv1 : Boxed w1 eb 28 v := (hv.alloc tmp).kept hgrow (hv.not_row hne hrow)
  refine ⟨hv1, hv1.set v', World.ownsRow.kept hown' (grownBy_setCell' w1 eb v') (.inr (hv1.not_row hne hown').symm), ?_, ?_⟩
  · refine ((KeepsOthers.alloc W tmp).trans (KeepsOthers.of_grownBy hgrow fun j o ej hj => ?_)).trans (KeepsOthers.setCell _ _ _)
    obtain ⟨cs, e⟩ := ownsRow_obj (ownsRow_below hrow (alloc_below W tmp)) ej
    rw [e] at hj
    cases hj
    rfl
  · have hz := hgrow.size
    rw [World.size_alloc] at hz
    refine ⟨?_, ?_, ?_, ?_, fun k hk hp => ?_⟩
    · show w1.os = W.os
      rw [hgrow.os]; rfl
    · show w1.tape = W.tape
      rw [hgrow.tape]; rfl
    · show w1.output = W.output
      rw [hgrow.output]; rfl
    · simp [World.setCell]; omega
    · rw [setCell_kept _ _ _ (fun e => hp (by rw [e]; exact h1)), hgrow.block k (by simp; omega) (fun e => hp (h2 k (World.ownsRow.lt hrow k e.symm).1))]
      exact RowKit.Below.heap_alloc _ _ _ hk

/-- An append to a row of the call's own, inside a fence. -/
theorem opIn_append_own {F : Fence} {n : Nat} {P : Program} (w : World) {o : Oper} {a : Act} {K : Act → World → Prop} {Q : Exit → Act → World → Prop}
    (s x : Operand) (t : TypeId) (hop : o.op = Op.call { callee := Callee.builtin Builtin.append, args := #[s, x], argTypes := #[t, t] })
    (base : Nat) (e : TypeId) (i : TypeInfo) (z : Value) (size bytes : Nat) (h1 : P.underlying t = some (.slice e)) (h2 : P.info? e = some i) (h3 : i.zero = some z) (h4 : i.size = size) (h5 : i.bytes = bytes) (h6 : z.cells.size = size) (h7 : 0 < size)
    (v : Value) (k : Nat) (xs : List Value) (hs : a.eval s = v) (hown : w.ownsRow base e size v k xs) (ad : Addr) (m c : Nat) (news : List Value) (hx : a.eval x = .slice (some ad) m c) (hn : news.length = m * size)
    (hc : ∀ j u, news[j]? = some u → w.cell? (ad.add j) = some u) (h1c : ∀ u ∈ news, u.oneCell' = true) (b1 : k + m ≤ maxLen) (b2 : (k + m) * bytes ≤ 140737488355328) (b3 : base ≤ w.heap.size)
    (hK : ∀ v' w', w'.ownsRow base e size v' (k + m) (xs ++ news) → w.grownBy w' v.ownBlock → K (a.put o.dst v') w') : Oper.wpIn F n P o a w K Q := by
  obtain ⟨v', w', hrun, r1, r2, _⟩ := run_append_own (P := P) w base t o.type e i z size bytes h1 h2 h3 h4 h5 h6 h7 v k xs hown ad m c news hn hc h1c b1 b2 b3
  unfold Oper.wpIn
  refine ⟨?_, ?_⟩
  · simp [Oper.about, hop, resolve, Target.leads, Sem.run_pure]
  · rw [Oper.semAt_plain F _ _ (by rw [hop]; intro c hc'; cases hc')]
    simp [execOp, hop, resolve, invoke, builtin, hs, hx, hrun, Result.andThen]
    exact hK _ _ r1 r2

/-- A place with an entry that fits. -/
abbrev FE := { y : It Ent // Fit y.val }
def encF (x : FE) : Array Value := encS x.1
abbrev un (p : List FE) : List (It Ent) := p.map (·.1)
theorem un_inj {p q : List FE} (h : un p = un q) : p = q := by
  induction p generalizing q with
  | nil => cases q with
    | nil => rfl
    | cons b q => cases h
  | cons a p ih => cases q with
    | nil => cases h
    | cons b q =>
      simp only [un, List.map_cons, List.cons.injEq] at h
      rw [Subtype.ext h.1, ih h.2]
/-- What From tells ranges over the keys from one on: of entries that fit. -/
theorem from_stopsF (n : Nat) (hn : 1 ≤ n) (B1 B2 : Nat) (Wr : Nat → Prop) (L : Lay) (s r : List (It Ent)) (K : ByteArray) (A xs : List (It Ent)) (hs : s = A ++ xs) (hseek : seek K.data.toList s = xs.head?) (hfit : ∀ y ∈ xs, Fit y.val) (w : World)
    (h1 : w.cell? ⟨B1, 0, none⟩ = some (.pointer (some ⟨L.b, 0, none⟩))) (h2 : w.cell? ⟨B2, 0, none⟩ = some (.string K)) (hB1 : ¬ Wr B1) (hL : ListS w L s r) (hown : ∀ b, Sm.Own L s b → ¬ Wr b) :
    SeqStopsK Fence.wide n Try.prog 42 #[.pointer (some ⟨B1, 0, none⟩), .pointer (some ⟨B2, 0, none⟩)] encF (Turns Wr) (fun ys => un ys = xs) (fun pre => un pre <+: xs) xs.length w := fun l J Jx W hW hJ _ hY h0 => by
  have h := from1_in n hn l B1 B2 Wr L s r K A xs hs hseek (fun p W => ∃ q, un q = p ∧ J q W) (fun p W => ∃ q, un q = p ∧ Jx q W) (fun y => Fit y.val) hfit
    (fun pre x W hg hj hl => by
      obtain ⟨q, rfl, hj⟩ := hj
      refine YieldAt.mono (hY q ⟨x, hg⟩ W hj (by simpa using hl)) ?_
      rintro e W' (⟨rfl, h3, h4⟩ | ⟨rfl, h3⟩)
      · exact .inl ⟨rfl, ⟨q ++ [⟨x, hg⟩], by simp [un], h3⟩, h4⟩
      · exact .inr ⟨rfl, ⟨q ++ [⟨x, hg⟩], by simp [un], h3⟩⟩) W
    (fun p A B row hs2 hg hr => by
      obtain ⟨q, e, hj⟩ := hs2
      exact ⟨q, e, hJ q A B row hj hg hr⟩) ((hW.cell (p := ⟨B1, 0, none⟩) (World.block_lt_of_cell? w _ h1)).trans h1) ((hW.cell (p := ⟨B2, 0, none⟩) (World.block_lt_of_cell? w _ h2)).trans h2) hB1 (hL.below hW) hown ⟨[], rfl, h0⟩
  refine h.mono ?_
  rintro e W' ⟨hv, ⟨ys, rfl, q, hq, hj⟩ | ⟨pre, hp, q, rfl, hj⟩⟩
  · exact ⟨hv, .inl ⟨q, hq, hj⟩⟩
  · exact ⟨hv, .inr ⟨q, hp, hj⟩⟩
theorem ownPost_un {B : Nat} {Kp : World → World → Prop} {I : List (It Ent) → World → Prop} {Ix : Code → List (It Ent) → World → Prop} (p : List FE) (x : FE) (W : World) :
    ownPostG B Kp (fun p => I (un p)) (fun c p => Ix c (un p)) (p ++ [x]) W = ownPostG B Kp I Ix (un p ++ [x.1]) W := by
  funext e a w
  cases e <;> simp [ownPostG, un]

theorem range_boxed {n : Nat} {g : Operand} {p1 p2 : Nat} {assign body : Code} {Q : Exit → Act → World → Prop} {tmps : Array Value} {ds : List Deferred} {w : World} (h1 : 1 ≤ n) {lb : Array Value} (hg : ({ tmps := tmps, defers := ds } : Act).eval g = .func (.func 42) #[] lb)
    {Kp : World → World → Prop} {S Sp : List FE → Prop} {N : Nat} (hseq : SeqStopsK Fence.wide (n - 1) Try.prog 42 lb encF Kp S Sp N w)
    (hKt : ∀ {A B C : World}, Kp A B → Kp B C → Kp A C) (hKb : ∀ (W : World) (l : Nat) (o o' : Obj), w.heap.size ≤ l → W.heap[l]? = some o → o.isCells = false → o.isWalk = false → Kp W (W.putObj l o'))
    (I : List FE → World → Prop) (Ix : Code → List FE → World → Prop) (hI : OwnFrom w.heap.size I) (hIx : ∀ c, OwnFrom w.heap.size (Ix c)) (h0 : I [] w) (Ax : FE → Act → World → Prop) (hAx : ∀ x a', OwnFrom w.heap.size (fun (_ : Unit) W => Ax x a' W))
    (hassign : ∀ (l : Nat) (pre : List FE) (x : FE) (W : World) (K : Act → World → Prop), I pre W → (∀ a' W', KeepsFrom w.heap.size W W' → Kp W W' → I pre W' → Ax x a' W' → K a' W') →
      assign.wpIn (Fence.wide.inRound l) (n - 1 - 1) Try.prog (Exit.then K (fun _ _ _ => False)) { tmps := (tmps.setIfInBounds p1 (.string (txt x.1.key))).setIfInBounds p2 (enV x.1.val), defers := [] } W)
    (hbody : ∀ (l : Nat) (pre : List FE) (x : FE) (a' : Act) (W : World), I pre W → Ax x a' W → pre.length < N → body.wpIn (Fence.wide.inRound l) (n - 1 - 1) Try.prog (ownPostG w.heap.size Kp I Ix (pre ++ [x]) W) a' W)
    (hdone : ∀ (D : Nat) (xs : List FE) (W : World), w.heap.size ≤ D → S xs → I xs W → W.heap[D]? = some (.deferred (some [])) → Q .normal { tmps := tmps, defers := { target := .collected D, args := #[] } :: ds } W)
    (hstop : ∀ (D : Nat) (c : Code) (pre : List FE) (W : World), w.heap.size ≤ D → Sp pre → Ix c pre W → W.heap[D]? = some (.deferred (some [])) → c.wpIn Fence.wide n Try.prog Q { tmps := tmps, defers := { target := .collected D, args := #[] } :: ds } W) :
    (Code.rangeFunc g #[p1, p2] assign body).wp Try.prog Q { tmps := tmps, defers := ds } w :=
  (wpIn_wide (n := n)).1 (wpIn_rangeFunc_ownH (a := { tmps := tmps, defers := ds }) rfl h1 (gf := 42) hg trivial (enters_of Try.func42 (by kernel_rfl) rfl) hseq hKt hKb (Below.refl _ _) (fun _ => rfl) I Ix hI hIx h0
    Ax hAx (fun l pre x W K hp hK => by
      have e : ((#[p1, p2] : Array Tmp).zip (encF x)).foldl (fun t (p : Tmp × Value) => t.setIfInBounds p.1 p.2) tmps = (tmps.setIfInBounds p1 (.string (txt x.1.key))).setIfInBounds p2 (enV x.1.val) := by simp [encF, encS]
      show assign.wpIn _ _ _ _ { tmps := ((#[p1, p2] : Array Tmp).zip (encF x)).foldl (fun t (p : Tmp × Value) => t.setIfInBounds p.1 p.2) tmps, defers := [] } W
      rw [e]
      exact hassign l pre x W K hp hK) (fun l pre x a' W _ _ h2 h3 h4 => hbody l pre x a' W h2 h3 h4) hdone hstop)

abbrev entX (e : Ent) : Obj := .cells #[.string e.key, .string e.val, .int .u64 (e.seq : Int), .bool e.gone] 32
theorem range_box1 {n : Nat} {g : Operand} {p1 p2 : Nat} (q : Nat) {assign body : Code} {Q : Exit → Act → World → Prop} {tmps : Array Value} {ds : List Deferred} {w : World} (h1 : 1 ≤ n) {lb : Array Value} (hg : ({ tmps := tmps, defers := ds } : Act).eval g = .func (.func 42) #[] lb)
    {Kp : World → World → Prop} {S Sp : List (It Ent) → Prop} {N : Nat} (hseq : SeqStopsK Fence.wide (n - 1) Try.prog 42 lb encF Kp (fun ys => S (un ys)) (fun ys => Sp (un ys)) N w)
    (hKt : ∀ {A B C : World}, Kp A B → Kp B C → Kp A C) (hKb : ∀ (W : World) (l : Nat) (o o' : Obj), w.heap.size ≤ l → W.heap[l]? = some o → o.isCells = false → o.isWalk = false → Kp W (W.putObj l o'))
    (I : List (It Ent) → World → Prop) (Ix : Code → List (It Ent) → World → Prop) (hI : OwnFrom w.heap.size I) (hIx : ∀ c, OwnFrom w.heap.size (Ix c)) (h0 : I [] w)
    (hassign : ∀ (l : Nat) (pre : List (It Ent)) (x : It Ent) (W : World) (K : Act → World → Prop), I pre W → (∀ B W', KeepsFrom w.heap.size W W' → Kp W W' → I pre W' → W'.heap[B]? = some (entX x.val) → K { tmps := ((tmps.setIfInBounds p1 (.string (txt x.key))).setIfInBounds p2 (enV x.val)).setIfInBounds q (.pointer (some ⟨B, 0, none⟩)), defers := [] } W') →
      assign.wpIn (Fence.wide.inRound l) (n - 1 - 1) Try.prog (Exit.then K (fun _ _ _ => False)) { tmps := (tmps.setIfInBounds p1 (.string (txt x.key))).setIfInBounds p2 (enV x.val), defers := [] } W)
    (hbody : ∀ (l : Nat) (pre : List (It Ent)) (x : It Ent) (B : Nat) (W : World), Fit x.val → I pre W → W.heap[B]? = some (entX x.val) → pre.length < N → body.wpIn (Fence.wide.inRound l) (n - 1 - 1) Try.prog (ownPostG w.heap.size Kp I Ix (pre ++ [x]) W) { tmps := ((tmps.setIfInBounds p1 (.string (txt x.key))).setIfInBounds p2 (enV x.val)).setIfInBounds q (.pointer (some ⟨B, 0, none⟩)), defers := [] } W)
    (hdone : ∀ (D : Nat) (xs : List (It Ent)) (W : World), w.heap.size ≤ D → S xs → I xs W → W.heap[D]? = some (.deferred (some [])) → Q .normal { tmps := tmps, defers := { target := .collected D, args := #[] } :: ds } W)
    (hstop : ∀ (D : Nat) (c : Code) (pre : List (It Ent)) (W : World), w.heap.size ≤ D → Sp pre → Ix c pre W → W.heap[D]? = some (.deferred (some [])) → c.wpIn Fence.wide n Try.prog Q { tmps := tmps, defers := { target := .collected D, args := #[] } :: ds } W) :
    (Code.rangeFunc g #[p1, p2] assign body).wp Try.prog Q { tmps := tmps, defers := ds } w :=
  range_boxed h1 hg hseq hKt hKb (fun p => I (un p)) (fun c p => Ix c (un p)) (fun p => hI (un p)) (fun c p => hIx c (un p)) h0 (fun x a' W => ∃ B, a' = { tmps := ((tmps.setIfInBounds p1 (.string (txt x.1.key))).setIfInBounds p2 (enV x.1.val)).setIfInBounds q (.pointer (some ⟨B, 0, none⟩)), defers := [] } ∧ W.heap[B]? = some (entX x.1.val))
    (fun x a' _ A B row hs hg2 hr => by
      obtain ⟨b, e, hb⟩ := hs
      exact ⟨b, e, (hg2.block b (heap_lt hb) (fun e2 => by
        obtain ⟨_, o, ho, hc⟩ := hr b e2.symm
        rw [hb] at ho
        obtain rfl := Option.some.inj ho
        cases hc)).trans hb⟩)
    (fun l pre x W K hp hK => hassign l (un pre) x.1 W K hp fun B W' h1 h2 h3 h4 => hK _ W' h1 h2 h3 ⟨B, rfl, h4⟩)
    (fun l pre x a' W h2 h3 h4 => by
      obtain ⟨B, rfl, hb⟩ := h3
      rw [ownPost_un]
      exact hbody l (un pre) x.1 B W x.2 h2 hb (by simpa using h4)) (fun D xs W => hdone D (un xs) W) (fun D c pre W => hstop D c (un pre) W)
end Go.Proofs.Ytmdnmabbphnhaaa.Mm

/- Tables, numbers and edits that lie in memory; those that are a call's own. No function is named. -/
import Derived.Test.YtbdoekogoiijeaaEdJoin
import Derived.Test.YtbdoekogoiijeaaBelow
import Derived.Test.YtbdoekogoiijeaaEdTurns
import Derived.Deep.AppendLies
namespace Go.Proofs.Ytbdoekogoiijeaa
open Go.RowKit
set_option linter.unusedVariables false

theorem info_tb : (Try.prog.info? 38).map (fun i => (i.zero, i.size, i.bytes)) = some (some (.agg #[.int .u64 0, .int .i64 0, .int .i64 0, .int .i64 0, .string ⟨#[]⟩, .string ⟨#[]⟩, .int .u64 0, .int .u64 0]), 8, 80) := by kernel_rfl

theorem bcell {W w1 : World} (hb : Below W.heap.size W w1) : (∀ b o, b < W.heap.size → w1.cell? ⟨b, o, none⟩ = W.cell? ⟨b, o, none⟩) ∧ (∀ b o, b < W.heap.size → w1.frozen? ⟨b, o, none⟩ = W.frozen? ⟨b, o, none⟩) :=
  ⟨fun b o h => hb.cell (p := ⟨b, o, none⟩) h, fun b o h => hb.frozen (p := ⟨b, o, none⟩) h⟩

def cellsTb (t : Tbl) : List Value := [.int .u64 (t.n : Nat), .int .i64 t.level, .int .i64 t.count, .int .i64 t.size, .string t.first, .string t.last, .int .u64 (t.least : Nat), .int .u64 (t.most : Nat)]
def tbV (t : Tbl) : Value := .agg #[.int .u64 (t.n : Nat), .int .i64 t.level, .int .i64 t.count, .int .i64 t.size, .string t.first, .string t.last, .int .u64 (t.least : Nat), .int .u64 (t.most : Nat)]
/-- A table that lies in memory. -/
def TbAt (w : World) (b off : Nat) (t : Tbl) : Prop := w.cell? ⟨b, off, none⟩ = some (.int .u64 (t.n : Nat)) ∧ w.cell? ⟨b, off + 1, none⟩ = some (.int .i64 t.level) ∧ w.cell? ⟨b, off + 2, none⟩ = some (.int .i64 t.count) ∧ w.cell? ⟨b, off + 3, none⟩ = some (.int .i64 t.size) ∧ w.cell? ⟨b, off + 4, none⟩ = some (.string t.first) ∧ w.cell? ⟨b, off + 5, none⟩ = some (.string t.last) ∧ w.cell? ⟨b, off + 6, none⟩ = some (.int .u64 (t.least : Nat)) ∧ w.cell? ⟨b, off + 7, none⟩ = some (.int .u64 (t.most : Nat))
/-- A slice of tables that lies in memory. -/
def SeesTb (w : World) (v : Value) (ts : List Tbl) : Prop :=
  (ts = [] ∧ ∃ a cap, v = .slice a 0 cap) ∨
  ∃ b off cap, v = .slice (some ⟨b, off, none⟩) ts.length cap ∧ b < w.heap.size ∧ ∀ i, i < ts.length → TbAt w b (off + i * 8) (ts.getD i tbd)
theorem TbAt.below {w w' : World} {b off : Nat} {t : Tbl} (h : TbAt w b off t) {B : Nat} (hb : Below B w w') (hB : b < B) : TbAt w' b off t := by
  obtain ⟨h0, h1, h2, h3, h4, h5, h6, h7⟩ := h
  exact ⟨(hb.cell (p := ⟨b, off, none⟩) hB).trans h0, (hb.cell (p := ⟨b, off + 1, none⟩) hB).trans h1, (hb.cell (p := ⟨b, off + 2, none⟩) hB).trans h2, (hb.cell (p := ⟨b, off + 3, none⟩) hB).trans h3, (hb.cell (p := ⟨b, off + 4, none⟩) hB).trans h4, (hb.cell (p := ⟨b, off + 5, none⟩) hB).trans h5, (hb.cell (p := ⟨b, off + 6, none⟩) hB).trans h6, (hb.cell (p := ⟨b, off + 7, none⟩) hB).trans h7⟩
theorem TbAt.kept {w w' : World} {b off : Nat} {t : Tbl} (h : TbAt w b off t) (hb : ∀ o, w'.cell? ⟨b, o, none⟩ = w.cell? ⟨b, o, none⟩) : TbAt w' b off t := by
  obtain ⟨h0, h1, h2, h3, h4, h5, h6, h7⟩ := h
  exact ⟨(hb _).trans h0, (hb _).trans h1, (hb _).trans h2, (hb _).trans h3, (hb _).trans h4, (hb _).trans h5, (hb _).trans h6, (hb _).trans h7⟩
theorem SeesTb.below {w w' : World} {v : Value} {ts : List Tbl} (h : SeesTb w v ts) (hb : Below w.heap.size w w') : SeesTb w' v ts := by
  rcases h with h | ⟨b, off, cap, rfl, hlt, hc⟩
  · exact Or.inl h
  · exact Or.inr ⟨b, off, cap, rfl, Nat.lt_of_lt_of_le hlt hb.size, fun i hi => (hc i hi).below hb hlt⟩
theorem SeesTb.get {w : World} {ao : Option Addr} {len cap : Nat} {ts : List Tbl} (h : SeesTb w (.slice ao len cap) ts) :
    ts.length = len ∧ ∃ b off, ∀ i, i < len → ao = some ⟨b, off, none⟩ ∧ b < w.heap.size ∧ TbAt w b (off + i * 8) (ts.getD i tbd) := by
  rcases h with ⟨rfl, a, c, h⟩ | ⟨b, off, c, h, hb, hc⟩
  · simp only [Value.slice.injEq] at h
    obtain ⟨rfl, rfl, rfl⟩ := h
    exact ⟨rfl, 0, 0, fun i hi => by omega⟩
  · simp only [Value.slice.injEq] at h
    obtain ⟨rfl, rfl, rfl⟩ := h
    exact ⟨rfl, b, off, fun i hi => ⟨rfl, hb, hc i hi⟩⟩
theorem SeesTb.slice {w : World} {v : Value} {ts : List Tbl} (h : SeesTb w v ts) : ∃ ao cap, v = .slice ao ts.length cap := by
  rcases h with ⟨rfl, a, c, rfl⟩ | ⟨b, off, cap, rfl, _⟩
  · exact ⟨_, _, rfl⟩
  · exact ⟨_, _, rfl⟩
theorem SeesU.get {w : World} {ao : Option Addr} {len cap : Nat} {ns : List Nat} (h : SeesU w (.slice ao len cap) ns) :
    ns.length = len ∧ ∃ b off, ∀ i, i < len → ao = some ⟨b, off, none⟩ ∧ b < w.heap.size ∧ w.cell? ⟨b, off + i, none⟩ = some (.int .u64 (ns.getD i 0 : Nat)) := by
  rcases h with ⟨rfl, a, c, h⟩ | ⟨b, off, c, h, hb, hc⟩
  · simp only [Value.slice.injEq] at h
    obtain ⟨rfl, rfl, rfl⟩ := h
    exact ⟨rfl, 0, 0, fun i hi => by omega⟩
  · simp only [Value.slice.injEq] at h
    obtain ⟨rfl, rfl, rfl⟩ := h
    exact ⟨rfl, b, off, fun i hi => ⟨rfl, hb, hc i hi⟩⟩
theorem SeesU.slice {w : World} {v : Value} {ns : List Nat} (h : SeesU w v ns) : ∃ ao cap, v = .slice ao ns.length cap := by
  rcases h with ⟨rfl, a, c, rfl⟩ | ⟨b, off, cap, rfl, _⟩
  · exact ⟨_, _, rfl⟩
  · exact ⟨_, _, rfl⟩

/-- A slice of tables that is the call's own, from a block on. -/
def OwnsTb (w : World) (base : Nat) (v : Value) (ts : List Tbl) : Prop := w.ownsRow base 38 8 v ts.length (ts.flatMap cellsTb)
theorem OwnsTb.nil (w : World) (base : Nat) : OwnsTb w base (.slice none 0 0) [] := World.ownsRow_nil ..
theorem OwnsTb.snoc {w' : World} {base : Nat} {v' : Value} {ts : List Tbl} {t : Tbl} (h : w'.ownsRow base 38 8 v' (ts.length + 1) (ts.flatMap cellsTb ++ cellsTb t)) : OwnsTb w' base v' (ts ++ [t]) := by
  unfold OwnsTb
  rw [List.length_append, List.flatMap_append, List.flatMap_singleton]
  exact h
theorem OwnsTb.below {w w' : World} {base : Nat} {v : Value} {ts : List Tbl} (h : OwnsTb w base v ts) (hb : Below w.heap.size w w') : OwnsTb w' base v ts := Sk.ownsRow_below h hb
theorem cellsTb_at (ts : List Tbl) (i : Nat) (h : i < ts.length) : (ts.flatMap cellsTb)[i * 8]? = some (.int .u64 ((ts.getD i tbd).n : Nat)) ∧ (ts.flatMap cellsTb)[i * 8 + 1]? = some (.int .i64 (ts.getD i tbd).level) ∧ (ts.flatMap cellsTb)[i * 8 + 2]? = some (.int .i64 (ts.getD i tbd).count) ∧ (ts.flatMap cellsTb)[i * 8 + 3]? = some (.int .i64 (ts.getD i tbd).size) ∧ (ts.flatMap cellsTb)[i * 8 + 4]? = some (.string (ts.getD i tbd).first) ∧ (ts.flatMap cellsTb)[i * 8 + 5]? = some (.string (ts.getD i tbd).last) ∧ (ts.flatMap cellsTb)[i * 8 + 6]? = some (.int .u64 ((ts.getD i tbd).least : Nat)) ∧ (ts.flatMap cellsTb)[i * 8 + 7]? = some (.int .u64 ((ts.getD i tbd).most : Nat)) := by
  induction ts generalizing i with
  | nil => simp at h
  | cons p ts ih =>
    cases i with
    | zero => simp [cellsTb]
    | succ i =>
      have hi : i < ts.length := by simpa using h
      obtain ⟨h0, h1, h2, h3, h4, h5, h6, h7⟩ := ih i hi
      rw [List.getD_cons_succ, List.flatMap_cons]
      have e : ∀ j, (cellsTb p ++ ts.flatMap cellsTb)[(i + 1) * 8 + j]? = (ts.flatMap cellsTb)[i * 8 + j]? := by
        intro j
        rw [List.getElem?_append_right (by simp [cellsTb]; omega)]
        congr 1
        simp [cellsTb]; omega
      exact ⟨(e 0).trans h0, (e 1).trans h1, (e 2).trans h2, (e 3).trans h3, (e 4).trans h4, (e 5).trans h5, (e 6).trans h6, (e 7).trans h7⟩
/-- What is the call's own lies in memory. -/
theorem OwnsTb.sees {w : World} {base : Nat} {v : Value} {ts : List Tbl} (h : OwnsTb w base v ts) : SeesTb w v ts := by
  have hl := h.1
  rcases h.2 with ⟨rfl, h0⟩ | ⟨g, cap, cur, rfl, hb, hg, hnc, hcm, hcs, htake⟩
  · exact Or.inl ⟨List.eq_nil_of_length_eq_zero h0, none, 0, rfl⟩
  · have hcell := h.cells (g := g) rfl
    refine Or.inr ⟨g, 0, cap, rfl, Sk.heap_lt hg, fun i hi => ?_⟩
    obtain ⟨h0, h1, h2, h3, h4, h5, h6, h7⟩ := cellsTb_at ts i hi
    have c : ∀ j u, (ts.flatMap cellsTb)[j]? = some u → w.cell? ⟨g, j, none⟩ = some u := fun j u hj => by have := hcell j u hj; rwa [Sk.add_none] at this
    rw [Nat.zero_add]
    exact ⟨c _ _ h0, c _ _ h1, c _ _ h2, c _ _ h3, c _ _ h4, c _ _ h5, c _ _ h6, c _ _ h7⟩
theorem OwnsTb.slice {w : World} {base : Nat} {v : Value} {ts : List Tbl} (h : OwnsTb w base v ts) : ∃ ao cap, v = .slice ao ts.length cap := Sk.row_any h

/-- A slice of numbers that is the call's own. -/
def OwnsN (w : World) (base : Nat) (v : Value) (ns : List Nat) : Prop := w.ownsRow base 28 1 v ns.length (ns.map (fun n => Value.int .u64 (n : Nat)))
theorem OwnsN.nil (w : World) (base : Nat) : OwnsN w base (.slice none 0 0) [] := World.ownsRow_nil ..
theorem OwnsN.snoc {w' : World} {base : Nat} {v' : Value} {ns : List Nat} {n : Nat} (h : w'.ownsRow base 28 1 v' (ns.length + 1) (ns.map (fun n => Value.int .u64 (n : Nat)) ++ [.int .u64 (n : Nat)])) : OwnsN w' base v' (ns ++ [n]) := by
  unfold OwnsN
  rw [List.length_append, List.map_append]
  exact h
theorem OwnsN.below {w w' : World} {base : Nat} {v : Value} {ns : List Nat} (h : OwnsN w base v ns) (hb : Below w.heap.size w w') : OwnsN w' base v ns := Sk.ownsRow_below h hb
theorem OwnsN.slice {w : World} {base : Nat} {v : Value} {ns : List Nat} (h : OwnsN w base v ns) : ∃ ao cap, v = .slice ao ns.length cap := Sk.row_any h
theorem OwnsN.sees {w : World} {base : Nat} {v : Value} {ns : List Nat} (h : OwnsN w base v ns) : SeesU w v ns := by
  rcases h.2 with ⟨rfl, h0⟩ | ⟨g, cap, cur, rfl, hb, hg, hnc, hcm, hcs, htake⟩
  · exact Or.inl ⟨List.eq_nil_of_length_eq_zero h0, none, 0, rfl⟩
  · have hcell := h.cells (g := g) rfl
    refine Or.inr ⟨g, 0, cap, rfl, Sk.heap_lt hg, fun i hi => ?_⟩
    have := hcell i (.int .u64 (ns.getD i 0 : Nat)) (by simp [hi])
    rw [Sk.add_none] at this
    rw [Nat.zero_add]; exact this

/-- An edit that lies in memory. -/
def EdAt (w : World) (b off : Nat) (e : Edt) : Prop := ∃ ao an ac bo bn bc, w.cell? ⟨b, off, none⟩ = some (.slice ao an ac) ∧ w.cell? ⟨b, off + 1, none⟩ = some (.slice bo bn bc) ∧ w.cell? ⟨b, off + 2, none⟩ = some (.int .u64 (e.log : Nat)) ∧ w.cell? ⟨b, off + 3, none⟩ = some (.int .u64 (e.seq : Nat)) ∧ w.cell? ⟨b, off + 4, none⟩ = some (.int .u64 (e.next : Nat)) ∧ SeesTb w (.slice ao an ac) e.add ∧ SeesU w (.slice bo bn bc) e.drop
theorem EdAt.below {w w' : World} {b off : Nat} {e : Edt} (h : EdAt w b off e) (hb : Below w.heap.size w w') (hB : b < w.heap.size) : EdAt w' b off e := by
  obtain ⟨ao, an, ac, bo, bn, bc, h0, h1, h2, h3, h4, h5, h6⟩ := h
  exact ⟨ao, an, ac, bo, bn, bc, (hb.cell (p := ⟨b, off, none⟩) hB).trans h0, (hb.cell (p := ⟨b, off + 1, none⟩) hB).trans h1, (hb.cell (p := ⟨b, off + 2, none⟩) hB).trans h2, (hb.cell (p := ⟨b, off + 3, none⟩) hB).trans h3, (hb.cell (p := ⟨b, off + 4, none⟩) hB).trans h4, h5.below hb, h6.below hb⟩
/-- A slice of edits that lies in memory. -/
def SeesEd (w : World) (v : Value) (es : List Edt) : Prop :=
  (es = [] ∧ ∃ a cap, v = .slice a 0 cap) ∨
  ∃ b off cap, v = .slice (some ⟨b, off, none⟩) es.length cap ∧ b < w.heap.size ∧ ∀ i, i < es.length → EdAt w b (off + i * 5) (es.getD i edd)
theorem SeesEd.below {w w' : World} {v : Value} {es : List Edt} (h : SeesEd w v es) (hb : Below w.heap.size w w') : SeesEd w' v es := by
  rcases h with h | ⟨b, off, cap, rfl, hlt, hc⟩
  · exact Or.inl h
  · exact Or.inr ⟨b, off, cap, rfl, Nat.lt_of_lt_of_le hlt hb.size, fun i hi => (hc i hi).below hb hlt⟩
theorem SeesEd.get {w : World} {ao : Option Addr} {len cap : Nat} {es : List Edt} (h : SeesEd w (.slice ao len cap) es) :
    es.length = len ∧ ∃ b off, ∀ i, i < len → ao = some ⟨b, off, none⟩ ∧ b < w.heap.size ∧ EdAt w b (off + i * 5) (es.getD i edd) := by
  rcases h with ⟨rfl, a, c, h⟩ | ⟨b, off, c, h, hb, hc⟩
  · simp only [Value.slice.injEq] at h
    obtain ⟨rfl, rfl, rfl⟩ := h
    exact ⟨rfl, 0, 0, fun i hi => by omega⟩
  · simp only [Value.slice.injEq] at h
    obtain ⟨rfl, rfl, rfl⟩ := h
    exact ⟨rfl, b, off, fun i hi => ⟨rfl, hb, hc i hi⟩⟩

/-- An edit, as a value. -/
def edV (ao : Option Addr) (an ac : Nat) (bo : Option Addr) (bn bc : Nat) (log seq next : Nat) : Value := .agg #[.slice ao an ac, .slice bo bn bc, .int .u64 log, .int .u64 seq, .int .u64 next]

end Go.Proofs.Ytbdoekogoiijeaa

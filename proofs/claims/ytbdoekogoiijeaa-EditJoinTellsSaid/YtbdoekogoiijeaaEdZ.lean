/- The document's Two: two edits joined. -/
import Derived.Test.YtbdoekogoiijeaaEdY
import Derived.Deep.RegionLaw
namespace Go.Proofs.Ytbdoekogoiijeaa
open Go.RowKit Sk
set_option linter.unusedVariables false
set_option maxRecDepth 20000

theorem Ed.drop_snoc (ds : List Nat) (n k : Nat) (h : k < ds.length) : decide (n ∈ ds.take (k + 1)) = (decide (n ∈ ds.take k) || decide (ds.getD k 0 = n)) := by
  rw [take_snocU ds k h, Bool.eq_iff_iff]
  simp only [decide_eq_true_eq, Bool.or_eq_true, List.mem_append, List.mem_singleton]
  exact ⟨fun h => h.imp id Eq.symm, fun h => h.imp id Eq.symm⟩
theorem Ed.add_snoc (ts : List Tbl) (n k : Nat) (h : k < ts.length) : decide (n ∈ (ts.take (k + 1)).map Ed.tbNum) = (decide (n ∈ (ts.take k).map Ed.tbNum) || decide ((ts.getD k tbd).n = n)) := by
  rw [take_snocT ts k h, List.map_append, Bool.eq_iff_iff]
  simp only [decide_eq_true_eq, Bool.or_eq_true, List.mem_append, List.map_cons, List.map_nil, List.mem_singleton]
  exact ⟨fun h => h.imp id Eq.symm, fun h => h.imp id Eq.symm⟩
theorem Ed.filter_snocP (l : List Tbl) (p : Tbl → Bool) (q : Nat) (h : q < l.length) : (l.take (q + 1)).filter p = (l.take q).filter p ++ if p (l.getD q tbd) = true then [l.getD q tbd] else [] := by
  rw [take_snocT l q h, List.filter_append]
  generalize l.getD q tbd = t
  by_cases e : p t = true
  · rw [if_pos e, List.filter_cons_of_pos e]; rfl
  · rw [if_neg e, List.filter_cons_of_neg e]; rfl

/-- append of numbers at one step of a region that draws. -/
theorem step_append_nums {W : World} {ops : Array Oper} {o : Oper} {a : Act} {K : Act → World → Prop} {Q : Exit → Act → World → Prop} {E : Prop} (hg : o.guard = none) (s x : Operand) (hop : o.op = .call { callee := .builtin .append, args := #[s, x], argTypes := #[27, 27] })
    {base : Nat} {l r : List Nat} {v vx : Value} (hown : OwnsN W base v l) (hbase : base ≤ W.heap.size) (h : SeesU W vx r) (hs : a.eval s = v) (hx : a.eval x = vx) (hl : l.length + r.length ≤ 1000000)
    (hK : ∀ v' W', OwnsN W' base v' (l ++ r) → W.grownBy W' v.ownBlock → K (a.put o.dst v') W') : if Region.wanted o (yielded ops a.tmps) = true then Oper.wp Try.prog o a W K Q else E := by
  have hw : Region.wanted o (yielded ops a.tmps) = true := by simp [Region.wanted, hg]
  rw [if_pos hw]
  obtain ⟨i0, hi, hz0, hz1, hz2⟩ := info_parts info_un
  rcases h with ⟨rfl, ad, cap, e1⟩ | ⟨b, off, cap, e1, hb, hc⟩
  · subst e1
    have hrun := run_append_empty (P := Try.prog) (w := W) base 27 o.type 28 i0 1 Try.underlying27 hi v l.length _ hown ad cap
    unfold Oper.wp
    simp [execOp, hop, resolve, invoke, builtin, hs, hx, hrun, Result.andThen]
    exact hK v W (by rw [List.append_nil]; exact hown) ⟨rfl, rfl, rfl, Nat.le_refl _, fun _ _ _ => rfl⟩
  · subst e1
    obtain ⟨v', w', hrun, r1, r2, _⟩ := run_append_own (P := Try.prog) W base 27 o.type 28 i0 _ 1 8 Try.underlying27 hi hz0 hz1 hz2 rfl (by decide) v l.length _ hown ⟨b, off, none⟩ r.length cap (r.map (fun n => Value.int .u64 (n : Nat))) (cellsU_length r) (fun j u hu => by rw [add_off]; exact seesU_all hc j u hu) (cellsU_one r) (by unfold maxLen; omega) (by omega) hbase
    unfold Oper.wp
    simp [execOp, hop, resolve, invoke, builtin, hs, hx, hrun, Result.andThen]
    refine hK v' w' ?_ r2
    unfold OwnsN
    rw [List.length_append, List.map_append]
    exact r1

theorem max_int (a b : Nat) : ((max a b : Nat) : Int) = if b < a then (a : Int) else b := by split <;> omega
theorem more_any (a b : Nat) (w : World) : Calls Try.prog 74 #[.int .u64 a, .int .u64 b] w (fun e w' => e = .returned (.int .u64 ((max a b : Nat) : Int)) ∧ w' = w) := by
  have HM := Lib.hid (max_int a b)
  generalize ((max a b : Nat) : Int) = M at *
  go_enter Try.func74, Try.ntmps74
  by_cases h : b < a
  · have h' : (b : Int) < a := by omega
    have e : M = a := by have := HM.out; rw [if_pos h] at this; exact this
    subst e
    go_wp2_with fail
    go_ret
    exact ⟨rfl, rfl⟩
  · have h' : ¬ (b : Int) < a := by omega
    have e : M = b := by have := HM.out; rw [if_neg h] at this; exact this
    subst e
    go_wp2_with fail
    go_ret
    exact ⟨rfl, rfl⟩

/-- The box of the document's edit. -/
def Ez (w : World) (B : Nat) (av dv : Value) (lg sq nx : Nat) : Prop := w.heap[B]? = some (.cells #[av, dv, .int .u64 (lg : Nat), .int .u64 (sq : Nat), .int .u64 (nx : Nat)] 31 (0, 0))
theorem Ez.of {w : World} {B : Nat} {av dv : Value} {lg sq nx : Nat} (h : Ez w B av dv lg sq nx) : w.cell? ⟨B, 0, none⟩ = some av ∧ w.cell? ⟨B, 1, none⟩ = some dv ∧ w.cell? ⟨B, 2, none⟩ = some (.int .u64 (lg : Nat)) ∧ w.cell? ⟨B, 3, none⟩ = some (.int .u64 (sq : Nat)) ∧ w.cell? ⟨B, 4, none⟩ = some (.int .u64 (nx : Nat)) ∧ (∀ k, w.frozen? ⟨B, k, none⟩ = false) ∧ B < w.heap.size := by
  refine ⟨?_, ?_, ?_, ?_, ?_, fun k => Sk.unfrozen_of h k, Sk.heap_lt h⟩ <;> (rw [Sk.cell_of h]; rfl)
theorem Ez.fill {P : World → Prop} {w : World} {B : Nat} {av' dv' : Value} {lg' sq' nx' : Nat} (h : Ez w B av' dv' lg' sq' nx') (av dv : Value) (lg sq nx : Nat)
    (k : ∀ wF, Ez wF B av dv lg sq nx → Turns (At B) w wF → P wF) : P (((((w.setCell ⟨B, 0, none⟩ av).setCell ⟨B, 1, none⟩ dv).setCell ⟨B, 2, none⟩ (.int .u64 (lg : Nat))).setCell ⟨B, 3, none⟩ (.int .u64 (sq : Nat))).setCell ⟨B, 4, none⟩ (.int .u64 (nx : Nat))) := by
  have t : ∀ (W : World) (o : Nat) (v : Value), Turns (At B) w W → Turns (At B) w (W.setCell ⟨B, o, none⟩ v) := fun W o v hT => At.trans hT (Turns.of_setCell (P := At B) _ _ _ rfl)
  have x0 : Ez _ B av dv' lg' sq' nx' := heap_setCell_same _ _ 0 _ _ av h
  have x1 : Ez _ B av dv lg' sq' nx' := heap_setCell_same _ _ 1 _ _ dv x0
  have x2 : Ez _ B av dv lg sq' nx' := heap_setCell_same _ _ 2 _ _ (.int .u64 (lg : Nat)) x1
  have x3 : Ez _ B av dv lg sq nx' := heap_setCell_same _ _ 3 _ _ (.int .u64 (sq : Nat)) x2
  have x4 : Ez _ B av dv lg sq nx := heap_setCell_same _ _ 4 _ _ (.int .u64 (nx : Nat)) x3
  exact k _ x4 (t _ _ _ (t _ _ _ (t _ _ _ (t _ _ _ (t _ _ _ (Turns.refl _ _))))))

/-- Two under way: the arguments' boxes, the result's, and what was made so far. -/
structure Tw2 (w W : World) (av bv cv dv : Value) (a b : Edt) (u v : Value) (ts : List Tbl) (ns : List Nat) (lg sq nx : Nat) : Prop where
  ea : Ez W w.heap.size av bv a.log a.seq a.next
  eb : Ez W (w.heap.size + 1) cv dv b.log b.seq b.next
  er : Ez W (w.heap.size + 2) (.slice none 0 0) (.slice none 0 0) 0 0 0
  eo : Ez W (w.heap.size + 3) u v lg sq nx
  ot : OwnsTb W (w.heap.size + 4) u ts
  on : OwnsN W (w.heap.size + 4) v ns
  bel : Below w.heap.size w W
theorem Tw2.below {w W W' : World} {av bv cv dv : Value} {a b : Edt} {u v : Value} {ts : List Tbl} {ns : List Nat} {lg sq nx : Nat} (h : Tw2 w W av bv cv dv a b u v ts ns lg sq nx) (hb : Below W.heap.size W W') : Tw2 w W' av bv cv dv a b u v ts ns lg sq nx :=
  ⟨kept_block h.ea hb, kept_block h.eb hb, kept_block h.er hb, kept_block h.eo hb, h.ot.below hb, h.on.below hb, Below.next h.bel hb⟩
theorem below_drewN (W : World) (n : Nat) : Below W.heap.size W (W.drewN n) := ⟨rfl, rfl, rfl, Nat.le_refl _, fun _ _ => rfl⟩
/-- The first row has grown, and lies in the box. -/
theorem Tw2.grewT {w W W' : World} {av bv cv dv : Value} {a b : Edt} {u v u' : Value} {ts ts' : List Tbl} {ns : List Nat} {lg sq nx : Nat} (h : Tw2 w W av bv cv dv a b u v ts ns lg sq nx) (hown : OwnsTb W' (w.heap.size + 4) u' ts') (hg : W.grownBy W' u.ownBlock) :
    Tw2 w (W'.setCell ⟨w.heap.size + 3, 0, none⟩ u') av bv cv dv a b u' v ts' ns lg sq nx := by
  have hz := h.bel.size
  have hlt := Sk.heap_lt h.eo
  have hne : ∀ k, k < w.heap.size + 4 → some k ≠ u.ownBlock := fun k hk e => by have := (World.ownsRow.lt h.ot k e.symm).1; omega
  have eo : Ez W' (w.heap.size + 3) u v lg sq nx := (hg.block _ hlt (hne _ (by omega))).trans h.eo
  have t1 : Turns (At (w.heap.size + 3)) W' (W'.setCell ⟨w.heap.size + 3, 0, none⟩ u') := Turns.of_setCell _ _ _ rfl
  have kp : ∀ k (o : Obj), k < w.heap.size + 3 → W.heap[k]? = some o → (W'.setCell ⟨w.heap.size + 3, 0, none⟩ u').heap[k]? = some o := fun k o hk ho => by
    have e1 := (hg.block k (Sk.heap_lt ho) (hne k (by omega))).trans ho
    exact (t1.block k (Sk.heap_lt e1) (by show ¬ _ = _; omega)).trans e1
  refine ⟨kp _ _ (by omega) h.ea, kp _ _ (by omega) h.eb, kp _ _ (by omega) h.er, heap_setCell_same _ _ 0 _ _ u' eo, OwnsTb.turns hown t1 (by omega), OwnsN.turns (h.on.grown hg (own_of h.ot (by decide))) t1 (by omega), ?_⟩
  exact ((h.bel.grown hg hz (fun z hz => by have := (World.ownsRow.lt h.ot z hz).1; omega)).setCell (by show _ ≤ w.heap.size + 3; omega) _)
theorem Tw2.grewN {w W W' : World} {av bv cv dv : Value} {a b : Edt} {u v v' : Value} {ts : List Tbl} {ns ns' : List Nat} {lg sq nx : Nat} (h : Tw2 w W av bv cv dv a b u v ts ns lg sq nx) (hown : OwnsN W' (w.heap.size + 4) v' ns') (hg : W.grownBy W' v.ownBlock) :
    Tw2 w (W'.setCell ⟨w.heap.size + 3, 1, none⟩ v') av bv cv dv a b u v' ts ns' lg sq nx := by
  have hz := h.bel.size
  have hlt := Sk.heap_lt h.eo
  have hne : ∀ k, k < w.heap.size + 4 → some k ≠ v.ownBlock := fun k hk e => by have := (World.ownsRow.lt h.on k e.symm).1; omega
  have eo : Ez W' (w.heap.size + 3) u v lg sq nx := (hg.block _ hlt (hne _ (by omega))).trans h.eo
  have t1 : Turns (At (w.heap.size + 3)) W' (W'.setCell ⟨w.heap.size + 3, 1, none⟩ v') := Turns.of_setCell _ _ _ rfl
  have kp : ∀ k (o : Obj), k < w.heap.size + 3 → W.heap[k]? = some o → (W'.setCell ⟨w.heap.size + 3, 1, none⟩ v').heap[k]? = some o := fun k o hk ho => by
    have e1 := (hg.block k (Sk.heap_lt ho) (hne k (by omega))).trans ho
    exact (t1.block k (Sk.heap_lt e1) (by show ¬ _ = _; omega)).trans e1
  refine ⟨kp _ _ (by omega) h.ea, kp _ _ (by omega) h.eb, kp _ _ (by omega) h.er, heap_setCell_same _ _ 1 _ _ v' eo, OwnsTb.turns (h.ot.grown hg (own_of h.on (by decide))) t1 (by omega), OwnsN.turns hown t1 (by omega), ?_⟩
  exact ((h.bel.grown hg hz (fun z hz => by have := (World.ownsRow.lt h.on z hz).1; omega)).setCell (by show _ ≤ w.heap.size + 3; omega) _)
theorem Tw2.setL {w W : World} {av bv cv dv : Value} {a b : Edt} {u v : Value} {ts : List Tbl} {ns : List Nat} {lg sq nx : Nat} (h : Tw2 w W av bv cv dv a b u v ts ns lg sq nx) (m : Nat) : Tw2 w (W.setCell ⟨w.heap.size + 3, 2, none⟩ (.int .u64 (m : Nat))) av bv cv dv a b u v ts ns m sq nx := by
  have t1 : Turns (At (w.heap.size + 3)) W (W.setCell ⟨w.heap.size + 3, 2, none⟩ (.int .u64 (m : Nat))) := Turns.of_setCell _ _ _ rfl
  have kp : ∀ k (o : Obj), k < w.heap.size + 3 → W.heap[k]? = some o → (W.setCell ⟨w.heap.size + 3, 2, none⟩ (.int .u64 (m : Nat))).heap[k]? = some o := fun k o hk ho => (t1.block k (Sk.heap_lt ho) (by show ¬ _ = _; omega)).trans ho
  exact ⟨kp _ _ (by omega) h.ea, kp _ _ (by omega) h.eb, kp _ _ (by omega) h.er, heap_setCell_same _ _ 2 _ _ (.int .u64 (m : Nat)) h.eo, OwnsTb.turns h.ot t1 (by omega), OwnsN.turns h.on t1 (by omega), h.bel.setCell (by show _ ≤ w.heap.size + 3; omega) _⟩
theorem Tw2.setS {w W : World} {av bv cv dv : Value} {a b : Edt} {u v : Value} {ts : List Tbl} {ns : List Nat} {lg sq nx : Nat} (h : Tw2 w W av bv cv dv a b u v ts ns lg sq nx) (m : Nat) : Tw2 w (W.setCell ⟨w.heap.size + 3, 3, none⟩ (.int .u64 (m : Nat))) av bv cv dv a b u v ts ns lg m nx := by
  have t1 : Turns (At (w.heap.size + 3)) W (W.setCell ⟨w.heap.size + 3, 3, none⟩ (.int .u64 (m : Nat))) := Turns.of_setCell _ _ _ rfl
  have kp : ∀ k (o : Obj), k < w.heap.size + 3 → W.heap[k]? = some o → (W.setCell ⟨w.heap.size + 3, 3, none⟩ (.int .u64 (m : Nat))).heap[k]? = some o := fun k o hk ho => (t1.block k (Sk.heap_lt ho) (by show ¬ _ = _; omega)).trans ho
  exact ⟨kp _ _ (by omega) h.ea, kp _ _ (by omega) h.eb, kp _ _ (by omega) h.er, heap_setCell_same _ _ 3 _ _ (.int .u64 (m : Nat)) h.eo, OwnsTb.turns h.ot t1 (by omega), OwnsN.turns h.on t1 (by omega), h.bel.setCell (by show _ ≤ w.heap.size + 3; omega) _⟩
theorem Tw2.setN {w W : World} {av bv cv dv : Value} {a b : Edt} {u v : Value} {ts : List Tbl} {ns : List Nat} {lg sq nx : Nat} (h : Tw2 w W av bv cv dv a b u v ts ns lg sq nx) (m : Nat) : Tw2 w (W.setCell ⟨w.heap.size + 3, 4, none⟩ (.int .u64 (m : Nat))) av bv cv dv a b u v ts ns lg sq m := by
  have t1 : Turns (At (w.heap.size + 3)) W (W.setCell ⟨w.heap.size + 3, 4, none⟩ (.int .u64 (m : Nat))) := Turns.of_setCell _ _ _ rfl
  have kp : ∀ k (o : Obj), k < w.heap.size + 3 → W.heap[k]? = some o → (W.setCell ⟨w.heap.size + 3, 4, none⟩ (.int .u64 (m : Nat))).heap[k]? = some o := fun k o hk ho => (t1.block k (Sk.heap_lt ho) (by show ¬ _ = _; omega)).trans ho
  exact ⟨kp _ _ (by omega) h.ea, kp _ _ (by omega) h.eb, kp _ _ (by omega) h.er, heap_setCell_same _ _ 4 _ _ (.int .u64 (m : Nat)) h.eo, OwnsTb.turns h.ot t1 (by omega), OwnsN.turns h.on t1 (by omega), h.bel.setCell (by show _ ≤ w.heap.size + 3; omega) _⟩
/-- What the walk asks of the box of what is made. -/
theorem Tw2.box {w W W' : World} {av bv cv dv : Value} {a b : Edt} {u v : Value} {ts : List Tbl} {ns : List Nat} {lg sq nx : Nat} (h : Tw2 w W av bv cv dv a b u v ts ns lg sq nx) {row : Option Nat} (hg : W.grownBy W' row) (hr : row = u.ownBlock ∨ row = v.ownBlock) : Ez W' (w.heap.size + 3) u v lg sq nx :=
  (hg.block _ (Sk.heap_lt h.eo) (fun e => by
    rcases hr with hr | hr
    · rw [hr] at e; have := (World.ownsRow.lt h.ot _ e.symm).1; omega
    · rw [hr] at e; have := (World.ownsRow.lt h.on _ e.symm).1; omega)).trans h.eo
theorem four_boxes (w : World) (A B C D : Obj) : ((((w.alloc A).alloc B).alloc C).alloc D).heap[w.heap.size]? = some A ∧ ((((w.alloc A).alloc B).alloc C).alloc D).heap[w.heap.size + 1]? = some B ∧ ((((w.alloc A).alloc B).alloc C).alloc D).heap[w.heap.size + 2]? = some C ∧ ((((w.alloc A).alloc B).alloc C).alloc D).heap[w.heap.size + 3]? = some D ∧ Below w.heap.size w ((((w.alloc A).alloc B).alloc C).alloc D) := by
  have hz1 : (w.alloc A).heap.size = w.heap.size + 1 := by simp
  have hz2 : ((w.alloc A).alloc B).heap.size = w.heap.size + 2 := by simp
  have hz3 : (((w.alloc A).alloc B).alloc C).heap.size = w.heap.size + 3 := by simp
  have k : ∀ (W : World) (o : Obj), Below W.heap.size W (W.alloc o) := fun W o => (Below.refl _ _).alloc (Nat.le_refl _) _
  refine ⟨kept_block (kept_block (kept_block (heap_alloc_new w A) (k _ B)) (k _ C)) (k _ D), ?_, ?_, ?_, Below.next_alloc (Below.next_alloc (Below.next_alloc (k w A) _) _) _⟩
  · have := heap_alloc_new (w.alloc A) B
    rw [hz1] at this
    exact kept_block (kept_block this (k _ C)) (k _ D)
  · have := heap_alloc_new ((w.alloc A).alloc B) C
    rw [hz2] at this
    exact kept_block this (k _ D)
  · have := heap_alloc_new (((w.alloc A).alloc B).alloc C) D
    rw [hz3] at this
    exact this

set_option maxHeartbeats 4000000 in
theorem refTwo_any (ao : Option Addr) (an ac : Nat) (bo : Option Addr) (bn bc : Nat) (co : Option Addr) (cn cc : Nat) (d0 : Option Addr) (dn dc : Nat) (a b : Edt) (w : World) (hA : SeesTb w (.slice ao an ac) a.add) (hB : SeesU w (.slice bo bn bc) a.drop) (hC : SeesTb w (.slice co cn cc) b.add) (hD : SeesU w (.slice d0 dn dc) b.drop)
    (h1 : an ≤ 10000) (h2 : bn ≤ 10000) (h3 : cn ≤ 10000) (h4 : dn ≤ 10000) :
    Calls Try.prog 49 #[edV ao an ac bo bn bc a.log a.seq a.next, edV co cn cc d0 dn dc b.log b.seq b.next] w (EdMade (Ed.two a b) w) := by
  obtain ⟨hal, ba, oa, hac⟩ := hA.get
  obtain ⟨hbl, bb, ob, hbc⟩ := hB.get
  obtain ⟨hcl, bc', oc, hcc⟩ := hC.get
  obtain ⟨hdl, bd, od, hdc⟩ := hD.get
  have HAC := Lib.hid hac; have HBC := Lib.hid hbc; have HCC := Lib.hid hcc; have HDC := Lib.hid hdc
  have HAL := Lib.hid hal; have HBL := Lib.hid hbl; have HCL := Lib.hid hcl; have HDL := Lib.hid hdl
  have HA := Lib.hid hA; have HB := Lib.hid hB; have HC := Lib.hid hC; have HD := Lib.hid hD
  obtain ⟨x0, x1, x2, x3, x4⟩ := four_boxes w (.cells #[.slice ao an ac, .slice bo bn bc, .int .u64 (a.log : Nat), .int .u64 (a.seq : Nat), .int .u64 (a.next : Nat)] 31) (.cells #[.slice co cn cc, .slice d0 dn dc, .int .u64 (b.log : Nat), .int .u64 (b.seq : Nat), .int .u64 (b.next : Nat)] 31) (.cells #[.slice none 0 0, .slice none 0 0, .int .u64 0, .int .u64 0, .int .u64 0] 31) (.cells #[.slice none 0 0, .slice none 0 0, .int .u64 0, .int .u64 0, .int .u64 0] 31)
  have HT0 : Hid (Tw2 w ((((w.alloc (.cells #[.slice ao an ac, .slice bo bn bc, .int .u64 (a.log : Nat), .int .u64 (a.seq : Nat), .int .u64 (a.next : Nat)] 31)).alloc (.cells #[.slice co cn cc, .slice d0 dn dc, .int .u64 (b.log : Nat), .int .u64 (b.seq : Nat), .int .u64 (b.next : Nat)] 31)).alloc (.cells #[.slice none 0 0, .slice none 0 0, .int .u64 0, .int .u64 0, .int .u64 0] 31)).alloc (.cells #[.slice none 0 0, .slice none 0 0, .int .u64 0, .int .u64 0, .int .u64 0] 31)) (.slice ao an ac) (.slice bo bn bc) (.slice co cn cc) (.slice d0 dn dc) a b (.slice none 0 0) (.slice none 0 0) [] [] 0 0 0) := Lib.hid ⟨x0, x1, x2, x3, OwnsTb.nil _ _, OwnsN.nil _ _, x4⟩
  clear hac hbc hcc hdc hal hbl hcl hdl hA hB hC hD x0 x1 x2 x3 x4
  unfold edV
  go_enter Try.func49, Try.ntmps49
  go_wp2_with fail
  generalize (((w.alloc _).alloc _).alloc _).alloc _ = W0 at *
  go_loopw [6, 7, 8] (fun i _ _ wr => ∃ (k : Nat) (u : Value), k ≤ an ∧ i = .int .i64 k ∧ Tw2 w wr (.slice ao an ac) (.slice bo bn bc) (.slice co cn cc) (.slice d0 dn dc) a b u (.slice none 0 0) ((a.add.take k).filter (fun t => !decide (t.n ∈ b.drop))) [] 0 0 0) (fun i _ _ _ => an - (intOf i).toNat)
  case atStart => exact ⟨0, _, Nat.zero_le _, rfl, HT0.out⟩
  case round =>
    clear HT0
    obtain ⟨k, u, hk, rfl, ht⟩ := hrel
    obtain ⟨uo, uc, rfl⟩ := ht.ot.slice
    have HT := Lib.hid ht
    obtain ⟨a0, a1, a2, a3, a4, af, alt⟩ := ht.ea.of
    obtain ⟨b0, b1, b2, b3, b4, bf, blt⟩ := ht.eb.of
    have hsz := ht.bel.size
    clear af bf ht
    by_cases hlt : k < an
    · obtain ⟨rfl, hbl, hob⟩ := HAC.out k hlt
      obtain ⟨c0, c1, c2, c3, c4, c5, c6, c7⟩ := hob.below HT.out.bel hbl
      have hkl : k < a.add.length := by rw [HAL.out]; exact hlt
      have HFS : Hid (_ = _) := Lib.hid (Ed.filter_snocP a.add (fun t => !decide (t.n ∈ b.drop)) k hkl)
      have HTB := Lib.hid hob
      clear hob hkl
      generalize a.add.getD k tbd = t at *
      have HFL : Hid (((a.add.take k).filter (fun t => !decide (t.n ∈ b.drop))).length ≤ 10000) := Lib.hid (by
        have e1 := List.length_filter_le (fun t : Tbl => !decide (t.n ∈ b.drop)) (a.add.take k)
        rw [List.length_take] at e1; omega)
      generalize (a.add.take k).filter (fun t => !decide (t.n ∈ b.drop)) = F at *
      go_wp2_with fail
      go_loopw [7, 8] (fun g j w2 => ∃ q : Nat, q ≤ dn ∧ j = .int .i64 q ∧ g = .bool (decide (t.n ∈ b.drop.take q)) ∧ Below wr.heap.size wr w2) (fun _ j _ => dn - (intOf j).toNat)
      case atStart => exact ⟨0, Nat.zero_le _, rfl, by simp, Below.refl _ _⟩
      case round =>
        obtain ⟨W1, hW1⟩ : ∃ W1, W1 = wr := ⟨_, rfl⟩
        obtain ⟨q, hq, rfl, rfl, hb2⟩ := hrel
        have HT2 := Lib.hid (HT.out.below hb2)
        have HBB := Lib.hid hb2
        clear a0 a1 a2 a3 a4 b0 b1 b2 b3 b4 c0 c1 c2 c3 c4 c5 c6 c7 alt blt
        obtain ⟨a0, a1, a2, a3, a4, af, alt⟩ := HT2.out.ea.of
        obtain ⟨b0, b1, b2, b3, b4, bf, blt⟩ := HT2.out.eb.of
        obtain ⟨c0, c1, c2, c3, c4, c5, c6, c7⟩ := HTB.out.below HT2.out.bel hbl
        have hsz2 := HT2.out.bel.size
        clear af bf hb2 HT hW1
        by_cases hlt2 : q < dn
        · obtain ⟨rfl, hbl2, e0⟩ := HDC.out q hlt2
          have e0 := (HT2.out.bel.cell (p := ⟨bd, od + q, none⟩) hbl2).trans e0
          have hql : q < b.drop.length := by rw [HDL.out]; exact hlt2
          have HDS : Hid (_ = _) := Lib.hid (Ed.drop_snoc b.drop t.n q hql)
          clear hql
          generalize b.drop.getD q 0 = x at *
          have hdq : decide (x = t.n) = ((x : Int) == (t.n : Int)) := by rw [Bool.eq_iff_iff]; simp; omega
          have HDQ := Lib.hid hdq
          clear hdq
          generalize decide (t.n ∈ b.drop.take q) = g at *
          cases g with
          | true =>
            go_wp2_with fail
            go_quiet (fail)
            go_wp2_with fail
            exact ⟨⟨q + 1, by omega, by go_num, by rw [HDS.out]; rfl, Below.next HBB.out (below_drewN _ _)⟩, by simp [intOf]; omega⟩
          | false =>
            go_wp2_with fail
            go_quiet (fail)
            go_wp2_with fail
            exact ⟨⟨q + 1, by omega, by go_num, by rw [HDS.out, HDQ.out]; rfl, Below.next HBB.out (below_drewN _ _)⟩, by simp [intOf]; omega⟩
        · obtain rfl : q = dn := by omega
          have HTE : Hid (b.drop.take q = b.drop) := Lib.hid (List.take_of_length_le (by rw [HDL.out]; exact Nat.le_refl _))
          rw [HTE.out]
          by_cases hm : t.n ∈ b.drop
          · have hdec : decide (t.n ∈ b.drop) = true := by simpa using hm
            rw [hdec] at HFS ⊢
            clear hm hdec
            go_wp2_with fail
            refine ⟨⟨k + 1, .slice uo F.length uc, by omega, by go_num, ?_⟩, by simp [intOf]; omega⟩
            rw [HFS.out]
            simpa using HT2.out
          · have hdec : decide (t.n ∈ b.drop) = false := by simpa using hm
            rw [hdec] at HFS ⊢
            clear hm hdec
            obtain ⟨o0, o1, o2, o3, o4, of, olt⟩ := HT2.out.eo.of
            go_wp2_with fail
            have HTD : Hid (Tw2 w (wr.alloc (.cells #[.int .u64 (t.n : Nat), .int .i64 t.level, .int .i64 t.count, .int .i64 t.size, .string t.first, .string t.last, .int .u64 (t.least : Nat), .int .u64 (t.most : Nat)] 38)).drew (.slice (some ⟨ba, oa, none⟩) an ac) (.slice bo bn bc) (.slice co cn cc) (.slice d0 q dc) a b (.slice uo F.length uc) (.slice none 0 0) F [] 0 0 0) := Lib.hid (HT2.out.below ((Below.refl _ _).alloc (Nat.le_refl _) _).drew)
            have HSD : Hid (SeesTb (wr.alloc (.cells #[.int .u64 (t.n : Nat), .int .i64 t.level, .int .i64 t.count, .int .i64 t.size, .string t.first, .string t.last, .int .u64 (t.least : Nat), .int .u64 (t.most : Nat)] 38)).drew (.slice (some ⟨wr.heap.size, 0, none⟩) 1 1) [t]) := Lib.hid (seesTb_cells (w := (wr.alloc (.cells #[.int .u64 (t.n : Nat), .int .i64 t.level, .int .i64 t.count, .int .i64 t.size, .string t.first, .string t.last, .int .u64 (t.least : Nat), .int .u64 (t.most : Nat)] 38)).drew) (heap_alloc_new wr _) rfl rfl 1)
            have HZD : Hid (w.heap.size + 4 ≤ (wr.alloc (.cells #[.int .u64 (t.n : Nat), .int .i64 t.level, .int .i64 t.count, .int .i64 t.size, .string t.first, .string t.last, .int .u64 (t.least : Nat), .int .u64 (t.most : Nat)] 38)).drew.heap.size) := Lib.hid (by have := Sk.heap_lt HTD.out.eo; omega)
            have HLD : Hid (F.length + [t].length ≤ 1000000) := Lib.hid (by have := HFL.out; simp only [List.length_singleton]; omega)
            have HBX : Hid (∀ w3, (wr.alloc (.cells #[.int .u64 (t.n : Nat), .int .i64 t.level, .int .i64 t.count, .int .i64 t.size, .string t.first, .string t.last, .int .u64 (t.least : Nat), .int .u64 (t.most : Nat)] 38)).drew.grownBy w3 (Value.slice uo F.length uc).ownBlock → Ez w3 (w.heap.size + 3) (.slice uo F.length uc) (.slice none 0 0) 0 0 0) := Lib.hid (fun w3 hg => HTD.out.box hg (Or.inl rfl))
            have HOD : Hid (OwnsTb (wr.alloc (.cells #[.int .u64 (t.n : Nat), .int .i64 t.level, .int .i64 t.count, .int .i64 t.size, .string t.first, .string t.last, .int .u64 (t.least : Nat), .int .u64 (t.most : Nat)] 38)).drew (w.heap.size + 4) (.slice uo F.length uc) F) := Lib.hid HTD.out.ot
            clear HT2
            go_region_law (
              (refine step_append_tbs rfl _ _ rfl HOD.out HZD.out HSD.out (by first | rfl | (simp [Act.eval]; done)) (by first | rfl | (simp [Act.eval]; done)) HLD.out (fun v3 w3 hO3 hG3 => ?_))
              obtain ⟨vo, vc, rfl⟩ := hO3.slice
              obtain ⟨p0, p1, p2, p3, p4, pf, plt⟩ := (HBX.out _ hG3).of
              have pf0 := pf 0)
            all_goals
              have R1 := Lib.hid (HTD.out.grewT hO3 hG3)
              clear hO3 hG3 p0 p1 p2 p3 p4 pf plt pf0
              go_wp2_with fail
              refine ⟨⟨k + 1, .slice vo (F ++ [t]).length vc, by omega, by go_num, ?_⟩, by simp [intOf]; omega⟩
              rw [HFS.out]
              simpa using R1.out
    · obtain rfl : k = an := by omega
      have HTE : Hid (a.add.take k = a.add) := Lib.hid (List.take_of_length_le (by rw [HAL.out]; exact Nat.le_refl _))
      rw [HTE.out] at HT
      have HFL : Hid ((a.add.filter (fun t => !decide (t.n ∈ b.drop))).length ≤ 10000) := Lib.hid (by
        have e1 := List.length_filter_le (fun t : Tbl => !decide (t.n ∈ b.drop)) a.add
        have := HAL.out; omega)
      clear HTE
      obtain ⟨F, hF⟩ : ∃ F, F = a.add.filter (fun t => !decide (t.n ∈ b.drop)) := ⟨_, rfl⟩
      rw [← hF] at HT HFL
      have HFD := Lib.hid hF
      clear hF
      obtain ⟨o0, o1, o2, o3, o4, of, olt⟩ := HT.out.eo.of
      have hzz : w.heap.size + 4 ≤ wr.heap.size := by omega
      go_wp2_with (at_builtin; go_must (refine wpList_append_tbs rfl _ _ rfl _ _ rfl HT.out.ot hzz rfl (HC.out.below HT.out.bel) (by have := HFL.out; have := HCL.out; omega) ?_))
      intro v1 w1 hown1 hg1
      obtain ⟨G, hG⟩ : ∃ G, G = F ++ b.add := ⟨_, rfl⟩
      have HG := Lib.hid hG
      rw [← hG] at hown1
      clear hG
      obtain ⟨po, pc, rfl⟩ := hown1.slice
      have HT1 := Lib.hid (HT.out.grewT hown1 hg1)
      obtain ⟨p0, p1, p2, p3, p4, pf, plt⟩ := (HT.out.box hg1 (Or.inl rfl)).of
      have pf0 := pf 0
      clear a0 a1 a2 a3 a4 b0 b1 b2 b3 b4 alt blt o0 o1 o2 o3 o4 of olt hzz hown1 hg1
      obtain ⟨a0, a1, a2, a3, a4, af, alt⟩ := HT1.out.ea.of
      obtain ⟨b0, b1, b2, b3, b4, bf, blt⟩ := HT1.out.eb.of
      obtain ⟨o0, o1, o2, o3, o4, of, olt⟩ := HT1.out.eo.of
      have of1 := of 1
      clear af bf of pf
      have hzz : w.heap.size + 4 ≤ (w1.setCell ⟨w.heap.size + 3, 0, none⟩ (.slice po G.length pc)).heap.size := by omega
      go_wp2_with (at_builtin; go_must (refine wpList_append_nums rfl _ _ rfl _ _ rfl HT1.out.on hzz rfl (HB.out.below HT1.out.bel) (by have := HBL.out; simp only [List.length_nil]; omega) ?_))
      intro v2 w2 hown2 hg2
      obtain ⟨qo, qc, rfl⟩ := hown2.slice
      have HT2 := Lib.hid (HT1.out.grewN hown2 hg2)
      obtain ⟨q0, q1, q2, q3, q4, qf, qlt⟩ := (HT1.out.box hg2 (Or.inr rfl)).of
      have qf1 := qf 1
      clear a0 a1 a2 a3 a4 b0 b1 b2 b3 b4 alt blt o0 o1 o2 o3 o4 olt hzz hown2 hg2 of1 p0 p1 p2 p3 p4 plt pf0 HT1 HT qf
      obtain ⟨a0, a1, a2, a3, a4, af, alt⟩ := HT2.out.ea.of
      obtain ⟨b0, b1, b2, b3, b4, bf, blt⟩ := HT2.out.eb.of
      clear af bf
      go_wp2_with fail
      go_loopw [9, 10, 11] (fun i _ _ wr => ∃ (j : Nat) (v : Value), j ≤ dn ∧ i = .int .i64 j ∧ Tw2 w wr (.slice ao k ac) (.slice bo bn bc) (.slice co cn cc) (.slice d0 dn dc) a b (.slice po G.length pc) v G (a.drop ++ (b.drop.take j).filter (fun n => !decide (n ∈ a.add.map Ed.tbNum))) 0 0 0) (fun i _ _ _ => dn - (intOf i).toNat)
      case atStart => exact ⟨0, _, Nat.zero_le _, rfl, by simpa using HT2.out⟩
      case round =>
        clear HT2 a0 a1 a2 a3 a4 b0 b1 b2 b3 b4 alt blt q0 q1 q2 q3 q4 qlt qf1
        obtain ⟨j, v, hj, rfl, ht⟩ := hrel
        obtain ⟨vo, vc, rfl⟩ := ht.on.slice
        have HT := Lib.hid ht
        obtain ⟨a0, a1, a2, a3, a4, af, alt⟩ := ht.ea.of
        obtain ⟨b0, b1, b2, b3, b4, bf, blt⟩ := ht.eb.of
        have hsz := ht.bel.size
        clear af bf ht
        by_cases hlt : j < dn
        · obtain ⟨rfl, hbl, hob⟩ := HDC.out j hlt
          have e0 := (HT.out.bel.cell (p := ⟨bd, od + j, none⟩) hbl).trans hob
          have hjl : j < b.drop.length := by rw [HDL.out]; exact hlt
          have HFY : Hid (b.drop.getD j 0 ∈ a.add.map Ed.tbNum → a.drop ++ (b.drop.take (j + 1)).filter (fun n => !decide (n ∈ a.add.map Ed.tbNum)) = a.drop ++ (b.drop.take j).filter (fun n => !decide (n ∈ a.add.map Ed.tbNum))) := Lib.hid (fun h => by
            rw [filter_snocU b.drop (fun n => decide (n ∈ a.add.map Ed.tbNum)) j hjl, if_pos (decide_eq_true h), List.append_nil])
          have HFN : Hid (b.drop.getD j 0 ∉ a.add.map Ed.tbNum → a.drop ++ (b.drop.take (j + 1)).filter (fun n => !decide (n ∈ a.add.map Ed.tbNum)) = (a.drop ++ (b.drop.take j).filter (fun n => !decide (n ∈ a.add.map Ed.tbNum))) ++ [b.drop.getD j 0]) := Lib.hid (fun h => by
            rw [filter_snocU b.drop (fun n => decide (n ∈ a.add.map Ed.tbNum)) j hjl, if_neg (by simpa using h), List.append_assoc])
          have HTB := Lib.hid hob
          clear hob hjl
          have HFL : Hid ((a.drop ++ (b.drop.take j).filter (fun n => !decide (n ∈ a.add.map Ed.tbNum))).length ≤ 20000) := Lib.hid (by
            have e1 := List.length_filter_le (fun n => !decide (n ∈ a.add.map Ed.tbNum)) (b.drop.take j)
            have e2 := HBL.out
            rw [List.length_take] at e1; rw [List.length_append]; omega)
          generalize b.drop.getD j 0 = x at *
          obtain ⟨F2, hF2⟩ : ∃ F2, F2 = a.drop ++ (b.drop.take j).filter (fun n => !decide (n ∈ a.add.map Ed.tbNum)) := ⟨_, rfl⟩
          have HF2 := Lib.hid hF2
          rw [← hF2] at HT HFL HFY HFN
          clear hF2
          go_wp2_with fail
          go_loopw [10, 11] (fun g i w2 => ∃ q : Nat, q ≤ k ∧ i = .int .i64 q ∧ g = .bool (decide (x ∈ (a.add.take q).map Ed.tbNum)) ∧ Below wr.heap.size wr w2) (fun _ i _ => k - (intOf i).toNat)
          case atStart => exact ⟨0, Nat.zero_le _, rfl, by simp, Below.refl _ _⟩
          case round =>
            obtain ⟨q, hq, rfl, rfl, hb2⟩ := hrel
            have HT2 := Lib.hid (HT.out.below hb2)
            have HBB := Lib.hid hb2
            clear a0 a1 a2 a3 a4 b0 b1 b2 b3 b4 alt blt e0
            obtain ⟨a0, a1, a2, a3, a4, af, alt⟩ := HT2.out.ea.of
            obtain ⟨b0, b1, b2, b3, b4, bf, blt⟩ := HT2.out.eb.of
            have e0 := (HT2.out.bel.cell (p := ⟨bd, od + j, none⟩) hbl).trans HTB.out
            have hsz2 := HT2.out.bel.size
            clear af bf hb2 HT
            by_cases hlt2 : q < k
            · obtain ⟨rfl, hbl2, hob⟩ := HAC.out q hlt2
              obtain ⟨c0, c1, c2, c3, c4, c5, c6, c7⟩ := hob.below HT2.out.bel hbl2
              have hql : q < a.add.length := by rw [HAL.out]; exact hlt2
              have HDS : Hid (_ = _) := Lib.hid (Ed.add_snoc a.add x q hql)
              clear hql hob
              generalize a.add.getD q tbd = t at *
              have hdq : decide (t.n = x) = ((t.n : Int) == (x : Int)) := by rw [Bool.eq_iff_iff]; simp; omega
              have HDQ := Lib.hid hdq
              clear hdq c1 c2 c3 c4 c5 c6 c7
              generalize decide (x ∈ (a.add.take q).map Ed.tbNum) = g at *
              cases g with
              | true =>
                go_wp2_with fail
                go_quiet (fail)
                go_wp2_with fail
                exact ⟨⟨q + 1, by omega, by go_num, by rw [HDS.out]; rfl, Below.next HBB.out (below_drewN _ _)⟩, by simp [intOf]; omega⟩
              | false =>
                go_wp2_with fail
                go_quiet (fail)
                go_wp2_with fail
                exact ⟨⟨q + 1, by omega, by go_num, by rw [HDS.out, HDQ.out]; rfl, Below.next HBB.out (below_drewN _ _)⟩, by simp [intOf]; omega⟩
            · obtain rfl : q = k := by omega
              have HTE : Hid (a.add.take q = a.add) := Lib.hid (List.take_of_length_le (by rw [HAL.out]; exact Nat.le_refl _))
              rw [HTE.out]
              by_cases hm : x ∈ a.add.map Ed.tbNum
              · have HFS := Lib.hid (HFY.out hm)
                rw [decide_eq_true hm]
                clear hm HFY HFN
                go_wp2_with fail
                refine ⟨⟨j + 1, .slice vo F2.length vc, by omega, by go_num, ?_⟩, by simp [intOf]; omega⟩
                rw [HFS.out]
                exact HT2.out
              · have HFS := Lib.hid (HFN.out hm)
                rw [decide_eq_false hm]
                clear hm HFY HFN
                obtain ⟨o0, o1, o2, o3, o4, of, olt⟩ := HT2.out.eo.of
                have HTD : Hid (Tw2 w (wr.alloc (.cells #[.int .u64 (x : Nat)] 28)).drew (.slice ao q ac) (.slice bo bn bc) (.slice co cn cc) (.slice (some ⟨bd, od, none⟩) dn dc) a b (.slice po G.length pc) (.slice vo F2.length vc) G F2 0 0 0) := Lib.hid (HT2.out.below ((Below.refl _ _).alloc (Nat.le_refl _) _).drew)
                have HSD : Hid (SeesU (wr.alloc (.cells #[.int .u64 (x : Nat)] 28)).drew (.slice (some ⟨wr.heap.size, 0, none⟩) 1 1) [x]) := Lib.hid (seesU_heap (w := (wr.alloc (.cells #[.int .u64 (x : Nat)] 28)).drew) (heap_alloc_new wr _) rfl (fun i hi => by
                  match i, hi with
                  | 0, _ => rfl))
                have HZD : Hid (w.heap.size + 4 ≤ (wr.alloc (.cells #[.int .u64 (x : Nat)] 28)).drew.heap.size) := Lib.hid (by have := Sk.heap_lt HTD.out.eo; omega)
                have HLD : Hid (F2.length + [x].length ≤ 1000000) := Lib.hid (by have := HFL.out; simp only [List.length_singleton]; omega)
                have HBX : Hid (∀ w3, (wr.alloc (.cells #[.int .u64 (x : Nat)] 28)).drew.grownBy w3 (Value.slice vo F2.length vc).ownBlock → Ez w3 (w.heap.size + 3) (.slice po G.length pc) (.slice vo F2.length vc) 0 0 0) := Lib.hid (fun w3 hg => HTD.out.box hg (Or.inr rfl))
                have HOD : Hid (OwnsN (wr.alloc (.cells #[.int .u64 (x : Nat)] 28)).drew (w.heap.size + 4) (.slice vo F2.length vc) F2) := Lib.hid HTD.out.on
                clear HT2 of
                go_wp2_with fail
                go_region_law (
                  (refine step_append_nums rfl _ _ rfl HOD.out HZD.out HSD.out (by first | rfl | (simp [Act.eval]; done)) (by first | rfl | (simp [Act.eval]; done)) HLD.out (fun v3 w3 hO3 hG3 => ?_))
                  obtain ⟨wo, wc, rfl⟩ := hO3.slice
                  obtain ⟨p0, p1, p2, p3, p4, pf, plt⟩ := (HBX.out _ hG3).of
                  have pf1 := pf 1)
                all_goals
                  have R1 := Lib.hid (HTD.out.grewN hO3 hG3)
                  clear hO3 hG3 p0 p1 p2 p3 p4 pf plt pf1
                  go_wp2_with fail
                  refine ⟨⟨j + 1, .slice wo (F2 ++ [x]).length wc, by omega, by go_num, ?_⟩, by simp [intOf]; omega⟩
                  rw [HFS.out]
                  simpa using R1.out
        · obtain rfl : j = dn := by omega
          have HTE : Hid (b.drop.take j = b.drop) := Lib.hid (List.take_of_length_le (by rw [HDL.out]; exact Nat.le_refl _))
          have hTE := HTE.out
          rw [hTE] at HT
          clear hTE
          have HTW : Hid (Tw2 w wr (.slice ao k ac) (.slice bo bn bc) (.slice co cn cc) (.slice d0 j dc) a b (.slice po G.length pc) (.slice vo (Ed.two a b).drop.length vc) G (Ed.two a b).drop 0 0 0) := HT
          obtain rfl : G = (Ed.two a b).add := by rw [HG.out, HFD.out]; rfl
          have HMO : Hid (∀ x y W, Calls Try.prog 74 #[.int .u64 (x : Nat), .int .u64 (y : Nat)] W (fun e w' => e = .returned (.int .u64 ((max x y : Nat) : Int)) ∧ w' = W)) := Lib.hid (fun x y W => more_any x y W)
          have q1 : (Ed.two a b).log = max a.log b.log := rfl
          have q2 : (Ed.two a b).seq = max a.seq b.seq := rfl
          have q3 : (Ed.two a b).next = max a.next b.next := rfl
          have HQ := Lib.hid (And.intro q1 (And.intro q2 q3))
          clear q1 q2 q3 HT HTE HG
          obtain ⟨TA, hTA⟩ : ∃ TA, TA = (Ed.two a b).add := ⟨_, rfl⟩
          obtain ⟨TD, hTD⟩ : ∃ TD, TD = (Ed.two a b).drop := ⟨_, rfl⟩
          rw [← hTA, ← hTD] at HTW
          have HTA := Lib.hid hTA; have HTD := Lib.hid hTD
          clear hTA hTD
          go_wp2_with fail
          refine (HMO.out _ _ _).mono ?_
          rintro r w5 ⟨rfl, rfl⟩
          generalize max a.log b.log = L1 at *
          obtain ⟨o0, o1, o2, o3, o4, of, olt⟩ := HTW.out.eo.of
          have of2 := of 2
          have HT5 := Lib.hid (HTW.out.setL L1)
          obtain ⟨y0, y1, y2, y3, y4, yf, ylt⟩ := HT5.out.ea.of
          obtain ⟨z0, z1, z2, z3, z4, zf, zlt⟩ := HT5.out.eb.of
          clear of yf zf HTW
          go_wp2_with fail
          refine (HMO.out _ _ _).mono ?_
          rintro r w6 ⟨rfl, h6⟩
          have HT6 : Hid (Tw2 w w6 (.slice ao k ac) (.slice bo bn bc) (.slice co cn cc) (.slice d0 j dc) a b (.slice po TA.length pc) (.slice vo TD.length vc) TA TD L1 0 0) := Lib.hid (by rw [h6]; exact HT5.out)
          clear h6 HT5 o0 o1 o2 o3 o4 of2 olt y0 y1 y2 y3 y4 ylt z0 z1 z2 z3 z4 zlt
          generalize max a.seq b.seq = L2 at *
          obtain ⟨o0, o1, o2, o3, o4, of, olt⟩ := HT6.out.eo.of
          have of3 := of 3
          have HT7 := Lib.hid (HT6.out.setS L2)
          obtain ⟨y0, y1, y2, y3, y4, yf, ylt⟩ := HT7.out.ea.of
          obtain ⟨z0, z1, z2, z3, z4, zf, zlt⟩ := HT7.out.eb.of
          clear of yf zf HT6
          go_wp2_with fail
          refine (HMO.out _ _ _).mono ?_
          rintro r w8 ⟨rfl, h8⟩
          have HT8 : Hid (Tw2 w w8 (.slice ao k ac) (.slice bo bn bc) (.slice co cn cc) (.slice d0 j dc) a b (.slice po TA.length pc) (.slice vo TD.length vc) TA TD L1 L2 0) := Lib.hid (by rw [h8]; exact HT7.out)
          clear h8 HT7 o0 o1 o2 o3 o4 of3 olt y0 y1 y2 y3 y4 ylt z0 z1 z2 z3 z4 zlt
          generalize max a.next b.next = L3 at *
          obtain ⟨o0, o1, o2, o3, o4, of, olt⟩ := HT8.out.eo.of
          have of4 := of 4
          have HT9 := Lib.hid (HT8.out.setN L3)
          obtain ⟨y0, y1, y2, y3, y4, yf, ylt⟩ := HT9.out.eo.of
          obtain ⟨z0, z1, z2, z3, z4, zf, zlt⟩ := HT9.out.er.of
          clear of yf HT8
          go_wp2_with fail
          refine Ez.fill (P := bodyPost _ _ _ _ _) HT9.out.er (.slice po TA.length pc) (.slice vo TD.length vc) L1 L2 L3 ?_
          intro wF hF hTF
          have HF1 : Hid (OwnsTb wF w.heap.size (.slice po TA.length pc) TA) := Lib.hid ((HT9.out.ot.turns hTF (by omega)).low (by omega))
          have HF2 : Hid (OwnsN wF w.heap.size (.slice vo TD.length vc) TD) := Lib.hid ((HT9.out.on.turns hTF (by omega)).low (by omega))
          have HFB : Hid (Below w.heap.size w wF) := Lib.hid (HT9.out.bel.trans (hTF.to_below HT9.out.bel.size (fun k hk => by rw [show k = w.heap.size + 2 from hk]; omega)))
          clear o0 o1 o2 o3 o4 of4 olt y0 y1 y2 y3 y4 ylt z0 z1 z2 z3 z4 zf zlt a0 a1 a2 a3 a4 b0 b1 b2 b3 b4
          obtain ⟨r0, r1, r2, r3, r4, rf, rlt⟩ := hF.of
          refine bodyPost_ret (v := edV po TA.length pc vo TD.length vc L1 L2 L3) (by simp [results, Try.results49, go_sem, edV, r0, r1, r2, r3, r4]) rfl ⟨po, pc, vo, vc, ?_, ?_, ?_, HFB.out⟩
          · rw [HTA.out, HTD.out, ← HQ.out.1, ← HQ.out.2.1, ← HQ.out.2.2]
          · rw [← HTA.out]; exact HF1.out
          · rw [← HTD.out]; exact HF2.out

end Go.Proofs.Ytbdoekogoiijeaa

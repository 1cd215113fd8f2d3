/- Appending any numbers to a row of the call's own; the copy of an edit. -/
import Derived.Test.YtbdoekogoiijeaaEdP
namespace Go.Proofs.Ytbdoekogoiijeaa
open Go.RowKit Sk
set_option linter.unusedVariables false
set_option maxRecDepth 20000

theorem cellsU_length (l : List Nat) : (l.map (fun n => Value.int .u64 (n : Nat))).length = l.length * 1 := by simp
theorem cellsU_one (l : List Nat) : ∀ u ∈ l.map (fun n => Value.int .u64 (n : Nat)), u.oneCell' = true := by
  intro u hu
  obtain ⟨y, _, rfl⟩ := List.mem_map.1 hu
  rfl
theorem seesU_all {w : World} {b off : Nat} {ns : List Nat} (h : ∀ i, i < ns.length → w.cell? ⟨b, off + i, none⟩ = some (.int .u64 (ns.getD i 0 : Nat))) : ∀ j u, (ns.map (fun n => Value.int .u64 (n : Nat)))[j]? = some u → w.cell? ⟨b, off + j, none⟩ = some u := by
  intro j u hj
  rw [List.getElem?_map] at hj
  cases hn : ns[j]? with
  | none => rw [hn] at hj; simp at hj
  | some n =>
    rw [hn] at hj
    simp only [Option.map_some, Option.some.injEq] at hj
    subst hj
    have hlt : j < ns.length := (List.getElem?_eq_some_iff.1 hn).1
    rw [h j hlt]
    have : ns.getD j 0 = n := by simp [hn]
    rw [this]

/-- A row of the call's own, grown by numbers that lie in memory. -/
theorem wpList_append_nums {W : World} {ops : Array Oper} {rest : List Oper} {o : Oper} {a : Act} {Q : Exit → Act → World → Prop} (hgd : o.guard = none) (s x : Operand) (ho : o.op = .call { callee := .builtin .append, args := #[s, x], argTypes := #[27, 27] })
    {base : Nat} {l r : List Nat} (v vx : Value) (hs : a.eval s = v) (hown : OwnsN W base v l) (hbase : base ≤ W.heap.size) (hx : a.eval x = vx) (h : SeesU W vx r) (hl : l.length + r.length ≤ 1000000)
    (hq : ∀ v' W', OwnsN W' base v' (l ++ r) → W.grownBy W' v.ownBlock → wpList Try.prog ops Q rest (a.put o.dst v') W') : wpList Try.prog ops Q (o :: rest) a W := by
  obtain ⟨i0, hi, hz0, hz1, hz2⟩ := info_parts info_un
  rcases h with ⟨rfl, ad, cap, e1⟩ | ⟨b, off, cap, e1, hb, hc⟩
  · subst e1
    refine wpList_plain hgd fun K hK => ?_
    have hrun := run_append_empty (P := Try.prog) (w := W) base 27 o.type 28 i0 1 Try.underlying27 hi v l.length _ hown ad cap
    unfold Oper.wp
    simp [execOp, ho, resolve, invoke, builtin, hs, hx, hrun, Result.andThen]
    exact hK _ _ (hq v W (by rw [List.append_nil]; exact hown) ⟨rfl, rfl, rfl, Nat.le_refl _, fun _ _ _ => rfl⟩)
  · subst e1
    refine wpList_append_own W hgd s x _ ho base 28 i0 _ 1 8 Try.underlying27 hi hz0 hz1 hz2 rfl (by decide) v l.length _ hs hown ⟨b, off, none⟩ r.length cap (r.map (fun n => Value.int .u64 (n : Nat))) hx (cellsU_length r) (fun j u hu => ?_) (cellsU_one r) (by unfold maxLen; omega) (by omega) hbase fun v' w' h1 h2 _ => hq v' w' ?_ h2
    · rw [add_off]; exact seesU_all hc j u hu
    · unfold OwnsN
      rw [List.length_append, List.map_append]
      exact h1

/-- A row of the call's own is there when other rows' blocks, of another type, have grown. -/
theorem OwnsTb.grown {w w' : World} {base : Nat} {v : Value} {ts : List Tbl} (h : OwnsTb w base v ts) {row : Option Nat} (hg : w.grownBy w' row) (hr : ∀ b, row = some b → ∃ cur t, w.heap[b]? = some (.cells cur t (0, 0)) ∧ t ≠ 38) : OwnsTb w' base v ts :=
  Sk.ownsRow_frame h fun k hk => hg.block k (Sk.ownsRow_lt h hk) (fun e => by
    obtain ⟨c1, h1⟩ := Sk.ownsRow_obj h hk
    obtain ⟨c2, t, h2, hne⟩ := hr k e.symm
    exact Sk.obj_cells_ne h2 h1 hne rfl)
theorem OwnsN.grown {w w' : World} {base : Nat} {v : Value} {ns : List Nat} (h : OwnsN w base v ns) {row : Option Nat} (hg : w.grownBy w' row) (hr : ∀ b, row = some b → ∃ cur t, w.heap[b]? = some (.cells cur t (0, 0)) ∧ t ≠ 28) : OwnsN w' base v ns :=
  Sk.ownsRow_frame h fun k hk => hg.block k (Sk.ownsRow_lt h hk) (fun e => by
    obtain ⟨c1, h1⟩ := Sk.ownsRow_obj h hk
    obtain ⟨c2, t, h2, hne⟩ := hr k e.symm
    exact Sk.obj_cells_ne h2 h1 hne rfl)
theorem own_of {w : World} {base : Nat} {e : TypeId} {z n : Nat} {v : Value} {xs : List Value} (h : w.ownsRow base e z v n xs) {t : TypeId} (ht : e ≠ t) : ∀ b, v.ownBlock = some b → ∃ cur t', w.heap[b]? = some (.cells cur t' (0, 0)) ∧ t' ≠ t := fun b hb => by
  obtain ⟨cur, hc⟩ := Sk.ownsRow_obj h hb
  exact ⟨cur, e, hc, ht⟩

theorem OwnsTb.low {w : World} {base b2 : Nat} {v : Value} {ts : List Tbl} (h : OwnsTb w base v ts) (hb : b2 ≤ base) : OwnsTb w b2 v ts := h.mono hb
theorem OwnsN.low {w : World} {base b2 : Nat} {v : Value} {ns : List Nat} (h : OwnsN w base v ns) (hb : b2 ≤ base) : OwnsN w b2 v ns := h.mono hb
theorem OwnsTb.empty (W : World) : OwnsTb (W.alloc (.cells #[] 38)) W.heap.size (.slice (some ⟨W.heap.size, 0, none⟩) 0 0) [] :=
  World.ownsRow_made W (base := W.heap.size) (e := 38) (size := 8) #[] 0 (by simp) (Nat.zero_le _) rfl
theorem OwnsN.empty (W : World) : OwnsN (W.alloc (.cells #[] 28)) W.heap.size (.slice (some ⟨W.heap.size, 0, none⟩) 0 0) [] :=
  World.ownsRow_made W (base := W.heap.size) (e := 28) (size := 1) #[] 0 (by simp) (Nat.zero_le _) rfl

set_option maxHeartbeats 4000000 in
theorem copied_any (ao : Option Addr) (an ac : Nat) (bo : Option Addr) (bn bc : Nat) (e : Edt) (w : World) (hA : SeesTb w (.slice ao an ac) e.add) (hD : SeesU w (.slice bo bn bc) e.drop) (h1 : an ≤ 100000) (h2 : bn ≤ 100000) :
    Calls Try.prog 14 #[edV ao an ac bo bn bc e.log e.seq e.next] w (EdMade e w) := by
  obtain rfl := hA.get.1
  obtain rfl := hD.get.1
  have x1 : Ex ((w.alloc (.cells #[.slice ao e.add.length ac, .slice bo e.drop.length bc, .int .u64 (e.log : Nat), .int .u64 (e.seq : Nat), .int .u64 (e.next : Nat)] 30)).alloc (.cells #[.slice none 0 0, .slice none 0 0, .int .u64 0, .int .u64 0, .int .u64 0] 30)) w.heap.size (.slice ao e.add.length ac) (.slice bo e.drop.length bc) e.log e.seq e.next := heap_alloc2_old _ _ _
  have x2 : Ex ((w.alloc (.cells #[.slice ao e.add.length ac, .slice bo e.drop.length bc, .int .u64 (e.log : Nat), .int .u64 (e.seq : Nat), .int .u64 (e.next : Nat)] 30)).alloc (.cells #[.slice none 0 0, .slice none 0 0, .int .u64 0, .int .u64 0, .int .u64 0] 30)) (w.heap.size + 1) (.slice none 0 0) (.slice none 0 0) 0 0 0 := heap_alloc2_new _ _ _
  have x3 : Below w.heap.size w ((w.alloc (.cells #[.slice ao e.add.length ac, .slice bo e.drop.length bc, .int .u64 (e.log : Nat), .int .u64 (e.seq : Nat), .int .u64 (e.next : Nat)] 30)).alloc (.cells #[.slice none 0 0, .slice none 0 0, .int .u64 0, .int .u64 0, .int .u64 0] 30)) := Below.next_alloc ((Below.refl _ _).alloc (Nat.le_refl _) _) _
  have x4 : ((w.alloc (.cells #[.slice ao e.add.length ac, .slice bo e.drop.length bc, .int .u64 (e.log : Nat), .int .u64 (e.seq : Nat), .int .u64 (e.next : Nat)] 30)).alloc (.cells #[.slice none 0 0, .slice none 0 0, .int .u64 0, .int .u64 0, .int .u64 0] 30)).heap.size = w.heap.size + 1 + 1 := by simp
  have HO0 := Lib.hid (OwnsTb.empty ((w.alloc (.cells #[.slice ao e.add.length ac, .slice bo e.drop.length bc, .int .u64 (e.log : Nat), .int .u64 (e.seq : Nat), .int .u64 (e.next : Nat)] 30)).alloc (.cells #[.slice none 0 0, .slice none 0 0, .int .u64 0, .int .u64 0, .int .u64 0] 30)))
  rw [x4] at HO0
  have HB0 : Hid (∀ o, Below ((w.alloc (.cells #[.slice ao e.add.length ac, .slice bo e.drop.length bc, .int .u64 (e.log : Nat), .int .u64 (e.seq : Nat), .int .u64 (e.next : Nat)] 30)).alloc (.cells #[.slice none 0 0, .slice none 0 0, .int .u64 0, .int .u64 0, .int .u64 0] 30)).heap.size ((w.alloc (.cells #[.slice ao e.add.length ac, .slice bo e.drop.length bc, .int .u64 (e.log : Nat), .int .u64 (e.seq : Nat), .int .u64 (e.next : Nat)] 30)).alloc (.cells #[.slice none 0 0, .slice none 0 0, .int .u64 0, .int .u64 0, .int .u64 0] 30)) (((w.alloc (.cells #[.slice ao e.add.length ac, .slice bo e.drop.length bc, .int .u64 (e.log : Nat), .int .u64 (e.seq : Nat), .int .u64 (e.next : Nat)] 30)).alloc (.cells #[.slice none 0 0, .slice none 0 0, .int .u64 0, .int .u64 0, .int .u64 0] 30)).alloc o)) := Lib.hid (fun o => (Below.refl _ _).alloc (Nat.le_refl _) _)
  have HXA : Hid (Ex (((w.alloc (.cells #[.slice ao e.add.length ac, .slice bo e.drop.length bc, .int .u64 (e.log : Nat), .int .u64 (e.seq : Nat), .int .u64 (e.next : Nat)] 30)).alloc (.cells #[.slice none 0 0, .slice none 0 0, .int .u64 0, .int .u64 0, .int .u64 0] 30)).alloc (.cells #[] 38)) w.heap.size (.slice ao e.add.length ac) (.slice bo e.drop.length bc) e.log e.seq e.next) := Lib.hid (kept_block x1 (HB0.out _))
  have HXB : Hid (Ex (((w.alloc (.cells #[.slice ao e.add.length ac, .slice bo e.drop.length bc, .int .u64 (e.log : Nat), .int .u64 (e.seq : Nat), .int .u64 (e.next : Nat)] 30)).alloc (.cells #[.slice none 0 0, .slice none 0 0, .int .u64 0, .int .u64 0, .int .u64 0] 30)).alloc (.cells #[] 38)) (w.heap.size + 1) (.slice none 0 0) (.slice none 0 0) 0 0 0) := Lib.hid (kept_block x2 (HB0.out _))
  have HX3 : Hid (Below w.heap.size w (((w.alloc (.cells #[.slice ao e.add.length ac, .slice bo e.drop.length bc, .int .u64 (e.log : Nat), .int .u64 (e.seq : Nat), .int .u64 (e.next : Nat)] 30)).alloc (.cells #[.slice none 0 0, .slice none 0 0, .int .u64 0, .int .u64 0, .int .u64 0] 30)).alloc (.cells #[] 38))) := Lib.hid (Below.next_alloc x3 _)
  have HA := Lib.hid (hA.below HX3.out); have HD := Lib.hid hD
  have hz : w.heap.size + 1 + 1 < (((w.alloc (.cells #[.slice ao e.add.length ac, .slice bo e.drop.length bc, .int .u64 (e.log : Nat), .int .u64 (e.seq : Nat), .int .u64 (e.next : Nat)] 30)).alloc (.cells #[.slice none 0 0, .slice none 0 0, .int .u64 0, .int .u64 0, .int .u64 0] 30)).alloc (.cells #[] 38)).heap.size := by simp
  obtain ⟨c0, c1, c2, c3, c4, cf, clt⟩ := HXA.out.of
  clear hA hD x1 x2 x3 x4 HB0
  unfold edV
  go_enter Try.func14, Try.ntmps14
  go_wp2_with (at_builtin; go_must (refine wpList_append_tbs rfl _ _ rfl _ _ rfl HO0.out (Nat.le_of_lt hz) rfl HA.out (by simp; omega) ?_))
  intro v1 w1 hown1 hg1
  obtain ⟨to, tc, rfl⟩ := hown1.slice
  clear c0 c1 c2 c3 c4 cf clt
  generalize ((w.alloc (.cells #[.slice ao e.add.length ac, .slice bo e.drop.length bc, .int .u64 (e.log : Nat), .int .u64 (e.seq : Nat), .int .u64 (e.next : Nat)] 30)).alloc (.cells #[.slice none 0 0, .slice none 0 0, .int .u64 0, .int .u64 0, .int .u64 0] 30)).alloc (.cells #[] 38) = W at *
  have y1 : Ex w1 w.heap.size (.slice ao e.add.length ac) (.slice bo e.drop.length bc) e.log e.seq e.next := (hg1.block _ (by omega) (by simp [Value.ownBlock]; omega)).trans HXA.out
  have y2 : Ex w1 (w.heap.size + 1) (.slice none 0 0) (.slice none 0 0) 0 0 0 := (hg1.block _ (by omega) (by simp [Value.ownBlock])).trans HXB.out
  have y3 : Below w.heap.size w w1 := HX3.out.grown hg1 (by omega) (fun z hz => by simp [Value.ownBlock] at hz; omega)
  have y1' : Ex (w1.setCell ⟨w.heap.size, 0, none⟩ (.slice to e.add.length tc)) w.heap.size (.slice to e.add.length tc) (.slice bo e.drop.length bc) e.log e.seq e.next := heap_setCell_same _ _ 0 _ _ (.slice to e.add.length tc) y1
  have t1 : Turns (At w.heap.size) w1 (w1.setCell ⟨w.heap.size, 0, none⟩ (.slice to e.add.length tc)) := Turns.of_setCell _ _ _ rfl
  have y2' : Ex (w1.setCell ⟨w.heap.size, 0, none⟩ (.slice to e.add.length tc)) (w.heap.size + 1) (.slice none 0 0) (.slice none 0 0) 0 0 0 := (t1.block _ (Sk.heap_lt y2) (by show ¬ _ = _; omega)).trans y2
  have HO1 : Hid (OwnsTb (w1.setCell ⟨w.heap.size, 0, none⟩ (.slice to e.add.length tc)) (w.heap.size + 1 + 1) (.slice to e.add.length tc) e.add) := Lib.hid (OwnsTb.turns hown1 t1 (by omega))
  have HS1 : Hid (w1.heap.size = (w1.setCell ⟨w.heap.size, 0, none⟩ (.slice to e.add.length tc)).heap.size) := Lib.hid (by simp [World.setCell])
  have hsz1 := y3.size
  have hz1 : w.heap.size + 1 + 1 ≤ w1.heap.size := by have := hg1.size; omega
  have HB1 : Hid (Below w.heap.size w (w1.setCell ⟨w.heap.size, 0, none⟩ (.slice to e.add.length tc))) := Lib.hid (y3.setCell (Nat.le_refl _) _)
  have HB2 : Hid (∀ o, Below (w1.setCell ⟨w.heap.size, 0, none⟩ (.slice to e.add.length tc)).heap.size (w1.setCell ⟨w.heap.size, 0, none⟩ (.slice to e.add.length tc)) ((w1.setCell ⟨w.heap.size, 0, none⟩ (.slice to e.add.length tc)).alloc o)) := Lib.hid (fun o => (Below.refl _ _).alloc (Nat.le_refl _) _)
  have HO2 := Lib.hid (OwnsN.empty (w1.setCell ⟨w.heap.size, 0, none⟩ (.slice to e.add.length tc)))
  rw [← HS1.out] at HO2
  have HT2 : Hid (OwnsTb ((w1.setCell ⟨w.heap.size, 0, none⟩ (.slice to e.add.length tc)).alloc (.cells #[] 28)) (w.heap.size + 1 + 1) (.slice to e.add.length tc) e.add) := Lib.hid (HO1.out.below (HB2.out _))
  have HX2 : Hid (Ex ((w1.setCell ⟨w.heap.size, 0, none⟩ (.slice to e.add.length tc)).alloc (.cells #[] 28)) w.heap.size (.slice to e.add.length tc) (.slice bo e.drop.length bc) e.log e.seq e.next) := Lib.hid (kept_block y1' (HB2.out _))
  have HY2 : Hid (Ex ((w1.setCell ⟨w.heap.size, 0, none⟩ (.slice to e.add.length tc)).alloc (.cells #[] 28)) (w.heap.size + 1) (.slice none 0 0) (.slice none 0 0) 0 0 0) := Lib.hid (kept_block y2' (HB2.out _))
  have HB3 : Hid (Below w.heap.size w ((w1.setCell ⟨w.heap.size, 0, none⟩ (.slice to e.add.length tc)).alloc (.cells #[] 28))) := Lib.hid (Below.next_alloc HB1.out _)
  have HD2 : Hid (SeesU ((w1.setCell ⟨w.heap.size, 0, none⟩ (.slice to e.add.length tc)).alloc (.cells #[] 28)) (.slice bo e.drop.length bc) e.drop) := Lib.hid (HD.out.below HB3.out)
  obtain ⟨c0, c1, c2, c3, c4, cf, clt⟩ := y1.of
  have cf0 := cf 0
  obtain ⟨d0, d1, d2, d3, d4, df, dlt⟩ := HX2.out.of
  go_wp2_with (at_builtin; go_must (refine wpList_append_nums rfl _ _ rfl _ _ rfl HO2.out (by simp) rfl HD2.out (by simp; omega) ?_))
  intro v2 w2 hown2 hg2
  obtain ⟨uo, uc, rfl⟩ := hown2.slice
  clear c0 c1 c2 c3 c4 cf clt cf0 d0 d1 d2 d3 d4 df dlt
  have hszA : ((w1.setCell ⟨w.heap.size, 0, none⟩ (.slice to e.add.length tc)).alloc (.cells #[] 28)).heap.size = w1.heap.size + 1 := by rw [World.size_alloc, ← HS1.out]
  have z1 : Ex w2 w.heap.size (.slice to e.add.length tc) (.slice bo e.drop.length bc) e.log e.seq e.next := (hg2.block _ (by omega) (by simp [Value.ownBlock]; omega)).trans HX2.out
  have z2 : Ex w2 (w.heap.size + 1) (.slice none 0 0) (.slice none 0 0) 0 0 0 := (hg2.block _ (by omega) (by simp [Value.ownBlock]; omega)).trans HY2.out
  have z3 : Below w.heap.size w w2 := HB3.out.grown hg2 (by omega) (fun z hz => by simp [Value.ownBlock] at hz; omega)
  have o1 : OwnsTb w2 (w.heap.size + 1 + 1) (.slice to e.add.length tc) e.add := HT2.out.grown hg2 (own_of HO2.out (by decide))
  have z1' : Ex (w2.setCell ⟨w.heap.size, 1, none⟩ (.slice uo e.drop.length uc)) w.heap.size (.slice to e.add.length tc) (.slice uo e.drop.length uc) e.log e.seq e.next := heap_setCell_same _ _ 1 _ _ (.slice uo e.drop.length uc) z1
  have t2 : Turns (At w.heap.size) w2 (w2.setCell ⟨w.heap.size, 1, none⟩ (.slice uo e.drop.length uc)) := Turns.of_setCell _ _ _ rfl
  have z2' : Ex (w2.setCell ⟨w.heap.size, 1, none⟩ (.slice uo e.drop.length uc)) (w.heap.size + 1) (.slice none 0 0) (.slice none 0 0) 0 0 0 := (t2.block _ (Sk.heap_lt z2) (by show ¬ _ = _; omega)).trans z2
  have HO3 : Hid (OwnsTb (w2.setCell ⟨w.heap.size, 1, none⟩ (.slice uo e.drop.length uc)) (w.heap.size + 1 + 1) (.slice to e.add.length tc) e.add) := Lib.hid (OwnsTb.turns o1 t2 (by omega))
  have HN3 : Hid (OwnsN (w2.setCell ⟨w.heap.size, 1, none⟩ (.slice uo e.drop.length uc)) (w.heap.size + 1 + 1) (.slice uo e.drop.length uc) e.drop) := Lib.hid (OwnsN.turns (OwnsN.low hown2 hz1) t2 (by omega))
  have HB4 : Hid (Below w.heap.size w (w2.setCell ⟨w.heap.size, 1, none⟩ (.slice uo e.drop.length uc))) := Lib.hid (z3.setCell (Nat.le_refl _) _)
  obtain ⟨c0, c1, c2, c3, c4, cf, clt⟩ := z1.of
  have cf1 := cf 1
  obtain ⟨d0, d1, d2, d3, d4, df, dlt⟩ := z1'.of
  obtain ⟨e0, e1, e2, e3, e4, ef, elt⟩ := z2'.of
  have HZ2 := Lib.hid z2'
  clear z1 z2 z3 z1' z2' t1 t2 o1 y1 y2 y3 y1' y2' HO0 HXA HXB HX3 HA HD HO1 HO2 HT2 HX2 HY2 HB3 HB2 HB1 HD2 HS1 hszA
  go_wp2_with fail
  refine Ex.fill (P := bodyPost _ _ _ _ _) HZ2.out (.slice to e.add.length tc) (.slice uo e.drop.length uc) e.log e.seq e.next ?_
  intro wF hF hTF
  have HF1 : Hid (OwnsTb wF (w.heap.size + 1 + 1) (.slice to e.add.length tc) e.add) := Lib.hid (HO3.out.turns hTF (Nat.lt_succ_self _))
  have HF2 : Hid (OwnsN wF (w.heap.size + 1 + 1) (.slice uo e.drop.length uc) e.drop) := Lib.hid (HN3.out.turns hTF (Nat.lt_succ_self _))
  have HFB : Hid (Below w.heap.size w wF) := Lib.hid (HB4.out.trans (hTF.to_below (by have := HB4.out.size; omega) (fun k hk => by rw [show k = w.heap.size + 1 from hk]; omega)))
  clear c0 c1 c2 c3 c4 cf clt d0 d1 d2 d3 d4 df dlt e0 e1 e2 e3 e4 ef elt
  obtain ⟨r0, r1, r2, r3, r4, rf, rlt⟩ := hF.of
  exact bodyPost_ret (v := edV to e.add.length tc uo e.drop.length uc e.log e.seq e.next) (by simp [results, Try.results14, go_sem, edV, r0, r1, r2, r3, r4]) rfl ⟨to, tc, uo, uc, rfl, HF1.out.low (by omega), HF2.out.low (by omega), HFB.out⟩

end Go.Proofs.Ytbdoekogoiijeaa

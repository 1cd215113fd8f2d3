/- The walk of Mem.Range: a range over what From tells. -/
import Derived.Test.YtmdnmabbphnhaaaMmB
import Derived.Test.YtmdnmabbphnhaaaMmR
import Derived.RangeFuncBox
import Derived.Maps.OwnIn
import Derived.Deep.AppendLies
import Derived.Deep.RegionLaw
import Derived.Deep.RegionHeld3
import Derived.Deep.QuietTactic
import Derived.BigQuiet
namespace Go.Proofs.Ytmdnmabbphnhaaa.Mm
open Go Go.RowKit Go.Shelf Go.Proofs.Ytmdnmabbphnhaaa.Sk Go.Proofs.Ytmdnmabbphnhaaa.Sm
set_option linter.unusedVariables false
set_option linter.unusedSimpArgs false
attribute [local go_sem] Oper.semAt_some

set_option maxHeartbeats 8000000 in
set_option maxRecDepth 100000 in
theorem range_any {w : World} {M : MLay} {s r : List (It Ent)} (h : Held w M s r) (FR TO : ByteArray) (hF : FR.size ≤ 1000000) :
    Calls Try.prog 16 #[.pointer (some ⟨M.m, 0, none⟩), .string FR, .string TO] w fun e w' => ∃ v, e = .returned v ∧ OwnsE w' w.heap.size v (rangeL s FR.data.toList TO.data.toList) ∧ Below w.heap.size w w' := by
  obtain ⟨Wz, hWz⟩ : ∃ Wz, Wz = w.alloc (.cells #[.string TO] 9) := ⟨_, rfl⟩
  have HZB : Hid (Below w.heap.size w Wz) := Lib.hid (by rw [hWz]; exact alloc_below w _)
  have HZH : Hid (Wz.heap[w.heap.size]? = some (.cells #[.string TO] 9 (0, 0))) := Lib.hid (by rw [hWz]; exact heap_alloc_new w _)
  have HW := Lib.hid hWz
  have HWZ : Hid (Wz.heap.size = w.heap.size + 1) := Lib.hid (by rw [hWz]; simp)
  clear hWz
  have hz := h.below HZB.out
  have HM := Lib.hid (made_yes hz)
  have HP := Lib.hid (fun W => place_any FR 18446744073709551615 W hF (by omega))
  have HC := Lib.hid (fun W (hb : Below Wz.heap.size Wz W) => (hz.below hb).c0)
  have HFR := Lib.hid (fun W => from_any (some ⟨M.L.b, 0, none⟩) ⟨(place FR.data.toList 18446744073709551615).toArray⟩ W (by
    have h1 := place_length FR.data.toList 18446744073709551615
    have h2 : FR.data.toList.length = FR.size := by rw [Array.length_toList]; rfl
    show (place FR.data.toList 18446744073709551615).toArray.size ≤ _
    rw [List.size_toArray]
    omega))
  obtain ⟨A, xs, hs, hA, hX, hsk⟩ := cutAt h.placed.up (place FR.data.toList 18446744073709551615)
  have HSK : Hid (seek (⟨(place FR.data.toList 18446744073709551615).toArray⟩ : ByteArray).data.toList s = xs.head?) := Lib.hid hsk
  have HALL := Lib.hid (fun (h2 : ∀ y ∈ xs, okTo TO.data.toList y.val = true) => range_all h.placed hs hA hX h2)
  have HSTOP := Lib.hid (fun (pre post : List (It Ent)) (x : It Ent) (h2 : xs = pre ++ x :: post) (h3 : ∀ y ∈ pre, okTo TO.data.toList y.val = true) (h4 : okTo TO.data.toList x.val = false) => range_stop h.placed hs hA hX h2 h3 h4)
  have HSS := Lib.hid hs
  have HFT : Hid (∀ y ∈ xs, Fit y.val) := Lib.hid (fun y hy => h.fit y (by rw [hs]; exact List.mem_append_right _ hy))
  have HXL : Hid (xs.length ≤ 100000) := Lib.hid (by
    have h1 : s.length = A.length + xs.length := by rw [hs, List.length_append]
    have h2 := h.lies.few
    have h3 := h.lies.kin.len
    omega)
  have HLZ := Lib.hid (fun W (hb : Below Wz.heap.size Wz W) => (hz.below hb).lies)
  have HOW := Lib.hid (fun b (hb : Sm.Own M.L s b) => h.lies.own_lt hb)
  generalize rangeL s FR.data.toList TO.data.toList = RL at *
  clear hs hA hX hsk h hz
  generalize (⟨(place FR.data.toList 18446744073709551615).toArray⟩ : ByteArray) = P at *
  refine (callsIn_wide (n := 20)).1 ?_
  refine callsIn_of_wp_marks Try.func16 rfl trivial ?_ rfl
  refine wpIn_wide.2 ?_
  simp only [Try.ntmps16, List.size_toArray, List.length_cons, List.length_nil, Nat.reduceAdd, Nat.reduceSub, Array.replicate_succ, Array.replicate_zero, List.push_toArray, List.append_toArray, List.nil_append, List.cons_append]
  go_wp2_with fail
  rw [← HW.out]
  clear HW
  refine HM.out.mono ?_
  rintro e w1 ⟨rfl, hw1⟩
  rw [hw1]
  clear hw1 w1
  go_wp2_with fail
  obtain ⟨We, hWe⟩ : ∃ We, We = Wz.alloc (.cells #[.slice none 0 0] 28) := ⟨_, rfl⟩
  rw [← hWe]
  have HEB : Hid (Below Wz.heap.size Wz We) := Lib.hid (by rw [hWe]; exact alloc_below Wz _)
  have HEH : Hid (We.heap[Wz.heap.size]? = some (.cells #[.slice none 0 0] 28 (0, 0))) := Lib.hid (by rw [hWe]; exact heap_alloc_new Wz _)
  clear hWe
  refine wp_region_noPanic ?_
  refine wp_region_held_drew (S := fun w' => w'.cell? ⟨M.m, 0, none⟩ = some (.pointer (some ⟨M.L.b, 0, none⟩))) (by kernel_rfl) (HC.out _ (drew_below HEB.out)) (fun hH => ?_)
  refine wpAnyH_take (i := 0) (v := ?v0) rfl (by kernel_rfl) (by kernel_rfl) (by kernel_rfl) (fun _ _ _ h => h) (Or.inl ⟨by kernel_rfl, ?y0⟩) (by assumption) ?_; case y0 => (intro w' hS; have s0 := hS; go_simp; try with_reducible rfl)
  simp only [Act.put, List.setIfInBounds_toArray, List.set_cons_zero, List.set_cons_succ]
  refine wpAnyH_take (i := 1) (v := ?v1) rfl (by kernel_rfl) (by kernel_rfl) (by kernel_rfl) (fun _ _ _ h => h) (Or.inl ⟨by kernel_rfl, ?y1⟩) (by assumption) ?_; case y1 => (intro w' hS; have s0 := hS; go_simp; try with_reducible rfl)
  simp only [Act.put, List.setIfInBounds_toArray, List.set_cons_zero, List.set_cons_succ]
  refine wpAnyH_take (i := 2) (v := ?v2) rfl (by kernel_rfl) (by kernel_rfl) (by kernel_rfl) (fun _ _ _ h => h) (Or.inl ⟨by kernel_rfl, ?y2⟩) (by assumption) ?_; case y2 => (intro w' hS; have s0 := hS; go_simp; try with_reducible rfl)
  simp only [Act.put, List.setIfInBounds_toArray, List.set_cons_zero, List.set_cons_succ]
  refine wpAnyH_take (i := 3) (v := ?v3) rfl (by kernel_rfl) (by kernel_rfl) (by kernel_rfl) (fun _ _ _ h => h) (Or.inl ⟨by kernel_rfl, ?y3⟩) (by assumption) ?_; case y3 => (intro w' hS; have s0 := hS; go_simp; try with_reducible rfl)
  simp only [Act.put, List.setIfInBounds_toArray, List.set_cons_zero, List.set_cons_succ]
  refine wpAnyH_take (i := 4) (v := ?v4) rfl (by kernel_rfl) (by kernel_rfl) (by kernel_rfl) (fun _ _ _ h => h) (Or.inl ⟨by kernel_rfl, ?y4⟩) (by assumption) ?_; case y4 => (intro w' hS; have s0 := hS; go_simp; try with_reducible rfl)
  simp only [Act.put, List.setIfInBounds_toArray, List.set_cons_zero, List.set_cons_succ]
  refine wpAnyH_ready (rs := [5]) (by kernel_rfl) (by simp) ?_
  refine AllReadyH.cons rfl (fun K hK => ?_) AllReadyH.nil
  go_simp
  refine (HP.out _).mono ?_
  rintro e w1 ⟨rfl, hb1⟩
  have HB1 : Hid (Below We.heap.size We w1) := Lib.hid (Below.next (drew_below (Below.refl _ We)) hb1)
  clear hb1
  refine hK.out _ _ (HC.out _ (HEB.out.trans (HB1.out.mono HEB.out.size))) (fun _ => ?_)
  clear hK K
  try simp only [Act.put, List.setIfInBounds_toArray, List.set_cons_zero, List.set_cons_succ]
  refine wpAnyH_ready (rs := [6]) (by kernel_rfl) (by simp) ?_
  refine AllReadyH.cons rfl (fun K hK => ?_) AllReadyH.nil
  go_simp
  refine (HFR.out _).mono ?_
  rintro e w2 ⟨rfl, hb2, q1, q2⟩
  have HB2 : Hid (Below We.heap.size We w2) := Lib.hid (Below.next HB1.out hb2)
  have BX : Hid (w2.cell? ⟨w1.heap.size, 0, none⟩ = some (.pointer (some ⟨M.L.b, 0, none⟩)) ∧ w2.cell? ⟨w1.heap.size + 1, 0, none⟩ = some (.string P)) := Lib.hid ⟨q1, q2⟩
  clear hb2 q1 q2
  refine hK.out _ _ (HC.out _ (HEB.out.trans (HB2.out.mono HEB.out.size))) (fun _ => ?_)
  clear hK K
  try simp only [Act.put, List.setIfInBounds_toArray, List.set_cons_zero, List.set_cons_succ]
  refine wpAnyH_done (by kernel_rfl) ?_ _
  refine NoPanic.normal ?_
  go_wp2_with fail
  obtain ⟨n2, hn2⟩ : ∃ n2, n2 = w2.heap.size := ⟨_, rfl⟩
  obtain ⟨eb, heb⟩ : ∃ eb, eb = Wz.heap.size := ⟨_, rfl⟩
  rw [← heb]
  obtain ⟨Wr, hWr⟩ : ∃ Wr : Nat → Prop, Wr = fun k => k = eb ∨ n2 ≤ k := ⟨_, rfl⟩
  have hwz : Wz.heap.size = w.heap.size + 1 := by
    have h1 := heap_lt HZH.out
    have h2 := HWZ.out
    exact h2
  have hwe : eb < We.heap.size := by rw [heb]; exact heap_lt HEH.out
  have hw1 : We.heap.size ≤ w1.heap.size := HB1.out.size
  have hw2 : w1.heap.size + 1 < w2.heap.size := World.block_lt_of_cell? _ _ BX.out.2
  have HB1N : Hid (¬ Wr w1.heap.size) := Lib.hid (by rw [hWr]; rintro (e | e) <;> omega)
  have HWU : Hid (∀ k, n2 ≤ k → Wr k) := Lib.hid (fun k hk => by rw [hWr]; exact Or.inr hk)
  have HWB : Hid (Wr eb) := Lib.hid (by rw [hWr]; exact Or.inl rfl)
  have HLOW : Hid (∀ b, b < eb → ¬ Wr b) := Lib.hid (fun b hb => by rw [hWr]; rintro (e | e) <;> omega)
  have HLW : Hid (Below Wz.heap.size Wz w2) := Lib.hid (HEB.out.trans (HB2.out.mono HEB.out.size))
  have HBX : Hid (Boxed w2 eb 28 (.slice none 0 0)) := Lib.hid (by rw [heb]; exact (HB2.out.block _ (heap_lt HEH.out)).trans HEH.out)
  have HTO : Hid (∀ W, Turns Wr w2 W → W.heap[w.heap.size]? = some (.cells #[.string TO] 9 (0, 0))) := Lib.hid (fun W ht => (ht.block _ (by omega) (HLOW.out _ (by omega))).trans ((HLW.out.block _ (heap_lt HZH.out)).trans HZH.out))
  have HSZ := Lib.hid (And.intro hwz (And.intro hwe (And.intro hw1 hw2)))
  have HN2 := Lib.hid hn2
  have HEBQ := Lib.hid heb
  clear hn2 hWr hwz hwe hw1 hw2 heb
  refine range_box1 (n := 20) (Kp := Turns Wr) (S := fun ys => ys = xs) (Sp := fun pre => pre <+: xs) (N := xs.length) 9 (by decide) (lb := #[.pointer (some ⟨w1.heap.size, 0, none⟩), .pointer (some ⟨w1.heap.size + 1, 0, none⟩)]) rfl
    (from_stopsF 19 (by decide) w1.heap.size (w1.heap.size + 1) Wr M.L s r P A xs HSS.out HSK.out HFT.out w2 BX.out.1 BX.out.2 HB1N.out (HLZ.out _ HLW.out) (fun b hb => HLOW.out b (by have := HOW.out b hb; have := HSZ.out.1; have := HEBQ.out; omega))) turnsK_t (turnsK_b (by rw [← HN2.out]; exact HWU.out))
    (fun pre W => ∃ v, Boxed W eb 28 v ∧ OwnsE W n2 v (ents pre) ∧ (∀ y ∈ pre, okTo TO.data.toList y.val = true) ∧ Turns Wr w2 W)
    (fun c pre W => c = .exit 0 ∧ ∃ v l0 x, pre = l0 ++ [x] ∧ okTo TO.data.toList x.val = false ∧ Boxed W eb 28 v ∧ OwnsE W n2 v (ents l0) ∧ (∀ y ∈ l0, okTo TO.data.toList y.val = true) ∧ Turns Wr w2 W)
    ?own1 ?own2 ⟨_, HBX.out, OwnsE.nil _ _, by simp, Turns.refl _ _⟩ ?assign ?body ?done ?stop
  case own1 =>
    rintro pre A B row ⟨v, h1, h2, h3, h4⟩ hg hr
    have hr2 : ∀ k, row = some k → ∃ o : Obj, A.heap[k]? = some o ∧ o.isCells = false := fun k e => (hr k e).2
    exact ⟨v, (cells_stay hg hr2 h1).trans h1, row_stay hg hr2 h2, h3, h4.trans (Turns.of_grown (P := Wr) hg fun k e => HWU.out k (by rw [HN2.out]; exact (hr k e).1)) (fun _ hx => Or.inl hx)⟩
  case own2 =>
    rintro c pre A B row ⟨hc, v, l0, x, h5, h6, h1, h2, h3, h4⟩ hg hr
    have hr2 : ∀ k, row = some k → ∃ o : Obj, A.heap[k]? = some o ∧ o.isCells = false := fun k e => (hr k e).2
    exact ⟨hc, v, l0, x, h5, h6, (cells_stay hg hr2 h1).trans h1, row_stay hg hr2 h2, h3, h4.trans (Turns.of_grown (P := Wr) hg fun k e => HWU.out k (by rw [HN2.out]; exact (hr k e).1)) (fun _ hx => Or.inl hx)⟩
  case assign =>
    intro lp pre x W K hI hK
    simp only [List.setIfInBounds_toArray, List.set_cons_succ, List.set_cons_zero] at hK ⊢
    have HK := Lib.hid hK
    clear hK
    rw [show enV x.val = .agg #[.string x.val.key, .string x.val.val, .int .u64 (x.val.seq : Int), .bool x.val.gone] from rfl]
    gi_wp2
    obtain ⟨v, h1, h2, h3, h4⟩ := hI
    have hal := alloc_below W (entX x.val)
    refine HK.out W.heap.size _ ((KeepsOthers.alloc W _).from _) (Turns.of_below hal) ⟨v, (hal.block _ (heap_lt h1)).trans h1, h2.below hal, h3, h4.below hal⟩ (heap_alloc_new W _)
  case body =>
    rintro lp pre x B W hfx ⟨v, h1, h2, h3, h4⟩ hB hlen
    obtain ⟨i0, hi, hz0, hz1, hz2⟩ := info_parts info_ent
    simp only [List.setIfInBounds_toArray, List.set_cons_succ, List.set_cons_zero]
    rw [show enV x.val = .agg #[.string x.val.key, .string x.val.val, .int .u64 (x.val.seq : Int), .bool x.val.gone] from rfl]
    have hto := HTO.out W h4
    have cTO : W.cell? ⟨w.heap.size, 0, none⟩ = some (.string TO) := by rw [cell_of hto]; rfl
    obtain ⟨b0, b1, b2, b3, _, _, _, _⟩ := box4 hB
    have cE := h1.cell
    have hebl : eb < W.heap.size := h1.lt
    have hnw : n2 ≤ W.heap.size := by rw [HN2.out]; exact h4.size
    have HBW := Lib.hid (And.intro h1 (And.intro h2 hnw))
    have HALLP := Lib.hid h3
    have HTW := Lib.hid h4
    have HPL : Hid ((ents pre).length + 1 ≤ 100001) := Lib.hid (by
      have h5 := HXL.out
      have h6 : (ents pre).length = pre.length := by simp [ents]
      omega)
    have HCY : Hid (∀ W, Calls Try.prog 27 #[.agg #[.string x.val.key, .string x.val.val, .int .u64 (x.val.seq : Int), .bool x.val.gone]] W fun e w' => e = .returned (enV x.val) ∧ Below W.heap.size W w') := Lib.hid (fun W => copyOf_any x.val W (by have := hfx.key; omega) (by have := hfx.val; omega))
    clear hfx h1 h2 h3 h4 hB hlen hto hnw
    by_cases hem : TO.toList.isEmpty = true
    · have HOK : Hid (okTo TO.data.toList x.val = true) := Lib.hid (by unfold okTo; rw [ByteArray.toList_eq] at hem; rw [hem]; rfl)
      gi_wp2
      refine wpIn_region_any (by kernel_rfl) ?_
      change wpAnyIn _ _ _ _ _ _ _ _ _ (World.drew _)
      refine wpAnyIn_ready (rs := [0, 1]) (by kernel_rfl) (by simp) ?_
      refine AllReadyIn.cons rfl (fun K hK => ?_) (AllReadyIn.cons rfl (fun K hK => ?_) AllReadyIn.nil)
      · go_simp
        refine hK _ _ ?_
        clear hK K
        try simp only [Act.put, List.setIfInBounds_toArray, List.set_cons_zero, List.set_cons_succ]
        refine wpAnyIn_ready (rs := [1]) (by kernel_rfl) (by simp) ?_
        refine AllReadyIn.cons rfl (fun K hK => ?_) AllReadyIn.nil
        go_simp
        refine hK _ _ ?_
        clear hK K
        try simp only [Act.put, List.setIfInBounds_toArray, List.set_cons_zero, List.set_cons_succ]
        refine wpAnyIn_ready (rs := [2]) (by kernel_rfl) (by simp) ?_
        refine AllReadyIn.cons rfl (fun K hK => ?_) AllReadyIn.nil
        go_simp
        refine ⟨trivial, ?_⟩
        refine (CallsIn.inRound lp (callsIn_wide.2 (HCY.out _))).mono ?_
        rintro e w4 ⟨rfl, hb4⟩
        have cE4 := (hb4.cell (p := ⟨eb, 0, none⟩) hebl).trans cE
        have cE5 : ∀ o, (w4.alloc o).cell? ⟨eb, 0, none⟩ = some v := fun o => ((alloc_below w4 o).cell (p := ⟨eb, 0, none⟩) (Nat.lt_of_lt_of_le hebl hb4.size)).trans cE4
        have hb4h := Lib.hid hb4
        clear hb4
        dsimp only [enV]
        refine hK _ _ ?_
        clear hK K
        try simp only [Act.put, List.setIfInBounds_toArray, List.set_cons_zero, List.set_cons_succ]
        refine wpAnyIn_ready (rs := [3]) (by kernel_rfl) (by simp) ?_
        refine AllReadyIn.cons rfl (fun K hK => ?_) AllReadyIn.nil
        go_simp
        refine hK _ _ ?_
        clear hK K
        try simp only [Act.put, List.setIfInBounds_toArray, List.set_cons_zero, List.set_cons_succ]
        refine wpAnyIn_ready (rs := [4]) (by kernel_rfl) (by simp) ?_
        refine AllReadyIn.cons rfl (fun K hK => ?_) AllReadyIn.nil
        rw [if_pos (by kernel_rfl)]
        have hbx4 : Boxed w4 eb 28 v := (hb4h.out.block _ hebl).trans HBW.out.1
        have hrow4 : OwnsE w4 n2 v (ents pre) := OwnsE.below (w := W.drew) HBW.out.2.1 hb4h.out
        have hsz4 : n2 ≤ w4.heap.size := Nat.le_trans HBW.out.2.2 hb4h.out.size
        refine opIn_append_own _ _ _ 28 rfl n2 32 i0 _ 4 48 Try.underlying28 hi hz0 hz1 hz2 rfl (by omega) v (ents pre).length (rowCells (ents pre)) rfl (ownsRow_below hrow4 (alloc_below w4 _)) ⟨w4.heap.size, 0, none⟩ 1 1 (entCells x.val) rfl rfl (World.news_of_block (cs := #[.string x.val.key, .string x.val.val, .int .u64 (x.val.seq : Int), .bool x.val.gone]) (t := 32) (fr := (0, 0)) (heap_alloc_new w4 _)) (by simp [Value.oneCell']) (by have := HPL.out; unfold maxLen; omega) (by have := HPL.out; omega) (by simp; omega) (fun v' w5 hown5 hg5 => ?_)
        obtain ⟨ao5, cp5, e5⟩ := row_any hown5
        subst e5
        obtain ⟨q1, q2, q3, q4, q5⟩ := grow_ent (Wr := Wr) (W := w4) hbx4 hrow4 hsz4 (OwnsE.snoc hown5) hg5 HWB.out HWU.out
        have c5 := q1.cell
        have f5 := q1.frozen
        refine hK _ _ ?_
        clear hK K
        try simp only [Act.put, List.setIfInBounds_toArray, List.set_cons_zero, List.set_cons_succ]
        refine wpAnyIn_ready (rs := [5]) (by kernel_rfl) (by simp) ?_
        refine AllReadyIn.cons rfl (fun K hK => ?_) AllReadyIn.nil
        go_simp
        refine hK _ _ ?_
        clear hK K
        try simp only [Act.put, List.setIfInBounds_toArray, List.set_cons_zero, List.set_cons_succ]
        refine wpAnyIn_done (by kernel_rfl) ?_ _
        gi_wp2
        refine ⟨((KeepsOthers.drew W).trans ((KeepsOthers.of_grownBy (grown_of_below hb4h.out) (fun j o e => by cases e)).trans q4)).from _, (Turns.of_below (drew_below (Below.refl _ W))).trans ((Turns.of_below hb4h.out).trans q5 (fun _ hx => Or.inl hx)) (fun _ hx => Or.inl hx), _, q2, ?_, fun y hy => ?_, ?_⟩
        · rw [show ents (pre ++ [x]) = ents pre ++ [x.val] by simp [ents]]; exact q3
        · rcases List.mem_append.1 hy with h | h
          · exact HALLP.out y h
          · rw [List.mem_singleton.1 h]; exact HOK.out
        · exact HTW.out.trans ((Turns.of_below (drew_below (Below.refl _ W))).trans ((Turns.of_below hb4h.out).trans q5 (fun _ hx => Or.inl hx)) (fun _ hx => Or.inl hx)) (fun _ hx => Or.inl hx)
      · go_simp
        refine hK _ _ ?_
        clear hK K
        try simp only [Act.put, List.setIfInBounds_toArray, List.set_cons_zero, List.set_cons_succ]
        refine wpAnyIn_ready (rs := [0, 2]) (by kernel_rfl) (by simp) ?_
        refine AllReadyIn.cons rfl (fun K hK => ?_) (AllReadyIn.cons rfl (fun K hK => ?_) AllReadyIn.nil)
        · go_simp
          refine hK _ _ ?_
          clear hK K
          try simp only [Act.put, List.setIfInBounds_toArray, List.set_cons_zero, List.set_cons_succ]
          refine wpAnyIn_ready (rs := [2]) (by kernel_rfl) (by simp) ?_
          refine AllReadyIn.cons rfl (fun K hK => ?_) AllReadyIn.nil
          go_simp
          refine ⟨trivial, ?_⟩
          refine (CallsIn.inRound lp (callsIn_wide.2 (HCY.out _))).mono ?_
          rintro e w4 ⟨rfl, hb4⟩
          have cE4 := (hb4.cell (p := ⟨eb, 0, none⟩) hebl).trans cE
          have cE5 : ∀ o, (w4.alloc o).cell? ⟨eb, 0, none⟩ = some v := fun o => ((alloc_below w4 o).cell (p := ⟨eb, 0, none⟩) (Nat.lt_of_lt_of_le hebl hb4.size)).trans cE4
          have hb4h := Lib.hid hb4
          clear hb4
          dsimp only [enV]
          refine hK _ _ ?_
          clear hK K
          try simp only [Act.put, List.setIfInBounds_toArray, List.set_cons_zero, List.set_cons_succ]
          refine wpAnyIn_ready (rs := [3]) (by kernel_rfl) (by simp) ?_
          refine AllReadyIn.cons rfl (fun K hK => ?_) AllReadyIn.nil
          go_simp
          refine hK _ _ ?_
          clear hK K
          try simp only [Act.put, List.setIfInBounds_toArray, List.set_cons_zero, List.set_cons_succ]
          refine wpAnyIn_ready (rs := [4]) (by kernel_rfl) (by simp) ?_
          refine AllReadyIn.cons rfl (fun K hK => ?_) AllReadyIn.nil
          rw [if_pos (by kernel_rfl)]
          have hbx4 : Boxed w4 eb 28 v := (hb4h.out.block _ hebl).trans HBW.out.1
          have hrow4 : OwnsE w4 n2 v (ents pre) := OwnsE.below (w := W.drew) HBW.out.2.1 hb4h.out
          have hsz4 : n2 ≤ w4.heap.size := Nat.le_trans HBW.out.2.2 hb4h.out.size
          refine opIn_append_own _ _ _ 28 rfl n2 32 i0 _ 4 48 Try.underlying28 hi hz0 hz1 hz2 rfl (by omega) v (ents pre).length (rowCells (ents pre)) rfl (ownsRow_below hrow4 (alloc_below w4 _)) ⟨w4.heap.size, 0, none⟩ 1 1 (entCells x.val) rfl rfl (World.news_of_block (cs := #[.string x.val.key, .string x.val.val, .int .u64 (x.val.seq : Int), .bool x.val.gone]) (t := 32) (fr := (0, 0)) (heap_alloc_new w4 _)) (by simp [Value.oneCell']) (by have := HPL.out; unfold maxLen; omega) (by have := HPL.out; omega) (by simp; omega) (fun v' w5 hown5 hg5 => ?_)
          obtain ⟨ao5, cp5, e5⟩ := row_any hown5
          subst e5
          obtain ⟨q1, q2, q3, q4, q5⟩ := grow_ent (Wr := Wr) (W := w4) hbx4 hrow4 hsz4 (OwnsE.snoc hown5) hg5 HWB.out HWU.out
          have c5 := q1.cell
          have f5 := q1.frozen
          refine hK _ _ ?_
          clear hK K
          try simp only [Act.put, List.setIfInBounds_toArray, List.set_cons_zero, List.set_cons_succ]
          refine wpAnyIn_ready (rs := [5]) (by kernel_rfl) (by simp) ?_
          refine AllReadyIn.cons rfl (fun K hK => ?_) AllReadyIn.nil
          go_simp
          refine hK _ _ ?_
          clear hK K
          try simp only [Act.put, List.setIfInBounds_toArray, List.set_cons_zero, List.set_cons_succ]
          refine wpAnyIn_done (by kernel_rfl) ?_ _
          gi_wp2
          refine ⟨((KeepsOthers.drew W).trans ((KeepsOthers.of_grownBy (grown_of_below hb4h.out) (fun j o e => by cases e)).trans q4)).from _, (Turns.of_below (drew_below (Below.refl _ W))).trans ((Turns.of_below hb4h.out).trans q5 (fun _ hx => Or.inl hx)) (fun _ hx => Or.inl hx), _, q2, ?_, fun y hy => ?_, ?_⟩
          · rw [show ents (pre ++ [x]) = ents pre ++ [x.val] by simp [ents]]; exact q3
          · rcases List.mem_append.1 hy with h | h
            · exact HALLP.out y h
            · rw [List.mem_singleton.1 h]; exact HOK.out
          · exact HTW.out.trans ((Turns.of_below (drew_below (Below.refl _ W))).trans ((Turns.of_below hb4h.out).trans q5 (fun _ hx => Or.inl hx)) (fun _ hx => Or.inl hx)) (fun _ hx => Or.inl hx)
        · go_simp
          refine ⟨trivial, ?_⟩
          refine (CallsIn.inRound lp (callsIn_wide.2 (HCY.out _))).mono ?_
          rintro e w4 ⟨rfl, hb4⟩
          have cE4 := (hb4.cell (p := ⟨eb, 0, none⟩) hebl).trans cE
          have cE5 : ∀ o, (w4.alloc o).cell? ⟨eb, 0, none⟩ = some v := fun o => ((alloc_below w4 o).cell (p := ⟨eb, 0, none⟩) (Nat.lt_of_lt_of_le hebl hb4.size)).trans cE4
          have hb4h := Lib.hid hb4
          clear hb4
          dsimp only [enV]
          refine hK _ _ ?_
          clear hK K
          try simp only [Act.put, List.setIfInBounds_toArray, List.set_cons_zero, List.set_cons_succ]
          refine wpAnyIn_ready (rs := [0, 3]) (by kernel_rfl) (by simp) ?_
          refine AllReadyIn.cons rfl (fun K hK => ?_) (AllReadyIn.cons rfl (fun K hK => ?_) AllReadyIn.nil)
          · go_simp
            refine hK _ _ ?_
            clear hK K
            try simp only [Act.put, List.setIfInBounds_toArray, List.set_cons_zero, List.set_cons_succ]
            refine wpAnyIn_ready (rs := [3]) (by kernel_rfl) (by simp) ?_
            refine AllReadyIn.cons rfl (fun K hK => ?_) AllReadyIn.nil
            go_simp
            refine hK _ _ ?_
            clear hK K
            try simp only [Act.put, List.setIfInBounds_toArray, List.set_cons_zero, List.set_cons_succ]
            refine wpAnyIn_ready (rs := [4]) (by kernel_rfl) (by simp) ?_
            refine AllReadyIn.cons rfl (fun K hK => ?_) AllReadyIn.nil
            rw [if_pos (by kernel_rfl)]
            have hbx4 : Boxed w4 eb 28 v := (hb4h.out.block _ hebl).trans HBW.out.1
            have hrow4 : OwnsE w4 n2 v (ents pre) := OwnsE.below (w := W.drew) HBW.out.2.1 hb4h.out
            have hsz4 : n2 ≤ w4.heap.size := Nat.le_trans HBW.out.2.2 hb4h.out.size
            refine opIn_append_own _ _ _ 28 rfl n2 32 i0 _ 4 48 Try.underlying28 hi hz0 hz1 hz2 rfl (by omega) v (ents pre).length (rowCells (ents pre)) rfl (ownsRow_below hrow4 (alloc_below w4 _)) ⟨w4.heap.size, 0, none⟩ 1 1 (entCells x.val) rfl rfl (World.news_of_block (cs := #[.string x.val.key, .string x.val.val, .int .u64 (x.val.seq : Int), .bool x.val.gone]) (t := 32) (fr := (0, 0)) (heap_alloc_new w4 _)) (by simp [Value.oneCell']) (by have := HPL.out; unfold maxLen; omega) (by have := HPL.out; omega) (by simp; omega) (fun v' w5 hown5 hg5 => ?_)
            obtain ⟨ao5, cp5, e5⟩ := row_any hown5
            subst e5
            obtain ⟨q1, q2, q3, q4, q5⟩ := grow_ent (Wr := Wr) (W := w4) hbx4 hrow4 hsz4 (OwnsE.snoc hown5) hg5 HWB.out HWU.out
            have c5 := q1.cell
            have f5 := q1.frozen
            refine hK _ _ ?_
            clear hK K
            try simp only [Act.put, List.setIfInBounds_toArray, List.set_cons_zero, List.set_cons_succ]
            refine wpAnyIn_ready (rs := [5]) (by kernel_rfl) (by simp) ?_
            refine AllReadyIn.cons rfl (fun K hK => ?_) AllReadyIn.nil
            go_simp
            refine hK _ _ ?_
            clear hK K
            try simp only [Act.put, List.setIfInBounds_toArray, List.set_cons_zero, List.set_cons_succ]
            refine wpAnyIn_done (by kernel_rfl) ?_ _
            gi_wp2
            refine ⟨((KeepsOthers.drew W).trans ((KeepsOthers.of_grownBy (grown_of_below hb4h.out) (fun j o e => by cases e)).trans q4)).from _, (Turns.of_below (drew_below (Below.refl _ W))).trans ((Turns.of_below hb4h.out).trans q5 (fun _ hx => Or.inl hx)) (fun _ hx => Or.inl hx), _, q2, ?_, fun y hy => ?_, ?_⟩
            · rw [show ents (pre ++ [x]) = ents pre ++ [x.val] by simp [ents]]; exact q3
            · rcases List.mem_append.1 hy with h | h
              · exact HALLP.out y h
              · rw [List.mem_singleton.1 h]; exact HOK.out
            · exact HTW.out.trans ((Turns.of_below (drew_below (Below.refl _ W))).trans ((Turns.of_below hb4h.out).trans q5 (fun _ hx => Or.inl hx)) (fun _ hx => Or.inl hx)) (fun _ hx => Or.inl hx)
          · go_simp
            refine hK _ _ ?_
            clear hK K
            try simp only [Act.put, List.setIfInBounds_toArray, List.set_cons_zero, List.set_cons_succ]
            refine wpAnyIn_ready (rs := [0]) (by kernel_rfl) (by simp) ?_
            refine AllReadyIn.cons rfl (fun K hK => ?_) AllReadyIn.nil
            go_simp
            refine hK _ _ ?_
            clear hK K
            try simp only [Act.put, List.setIfInBounds_toArray, List.set_cons_zero, List.set_cons_succ]
            refine wpAnyIn_ready (rs := [4]) (by kernel_rfl) (by simp) ?_
            refine AllReadyIn.cons rfl (fun K hK => ?_) AllReadyIn.nil
            rw [if_pos (by kernel_rfl)]
            have hbx4 : Boxed w4 eb 28 v := (hb4h.out.block _ hebl).trans HBW.out.1
            have hrow4 : OwnsE w4 n2 v (ents pre) := OwnsE.below (w := W.drew) HBW.out.2.1 hb4h.out
            have hsz4 : n2 ≤ w4.heap.size := Nat.le_trans HBW.out.2.2 hb4h.out.size
            refine opIn_append_own _ _ _ 28 rfl n2 32 i0 _ 4 48 Try.underlying28 hi hz0 hz1 hz2 rfl (by omega) v (ents pre).length (rowCells (ents pre)) rfl (ownsRow_below hrow4 (alloc_below w4 _)) ⟨w4.heap.size, 0, none⟩ 1 1 (entCells x.val) rfl rfl (World.news_of_block (cs := #[.string x.val.key, .string x.val.val, .int .u64 (x.val.seq : Int), .bool x.val.gone]) (t := 32) (fr := (0, 0)) (heap_alloc_new w4 _)) (by simp [Value.oneCell']) (by have := HPL.out; unfold maxLen; omega) (by have := HPL.out; omega) (by simp; omega) (fun v' w5 hown5 hg5 => ?_)
            obtain ⟨ao5, cp5, e5⟩ := row_any hown5
            subst e5
            obtain ⟨q1, q2, q3, q4, q5⟩ := grow_ent (Wr := Wr) (W := w4) hbx4 hrow4 hsz4 (OwnsE.snoc hown5) hg5 HWB.out HWU.out
            have c5 := q1.cell
            have f5 := q1.frozen
            refine hK _ _ ?_
            clear hK K
            try simp only [Act.put, List.setIfInBounds_toArray, List.set_cons_zero, List.set_cons_succ]
            refine wpAnyIn_ready (rs := [5]) (by kernel_rfl) (by simp) ?_
            refine AllReadyIn.cons rfl (fun K hK => ?_) AllReadyIn.nil
            go_simp
            refine hK _ _ ?_
            clear hK K
            try simp only [Act.put, List.setIfInBounds_toArray, List.set_cons_zero, List.set_cons_succ]
            refine wpAnyIn_done (by kernel_rfl) ?_ _
            gi_wp2
            refine ⟨((KeepsOthers.drew W).trans ((KeepsOthers.of_grownBy (grown_of_below hb4h.out) (fun j o e => by cases e)).trans q4)).from _, (Turns.of_below (drew_below (Below.refl _ W))).trans ((Turns.of_below hb4h.out).trans q5 (fun _ hx => Or.inl hx)) (fun _ hx => Or.inl hx), _, q2, ?_, fun y hy => ?_, ?_⟩
            · rw [show ents (pre ++ [x]) = ents pre ++ [x.val] by simp [ents]]; exact q3
            · rcases List.mem_append.1 hy with h | h
              · exact HALLP.out y h
              · rw [List.mem_singleton.1 h]; exact HOK.out
            · exact HTW.out.trans ((Turns.of_below (drew_below (Below.refl _ W))).trans ((Turns.of_below hb4h.out).trans q5 (fun _ hx => Or.inl hx)) (fun _ hx => Or.inl hx)) (fun _ hx => Or.inl hx)
    · have hem2 : TO.toList.isEmpty = false := by simpa using hem
      clear hem
      by_cases hlt : Op.bytesLess x.val.key.toList TO.toList = true
      · have HOK : Hid (okTo TO.data.toList x.val = true) := Lib.hid (by unfold okTo; rw [less_eq, ByteArray.toList_eq, ByteArray.toList_eq] at hlt; rw [hlt, Bool.or_true])
        gi_wp2
        refine wpIn_region_any (by kernel_rfl) ?_
        change wpAnyIn _ _ _ _ _ _ _ _ _ (World.drew _)
        refine wpAnyIn_ready (rs := [0, 1]) (by kernel_rfl) (by simp) ?_
        refine AllReadyIn.cons rfl (fun K hK => ?_) (AllReadyIn.cons rfl (fun K hK => ?_) AllReadyIn.nil)
        · go_simp
          refine hK _ _ ?_
          clear hK K
          try simp only [Act.put, List.setIfInBounds_toArray, List.set_cons_zero, List.set_cons_succ]
          refine wpAnyIn_ready (rs := [1]) (by kernel_rfl) (by simp) ?_
          refine AllReadyIn.cons rfl (fun K hK => ?_) AllReadyIn.nil
          go_simp
          refine hK _ _ ?_
          clear hK K
          try simp only [Act.put, List.setIfInBounds_toArray, List.set_cons_zero, List.set_cons_succ]
          refine wpAnyIn_ready (rs := [2]) (by kernel_rfl) (by simp) ?_
          refine AllReadyIn.cons rfl (fun K hK => ?_) AllReadyIn.nil
          go_simp
          refine ⟨trivial, ?_⟩
          refine (CallsIn.inRound lp (callsIn_wide.2 (HCY.out _))).mono ?_
          rintro e w4 ⟨rfl, hb4⟩
          have cE4 := (hb4.cell (p := ⟨eb, 0, none⟩) hebl).trans cE
          have cE5 : ∀ o, (w4.alloc o).cell? ⟨eb, 0, none⟩ = some v := fun o => ((alloc_below w4 o).cell (p := ⟨eb, 0, none⟩) (Nat.lt_of_lt_of_le hebl hb4.size)).trans cE4
          have hb4h := Lib.hid hb4
          clear hb4
          dsimp only [enV]
          refine hK _ _ ?_
          clear hK K
          try simp only [Act.put, List.setIfInBounds_toArray, List.set_cons_zero, List.set_cons_succ]
          refine wpAnyIn_ready (rs := [3]) (by kernel_rfl) (by simp) ?_
          refine AllReadyIn.cons rfl (fun K hK => ?_) AllReadyIn.nil
          go_simp
          refine hK _ _ ?_
          clear hK K
          try simp only [Act.put, List.setIfInBounds_toArray, List.set_cons_zero, List.set_cons_succ]
          refine wpAnyIn_ready (rs := [4]) (by kernel_rfl) (by simp) ?_
          refine AllReadyIn.cons rfl (fun K hK => ?_) AllReadyIn.nil
          rw [if_pos (by kernel_rfl)]
          have hbx4 : Boxed w4 eb 28 v := (hb4h.out.block _ hebl).trans HBW.out.1
          have hrow4 : OwnsE w4 n2 v (ents pre) := OwnsE.below (w := W.drew) HBW.out.2.1 hb4h.out
          have hsz4 : n2 ≤ w4.heap.size := Nat.le_trans HBW.out.2.2 hb4h.out.size
          refine opIn_append_own _ _ _ 28 rfl n2 32 i0 _ 4 48 Try.underlying28 hi hz0 hz1 hz2 rfl (by omega) v (ents pre).length (rowCells (ents pre)) rfl (ownsRow_below hrow4 (alloc_below w4 _)) ⟨w4.heap.size, 0, none⟩ 1 1 (entCells x.val) rfl rfl (World.news_of_block (cs := #[.string x.val.key, .string x.val.val, .int .u64 (x.val.seq : Int), .bool x.val.gone]) (t := 32) (fr := (0, 0)) (heap_alloc_new w4 _)) (by simp [Value.oneCell']) (by have := HPL.out; unfold maxLen; omega) (by have := HPL.out; omega) (by simp; omega) (fun v' w5 hown5 hg5 => ?_)
          obtain ⟨ao5, cp5, e5⟩ := row_any hown5
          subst e5
          obtain ⟨q1, q2, q3, q4, q5⟩ := grow_ent (Wr := Wr) (W := w4) hbx4 hrow4 hsz4 (OwnsE.snoc hown5) hg5 HWB.out HWU.out
          have c5 := q1.cell
          have f5 := q1.frozen
          refine hK _ _ ?_
          clear hK K
          try simp only [Act.put, List.setIfInBounds_toArray, List.set_cons_zero, List.set_cons_succ]
          refine wpAnyIn_ready (rs := [5]) (by kernel_rfl) (by simp) ?_
          refine AllReadyIn.cons rfl (fun K hK => ?_) AllReadyIn.nil
          go_simp
          refine hK _ _ ?_
          clear hK K
          try simp only [Act.put, List.setIfInBounds_toArray, List.set_cons_zero, List.set_cons_succ]
          refine wpAnyIn_done (by kernel_rfl) ?_ _
          gi_wp2
          refine ⟨((KeepsOthers.drew W).trans ((KeepsOthers.of_grownBy (grown_of_below hb4h.out) (fun j o e => by cases e)).trans q4)).from _, (Turns.of_below (drew_below (Below.refl _ W))).trans ((Turns.of_below hb4h.out).trans q5 (fun _ hx => Or.inl hx)) (fun _ hx => Or.inl hx), _, q2, ?_, fun y hy => ?_, ?_⟩
          · rw [show ents (pre ++ [x]) = ents pre ++ [x.val] by simp [ents]]; exact q3
          · rcases List.mem_append.1 hy with h | h
            · exact HALLP.out y h
            · rw [List.mem_singleton.1 h]; exact HOK.out
          · exact HTW.out.trans ((Turns.of_below (drew_below (Below.refl _ W))).trans ((Turns.of_below hb4h.out).trans q5 (fun _ hx => Or.inl hx)) (fun _ hx => Or.inl hx)) (fun _ hx => Or.inl hx)
        · go_simp
          refine hK _ _ ?_
          clear hK K
          try simp only [Act.put, List.setIfInBounds_toArray, List.set_cons_zero, List.set_cons_succ]
          refine wpAnyIn_ready (rs := [0, 2]) (by kernel_rfl) (by simp) ?_
          refine AllReadyIn.cons rfl (fun K hK => ?_) (AllReadyIn.cons rfl (fun K hK => ?_) AllReadyIn.nil)
          · go_simp
            refine hK _ _ ?_
            clear hK K
            try simp only [Act.put, List.setIfInBounds_toArray, List.set_cons_zero, List.set_cons_succ]
            refine wpAnyIn_ready (rs := [2]) (by kernel_rfl) (by simp) ?_
            refine AllReadyIn.cons rfl (fun K hK => ?_) AllReadyIn.nil
            go_simp
            refine ⟨trivial, ?_⟩
            refine (CallsIn.inRound lp (callsIn_wide.2 (HCY.out _))).mono ?_
            rintro e w4 ⟨rfl, hb4⟩
            have cE4 := (hb4.cell (p := ⟨eb, 0, none⟩) hebl).trans cE
            have cE5 : ∀ o, (w4.alloc o).cell? ⟨eb, 0, none⟩ = some v := fun o => ((alloc_below w4 o).cell (p := ⟨eb, 0, none⟩) (Nat.lt_of_lt_of_le hebl hb4.size)).trans cE4
            have hb4h := Lib.hid hb4
            clear hb4
            dsimp only [enV]
            refine hK _ _ ?_
            clear hK K
            try simp only [Act.put, List.setIfInBounds_toArray, List.set_cons_zero, List.set_cons_succ]
            refine wpAnyIn_ready (rs := [3]) (by kernel_rfl) (by simp) ?_
            refine AllReadyIn.cons rfl (fun K hK => ?_) AllReadyIn.nil
            go_simp
            refine hK _ _ ?_
            clear hK K
            try simp only [Act.put, List.setIfInBounds_toArray, List.set_cons_zero, List.set_cons_succ]
            refine wpAnyIn_ready (rs := [4]) (by kernel_rfl) (by simp) ?_
            refine AllReadyIn.cons rfl (fun K hK => ?_) AllReadyIn.nil
            rw [if_pos (by kernel_rfl)]
            have hbx4 : Boxed w4 eb 28 v := (hb4h.out.block _ hebl).trans HBW.out.1
            have hrow4 : OwnsE w4 n2 v (ents pre) := OwnsE.below (w := W.drew) HBW.out.2.1 hb4h.out
            have hsz4 : n2 ≤ w4.heap.size := Nat.le_trans HBW.out.2.2 hb4h.out.size
            refine opIn_append_own _ _ _ 28 rfl n2 32 i0 _ 4 48 Try.underlying28 hi hz0 hz1 hz2 rfl (by omega) v (ents pre).length (rowCells (ents pre)) rfl (ownsRow_below hrow4 (alloc_below w4 _)) ⟨w4.heap.size, 0, none⟩ 1 1 (entCells x.val) rfl rfl (World.news_of_block (cs := #[.string x.val.key, .string x.val.val, .int .u64 (x.val.seq : Int), .bool x.val.gone]) (t := 32) (fr := (0, 0)) (heap_alloc_new w4 _)) (by simp [Value.oneCell']) (by have := HPL.out; unfold maxLen; omega) (by have := HPL.out; omega) (by simp; omega) (fun v' w5 hown5 hg5 => ?_)
            obtain ⟨ao5, cp5, e5⟩ := row_any hown5
            subst e5
            obtain ⟨q1, q2, q3, q4, q5⟩ := grow_ent (Wr := Wr) (W := w4) hbx4 hrow4 hsz4 (OwnsE.snoc hown5) hg5 HWB.out HWU.out
            have c5 := q1.cell
            have f5 := q1.frozen
            refine hK _ _ ?_
            clear hK K
            try simp only [Act.put, List.setIfInBounds_toArray, List.set_cons_zero, List.set_cons_succ]
            refine wpAnyIn_ready (rs := [5]) (by kernel_rfl) (by simp) ?_
            refine AllReadyIn.cons rfl (fun K hK => ?_) AllReadyIn.nil
            go_simp
            refine hK _ _ ?_
            clear hK K
            try simp only [Act.put, List.setIfInBounds_toArray, List.set_cons_zero, List.set_cons_succ]
            refine wpAnyIn_done (by kernel_rfl) ?_ _
            gi_wp2
            refine ⟨((KeepsOthers.drew W).trans ((KeepsOthers.of_grownBy (grown_of_below hb4h.out) (fun j o e => by cases e)).trans q4)).from _, (Turns.of_below (drew_below (Below.refl _ W))).trans ((Turns.of_below hb4h.out).trans q5 (fun _ hx => Or.inl hx)) (fun _ hx => Or.inl hx), _, q2, ?_, fun y hy => ?_, ?_⟩
            · rw [show ents (pre ++ [x]) = ents pre ++ [x.val] by simp [ents]]; exact q3
            · rcases List.mem_append.1 hy with h | h
              · exact HALLP.out y h
              · rw [List.mem_singleton.1 h]; exact HOK.out
            · exact HTW.out.trans ((Turns.of_below (drew_below (Below.refl _ W))).trans ((Turns.of_below hb4h.out).trans q5 (fun _ hx => Or.inl hx)) (fun _ hx => Or.inl hx)) (fun _ hx => Or.inl hx)
          · go_simp
            refine ⟨trivial, ?_⟩
            refine (CallsIn.inRound lp (callsIn_wide.2 (HCY.out _))).mono ?_
            rintro e w4 ⟨rfl, hb4⟩
            have cE4 := (hb4.cell (p := ⟨eb, 0, none⟩) hebl).trans cE
            have cE5 : ∀ o, (w4.alloc o).cell? ⟨eb, 0, none⟩ = some v := fun o => ((alloc_below w4 o).cell (p := ⟨eb, 0, none⟩) (Nat.lt_of_lt_of_le hebl hb4.size)).trans cE4
            have hb4h := Lib.hid hb4
            clear hb4
            dsimp only [enV]
            refine hK _ _ ?_
            clear hK K
            try simp only [Act.put, List.setIfInBounds_toArray, List.set_cons_zero, List.set_cons_succ]
            refine wpAnyIn_ready (rs := [0, 3]) (by kernel_rfl) (by simp) ?_
            refine AllReadyIn.cons rfl (fun K hK => ?_) (AllReadyIn.cons rfl (fun K hK => ?_) AllReadyIn.nil)
            · go_simp
              refine hK _ _ ?_
              clear hK K
              try simp only [Act.put, List.setIfInBounds_toArray, List.set_cons_zero, List.set_cons_succ]
              refine wpAnyIn_ready (rs := [3]) (by kernel_rfl) (by simp) ?_
              refine AllReadyIn.cons rfl (fun K hK => ?_) AllReadyIn.nil
              go_simp
              refine hK _ _ ?_
              clear hK K
              try simp only [Act.put, List.setIfInBounds_toArray, List.set_cons_zero, List.set_cons_succ]
              refine wpAnyIn_ready (rs := [4]) (by kernel_rfl) (by simp) ?_
              refine AllReadyIn.cons rfl (fun K hK => ?_) AllReadyIn.nil
              rw [if_pos (by kernel_rfl)]
              have hbx4 : Boxed w4 eb 28 v := (hb4h.out.block _ hebl).trans HBW.out.1
              have hrow4 : OwnsE w4 n2 v (ents pre) := OwnsE.below (w := W.drew) HBW.out.2.1 hb4h.out
              have hsz4 : n2 ≤ w4.heap.size := Nat.le_trans HBW.out.2.2 hb4h.out.size
              refine opIn_append_own _ _ _ 28 rfl n2 32 i0 _ 4 48 Try.underlying28 hi hz0 hz1 hz2 rfl (by omega) v (ents pre).length (rowCells (ents pre)) rfl (ownsRow_below hrow4 (alloc_below w4 _)) ⟨w4.heap.size, 0, none⟩ 1 1 (entCells x.val) rfl rfl (World.news_of_block (cs := #[.string x.val.key, .string x.val.val, .int .u64 (x.val.seq : Int), .bool x.val.gone]) (t := 32) (fr := (0, 0)) (heap_alloc_new w4 _)) (by simp [Value.oneCell']) (by have := HPL.out; unfold maxLen; omega) (by have := HPL.out; omega) (by simp; omega) (fun v' w5 hown5 hg5 => ?_)
              obtain ⟨ao5, cp5, e5⟩ := row_any hown5
              subst e5
              obtain ⟨q1, q2, q3, q4, q5⟩ := grow_ent (Wr := Wr) (W := w4) hbx4 hrow4 hsz4 (OwnsE.snoc hown5) hg5 HWB.out HWU.out
              have c5 := q1.cell
              have f5 := q1.frozen
              refine hK _ _ ?_
              clear hK K
              try simp only [Act.put, List.setIfInBounds_toArray, List.set_cons_zero, List.set_cons_succ]
              refine wpAnyIn_ready (rs := [5]) (by kernel_rfl) (by simp) ?_
              refine AllReadyIn.cons rfl (fun K hK => ?_) AllReadyIn.nil
              go_simp
              refine hK _ _ ?_
              clear hK K
              try simp only [Act.put, List.setIfInBounds_toArray, List.set_cons_zero, List.set_cons_succ]
              refine wpAnyIn_done (by kernel_rfl) ?_ _
              gi_wp2
              refine ⟨((KeepsOthers.drew W).trans ((KeepsOthers.of_grownBy (grown_of_below hb4h.out) (fun j o e => by cases e)).trans q4)).from _, (Turns.of_below (drew_below (Below.refl _ W))).trans ((Turns.of_below hb4h.out).trans q5 (fun _ hx => Or.inl hx)) (fun _ hx => Or.inl hx), _, q2, ?_, fun y hy => ?_, ?_⟩
              · rw [show ents (pre ++ [x]) = ents pre ++ [x.val] by simp [ents]]; exact q3
              · rcases List.mem_append.1 hy with h | h
                · exact HALLP.out y h
                · rw [List.mem_singleton.1 h]; exact HOK.out
              · exact HTW.out.trans ((Turns.of_below (drew_below (Below.refl _ W))).trans ((Turns.of_below hb4h.out).trans q5 (fun _ hx => Or.inl hx)) (fun _ hx => Or.inl hx)) (fun _ hx => Or.inl hx)
            · go_simp
              refine hK _ _ ?_
              clear hK K
              try simp only [Act.put, List.setIfInBounds_toArray, List.set_cons_zero, List.set_cons_succ]
              refine wpAnyIn_ready (rs := [0]) (by kernel_rfl) (by simp) ?_
              refine AllReadyIn.cons rfl (fun K hK => ?_) AllReadyIn.nil
              go_simp
              refine hK _ _ ?_
              clear hK K
              try simp only [Act.put, List.setIfInBounds_toArray, List.set_cons_zero, List.set_cons_succ]
              refine wpAnyIn_ready (rs := [4]) (by kernel_rfl) (by simp) ?_
              refine AllReadyIn.cons rfl (fun K hK => ?_) AllReadyIn.nil
              rw [if_pos (by kernel_rfl)]
              have hbx4 : Boxed w4 eb 28 v := (hb4h.out.block _ hebl).trans HBW.out.1
              have hrow4 : OwnsE w4 n2 v (ents pre) := OwnsE.below (w := W.drew) HBW.out.2.1 hb4h.out
              have hsz4 : n2 ≤ w4.heap.size := Nat.le_trans HBW.out.2.2 hb4h.out.size
              refine opIn_append_own _ _ _ 28 rfl n2 32 i0 _ 4 48 Try.underlying28 hi hz0 hz1 hz2 rfl (by omega) v (ents pre).length (rowCells (ents pre)) rfl (ownsRow_below hrow4 (alloc_below w4 _)) ⟨w4.heap.size, 0, none⟩ 1 1 (entCells x.val) rfl rfl (World.news_of_block (cs := #[.string x.val.key, .string x.val.val, .int .u64 (x.val.seq : Int), .bool x.val.gone]) (t := 32) (fr := (0, 0)) (heap_alloc_new w4 _)) (by simp [Value.oneCell']) (by have := HPL.out; unfold maxLen; omega) (by have := HPL.out; omega) (by simp; omega) (fun v' w5 hown5 hg5 => ?_)
              obtain ⟨ao5, cp5, e5⟩ := row_any hown5
              subst e5
              obtain ⟨q1, q2, q3, q4, q5⟩ := grow_ent (Wr := Wr) (W := w4) hbx4 hrow4 hsz4 (OwnsE.snoc hown5) hg5 HWB.out HWU.out
              have c5 := q1.cell
              have f5 := q1.frozen
              refine hK _ _ ?_
              clear hK K
              try simp only [Act.put, List.setIfInBounds_toArray, List.set_cons_zero, List.set_cons_succ]
              refine wpAnyIn_ready (rs := [5]) (by kernel_rfl) (by simp) ?_
              refine AllReadyIn.cons rfl (fun K hK => ?_) AllReadyIn.nil
              go_simp
              refine hK _ _ ?_
              clear hK K
              try simp only [Act.put, List.setIfInBounds_toArray, List.set_cons_zero, List.set_cons_succ]
              refine wpAnyIn_done (by kernel_rfl) ?_ _
              gi_wp2
              refine ⟨((KeepsOthers.drew W).trans ((KeepsOthers.of_grownBy (grown_of_below hb4h.out) (fun j o e => by cases e)).trans q4)).from _, (Turns.of_below (drew_below (Below.refl _ W))).trans ((Turns.of_below hb4h.out).trans q5 (fun _ hx => Or.inl hx)) (fun _ hx => Or.inl hx), _, q2, ?_, fun y hy => ?_, ?_⟩
              · rw [show ents (pre ++ [x]) = ents pre ++ [x.val] by simp [ents]]; exact q3
              · rcases List.mem_append.1 hy with h | h
                · exact HALLP.out y h
                · rw [List.mem_singleton.1 h]; exact HOK.out
              · exact HTW.out.trans ((Turns.of_below (drew_below (Below.refl _ W))).trans ((Turns.of_below hb4h.out).trans q5 (fun _ hx => Or.inl hx)) (fun _ hx => Or.inl hx)) (fun _ hx => Or.inl hx)
      · have hlt2 : Op.bytesLess x.val.key.toList TO.toList = false := by simpa using hlt
        clear hlt
        have HNO : Hid (okTo TO.data.toList x.val = false) := Lib.hid (by
          unfold okTo
          rw [less_eq, ByteArray.toList_eq, ByteArray.toList_eq] at hlt2
          rw [ByteArray.toList_eq] at hem2
          rw [hlt2, hem2]
          rfl)
        gi_wp2
        exact ⟨KeepsFrom.refl _ _, rfl, v, pre, x, rfl, HNO.out, HBW.out.1, HBW.out.2.1, HALLP.out, HTW.out⟩
  case done =>
    rintro D ys W hD hys ⟨v, hb, ho, hall, ht⟩ hK
    have cE := hb.cell
    have HR := Lib.hid (And.intro hb (And.intro ho (And.intro ht hK)))
    subst hys
    have HAL := Lib.hid (HALL.out hall)
    clear hb ho ht hK hall
    go_wp2_with fail
    obtain ⟨hb, ho, ht, hK⟩ := HR.out
    refine ⟨by simp, .inl ⟨_, _, rfl, run_takeDeferred hK, ?_⟩⟩
    have g2 := grownBy_putObj' W D (.deferred none)
    have ho2 : OwnsE (W.putObj D (.deferred none)) n2 v (ents ys) := row_stay g2 (fun k e => by cases e; exact ⟨_, hK, rfl⟩) ho
    have hbl : Below w.heap.size w W := HZB.out.trans ((HLW.out.mono (by have := HSZ.out.1; omega)).trans (ht.to_below (by have := HLW.out.size; have := HSZ.out.1; omega) (fun k hk => by
      rcases Nat.lt_or_ge k w.heap.size with h | h
      · exact absurd hk (HLOW.out k (by have := HSZ.out.1; have := HEBQ.out; omega))
      · exact h)))
    have hdd : w.heap.size ≤ D := by have := HLW.out.size; have := HSZ.out.1; omega
    refine ⟨v, by simp [results, Try.results16, go_sem], v, rfl, ?_, hbl.trans (belowK_b (w := w) (Nat.le_refl _) W D _ _ hdd hK rfl rfl)⟩
    rw [HAL.out]
    exact OwnsE.low (by have := HLW.out.size; have := HSZ.out.1; have := HN2.out; omega) ho2
  case stop =>
    rintro D c pre W hD hpre ⟨rfl, v, l0, x, rfl, hno, hb, ho, hall, ht⟩ hK
    have cE := hb.cell
    have HR := Lib.hid (And.intro hb (And.intro ho (And.intro ht hK)))
    have HAL : Hid (RL = ents l0) := Lib.hid (by
      obtain ⟨post, hp⟩ := hpre
      exact HSTOP.out l0 post x (by rw [← hp]; simp) hall hno)
    clear hb ho ht hK hall hpre hno
    gi_wp2
    go_wp2_with fail
    obtain ⟨hb, ho, ht, hK⟩ := HR.out
    refine ⟨by simp, .inl ⟨_, _, rfl, run_takeDeferred hK, ?_⟩⟩
    have g2 := grownBy_putObj' W D (.deferred none)
    have ho2 : OwnsE (W.putObj D (.deferred none)) n2 v (ents l0) := row_stay g2 (fun k e => by cases e; exact ⟨_, hK, rfl⟩) ho
    have hbl : Below w.heap.size w W := HZB.out.trans ((HLW.out.mono (by have := HSZ.out.1; omega)).trans (ht.to_below (by have := HLW.out.size; have := HSZ.out.1; omega) (fun k hk => by
      rcases Nat.lt_or_ge k w.heap.size with h | h
      · exact absurd hk (HLOW.out k (by have := HSZ.out.1; have := HEBQ.out; omega))
      · exact h)))
    have hdd : w.heap.size ≤ D := by have := HLW.out.size; have := HSZ.out.1; omega
    refine ⟨v, by simp [results, Try.results16, go_sem], v, rfl, ?_, hbl.trans (belowK_b (w := w) (Nat.le_refl _) W D _ _ hdd hK rfl rfl)⟩
    rw [HAL.out]
    exact OwnsE.low (by have := HLW.out.size; have := HSZ.out.1; have := HN2.out; omega) ho2
end Go.Proofs.Ytmdnmabbphnhaaa.Mm

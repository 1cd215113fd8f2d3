/- The walk of Mem.Put of an entry that may be. -/
import Derived.Test.YtmdnmabbphnhaaaMmD
import Derived.Deep.Cut
import Derived.StillTailTactics
import Derived.Deep.DeepCutAuto
namespace Go.Proofs.Ytmdnmabbphnhaaa.Mm
open Go Go.RowKit Go.Proofs.Ytmdnmabbphnhaaa.Sk Go.Proofs.Ytmdnmabbphnhaaa.Sm
set_option linter.unusedVariables false
set_option linter.unusedSimpArgs false

theorem rput_end {e : Ent} {H : Nat} {r : List (It Ent)} {s : List (It Ent)} (hk : Kin s r) (hi : Sk.find (placeE e) s = none) : rput ⟨placeE e, e, H⟩ r = r ++ [⟨placeE e, e, H⟩] :=
  rput_new fun y hy => find_none.1 hi y ((hk.mem y).2 hy)
/-- What lies there when a Put has ended. -/
theorem put_end {w Wz w3 w4 w5 : World} {M : MLay} {s r : List (It Ent)} (h : Held w M s r) (e : Ent) (H : Int) (hf : Fit e) (hi : Sk.find (placeE e) s = none) (hz : Below w.heap.size w Wz) (h3 : Below Wz.heap.size Wz w3)
    (ht : Turns (Own M.L s) w3 w4) {L' : Lay} (hb : L'.b = M.L.b) (hl : ListS w4 L' (put ⟨placeE e, e, clampH H⟩ s) (rput ⟨placeE e, e, clampH H⟩ r)) (hown : ∀ b, Own L' (put ⟨placeE e, e, clampH H⟩ s) b → Own M.L s b ∨ w3.heap.size ≤ b)
    (ht5 : Turns (fun b => b = M.u) w4 w5) {nl bl : Nat} (hbx : w5.heap[M.m]? = some (.cells #[.pointer (some ⟨M.L.b, 0, none⟩), .pointer (some ⟨M.u, 0, none⟩)] 40 (0, 0)))
    (hsm : w5.heap[M.u]? = some (.cells #[.int .u64 (max (nl : Int) (e.seq : Int)), .int .i64 (bl : Int)] 60 (0, 0))) (hnl : newestL (ents r) = nl) (hbl : bytesL (ents r) = bl)
    {v : Value} (hv : v = .int .i64 ((bl : Int) + ((e.key.size : Int) + (e.val.size : Int)))) : PutTo M s (put ⟨placeE e, e, clampH H⟩ s) (r ++ [⟨placeE e, e, clampH H⟩]) w (w5.setCell ⟨M.u, 1, none⟩ v).drew := by
  subst hv
  have hs3 := hz.size
  have hs4 := h3.size
  have hmu : M.m ≠ M.u := h.apart.2.2
  have hut : M.u < w.heap.size := heap_lt h.sums
  have h6 : Turns (fun b => b = M.u) w4 (w5.setCell ⟨M.u, 1, none⟩ (.int .i64 ((bl : Int) + ((e.key.size : Int) + (e.val.size : Int))))).drew :=
    ht5.trans (Turns.of_setCell (P := fun b => b = M.u) w5 ⟨M.u, 1, none⟩ _ rfl).drew (fun x hx => Or.inl hx)
  have hwb : Below w.heap.size w w3 := hz.trans (h3.mono hs3)
  rw [rput_end h.lies.kin hi] at hl
  refine ⟨⟨L', M.m, M.u⟩, rfl, ⟨hl.turned h6 fun b hb2 e2 => ?_, placed_put h.placed e _ hf.seq, fun y hy => ?_, ?_, ?_⟩, ?_, fun b hb2 => ?_⟩
  · rcases hown b hb2 with h7 | h7
    · exact h.apart.2.1 (by rw [← e2]; exact h7)
    · omega
  · rcases (mem_put h.placed.up y).1 hy with ⟨h7, _⟩ | rfl
    · exact h.fit y h7
    · exact hf
  · show (w5.setCell ⟨M.u, 1, none⟩ _).heap[M.m]? = _
    rw [setCell_kept _ _ _ hmu, hbx, hb]
  · show (w5.setCell ⟨M.u, 1, none⟩ _).heap[M.u]? = _
    rw [heap_setCell_same w5 M.u 1 _ _ _ hsm]
    have e1 : ents (r ++ [⟨placeE e, e, clampH H⟩]) = ents r ++ [e] := by simp [ents]
    rw [e1, newest_snoc, bytes_snoc, hnl, hbl]
    have e2 : ((max nl e.seq : Nat) : Int) = max (nl : Int) (e.seq : Int) := by omega
    have e3 : ((bl + (e.key.size + e.val.size) : Nat) : Int) = (bl : Int) + ((e.key.size : Int) + (e.val.size : Int)) := by omega
    rw [e2, e3]
    rfl
  · refine (Turns.of_below (P := OwnM M s) hwb).trans ((ht.mono (Q := OwnM M s) fun x hx => Or.inl (Or.inl hx)).trans (P := OwnM M s) h6 fun x hx => Or.inl (Or.inr (Or.inr hx))) fun x hx => Or.inl hx
  · rcases hb2 with h7 | h7 | h7
    · rcases hown b h7 with h8 | h8
      · exact Or.inl (Or.inl h8)
      · right; omega
    · exact Or.inl (Or.inr (Or.inl h7))
    · exact Or.inl (Or.inr (Or.inr h7))

set_option maxHeartbeats 8000000 in
set_option maxRecDepth 100000 in
/-- Put of one that may be. -/
theorem put_new {w : World} {M : MLay} {s r : List (It Ent)} (h : Held w M s r) (e : Ent) (H : Int) (hf : Fit e) (hr : r.length < 100000) (hb : badE e = false) (hi : Sk.find (placeE e) s = none) :
    Calls Try.prog 9 #[.pointer (some ⟨M.m, 0, none⟩), enV e, .int .i64 H] w fun x w' => x = .returned (.int .i64 0) ∧ PutTo M s (put ⟨placeE e, e, clampH H⟩ s) (r ++ [⟨placeE e, e, clampH H⟩]) w w' := by
  obtain ⟨Wz, hWz⟩ : ∃ Wz, Wz = w.alloc (entO e) := ⟨_, rfl⟩
  have HZB : Hid (Below w.heap.size w Wz) := Lib.hid (by rw [hWz]; exact alloc_below w _)
  have hzh : Wz.heap[w.heap.size]? = some (entO e) := by rw [hWz]; exact heap_alloc_new w _
  have HZH := Lib.hid hzh
  have HW := Lib.hid hWz
  have hz := h.below HZB.out
  have HM := Lib.hid (made_yes hz)
  have HP := Lib.hid (fun W => place_any e.key e.seq W (by have := hf.key; omega) hf.seq)
  have HG := Lib.hid (fun W (hb : Below Wz.heap.size Wz W) => get_any (hz.below hb).lies ⟨(place e.key.data.toList e.seq).toArray⟩)
  have hd : (⟨(place e.key.data.toList e.seq).toArray⟩ : ByteArray).data.toList = placeE e := rfl
  rw [hd, hi] at HG
  have HC := Lib.hid (fun W (hb : Below Wz.heap.size Wz W) => (hz.below hb).c0)
  have HH := Lib.hid (fun W (hb : Below Wz.heap.size Wz W) => hz.below hb)
  have HSET := Lib.hid (fun W (hb : Below Wz.heap.size Wz W) => set_any (hz.below hb).lies ⟨(place e.key.data.toList e.seq).toArray⟩ e H (by
    have h1 := place_length e.key.data.toList e.seq
    have h2 : e.key.data.toList.length = e.key.size := by rw [Array.length_toList]; rfl
    have h3 := hf.key
    show (place e.key.data.toList e.seq).toArray.size ≤ _
    rw [List.size_toArray]
    omega) hr (by rw [hd]; exact hi))
  rw [hd, hi] at HSET
  clear hd
  have HCO := Lib.hid (fun W => copyOf_any e W (by have := hf.key; omega) (by have := hf.val; omega))
  generalize (⟨(place e.key.data.toList e.seq).toArray⟩ : ByteArray) = P at *
  rw [show getV none = .tuple #[.agg #[.string ⟨#[]⟩, .string ⟨#[]⟩, .int .u64 0, .bool false], .bool false] from rfl] at HG
  rw [show enV e = .agg #[.string e.key, .string e.val, .int .u64 (e.seq : Int), .bool e.gone] from rfl] at HCO HSET ⊢
  obtain ⟨b0, b1, b2, b3, f0, f1, f2, f3⟩ := box4 hzh
  have HHH := Lib.hid h
  have HI := Lib.hid hi
  have HSS : Hid (∀ W, Below Wz.heap.size Wz W → W.cell? ⟨M.m, 0, none⟩ = some (.pointer (some ⟨M.L.b, 0, none⟩)) ∧ W.cell? ⟨w.heap.size, 0, none⟩ = some (.string e.key) ∧ W.cell? ⟨w.heap.size, 1, none⟩ = some (.string e.val) ∧ W.cell? ⟨w.heap.size, 2, none⟩ = some (.int .u64 (e.seq : Int)) ∧ W.cell? ⟨w.heap.size, 3, none⟩ = some (.bool e.gone)) := Lib.hid (fun W hb => by
    obtain ⟨a, b, c, d, _⟩ := box4 ((hb.block _ (heap_lt HZH.out)).trans HZH.out)
    exact ⟨HC.out W hb, a, b, c, d⟩)
  have HNB : Hid (¬ Own M.L s w.heap.size ∧ ¬ Own M.L s M.m) := Lib.hid ⟨fun ho => by have := h.lies.own_lt ho; omega, h.apart.1⟩
  have HST : Hid (∀ W W', Below Wz.heap.size Wz W → Turns (Own M.L s) W W' → W'.cell? ⟨M.m, 0, none⟩ = some (.pointer (some ⟨M.L.b, 0, none⟩)) ∧ W'.cell? ⟨w.heap.size, 0, none⟩ = some (.string e.key) ∧ W'.cell? ⟨w.heap.size, 1, none⟩ = some (.string e.val) ∧ W'.cell? ⟨w.heap.size, 2, none⟩ = some (.int .u64 (e.seq : Int)) ∧ W'.cell? ⟨w.heap.size, 3, none⟩ = some (.bool e.gone)) := Lib.hid (fun W W' hb ht => by
    have h1 : W.heap[w.heap.size]? = some (entO e) := (hb.block _ (heap_lt HZH.out)).trans HZH.out
    obtain ⟨a, b, c, d, _⟩ := box4 ((ht.block _ (heap_lt h1) HNB.out.1).trans h1)
    have h2 := (HH.out W hb).box
    exact ⟨by rw [cell_of ((ht.block _ (heap_lt h2) HNB.out.2).trans h2)]; rfl, a, b, c, d⟩)
  clear hWz h hzh hi hz
  unfold badE at hb
  rw [Bool.and_eq_false_iff] at hb
  have hem : e.gone = false ∨ (e.gone = true ∧ e.val.toList.isEmpty = true) := by
    cases hg : e.gone with
    | false => exact Or.inl rfl
    | true =>
      refine Or.inr ⟨rfl, empty_of ?_⟩
      rw [hg] at hb
      simpa using hb
  clear hb
  go_enter Try.func9, Try.ntmps9
  refine wp_seq_k (fun K0 hK0 => ?_)
  have HK0 := Lib.hid hK0
  clear hK0
  go_wp2_with fail
  refine HK0.out _ _ ?_
  clear HK0 K0
  rw [← HW.out]
  clear HW
  refine wp_seq_k (fun K0 hK0 => ?_)
  have HK0 := Lib.hid hK0
  clear hK0
  go_wp2_with fail
  refine HM.out.mono ?_
  rintro x w1 ⟨rfl, hw1⟩
  rw [hw1]
  clear hw1 w1
  go_wp2_with fail
  refine HK0.out _ _ ?_
  clear HK0 K0 HM
  refine wp_seq_k (fun K0 hK0 => ?_)
  have HK0 := Lib.hid hK0
  clear hK0
  go_cut [] from 9 (fun wr => Hid (wr = Wz))
  case first =>
    rcases hem with hg | ⟨hg, hv⟩
    · rw [hg] at b3
      go_wp2_with fail
      go_meet
      case rel => exact Lib.hid rfl
    · rw [hg] at b3
      go_wp2_with fail
      go_meet
      case rel => exact Lib.hid rfl
  case rest =>
    rw [hcut.out]
    clear hcut wc hem
    refine HK0.out _ _ ?_
    clear HK0 K0
    go_wp2_with fail
    refine (HP.out _).mono ?_
    rintro x w1 ⟨rfl, hb1⟩
    have HB1 := Lib.hid hb1
    clear hb1
    have c0 := HC.out _ HB1.out
    go_wp2_with fail
    refine (HG.out _ HB1.out).mono ?_
    rintro x w2 ⟨rfl, hb2⟩
    have HB2 := Lib.hid ((Below.next HB1.out hb2).alloc (Nat.le_trans HB1.out.size hb2.size) (.cells #[.string ⟨#[]⟩, .string ⟨#[]⟩, .int .u64 0, .bool false] 32))
    clear hb2 c0
    go_wp2_with fail
    refine wp_region_held_drew (S := fun w' => w'.cell? ⟨M.m, 0, none⟩ = some (.pointer (some ⟨M.L.b, 0, none⟩)) ∧ w'.cell? ⟨w.heap.size, 0, none⟩ = some (.string e.key) ∧ w'.cell? ⟨w.heap.size, 1, none⟩ = some (.string e.val) ∧ w'.cell? ⟨w.heap.size, 2, none⟩ = some (.int .u64 (e.seq : Int)) ∧ w'.cell? ⟨w.heap.size, 3, none⟩ = some (.bool e.gone)) (by kernel_rfl) (HSS.out _ (drew_below HB2.out)) (fun hH => ?_)
    refine wpAnyH_take (i := 0) (v := ?v0) rfl (by kernel_rfl) (by kernel_rfl) (by kernel_rfl) (fun _ _ _ h => h) (Or.inl ⟨by kernel_rfl, ?y0⟩) (by assumption) ?_; case y0 => (intro w' hS; obtain ⟨s0, s1, s2, s3, s4⟩ := hS; go_simp; try with_reducible rfl)
    simp only [Act.put, List.setIfInBounds_toArray, List.set_cons_zero, List.set_cons_succ]
    refine wpAnyH_take (i := 1) (v := ?v1) rfl (by kernel_rfl) (by kernel_rfl) (by kernel_rfl) (fun _ _ _ h => h) (Or.inl ⟨by kernel_rfl, ?y1⟩) (by assumption) ?_; case y1 => (intro w' hS; obtain ⟨s0, s1, s2, s3, s4⟩ := hS; go_simp; try with_reducible rfl)
    simp only [Act.put, List.setIfInBounds_toArray, List.set_cons_zero, List.set_cons_succ]
    refine wpAnyH_take (i := 2) (v := ?v2) rfl (by kernel_rfl) (by kernel_rfl) (by kernel_rfl) (fun _ _ _ h => h) (Or.inl ⟨by kernel_rfl, ?y2⟩) (by assumption) ?_; case y2 => (intro w' hS; obtain ⟨s0, s1, s2, s3, s4⟩ := hS; go_simp; try with_reducible rfl)
    simp only [Act.put, List.setIfInBounds_toArray, List.set_cons_zero, List.set_cons_succ]
    refine wpAnyH_take (i := 3) (v := ?v3) rfl (by kernel_rfl) (by kernel_rfl) (by kernel_rfl) (fun _ _ _ h => h) (Or.inl ⟨by kernel_rfl, ?y3⟩) (by assumption) ?_; case y3 => (intro w' hS; obtain ⟨s0, s1, s2, s3, s4⟩ := hS; go_simp; try with_reducible rfl)
    simp only [Act.put, List.setIfInBounds_toArray, List.set_cons_zero, List.set_cons_succ]
    refine wpAnyH_take (i := 4) (v := ?v4) rfl (by kernel_rfl) (by kernel_rfl) (by kernel_rfl) (fun _ _ _ h => h) (Or.inl ⟨by kernel_rfl, ?y4⟩) (by assumption) ?_; case y4 => (intro w' hS; obtain ⟨s0, s1, s2, s3, s4⟩ := hS; go_simp; try with_reducible rfl)
    simp only [Act.put, List.setIfInBounds_toArray, List.set_cons_zero, List.set_cons_succ]
    refine wpAnyH_take (i := 5) (v := ?v5) rfl (by kernel_rfl) (by kernel_rfl) (by kernel_rfl) (fun _ _ _ h => h) (Or.inl ⟨by kernel_rfl, ?y5⟩) (by assumption) ?_; case y5 => (intro w' hS; obtain ⟨s0, s1, s2, s3, s4⟩ := hS; go_simp; try with_reducible rfl)
    simp only [Act.put, List.setIfInBounds_toArray, List.set_cons_zero, List.set_cons_succ]
    refine wpAnyH_take (i := 7) (v := ?v7) rfl (by kernel_rfl) (by kernel_rfl) (by kernel_rfl) (fun _ _ _ h => h) (Or.inl ⟨by kernel_rfl, ?y7⟩) (by assumption) ?_; case y7 => (intro w' hS; obtain ⟨s0, s1, s2, s3, s4⟩ := hS; go_simp; try with_reducible rfl)
    simp only [Act.put, List.setIfInBounds_toArray, List.set_cons_zero, List.set_cons_succ]
    refine wpAnyH_ready (rs := [6]) (by kernel_rfl) (by simp) ?_
    refine AllReadyH.cons rfl (fun K hK => ?_) AllReadyH.nil
    go_simp
    refine (HCO.out _).mono ?_
    rintro x w3 ⟨rfl, hb3⟩
    have HB3 := Lib.hid (Below.next (drew_below HB2.out) hb3)
    clear hb3
    refine hK.out _ _ (HSS.out _ HB3.out) (fun _ => ?_)
    clear hK K
    try simp only [Act.put, List.setIfInBounds_toArray, List.set_cons_zero, List.set_cons_succ]
    refine wpAnyH_ready (rs := [8]) (by kernel_rfl) (by simp) ?_
    refine AllReadyH.cons rfl (fun K hK => ?_) AllReadyH.nil
    go_simp
    refine (HSET.out _ HB3.out).mono ?_
    rintro x w4 ⟨rfl, L', h1, h2, h3, h4⟩
    have HT4 := Lib.hid h3
    have HL4 := Lib.hid (And.intro h1 (And.intro h2 h4))
    clear h1 h2 h3 h4
    refine hK.out _ _ (HST.out _ _ HB3.out HT4.out) (fun hS4 => ?_)
    clear hK K
    try simp only [Act.put, List.setIfInBounds_toArray, List.set_cons_zero, List.set_cons_succ]
    refine wpAnyH_done (by kernel_rfl) ?_ _
    obtain ⟨s0, s1, s2, s3, s4⟩ := hS4
    clear s0 s1 s2 s3 s4
    have HF4 : Hid (w4.heap[M.m]? = some (.cells #[.pointer (some ⟨M.L.b, 0, none⟩), .pointer (some ⟨M.u, 0, none⟩)] 40 (0, 0)) ∧ w4.heap[M.u]? = some (.cells #[.int .u64 (newestL (ents r) : Int), .int .i64 (bytesL (ents r) : Int)] 60 (0, 0)) ∧ w4.heap[w.heap.size]? = some (entO e)) := Lib.hid (by
      have hz3 := HH.out _ HB3.out
      have h1 : w3.heap[w.heap.size]? = some (entO e) := (HB3.out.block _ (heap_lt HZH.out)).trans HZH.out
      exact ⟨(HT4.out.block _ (heap_lt hz3.box) HNB.out.2).trans hz3.box, (HT4.out.block _ (heap_lt hz3.sums) HHH.out.apart.2.1).trans hz3.sums, (HT4.out.block _ (heap_lt h1) HNB.out.1).trans h1⟩)
    have c1 : w4.cell? ⟨M.m, 1, none⟩ = some (.pointer (some ⟨M.u, 0, none⟩)) := by rw [cell_of HF4.out.1]; rfl
    have d0 : w4.cell? ⟨M.u, 0, none⟩ = some (.int .u64 (newestL (ents r) : Int)) := by rw [cell_of HF4.out.2.1]; rfl
    have d1 : w4.cell? ⟨M.u, 1, none⟩ = some (.int .i64 (bytesL (ents r) : Int)) := by rw [cell_of HF4.out.2.1]; rfl
    have g0 := unfrozen_of HF4.out.2.1 0
    have g1 := unfrozen_of HF4.out.2.1 1
    obtain ⟨e0, e1, e2, e3, _⟩ := box4 HF4.out.2.2
    have HNL := Lib.hid HHH.out.newest_lt
    have HBL := Lib.hid HHH.out.bytes_le
    generalize hnl : newestL (ents r) = nl at *
    generalize hbl : bytesL (ents r) = bl at *
    have HNE := Lib.hid (And.intro hnl hbl)
    clear hnl hbl
    clear b0 b1 b2 b3 f0 f1 f2 f3
    go_wp2_with fail
    go_still_tail 16, (by kernel_rfl)
    change wpList _ _ _ _ _ w4.drew
    go_wp2_with fail
    have hmu : M.u ≠ M.m := fun e => HHH.out.apart.2.2 e.symm
    have hwu : w.heap.size ≠ M.u := fun e => by have := HHH.out.own_lt (Or.inr (Or.inr rfl) : OwnM M s M.u); omega
    obtain ⟨w5, hw5⟩ : ∃ w5, w5 = (w4.setCell ⟨M.u, 0, none⟩ (.int .u64 (max (nl : Int) (e.seq : Int)))).drew := ⟨_, rfl⟩
    have HF5 : Hid (w5.heap[M.m]? = some (.cells #[.pointer (some ⟨M.L.b, 0, none⟩), .pointer (some ⟨M.u, 0, none⟩)] 40 (0, 0)) ∧ w5.heap[M.u]? = some (.cells #[.int .u64 (max (nl : Int) (e.seq : Int)), .int .i64 (bl : Int)] 60 (0, 0)) ∧ w5.heap[w.heap.size]? = some (entO e)) := Lib.hid (by
      rw [hw5, heap_drew]
      refine ⟨(setCell_kept _ _ _ hmu.symm).trans HF4.out.1, ?_, (setCell_kept _ _ _ hwu).trans HF4.out.2.2⟩
      rw [heap_setCell_same w4 M.u 0 _ _ _ HF4.out.2.1]
      rfl)
    have HT5 : Hid (Turns (fun b => b = M.u) w4 w5) := Lib.hid (by rw [hw5]; exact (Turns.of_setCell (P := fun b => b = M.u) _ _ _ rfl).drew)
    rw [← hw5]
    clear hw5 c1 d0 d1 g0 g1 e0 e1 e2 e3
    have c1 : w5.cell? ⟨M.m, 1, none⟩ = some (.pointer (some ⟨M.u, 0, none⟩)) := by rw [cell_of HF5.out.1]; rfl
    have d1 : w5.cell? ⟨M.u, 1, none⟩ = some (.int .i64 (bl : Int)) := by rw [cell_of HF5.out.2.1]; rfl
    have g1 := unfrozen_of HF5.out.2.1 1
    obtain ⟨e0, e1, e2, e3, _⟩ := box4 HF5.out.2.2
    have hbl := HBL.out
    have hks := hf.key
    have hvs := hf.val
    go_still_tail 17, (by kernel_rfl)
    change wpList _ _ _ _ _ w5.drew
    go_wp2_with fail
    go_ret
    refine ⟨rfl, put_end HHH.out e H hf HI.out HZB.out HB3.out HT4.out HL4.out.1 HL4.out.2.1 HL4.out.2.2 HT5.out HF5.out.1 HF5.out.2.1 HNE.out.1 HNE.out.2 rfl⟩

/-- Put. -/
theorem put_any {w : World} {M : MLay} {s r : List (It Ent)} (h : Held w M s r) (e : Ent) (H : Int) (hf : Fit e) (hr : r.length < 100000) :
    Calls Try.prog 9 #[.pointer (some ⟨M.m, 0, none⟩), enV e, .int .i64 H] w fun x w' => x = .returned (.int .i64 (putE e s)) ∧ PutTo M s (putS e H s) (putR e H s r) w w' := by
  have hkeep : ∀ w', Below w.heap.size w w' → PutTo M s s r w w' := fun w' hb => ⟨M, rfl, h.below hb, Turns.of_below hb, fun b hb2 => Or.inl hb2⟩
  unfold putS putR
  by_cases hb : badE e = true
  · have h1 : putE e s = 1 := by unfold putE; rw [if_pos hb]
    rw [h1, if_neg (by decide), if_neg (by decide)]
    refine (put_bad h e H hb).mono ?_
    rintro x w' ⟨rfl, hb2⟩
    exact ⟨rfl, hkeep _ hb2⟩
  · cases hi : Sk.find (placeE e) s with
    | some y =>
      have h1 : putE e s = 5 := by unfold putE; rw [if_neg hb, hi]; rfl
      rw [h1, if_neg (by decide), if_neg (by decide)]
      refine (put_there h e H hf (by simpa using hb) (by rw [hi]; rfl)).mono ?_
      rintro x w' ⟨rfl, hb2⟩
      exact ⟨rfl, hkeep _ hb2⟩
    | none =>
      have h1 : putE e s = 0 := by unfold putE; rw [if_neg hb, hi]; rfl
      rw [h1, if_pos rfl, if_pos rfl]
      exact put_new h e H hf hr (by simpa using hb) hi
end Go.Proofs.Ytmdnmabbphnhaaa.Mm

/- The walk of MemAny: for every input it answers true, and nothing that was there has turned. -/
import Derived.Test.YthopadoabdiooaaMemStill
import Derived.Test.YthopadoabdiooaaMmK
import Derived.Test.YthopadoabdiooaaMemPlaces
namespace Go.Proofs.Ythopadoabdiooaa.Mm
open Go Go.RowKit Go.Proofs.Ythopadoabdiooaa.Sk Go.Proofs.Ythopadoabdiooaa.Sm
set_option linter.unusedVariables false
set_option linter.unusedSimpArgs false

/-! ### what a memory of the call's own tells -/
section
variable {base m : Nat} {w : World} {s r : List (It Ent)}
theorem has_newest (h : Has base w m s r) : Calls Try.prog 16 #[.pointer (some ⟨m, 0, none⟩)] w fun e w' => e = .returned (.int .u64 (newestL (ents r) : Int)) ∧ w' = w := by
  obtain ⟨M, rfl, h1, h2⟩ := h
  exact newest_any h1
theorem has_bytes (h : Has base w m s r) : Calls Try.prog 17 #[.pointer (some ⟨m, 0, none⟩)] w fun e w' => e = .returned (.int .i64 (bytesL (ents r) : Int)) ∧ w' = w := by
  obtain ⟨M, rfl, h1, h2⟩ := h
  exact bytes_any h1
theorem cell_below {w' : World} {p : Addr} {v : Value} (hb : Below w.heap.size w w') (h : w.cell? p = some v) : w'.cell? p = some v := by
  have hlt : p.block < w.heap.size := by
    by_cases hp : p.block < w.heap.size
    · exact hp
    · have hn : w.heap[p.block]? = none := Array.getElem?_eq_none (by omega)
      simp [World.cell?, hn] at h
  rw [hb.cell hlt]
  exact h
theorem range_pairs (h : Placed s) (F T : Str) : (rangeL s F T).Pairwise fun a b => aheadE a b = true := h.pairs.sublist List.filter_sublist
end

/-- A row that may be written: the first cell of each entry is there. -/
def Sto (base : Nat) (W : World) (v : Value) (R : List Ent) : Prop := ∀ j, j < R.length → ∃ g cap u, v = .slice (some ⟨g, 0, none⟩) R.length cap ∧ base ≤ g ∧ W.cell? ⟨g, j * 4, none⟩ = some u ∧ W.frozen? ⟨g, j * 4, none⟩ = false
theorem Sto.of {base b2 : Nat} {W : World} {v : Value} {R : List Ent} (h : OwnsE W b2 v R) (hb : base ≤ b2) : Sto base W v R := fun j hj => by
  obtain ⟨g, cap, e, hbg, _, _, hf, c0, _⟩ := h.get (List.getElem?_eq_getElem hj)
  exact ⟨g, cap, _, e, Nat.le_trans hb hbg, c0, hf _⟩
theorem Sto.set {base : Nat} {W : World} {v : Value} {R : List Ent} (h : Sto base W v R) (p : Addr) (x : Value) : Sto base (W.setCell p x) v R := fun j hj => by
  obtain ⟨g, cap, u, e, hbg, hc, hf⟩ := h j hj
  by_cases hp : p = ⟨g, j * 4, none⟩
  · subst hp
    exact ⟨g, cap, x, e, hbg, World.cell?_setCell_same W _ x hc, by rw [World.frozen?_setCell]; exact hf⟩
  · exact ⟨g, cap, u, e, hbg, (World.cell?_setCell_other W _ _ x hp).trans hc, by rw [World.frozen?_setCell]; exact hf⟩

set_option maxHeartbeats 16000000 in
set_option maxRecDepth 100000 in
theorem any_small {ao : Option Addr} {n cap : Nat} {l : List Pu} (K F T : ByteArray) (q : Nat) (hi : Int) (w : World) (h : SeesQ w (.slice ao n cap) l) (hl : SmallQ l) (hK : K.size ≤ 20000) (hF : F.size ≤ 20000) (hT : T.size ≤ 20000) (hq : q < 18446744073709551616) :
    Calls Try.prog 6 #[.slice ao n cap, .string K, .string F, .string T, .int .u64 (q : Int), .int .i64 hi] w fun e w' => e = .returned (.bool true) ∧ Below w.heap.size w w' := by
  have HG := Lib.hid (great_any w h)
  have HU := Lib.hid (fun W (hb : Below w.heap.size w W) => unlike_any W (h.below hb) hl)
  have HSM := Lib.hid hl
  have HAW := Lib.hid awake_any
  have hki : (K.size : Int) ≤ 20000 := by omega
  have hfi : (F.size : Int) ≤ 20000 := by omega
  have hti : (T.size : Int) ≤ 20000 := by omega
  clear h hl
  go_enter Try.func6, Try.ntmps6
  go_wp2_with fail
  refine HG.out.mono ?_
  rintro e w1 ⟨gb, rfl, hb1, _⟩
  have B1 := Lib.hid hb1
  clear hb1
  cases gb with
  | true =>
    go_wp2_with fail
    refine (HAW.out _).mono ?_
    rintro e w2 ⟨rfl, hb2⟩
    have B2 := Lib.hid (Below.next B1.out hb2)
    clear hb2
    go_wp2_with fail
    go_ret
    exact ⟨rfl, B2.out⟩
  | false =>
    go_wp2_with fail
    refine (HU.out _ B1.out).mono ?_
    rintro e w2 ⟨v, u, rfl, ho, hu, hb2⟩
    have HO := Lib.hid ho
    have HUN := Lib.hid hu
    have B2 := Lib.hid (Below.next B1.out hb2)
    obtain ⟨a2, cp2, e2⟩ := row_any ho
    subst e2
    clear ho hu hb2
    have HEL := Lib.hid (fun (k : Nat) (x : Pu) (hx : u[k]? = some x) => HO.out.get hx)
    have HFIT : Hid (∀ x ∈ u, Fit x.e) := Lib.hid (fun x hx => HSM.out.2 x (HUN.out.sub x hx))
    have HUL : Hid (u.length ≤ 100) := Lib.hid (Nat.le_trans HUN.out.few HSM.out.1)
    have hul : (u.length : Int) ≤ 100 := by have := HUL.out; omega
    go_wp2_with fail
    refine (has_new _).mono ?_
    rintro e w3 ⟨a, rfl, h3, hb3⟩
    have H3 := Lib.hid h3
    have B3 := Lib.hid hb3
    clear h3 hb3
    go_wp2_with fail
    refine (has_new _).mono ?_
    rintro e w4 ⟨b, rfl, h4, hb4⟩
    have H4 : Hid (Has2 w2.heap.size w4 a b [] [] [] []) := Lib.hid (Has2.of H3.out B3.out.size _ hb4 h4)
    have B4 : Hid (Below w2.heap.size w2 w4) := Lib.hid (Below.next B3.out hb4)
    clear h4 hb4 H3 B3
    have HUR := Lib.hid HUN.out.rev
    go_wp2_with fail
    go_loopw [16] (fun i wr => ∃ (k : Nat) (s r t p : List (It Ent)), k ≤ u.length ∧ i = .int .i64 (k : Int) ∧ Hid (Has2 w2.heap.size wr a b s r t p) ∧ Hid (ents r = entsQ (u.take k)) ∧ Hid (ents p = entsQ (u.reverse.take k)) ∧ Hid (Below w2.heap.size w2 wr)) (fun i _ => u.length - (intOf i).toNat)
    case atStart => exact ⟨0, [], [], [], [], Nat.zero_le _, rfl, H4, Lib.hid rfl, Lib.hid rfl, B4⟩
    case round =>
      obtain ⟨k, s, r, t, p, hk, rfl, HH, HE, HP, HB⟩ := hrel
      by_cases hkn : k < u.length
      · obtain ⟨x, hx⟩ : ∃ x, u[k]? = some x := ⟨u[k]'hkn, List.getElem?_eq_getElem _⟩
        have hkr : u.length - 1 - k < u.length := by omega
        obtain ⟨z, hz⟩ : ∃ z, u[u.length - 1 - k]? = some z := ⟨u[u.length - 1 - k]'hkr, List.getElem?_eq_getElem _⟩
        obtain ⟨g, cp3, hsh, hg, _, c0, c1, c2, c3, c4⟩ := HEL.out k x hx
        simp only [Value.slice.injEq] at hsh
        obtain ⟨rfl, _, rfl⟩ := hsh
        obtain ⟨j, hj⟩ : ∃ j, j = u.length - 1 - k := ⟨_, rfl⟩
        rw [← hj] at hkr hz
        obtain ⟨g', cp4, hsh', _, _, d0, d1, d2, d3, _⟩ := HEL.out j z hz
        have hgg : g = g' := by injection hsh' with e1; injection e1 with e2; injection e2
        subst hgg
        have hzr : u.reverse[k]? = some z := by rw [List.getElem?_reverse hkn, ← hj]; exact hz
        have hfx := HFIT.out x (List.mem_of_getElem? hx)
        have hfz := HFIT.out z (List.mem_of_getElem? hz)
        obtain ⟨hz0, hz1⟩ := fill_step HUN.out HH.out.one.placed HH.out.one.ents_mem hx hfx HE.out x.h
        obtain ⟨hy0, hy1⟩ := fill_step HUR.out HH.out.two.placed HH.out.two.ents_mem hzr hfz HP.out hi
        have HZ1 := Lib.hid hz1
        have HY1 := Lib.hid hy1
        have hrl := len_of_ents HE.out hk
        have hpl := len_of_ents HP.out (by rw [List.length_reverse]; exact hk)
        have HPUT : Hid (∀ W, Below wr.heap.size wr W → Calls Try.prog 13 #[.pointer (some ⟨a, 0, none⟩), .agg #[.string x.e.key, .string x.e.val, .int .u64 (x.e.seq : Int), .bool x.e.gone], .int .i64 x.h] W fun y w' => y = .returned (.int .i64 0) ∧ Has2 w2.heap.size w' a b (putS x.e x.h s) (putR x.e x.h s r) t p ∧ Below w2.heap.size W w') := Lib.hid (fun W hb => by
          have h1 := has2_one (HH.out.below hb) (Nat.le_trans HB.out.size hb.size) x.e x.h hfx (by rw [hrl]; omega)
          rw [hz0] at h1
          exact h1)
        have HPB : Hid (∀ W, Has2 w2.heap.size W a b (putS x.e x.h s) (putR x.e x.h s r) t p → Below w2.heap.size w2 W → Calls Try.prog 13 #[.pointer (some ⟨b, 0, none⟩), .agg #[.string z.e.key, .string z.e.val, .int .u64 (z.e.seq : Int), .bool z.e.gone], .int .i64 hi] W fun y w' => y = .returned (.int .i64 0) ∧ Has2 w2.heap.size w' a b (putS x.e x.h s) (putR x.e x.h s r) (putS z.e hi t) (putR z.e hi t p) ∧ Below w2.heap.size W w') := Lib.hid (fun W h5 hb => by
          have h1 := has2_two h5 hb.size z.e hi hfz (by rw [hpl]; omega)
          rw [hy0] at h1
          exact h1)
        have HCS : Hid (∀ W, Below w2.heap.size w2 W → W.cell? ⟨g, k * 5, none⟩ = some (.string x.e.key) ∧ W.cell? ⟨g, k * 5 + 1, none⟩ = some (.string x.e.val) ∧ W.cell? ⟨g, k * 5 + 2, none⟩ = some (.int .u64 (x.e.seq : Int)) ∧ W.cell? ⟨g, k * 5 + 3, none⟩ = some (.bool x.e.gone) ∧ W.cell? ⟨g, k * 5 + 4, none⟩ = some (.int .i64 x.h) ∧ W.cell? ⟨g, j * 5, none⟩ = some (.string z.e.key) ∧ W.cell? ⟨g, j * 5 + 1, none⟩ = some (.string z.e.val) ∧ W.cell? ⟨g, j * 5 + 2, none⟩ = some (.int .u64 (z.e.seq : Int)) ∧ W.cell? ⟨g, j * 5 + 3, none⟩ = some (.bool z.e.gone)) := Lib.hid (fun W hb =>
          ⟨(hb.cell (p := ⟨g, _, none⟩) hg).trans c0, (hb.cell (p := ⟨g, _, none⟩) hg).trans c1, (hb.cell (p := ⟨g, _, none⟩) hg).trans c2, (hb.cell (p := ⟨g, _, none⟩) hg).trans c3, (hb.cell (p := ⟨g, _, none⟩) hg).trans c4, (hb.cell (p := ⟨g, _, none⟩) hg).trans d0, (hb.cell (p := ⟨g, _, none⟩) hg).trans d1, (hb.cell (p := ⟨g, _, none⟩) hg).trans d2, (hb.cell (p := ⟨g, _, none⟩) hg).trans d3⟩)
        have hkk : (k : Int) < u.length := by omega
        have hjl : (j : Int) < u.length := by omega
        have hw1 : IntKind.i64.wrap ((u.length : Int) - 1) = (u.length : Int) - 1 := IntWalk.i64_in _ (by omega)
        have hw2 : IntKind.i64.wrap ((u.length : Int) - 1 - k) = (j : Int) := by
          rw [show (u.length : Int) - 1 - k = (j : Int) by omega]
          exact IntWalk.i64_in _ (by omega)
        clear hx hz hzr hg c0 c1 c2 c3 c4 d0 d1 d2 d3 hfx hfz hz0 hz1 hy0 hy1 hrl hpl hkr hsh' hj
        go_wp2_with fail
        refine wp_region_held_drew (S := fun w' => w'.cell? ⟨g, k * 5, none⟩ = some (.string x.e.key) ∧ w'.cell? ⟨g, k * 5 + 1, none⟩ = some (.string x.e.val) ∧ w'.cell? ⟨g, k * 5 + 2, none⟩ = some (.int .u64 (x.e.seq : Int)) ∧ w'.cell? ⟨g, k * 5 + 3, none⟩ = some (.bool x.e.gone) ∧ w'.cell? ⟨g, k * 5 + 4, none⟩ = some (.int .i64 x.h) ∧ w'.cell? ⟨g, j * 5, none⟩ = some (.string z.e.key) ∧ w'.cell? ⟨g, j * 5 + 1, none⟩ = some (.string z.e.val) ∧ w'.cell? ⟨g, j * 5 + 2, none⟩ = some (.int .u64 (z.e.seq : Int)) ∧ w'.cell? ⟨g, j * 5 + 3, none⟩ = some (.bool z.e.gone)) (by kernel_rfl) (HCS.out _ HB.out.drew) (fun hH => ?_)
        refine wpAnyH_take (i := 0) (v := ?v0) rfl (by kernel_rfl) (by kernel_rfl) (by kernel_rfl) (fun _ _ _ h => h) (Or.inl ⟨by kernel_rfl, ?y0⟩) (by assumption) ?_; case y0 => (intro w' hS; obtain ⟨s0, s1, s2, s3, s4, t0, t1, t2, t3⟩ := hS; go_simp; try with_reducible rfl)
        simp only [Act.put, List.setIfInBounds_toArray, List.set_cons_zero, List.set_cons_succ]
        refine wpAnyH_take (i := 1) (v := ?v1) rfl (by kernel_rfl) (by kernel_rfl) (by kernel_rfl) (fun _ _ _ h => h) (Or.inl ⟨by kernel_rfl, ?y1⟩) (by assumption) ?_; case y1 => (intro w' hS; obtain ⟨s0, s1, s2, s3, s4, t0, t1, t2, t3⟩ := hS; go_simp; try with_reducible rfl)
        simp only [Act.put, List.setIfInBounds_toArray, List.set_cons_zero, List.set_cons_succ]
        refine wpAnyH_take (i := 2) (v := ?v2) rfl (by kernel_rfl) (by kernel_rfl) (by kernel_rfl) (fun _ _ _ h => h) (Or.inl ⟨by kernel_rfl, ?y2⟩) (by assumption) ?_; case y2 => (intro w' hS; obtain ⟨s0, s1, s2, s3, s4, t0, t1, t2, t3⟩ := hS; go_simp; try with_reducible rfl)
        simp only [Act.put, List.setIfInBounds_toArray, List.set_cons_zero, List.set_cons_succ]
        refine wpAnyH_take (i := 3) (v := ?v3) rfl (by kernel_rfl) (by kernel_rfl) (by kernel_rfl) (fun _ _ _ h => h) (Or.inl ⟨by kernel_rfl, ?y3⟩) (by assumption) ?_; case y3 => (intro w' hS; obtain ⟨s0, s1, s2, s3, s4, t0, t1, t2, t3⟩ := hS; go_simp; try with_reducible rfl)
        simp only [Act.put, List.setIfInBounds_toArray, List.set_cons_zero, List.set_cons_succ]
        refine wpAnyH_take (i := 4) (v := ?v4) rfl (by kernel_rfl) (by kernel_rfl) (by kernel_rfl) (fun _ _ _ h => h) (Or.inl ⟨by kernel_rfl, ?y4⟩) (by assumption) ?_; case y4 => (intro w' hS; obtain ⟨s0, s1, s2, s3, s4, t0, t1, t2, t3⟩ := hS; go_simp; try with_reducible rfl)
        simp only [Act.put, List.setIfInBounds_toArray, List.set_cons_zero, List.set_cons_succ]
        refine wpAnyH_take (i := 5) (v := ?v5) rfl (by kernel_rfl) (by kernel_rfl) (by kernel_rfl) (fun _ _ _ h => h) (Or.inl ⟨by kernel_rfl, ?y5⟩) (by assumption) ?_; case y5 => (intro w' hS; obtain ⟨s0, s1, s2, s3, s4, t0, t1, t2, t3⟩ := hS; go_simp; try with_reducible rfl)
        simp only [Act.put, List.setIfInBounds_toArray, List.set_cons_zero, List.set_cons_succ]
        refine wpAnyH_take (i := 6) (v := ?v6) rfl (by kernel_rfl) (by kernel_rfl) (by kernel_rfl) (fun _ _ _ h => h) (Or.inl ⟨by kernel_rfl, ?y6⟩) (by assumption) ?_; case y6 => (intro w' hS; obtain ⟨s0, s1, s2, s3, s4, t0, t1, t2, t3⟩ := hS; go_simp; try with_reducible rfl)
        simp only [Act.put, List.setIfInBounds_toArray, List.set_cons_zero, List.set_cons_succ]
        refine wpAnyH_take (i := 7) (v := ?v7) rfl (by kernel_rfl) (by kernel_rfl) (by kernel_rfl) (fun _ _ _ h => h) (Or.inl ⟨by kernel_rfl, ?y7⟩) (by assumption) ?_; case y7 => (intro w' hS; obtain ⟨s0, s1, s2, s3, s4, t0, t1, t2, t3⟩ := hS; go_simp; try with_reducible rfl)
        simp only [Act.put, List.setIfInBounds_toArray, List.set_cons_zero, List.set_cons_succ]
        refine wpAnyH_take (i := 8) (v := ?v8) rfl (by kernel_rfl) (by kernel_rfl) (by kernel_rfl) (fun _ _ _ h => h) (Or.inl ⟨by kernel_rfl, ?y8⟩) (by assumption) ?_; case y8 => (intro w' hS; obtain ⟨s0, s1, s2, s3, s4, t0, t1, t2, t3⟩ := hS; go_simp; try with_reducible rfl)
        simp only [Act.put, List.setIfInBounds_toArray, List.set_cons_zero, List.set_cons_succ]
        refine wpAnyH_take (i := 9) (v := ?v9) rfl (by kernel_rfl) (by kernel_rfl) (by kernel_rfl) (fun _ _ _ h => h) (Or.inl ⟨by kernel_rfl, ?y9⟩) (by assumption) ?_; case y9 => (intro w' hS; obtain ⟨s0, s1, s2, s3, s4, t0, t1, t2, t3⟩ := hS; go_simp; try with_reducible rfl)
        simp only [Act.put, List.setIfInBounds_toArray, List.set_cons_zero, List.set_cons_succ]
        refine wpAnyH_take (i := 10) (v := ?v10) rfl (by kernel_rfl) (by kernel_rfl) (by kernel_rfl) (fun _ _ _ h => h) (Or.inl ⟨by kernel_rfl, ?y10⟩) (by assumption) ?_; case y10 => (intro w' hS; obtain ⟨s0, s1, s2, s3, s4, t0, t1, t2, t3⟩ := hS; go_simp; try with_reducible rfl)
        simp only [Act.put, List.setIfInBounds_toArray, List.set_cons_zero, List.set_cons_succ]
        refine wpAnyH_ready (rs := [11]) (by kernel_rfl) (by simp) ?_
        refine AllReadyH.cons rfl (fun K hK => ?_) AllReadyH.nil
        go_simp
        refine (HPUT.out _ (drew_below (Below.refl _ _))).mono ?_
        rintro y w5 ⟨rfl, h5, hb5⟩
        have H5 := Lib.hid h5
        have B5 : Hid (Below w2.heap.size w2 w5) := Lib.hid (HB.out.drew.trans hb5)
        clear h5 hb5
        refine hK.out _ _ (HCS.out _ B5.out) (fun hH => ?_)
        clear hK K HPUT
        try simp only [Act.put, List.setIfInBounds_toArray, List.set_cons_zero, List.set_cons_succ]
        refine wpAnyH_take (i := 12) (v := ?v12) rfl (by kernel_rfl) (by kernel_rfl) (by kernel_rfl) (fun _ _ _ h => h) (Or.inl ⟨by kernel_rfl, ?y12⟩) (by assumption) ?_; case y12 => (intro w' hS; obtain ⟨s0, s1, s2, s3, s4, t0, t1, t2, t3⟩ := hS; go_simp; try with_reducible rfl)
        simp only [Act.put, List.setIfInBounds_toArray, List.set_cons_zero, List.set_cons_succ]
        refine wpAnyH_take (i := 13) (v := ?v13) rfl (by kernel_rfl) (by kernel_rfl) (by kernel_rfl) (fun _ _ _ h => h) (Or.inl ⟨by kernel_rfl, ?y13⟩) (by assumption) ?_; case y13 => (intro w' hS; obtain ⟨s0, s1, s2, s3, s4, t0, t1, t2, t3⟩ := hS; go_simp; try with_reducible rfl)
        simp only [Act.put, List.setIfInBounds_toArray, List.set_cons_zero, List.set_cons_succ]
        refine wpAnyH_take (i := 14) (v := ?v14) rfl (by kernel_rfl) (by kernel_rfl) (by kernel_rfl) (fun _ _ _ h => h) (Or.inl ⟨by kernel_rfl, ?y14⟩) (by assumption) ?_; case y14 => (intro w' hS; obtain ⟨s0, s1, s2, s3, s4, t0, t1, t2, t3⟩ := hS; go_simp; try with_reducible rfl)
        simp only [Act.put, List.setIfInBounds_toArray, List.set_cons_zero, List.set_cons_succ]
        refine wpAnyH_take (i := 15) (v := ?v15) rfl (by kernel_rfl) (by kernel_rfl) (by kernel_rfl) (fun _ _ _ h => h) (Or.inl ⟨by kernel_rfl, ?y15⟩) (by assumption) ?_; case y15 => (intro w' hS; obtain ⟨s0, s1, s2, s3, s4, t0, t1, t2, t3⟩ := hS; go_simp; try with_reducible rfl)
        simp only [Act.put, List.setIfInBounds_toArray, List.set_cons_zero, List.set_cons_succ]
        refine wpAnyH_take (i := 16) (v := ?v16) rfl (by kernel_rfl) (by kernel_rfl) (by kernel_rfl) (fun _ _ _ h => h) (Or.inl ⟨by kernel_rfl, ?y16⟩) (by assumption) ?_; case y16 => (intro w' hS; obtain ⟨s0, s1, s2, s3, s4, t0, t1, t2, t3⟩ := hS; go_simp; try with_reducible rfl)
        simp only [Act.put, List.setIfInBounds_toArray, List.set_cons_zero, List.set_cons_succ]
        refine wpAnyH_take (i := 17) (v := ?v17) rfl (by kernel_rfl) (by kernel_rfl) (by kernel_rfl) (fun _ _ _ h => h) (Or.inl ⟨by kernel_rfl, ?y17⟩) (by assumption) ?_; case y17 => (intro w' hS; obtain ⟨s0, s1, s2, s3, s4, t0, t1, t2, t3⟩ := hS; go_simp; try with_reducible rfl)
        simp only [Act.put, List.setIfInBounds_toArray, List.set_cons_zero, List.set_cons_succ]
        refine wpAnyH_take (i := 18) (v := ?v18) rfl (by kernel_rfl) (by kernel_rfl) (by kernel_rfl) (fun _ _ _ h => h) (Or.inl ⟨by kernel_rfl, ?y18⟩) (by assumption) ?_; case y18 => (intro w' hS; obtain ⟨s0, s1, s2, s3, s4, t0, t1, t2, t3⟩ := hS; go_simp; try with_reducible rfl)
        simp only [Act.put, List.setIfInBounds_toArray, List.set_cons_zero, List.set_cons_succ]
        refine wpAnyH_take (i := 19) (v := ?v19) rfl (by kernel_rfl) (by kernel_rfl) (by kernel_rfl) (fun _ _ _ h => h) (Or.inl ⟨by kernel_rfl, ?y19⟩) (by assumption) ?_; case y19 => (intro w' hS; obtain ⟨s0, s1, s2, s3, s4, t0, t1, t2, t3⟩ := hS; go_simp; try with_reducible rfl)
        simp only [Act.put, List.setIfInBounds_toArray, List.set_cons_zero, List.set_cons_succ]
        refine wpAnyH_take (i := 20) (v := ?v20) rfl (by kernel_rfl) (by kernel_rfl) (by kernel_rfl) (fun _ _ _ h => h) (Or.inl ⟨by kernel_rfl, ?y20⟩) (by assumption) ?_; case y20 => (intro w' hS; obtain ⟨s0, s1, s2, s3, s4, t0, t1, t2, t3⟩ := hS; go_simp; try with_reducible rfl)
        simp only [Act.put, List.setIfInBounds_toArray, List.set_cons_zero, List.set_cons_succ]
        refine wpAnyH_take (i := 21) (v := ?v21) rfl (by kernel_rfl) (by kernel_rfl) (by kernel_rfl) (fun _ _ _ h => h) (Or.inl ⟨by kernel_rfl, ?y21⟩) (by assumption) ?_; case y21 => (intro w' hS; obtain ⟨s0, s1, s2, s3, s4, t0, t1, t2, t3⟩ := hS; go_simp; try with_reducible rfl)
        simp only [Act.put, List.setIfInBounds_toArray, List.set_cons_zero, List.set_cons_succ]
        refine wpAnyH_take (i := 22) (v := ?v22) rfl (by kernel_rfl) (by kernel_rfl) (by kernel_rfl) (fun _ _ _ h => h) (Or.inl ⟨by kernel_rfl, ?y22⟩) (by assumption) ?_; case y22 => (intro w' hS; obtain ⟨s0, s1, s2, s3, s4, t0, t1, t2, t3⟩ := hS; go_simp; try with_reducible rfl)
        simp only [Act.put, List.setIfInBounds_toArray, List.set_cons_zero, List.set_cons_succ]
        refine wpAnyH_take (i := 23) (v := ?v23) rfl (by kernel_rfl) (by kernel_rfl) (by kernel_rfl) (fun _ _ _ h => h) (Or.inl ⟨by kernel_rfl, ?y23⟩) (by assumption) ?_; case y23 => (intro w' hS; obtain ⟨s0, s1, s2, s3, s4, t0, t1, t2, t3⟩ := hS; go_simp; try with_reducible rfl)
        simp only [Act.put, List.setIfInBounds_toArray, List.set_cons_zero, List.set_cons_succ]
        refine wpAnyH_take (i := 24) (v := ?v24) rfl (by kernel_rfl) (by kernel_rfl) (by kernel_rfl) (fun _ _ _ h => h) (Or.inl ⟨by kernel_rfl, ?y24⟩) (by assumption) ?_; case y24 => (intro w' hS; obtain ⟨s0, s1, s2, s3, s4, t0, t1, t2, t3⟩ := hS; go_simp; try with_reducible rfl)
        simp only [Act.put, List.setIfInBounds_toArray, List.set_cons_zero, List.set_cons_succ]
        refine wpAnyH_ready (rs := [25]) (by kernel_rfl) (by simp) ?_
        refine AllReadyH.cons rfl (fun K hK => ?_) AllReadyH.nil
        go_simp
        refine (HPB.out _ H5.out B5.out).mono ?_
        rintro y w6 ⟨rfl, h6, hb6⟩
        have H6 := Lib.hid h6
        have B6 : Hid (Below w2.heap.size w2 w6) := Lib.hid (B5.out.trans hb6)
        clear h6 hb6
        refine hK.out _ _ (HCS.out _ B6.out) (fun hH => ?_)
        clear hK K HPB
        try simp only [Act.put, List.setIfInBounds_toArray, List.set_cons_zero, List.set_cons_succ]
        refine wpAnyH_take (i := 26) (v := ?v26) rfl (by kernel_rfl) (by kernel_rfl) (by kernel_rfl) (fun _ _ _ h => h) (Or.inl ⟨by kernel_rfl, ?y26⟩) (by assumption) ?_; case y26 => (intro w' hS; obtain ⟨s0, s1, s2, s3, s4, t0, t1, t2, t3⟩ := hS; go_simp; try with_reducible rfl)
        simp only [Act.put, List.setIfInBounds_toArray, List.set_cons_zero, List.set_cons_succ]
        refine wpAnyH_take (i := 27) (v := ?v27) rfl (by kernel_rfl) (by kernel_rfl) (by kernel_rfl) (fun _ _ _ h => h) (Or.inl ⟨by kernel_rfl, ?y27⟩) (by assumption) ?_; case y27 => (intro w' hS; obtain ⟨s0, s1, s2, s3, s4, t0, t1, t2, t3⟩ := hS; go_simp; try with_reducible rfl)
        simp only [Act.put, List.setIfInBounds_toArray, List.set_cons_zero, List.set_cons_succ]
        refine wpAnyH_done (by kernel_rfl) ?_ _
        go_wp2_with fail
        go_roundw
        case rel => exact ⟨k + 1, _, _, _, _, by omega, by go_num, H6, HZ1, HY1, B6⟩
        case measure => simp [intOf]; omega
      · obtain rfl : k = u.length := by omega
        obtain ⟨W0, hW0⟩ : ∃ W0 : World, W0 = wr := ⟨_, rfl⟩
        subst hW0
        have hub : u.take u.length = u := List.take_of_length_le (Nat.le_refl _)
        have hur : u.reverse.take u.length = u.reverse := List.take_of_length_le (by rw [List.length_reverse]; exact Nat.le_refl _)
        have hrl := len_of_ents HE.out (Nat.le_refl _)
        have hpl := len_of_ents HP.out (by rw [List.length_reverse]; exact Nat.le_refl _)
        rw [hub] at HE
        rw [hur] at HP
        have hrev : entsQ u.reverse = (entsQ u).reverse := List.map_reverse
        have hm : ∀ e, e ∈ ents s ↔ e ∈ ents t := fun e => by rw [← HH.out.one.ents_mem e, ← HH.out.two.ents_mem e, HE.out, HP.out, hrev, List.mem_reverse]
        have hst : ents s = ents t := ents_same HH.out.one.placed HH.out.two.placed hm
        have hsame : atL s K.data.toList q = atL t K.data.toList q := at_same HH.out.one.placed HH.out.two.placed hq fun e _ _ => hm e
        have hrg : rangeL s F.data.toList T.data.toList = rangeL t F.data.toList T.data.toList := by unfold rangeL; rw [hst]
        have hnw : newestL (ents p) = newestL (ents r) := by rw [HP.out, HE.out, hrev, newest_rev]
        have hby : bytesL (ents p) = bytesL (ents r) := by rw [HP.out, HE.out, hrev, bytes_rev]
        have HA1 := Lib.hid (has_at HH.out.one K q (by omega) hq)
        have HA2 := Lib.hid (fun W (hb : Below W0.heap.size W0 W) => has_at (HH.out.below hb).two K q (by omega) hq)
        have HR1 := Lib.hid (fun W (hb : Below W0.heap.size W0 W) => has_range (HH.out.below hb).one F T (by omega))
        have HR2 := Lib.hid (fun W (hb : Below W0.heap.size W0 W) => has_range (HH.out.below hb).two F T (by omega))
        have HN1 := Lib.hid (fun W (hb : Below W0.heap.size W0 W) => has_newest (HH.out.below hb).one)
        have HN2 := Lib.hid (fun W (hb : Below W0.heap.size W0 W) => has_newest (HH.out.below hb).two)
        have HY1 := Lib.hid (fun W (hb : Below W0.heap.size W0 W) => has_bytes (HH.out.below hb).one)
        have HY2 := Lib.hid (fun W (hb : Below W0.heap.size W0 W) => has_bytes (HH.out.below hb).two)
        obtain ⟨L1, l1, l1'⟩ := HH.out.one.list
        obtain ⟨L2, l2, l2'⟩ := HH.out.two.list
        have HLC : Hid (∀ W, Below W0.heap.size W0 W → W.cell? ⟨a, 0, none⟩ = some (.pointer (some ⟨L1.b, 0, none⟩)) ∧ W.cell? ⟨b, 0, none⟩ = some (.pointer (some ⟨L2.b, 0, none⟩))) := Lib.hid (fun W hb => ⟨cell_below hb l1, cell_below hb l2⟩)
        have HL1 : Hid (∀ W, Below W0.heap.size W0 W → Calls Try.prog 18 #[.pointer (some ⟨L1.b, 0, none⟩)] W fun e w' => e = .returned (.int .i64 (u.length : Int)) ∧ w' = W) := Lib.hid (fun W hb => by have h := Sm.len_any (l1'.below hb); rw [hrl] at h; exact h)
        have HL2 : Hid (∀ W, Below W0.heap.size W0 W → Calls Try.prog 18 #[.pointer (some ⟨L2.b, 0, none⟩)] W fun e w' => e = .returned (.int .i64 (u.length : Int)) ∧ w' = W) := Lib.hid (fun W hb => by have h := Sm.len_any (l2'.below hb); rw [hpl] at h; exact h)
        rw [← hsame] at HA2
        rw [← hrg] at HR2
        rw [hnw] at HN2
        rw [hby] at HY2
        have HPAIR := Lib.hid (range_pairs HH.out.one.placed F.data.toList T.data.toList)
        have HIN := Lib.hid (fun e (he : e ∈ rangeL s F.data.toList T.data.toList) => (List.mem_filter.1 he).2)
        have HRL : Hid ((rangeL s F.data.toList T.data.toList).length ≤ 100) := Lib.hid (by
          have h1 : (rangeL s F.data.toList T.data.toList).length ≤ (ents s).length := List.length_filter_le ..
          have h2 : (ents s).length = s.length := by unfold ents; rw [List.length_map]
          have h3 := HH.out.one.kin.len
          have h4 := HUL.out
          omega)
        generalize atL s K.data.toList q = o at *
        generalize rangeL s F.data.toList T.data.toList = R at *
        generalize newestL (ents r) = N at *
        generalize bytesL (ents r) = Y at *
        clear hub hur hkn hk hm hst hsame hrg hnw hby hrl hpl hrev l1 l1' l2 l2'
        have B8 : Hid (∀ {W : World}, Below W0.heap.size W0 W → Below w.heap.size w W) := Lib.hid (fun hb => B2.out.trans ((HB.out.trans (hb.mono HB.out.size)).mono B2.out.size))
        obtain ⟨ek, ev, es, eg, vb, hve⟩ : ∃ (ek ev : ByteArray) (es : Nat) (eg vb : Bool), atV o = .tuple #[.agg #[.string ek, .string ev, .int .u64 (es : Int), .bool eg], .bool vb] := by
          cases o with
          | none => exact ⟨_, _, 0, _, _, rfl⟩
          | some e => exact ⟨_, _, _, _, _, rfl⟩
        rw [hve] at HA1 HA2
        clear hve
        go_wp2_with fail
        refine HA1.out.mono ?_
        rintro e w5 ⟨rfl, hb5⟩
        have B5 := Lib.hid hb5
        clear hb5
        go_wp2_with fail
        obtain ⟨w6, hw6⟩ : ∃ w6, w6 = w5.alloc (.cells #[.string ek, .string ev, .int .u64 (es : Int), .bool eg] 32) := ⟨_, rfl⟩
        rw [← hw6]
        have hb6 : Below w5.heap.size w5 w6 := by rw [hw6]; exact alloc_below w5 _
        have hx6 : w6.heap[w5.heap.size]? = some (.cells #[.string ek, .string ev, .int .u64 (es : Int), .bool eg] 32 (0, 0)) := by rw [hw6]; exact heap_alloc_new w5 _
        have B6 := Lib.hid (Below.next B5.out hb6)
        clear hw6 hb6
        refine (HA2.out _ B6.out).mono ?_
        rintro e w7 ⟨rfl, hb7⟩
        have B7 := Lib.hid (Below.next B6.out hb7)
        have HX7 := Lib.hid ((hb7.block _ (heap_lt hx6)).trans hx6)
        clear hb7 hx6 HA1 HA2
        go_wp2_with fail
        obtain ⟨w8, hw8⟩ : ∃ w8, w8 = w7.alloc (.cells #[.string ek, .string ev, .int .u64 (es : Int), .bool eg] 32) := ⟨_, rfl⟩
        rw [← hw8]
        have hb8 : Below w7.heap.size w7 w8 := by rw [hw8]; exact alloc_below w7 _
        have hx8 : w8.heap[w7.heap.size]? = some (.cells #[.string ek, .string ev, .int .u64 (es : Int), .bool eg] 32 (0, 0)) := by rw [hw8]; exact heap_alloc_new w7 _
        have B9 := Lib.hid (Below.next B7.out hb8)
        have HXY : Hid (w8.heap[w5.heap.size]? = some (.cells #[.string ek, .string ev, .int .u64 (es : Int), .bool eg] 32 (0, 0)) ∧ w8.heap[w7.heap.size]? = some (.cells #[.string ek, .string ev, .int .u64 (es : Int), .bool eg] 32 (0, 0))) := Lib.hid ⟨(hb8.block _ (heap_lt HX7.out)).trans HX7.out, hx8⟩
        clear hw8 hb8 hx8
        refine (HR1.out _ B9.out).mono ?_
        rintro e w9 ⟨v1, rfl, ho1, hb9⟩
        have HO1 := Lib.hid ho1
        have B10 := Lib.hid (Below.next B9.out hb9)
        have HXZ : Hid (∀ W, Below w9.heap.size w9 W → W.heap[w5.heap.size]? = some (.cells #[.string ek, .string ev, .int .u64 (es : Int), .bool eg] 32 (0, 0)) ∧ W.heap[w7.heap.size]? = some (.cells #[.string ek, .string ev, .int .u64 (es : Int), .bool eg] 32 (0, 0))) := Lib.hid (fun W hb => by
          obtain ⟨h1, h2⟩ := HXY.out
          have h3 := (hb9.block _ (heap_lt h1)).trans h1
          have h4 := (hb9.block _ (heap_lt h2)).trans h2
          exact ⟨(hb.block _ (heap_lt h3)).trans h3, (hb.block _ (heap_lt h4)).trans h4⟩)
        clear ho1 hb9 HXY HX7
        obtain ⟨a9, c9, e9⟩ := row_any HO1.out
        subst e9
        obtain ⟨q0, q1, q2, q3, _⟩ := box4 (HXZ.out w9 (Below.refl _ _)).1
        obtain ⟨r0, r1, r2, r3, _⟩ := box4 (HXZ.out w9 (Below.refl _ _)).2
        go_wp2_with fail
        refine (HR2.out _ B10.out).mono ?_
        rintro e w10 ⟨v2, rfl, ho2, hb10⟩
        have HO2 := Lib.hid ho2
        have HO3 := Lib.hid (HO1.out.below hb10)
        have B11 := Lib.hid (Below.next B10.out hb10)
        clear ho2 hb10 q0 q1 q2 q3 r0 r1 r2 r3
        go_wp2_with fail
        refine (same_any _ HO3.out HO2.out (Nat.le_trans HRL.out (by omega))).mono ?_
        rintro e w11 ⟨rfl, hb11⟩
        have B12 := Lib.hid (Below.next B11.out hb11)
        have HO4 := Lib.hid (HO3.out.below hb11)
        clear hb11
        go_wp2_with fail
        refine (HN1.out _ B12.out).mono ?_
        rintro e w12 ⟨rfl, hw12⟩
        subst hw12
        go_wp2_with fail
        refine (HN2.out _ B12.out).mono ?_
        rintro e w12 ⟨rfl, hw12⟩
        subst hw12
        go_wp2_with fail
        refine (HY1.out _ B12.out).mono ?_
        rintro e w12 ⟨rfl, hw12⟩
        subst hw12
        go_wp2_with fail
        refine (HY2.out _ B12.out).mono ?_
        rintro e w12 ⟨rfl, hw12⟩
        subst hw12
        obtain ⟨y1, y2⟩ := HLC.out _ B12.out
        go_wp2_with fail
        refine (HL1.out _ B12.out).mono ?_
        rintro e w12 ⟨rfl, hw12⟩
        subst hw12
        go_wp2_with fail
        refine (HL2.out _ B12.out).mono ?_
        rintro e w12 ⟨rfl, hw12⟩
        subst hw12
        clear y1 y2
        go_wp2_with fail
        go_loopw [22] (fun i wi => ∃ k : Nat, k ≤ R.length ∧ i = .int .i64 (k : Int) ∧ Hid (Below w12.heap.size w12 wi)) (fun i _ => R.length - (intOf i).toNat)
        case atStart => exact ⟨0, Nat.zero_le _, rfl, Lib.hid (Below.refl _ _)⟩
        case round =>
          obtain ⟨k, hk, rfl, HBW⟩ := hrel
          by_cases hkn : k < R.length
          · obtain ⟨x, hx⟩ : ∃ x, R[k]? = some x := ⟨R[k]'hkn, List.getElem?_eq_getElem _⟩
            obtain ⟨g1, p1, e1, _, hg1, _, _, c0', _, c2', _⟩ := HO4.out.get hx
            have HGT := Lib.hid (fun (j : Nat) (z : Ent) (hz : R[j]? = some z) => HO4.out.get hz)
            simp only [Value.slice.injEq] at e1
            obtain ⟨rfl, _, rfl⟩ := e1
            have c0 := (HBW.out.cell (p := ⟨g1, k * 4, none⟩) hg1).trans c0'
            have c2 := (HBW.out.cell (p := ⟨g1, k * 4 + 2, none⟩) hg1).trans c2'
            have hin := HIN.out x (List.mem_of_getElem? hx)
            unfold inR okTo at hin
            rw [Bool.and_eq_true, Bool.not_eq_true', Bool.or_eq_true] at hin
            obtain ⟨hin1, hin2⟩ := hin
            have hlF : Op.bytesLess x.key.toList F.toList = false := by rw [less_eq, ByteArray.toList_eq, ByteArray.toList_eq]; exact hin1
            have hlT : T.toList.isEmpty = true ∨ T.toList.isEmpty = false ∧ Op.bytesLess x.key.toList T.toList = true := by
              by_cases he : T.toList.isEmpty = true
              · exact Or.inl he
              · refine Or.inr ⟨by simpa using he, ?_⟩
                rw [less_eq, ByteArray.toList_eq, ByteArray.toList_eq]
                rcases hin2 with h2 | h2
                · rw [ByteArray.toList_eq] at he; exact absurd h2 he
                · exact h2
            have hrl : (R.length : Int) ≤ 100 := by have := HRL.out; omega
            have key : k = 0 ∨ ∃ (j : Nat) (z : Ent), (0 : Int) < k ∧ k = j + 1 ∧ (j : Int) < R.length ∧ wr.cell? ⟨g1, j * 4, none⟩ = some (.string z.key) ∧ wr.cell? ⟨g1, j * 4 + 2, none⟩ = some (.int .u64 (z.seq : Int)) ∧ (bytesBefore z.key.data.toList x.key.data.toList = true ∨ z.key = x.key ∧ (x.seq : Int) < z.seq) := by
              cases k with
              | zero => exact Or.inl rfl
              | succ j =>
                have hj : j < R.length := by omega
                obtain ⟨z, hz⟩ : ∃ z, R[j]? = some z := ⟨R[j]'hj, List.getElem?_eq_getElem _⟩
                obtain ⟨g2, p2, e2, _, hg2, _, _, d0, _, d2, _⟩ := HGT.out j z hz
                have hgg : g1 = g2 := by injection e2 with e3; injection e3 with e4; injection e4
                subst hgg
                have ha := List.pairwise_iff_getElem.1 HPAIR.out j (j + 1) hj hkn (by omega)
                rw [(List.getElem?_eq_some_iff.1 hx).2, (List.getElem?_eq_some_iff.1 hz).2] at ha
                unfold aheadE ahead at ha
                rw [Bool.or_eq_true, Bool.and_eq_true, beq_iff_eq, decide_eq_true_eq] at ha
                refine Or.inr ⟨j, z, by omega, ?_, by omega, (HBW.out.cell (p := ⟨g1, j * 4, none⟩) hg1).trans d0, (HBW.out.cell (p := ⟨g1, j * 4 + 2, none⟩) hg1).trans d2, ?_⟩
                · rfl
                · rcases ha with h1 | ⟨h1, h2⟩
                  · exact Or.inl h1
                  · exact Or.inr ⟨WideShapes.bytes_inj h1, by omega⟩
            clear hx hin1 hin2 c0' c2' hg1
            obtain ⟨xk, xv, xs, xg⟩ := x
            dsimp only at c0 c2 hlF hlT key
            rcases key with hk0 | ⟨j, ⟨zk, zv, zs, zg⟩, hk0, hwj, hjl, d0, d2, hcmp⟩
            · subst hk0
              simp only [Nat.zero_mul, Nat.zero_add] at c0 c2
              have hkk : (0 : Int) < R.length := by omega
              rcases hlT with hem | ⟨hem, hlT⟩
              all_goals
                go_wp2_with fail
                go_quiet (fail)
                go_wp2_with fail
                go_roundw
                case rel => exact ⟨1, by omega, by go_num, by first | exact HBW | exact Lib.hid (below_drewN HBW.out _)⟩
                case measure => simp [intOf]; omega
            · dsimp only at d0 d2 hcmp
              subst hwj
              have hkk : (j : Int) + 1 < R.length := by omega
              have hk0 : (0 : Int) < (j : Int) + 1 := by omega
              have hwj : IntKind.i64.wrap ((j : Int) + 1 - 1) = (j : Int) := by rw [show (j : Int) + 1 - 1 = (j : Int) by omega]; exact IntWalk.i64_in _ (by omega)
              have hwk : (j : Int) + 1 - 1 = (j : Int) := by omega
              rcases hcmp with hlt | ⟨heq, hlt⟩
              · obtain ⟨hc1, hc2⟩ := cmp_gt (a := xk) (b := zk) hlt
                clear hlt
                rcases hlT with hem | ⟨hem, hlT⟩
                all_goals
                  go_wp2_with fail
                  go_quiet (fail)
                  go_wp2_with fail
                  go_roundw
                  case rel => exact ⟨j + 1 + 1, by omega, by go_num, by first | exact HBW | exact Lib.hid (below_drewN HBW.out _)⟩
                  case measure => simp [intOf]; omega
              · subst heq
                have hc1 : Op.bytesLess zk.toList zk.toList = false := by rw [less_eq]; exact Bool.eq_false_iff.2 (lt_irr _)
                rcases hlT with hem | ⟨hem, hlT⟩
                all_goals
                  go_wp2_with fail
                  go_quiet (fail)
                  go_wp2_with fail
                  go_roundw
                  case rel => exact ⟨j + 1 + 1, by omega, by go_num, by first | exact HBW | exact Lib.hid (below_drewN HBW.out _)⟩
                  case measure => simp [intOf]; omega
          · obtain rfl : k = R.length := by omega
            have B13 : Hid (Below W0.heap.size W0 wr) := Lib.hid (Below.next B12.out HBW.out)
            have HST : Hid (Sto W0.heap.size wr (.slice a9 R.length c9) R) := Lib.hid (Sto.of (HO4.out.below HBW.out) B9.out.size)
            obtain ⟨W1, hW1⟩ : ∃ W1 : World, W1 = wr := ⟨_, rfl⟩
            subst hW1
            clear hkn hk
            go_wp2_with fail
            go_loopw [23] (fun i wi => ∃ k : Nat, k ≤ R.length ∧ i = .int .i64 (k : Int) ∧ Hid (Below W0.heap.size W0 wi) ∧ Hid (Sto W0.heap.size wi (.slice a9 R.length c9) R)) (fun i _ => R.length - (intOf i).toNat)
            case atStart => exact ⟨0, Nat.zero_le _, rfl, B13, HST⟩
            case round =>
              obtain ⟨k, hk, rfl, HBV, HSV⟩ := hrel
              by_cases hkn : k < R.length
              · obtain ⟨g1, p1, y, e1, hbg, hc, hf⟩ := HSV.out k hkn
                have HBG := Lib.hid hbg
                simp only [Value.slice.injEq] at e1
                obtain ⟨rfl, _, rfl⟩ := e1
                have hkk : (k : Int) < R.length := by omega
                have hrl : (R.length : Int) ≤ 100 := by have := HRL.out; omega
                clear hbg
                go_wp2_with fail
                go_roundw
                case rel => exact ⟨k + 1, by omega, by go_num, Lib.hid (HBV.out.setCell (p := ⟨g1, k * 4, none⟩) HBG.out _), Lib.hid (HSV.out.set _ _)⟩
                case measure => simp [intOf]; omega
              · obtain rfl : k = R.length := by omega
                go_wp2_with fail
                refine (HR1.out _ HBV.out).mono ?_
                rintro e w13 ⟨v3, rfl, ho3, hb13⟩
                have HO5 := Lib.hid ho3
                have B14 := Lib.hid (Below.next HBV.out hb13)
                clear ho3 hb13
                go_wp2_with fail
                refine (HR2.out _ B14.out).mono ?_
                rintro e w14 ⟨v4, rfl, ho4, hb14⟩
                have HO6 := Lib.hid ho4
                have HO7 := Lib.hid (HO5.out.below hb14)
                have B15 := Lib.hid (Below.next B14.out hb14)
                clear ho4 hb14
                go_wp2_with fail
                refine (same_any _ HO7.out HO6.out (Nat.le_trans HRL.out (by omega))).mono ?_
                rintro e w15 ⟨rfl, hb15⟩
                have B16 := Lib.hid (Below.next B15.out hb15)
                clear hb15
                go_wp2_with fail
                refine (HAW.out _).mono ?_
                rintro e w16 ⟨rfl, hb16⟩
                have B17 := Lib.hid (B8.out (Below.next B16.out hb16))
                clear hb16
                go_wp2_with fail
                go_ret
                exact ⟨rfl, B17.out⟩

end Go.Proofs.Ythopadoabdiooaa.Mm

/- The walk of List.path over a list that lies in memory. -/
import Derived.Test.YtmdnmabbphnhaaaSmA
import Derived.Deep.Draws
import Derived.Deep.WholeRow
namespace Go.Proofs.Ytmdnmabbphnhaaa.Sm
open Go.Proofs.Ytmdnmabbphnhaaa.Sk
open Go Go.RowKit
set_option linter.unusedVariables false

/-- The place of the last key of a level's row that is below a key. -/
def lastp (ks : List Str) (sh : Sh) (K : Str) (j : Nat) : Nat := plo ks ((sh.filter fun y => bytesBefore y.1 K && decide (j < y.2)).getLast?)
theorem lastp_stop {ks : List Str} {A B : Sh} {K : Str} {j : Nat} (hA : ∀ y ∈ A, bytesBefore y.1 K = true) (hl : ∀ y, A.getLast? = some y → j < y.2) (hB : ∀ z ∈ B, j < z.2 → bytesBefore z.1 K = false) : lastp ks (A ++ B) K j = plo ks A.getLast? := by
  unfold lastp
  have e : B.filter (fun y => bytesBefore y.1 K && decide (j < y.2)) = [] := by
    rw [List.filter_eq_nil_iff]
    intro z hz
    simp only [Bool.and_eq_true, decide_eq_true_eq, not_and]
    intro h1 h2
    rw [hB z hz h2] at h1
    cases h1
  rw [List.filter_append, e, List.append_nil]
  rcases List.eq_nil_or_concat A with rfl | ⟨A', p, rfl⟩
  · rfl
  · have hp := hl p (by simp)
    have hq := hA p (by simp)
    rw [List.concat_eq_append, List.filter_append, List.filter_cons_of_pos (by simp [hp, hq])]
    simp
/-- The array of path, from a level on. -/
def prow (ks : List Str) (sh : Sh) (K : Str) (m : Nat) : List Value := (List.range 12).map fun i => .int .i64 ((if m ≤ i then lastp ks sh K i else 0 : Nat) : Int)
theorem range_set {n m : Nat} {f g : Nat → Value} {v : Value} (hv : g m = v) (h : ∀ i, i ≠ m → g i = f i) : ((List.range n).map f).toArray.setIfInBounds m v = ((List.range n).map g).toArray := by
  rw [List.setIfInBounds_toArray]
  congr 1
  apply List.ext_getElem?
  intro i
  rw [List.getElem?_set]
  by_cases e : m = i
  · subst e
    rw [if_pos rfl, List.length_map, List.length_range]
    by_cases hn : m < n
    · rw [if_pos hn, List.getElem?_map, List.getElem?_range hn, Option.map_some, hv]
    · rw [if_neg hn, List.getElem?_map, List.getElem?_eq_none (by rw [List.length_range]; omega)]; rfl
  · rw [if_neg e, List.getElem?_map, List.getElem?_map]
    cases h2 : (List.range n)[i]? with
    | none => rfl
    | some k =>
      rw [List.getElem?_eq_some_iff] at h2
      obtain ⟨h3, h4⟩ := h2
      rw [List.getElem_range] at h4
      subst h4
      simp only [Option.map_some, h i (fun e2 => e e2.symm)]
theorem prow_set {ks : List Str} {sh : Sh} {K : Str} {m : Nat} : (prow ks sh K (m + 1)).toArray.setIfInBounds m (.int .i64 (lastp ks sh K m : Int)) = (prow ks sh K m).toArray :=
  range_set (by rw [if_pos (Nat.le_refl m)]) fun i hi => by
    by_cases h3 : m + 1 ≤ i
    · rw [if_pos h3, if_pos (by omega)]
    · rw [if_neg h3, if_neg (by omega)]
theorem prow_new (ks : List Str) (sh : Sh) (K : Str) : prow ks sh K 12 = List.replicate 12 (.int .i64 0) := by
  unfold prow
  rw [List.map_congr_left (g := fun _ => Value.int .i64 0) (fun i hi => by rw [if_neg (by simp at hi; omega)]; rfl)]
  rfl

theorem plo_last (ks : List Str) (A : Sh) (p : Str × Nat) : plo ks (A ++ [p]).getLast? = plc ks p.1 := by simp [plo]
theorem shape_up {s : List (It Ent)} (h : Up s) : (shape s).Pairwise fun a b => bytesBefore a.1 b.1 = true := by
  unfold shape
  rw [List.pairwise_map]
  exact h
theorem up_split {A B : Sh} {p : Str × Nat} (h : (A ++ p :: B).Pairwise fun a b => bytesBefore a.1 b.1 = true) : (∀ a ∈ A, bytesBefore a.1 p.1 = true) ∧ (∀ b ∈ B, bytesBefore p.1 b.1 = true) := by
  rw [List.pairwise_append] at h
  exact ⟨fun a ha => h.2.2 a ha p (by simp), fun b hb => List.rel_of_pairwise_cons h.2.1 hb⟩

/-- What path has come to: all of A is below the key, and the place is that of its last one. -/
structure Come (sh : Sh) (K : Str) (m : Nat) (A B : Sh) : Prop where
  eq : sh = A ++ B
  low : ∀ y ∈ A, bytesBefore y.1 K = true
  tall : ∀ y, A.getLast? = some y → m ≤ y.2
theorem Come.next {sh : Sh} {K : Str} {m : Nat} {A B1 B2 : Sh} {p : Str × Nat} (hu : sh.Pairwise fun a b => bytesBefore a.1 b.1 = true) (h : Come sh K m A (B1 ++ p :: B2)) (hp : m ≤ p.2) (hk : bytesBefore p.1 K = true) : Come sh K m (A ++ B1 ++ [p]) B2 := by
  have e : sh = A ++ B1 ++ p :: B2 := by rw [h.eq]; simp
  refine ⟨by rw [e]; simp, fun y hy => ?_, fun y hy => ?_⟩
  · simp only [List.mem_append, List.mem_singleton] at hy
    rcases hy with (hy | hy) | rfl
    · exact h.low y hy
    · rw [e] at hu
      exact lt_trans ((up_split hu).1 y (List.mem_append_right _ hy)) hk
    · exact hk
  · simp only [List.getLast?_append, List.getLast?_singleton, Option.some_or, Option.some.injEq] at hy
    subst hy
    exact hp
theorem Come.end {ks : List Str} {sh : Sh} {K : Str} {j : Nat} {A B : Sh} (h : Come sh K (j + 1) A B) (hB : ∀ z ∈ B, j < z.2 → bytesBefore z.1 K = false) : lastp ks sh K j = plo ks A.getLast? := by
  rw [h.eq]
  exact lastp_stop h.low (fun y hy => h.tall y hy) hB
theorem Come.stop {ks : List Str} {sh : Sh} {K : Str} {j : Nat} {A B1 B2 : Sh} {p : Str × Nat} (hu : sh.Pairwise fun a b => bytesBefore a.1 b.1 = true) (h : Come sh K (j + 1) A (B1 ++ p :: B2)) (hk : bytesBefore p.1 K = false) (h1 : ∀ z ∈ B1, ¬ j < z.2) : lastp ks sh K j = plo ks A.getLast? := by
  refine h.end fun z hz hj => ?_
  have e : sh = A ++ B1 ++ p :: B2 := by rw [h.eq]; simp
  rw [e] at hu
  rcases List.mem_append.1 hz with hz | hz
  · exact absurd hj (h1 z hz)
  · rcases List.mem_cons.1 hz with rfl | hz
    · exact hk
    · cases e2 : bytesBefore z.1 K with
      | false => rfl
      | true => rw [lt_trans ((up_split hu).2 z hz) e2] at hk; cases hk
theorem Come.down {sh : Sh} {K : Str} {m : Nat} {A B : Sh} (h : Come sh K (m + 1) A B) : Come sh K m A B := ⟨h.eq, h.low, fun y hy => by have := h.tall y hy; omega⟩

theorem below_drewN {B : Nat} {a w : World} (h : Below B a w) (q : Nat) : Below B a (w.drewN q) := ⟨h.os, h.tape, h.output, h.size, h.block⟩
/-- The row of the array stays. -/
theorem prow_cell {w : World} {b : Nat} {ks : List Str} {sh : Sh} {K : Str} {m : Nat} {t : TypeId} (h : w.heap[b]? = some (.cells (prow ks sh K m).toArray t (0, 0))) (j : Nat) (hj : j < 12) : ∃ v, w.cell? ⟨b, j, none⟩ = some v := by
  rw [cell_of h]
  simp [prow, hj]

theorem prow_cells {w : World} {b : Nat} {ks : List Str} {sh : Sh} {K : Str} {t : TypeId} (h : w.heap[b]? = some (.cells (prow ks sh K 0).toArray t (0, 0))) (j : Nat) (hj : j < 12) : w.cell? ⟨b, j, none⟩ = some (.int .i64 (lastp ks sh K j : Int)) := by
  rw [cell_of h]
  simp [prow, hj]
theorem prow_nought (ks : List Str) (sh : Sh) (K : Str) : (prow ks sh K 0).toArray = #[.int .i64 (lastp ks sh K 0 : Int), .int .i64 (lastp ks sh K 1 : Int), .int .i64 (lastp ks sh K 2 : Int), .int .i64 (lastp ks sh K 3 : Int), .int .i64 (lastp ks sh K 4 : Int), .int .i64 (lastp ks sh K 5 : Int), .int .i64 (lastp ks sh K 6 : Int), .int .i64 (lastp ks sh K 7 : Int), .int .i64 (lastp ks sh K 8 : Int), .int .i64 (lastp ks sh K 9 : Int), .int .i64 (lastp ks sh K 10 : Int), .int .i64 (lastp ks sh K 11 : Int)] := rfl
theorem setCell_self {w : World} {b k : Nat} {cs : Array Value} {t : TypeId} {v : Value} (h : w.heap[b]? = some (.cells cs t (0, 0))) (hk : cs[k]? = some v) : w.setCell ⟨b, k, none⟩ v = w := by
  have e : (w.setCell ⟨b, k, none⟩ v).heap = w.heap := by
    unfold World.setCell
    apply Array.ext_getElem?
    intro i
    show (w.heap.modify b _)[i]? = _
    rw [Array.getElem?_modify]
    by_cases hi : b = i
    · subst hi
      rw [if_pos rfl, h]
      simp only [Option.map_some, Option.isSome_none, Bool.false_eq_true, if_false]
      have e2 : cs.setIfInBounds k v = cs := by
        apply Array.ext_getElem?
        intro i
        rw [Array.getElem?_setIfInBounds]
        by_cases e3 : k = i
        · subst e3
          rw [if_pos rfl]
          split
          · exact hk.symm
          · rename_i h4; rw [Array.getElem?_eq_none (by omega)]
        · rw [if_neg e3]
      rw [e2]
    · rw [if_neg hi]
  exact congrArg (fun h => { w with heap := h }) e
theorem prow_self {w : World} {b : Nat} {ks : List Str} {sh : Sh} {K : Str} {t : TypeId} (h : w.heap[b]? = some (.cells (prow ks sh K 0).toArray t (0, 0))) (j : Nat) (hj : j < 12) : w.setCell ⟨b, j, none⟩ (.int .i64 (lastp ks sh K j : Int)) = w :=
  setCell_self h (by simp [prow, hj])
theorem info_path : (Try.prog.info? 66).map (·.size) = some 12 := by kernel_rfl
theorem Lies.drewN {α : Type} {cv : α → Ent} {w : World} {L : Lay} {s r : List (It α)} (h : Lies cv w L s r) (q : Nat) : Lies cv (w.drewN q) L s r := h.frame fun _ _ => rfl
/-- How much of a row is left from a place on. -/
def left (ks : List Str) (sh : Sh) (p : Nat) : Nat := (sh.dropWhile fun y => plc ks y.1 != p).length
theorem plc_ne {ks : List Str} {a b : Str} (ha : a ∈ ks) (hb : b ∈ ks) (h : a ≠ b) : plc ks a ≠ plc ks b := by
  obtain ⟨i, h1, _, h2⟩ := plc_get ha
  obtain ⟨k, h3, _, h4⟩ := plc_get hb
  intro e
  obtain rfl : i = k := by omega
  rw [h2] at h4
  exact h (Option.some.inj h4)
theorem left_at {ks : List Str} {sh A B : Sh} {p : Str × Nat} (e : sh = A ++ p :: B) (hu : sh.Pairwise fun a b => bytesBefore a.1 b.1 = true) (hk : ∀ y ∈ sh, y.1 ∈ ks) : left ks sh (plc ks p.1) = B.length + 1 := by
  subst e
  unfold left
  have h1 : ∀ a ∈ A, (plc ks a.1 != plc ks p.1) = true := fun a ha => by
    simp only [bne_iff_ne]
    exact plc_ne (hk a (by simp [ha])) (hk p (by simp)) (lt_ne ((up_split hu).1 a ha))
  rw [List.dropWhile_append_of_pos h1, List.dropWhile_cons_of_neg (by simp)]
  rfl
theorem left_zero (ks : List Str) (sh : Sh) : left ks sh 0 = 0 := by
  unfold left
  have h1 : ∀ a ∈ sh, (plc ks a.1 != 0) = true := fun a _ => by simp [plc]
  have := List.dropWhile_append_of_pos (l₂ := []) h1
  rw [List.append_nil] at this
  rw [this]
  rfl
theorem left_nxt {ks : List Str} {sh A B : Sh} (e : sh = A ++ B) (hu : sh.Pairwise fun a b => bytesBefore a.1 b.1 = true) (hk : ∀ y ∈ sh, y.1 ∈ ks) (j : Nat) : left ks sh (nxt ks j B) ≤ B.length := by
  by_cases h0 : nxt ks j B = 0
  · rw [h0, left_zero]; omega
  · obtain ⟨B1, p, B2, rfl, h1, _⟩ := nxt_some h0
    rw [h1, left_at (A := A ++ B1) (B := B2) (by rw [e]; simp) hu hk, List.length_append, List.length_cons]
    omega

set_option maxHeartbeats 4000000 in
set_option maxRecDepth 100000 in
theorem path_any {w : World} {L : Lay} {s r : List (It Ent)} (h : ListS w L s r) (K : ByteArray) :
    Calls Try.prog 39 #[.pointer (some ⟨L.b, 0, none⟩), .string K] w fun e w' => e = .returned (.agg (prow (keys r) (shape s) K.data.toList 0).toArray) ∧ Below w.heap.size w w' := by
  have hb := heap_lt h.box
  have HU := Lib.hid (shape_up h.kin.up)
  have HH := Lib.hid h; clear h
  have hKL : Hid (K.toList = K.data.toList) := Lib.hid (ByteArray.toList_eq K)
  obtain ⟨R, hR⟩ : ∃ R, R = (prow (keys r) (shape s) K.data.toList 0).toArray := ⟨_, rfl⟩
  rw [← hR]
  have HRR := Lib.hid hR; clear hR
  go_enter Try.func39, Try.ntmps39
  go_wp2_with fail
  go_loopw [5, 6] (fun p lv wr => ∃ (m : Nat) (A B : Sh), m ≤ 12 ∧ lv = .int .i64 ((m : Int) - 1) ∧ p = .int .i64 (plo (keys r) A.getLast? : Int) ∧ Come (shape s) K.data.toList m A B ∧ Below w.heap.size w wr ∧ wr.heap[w.heap.size]? = some (.cells (prow (keys r) (shape s) K.data.toList m).toArray 66 (0, 0))) (fun _ lv _ => (intOf lv + 1).toNat)
  case atStart =>
    refine ⟨12, [], shape s, Nat.le_refl _, rfl, rfl, ⟨rfl, by simp, by simp⟩, (Below.refl _ _).alloc (Nat.le_refl _) _, ?_⟩
    rw [heap_alloc_new, prow_new]
    rfl
  case round =>
    obtain ⟨m, A, B, hm, rfl, rfl, hcome, hbel, hrow⟩ := hrel
    have hsz := hbel.size
    cases m with
    | zero =>
      have HB := Lib.hid hbel
      have HP := Lib.hid (prow_nought (keys r) (shape s) K.data.toList)
      have hc := prow_cells hrow
      have c0 := hc 0 (by omega); have c1 := hc 1 (by omega); have c2 := hc 2 (by omega); have c3 := hc 3 (by omega)
      have c4 := hc 4 (by omega); have c5 := hc 5 (by omega); have c6 := hc 6 (by omega); have c7 := hc 7 (by omega)
      have c8 := hc 8 (by omega); have c9 := hc 9 (by omega); have c10 := hc 10 (by omega); have c11 := hc 11 (by omega)
      have HL : Hid ((loadVar 66 ⟨w.heap.size, 0, none⟩).run Try.prog wr = .ok (.agg R) wr) := Lib.hid (by
        rw [HRR.out]
        exact run_loadVar_row wr _ 66 _ _ (0, 0) _ hrow Try.underlying66 rfl info_path)
      have hs := prow_self hrow
      have g0 := Lib.hid (hs 0 (by omega)); have g1 := Lib.hid (hs 1 (by omega)); have g2 := Lib.hid (hs 2 (by omega)); have g3 := Lib.hid (hs 3 (by omega))
      have g4 := Lib.hid (hs 4 (by omega)); have g5 := Lib.hid (hs 5 (by omega)); have g6 := Lib.hid (hs 6 (by omega)); have g7 := Lib.hid (hs 7 (by omega))
      have g8 := Lib.hid (hs 8 (by omega)); have g9 := Lib.hid (hs 9 (by omega)); have g10 := Lib.hid (hs 10 (by omega)); have g11 := Lib.hid (hs 11 (by omega))
      have f := unfrozen_of hrow
      have f0 := f 0; have f1 := f 1; have f2 := f 2; have f3 := f 3; have f4 := f 4; have f5 := f 5; have f6 := f 6; have f7 := f 7; have f8 := f 8; have f9 := f 9; have f10 := f 10; have f11 := f 11
      clear hbel hcome hrow hc f hs
      generalize lastp (keys r) (shape s) K.data.toList 0 = p0 at *
      generalize lastp (keys r) (shape s) K.data.toList 1 = p1 at *
      generalize lastp (keys r) (shape s) K.data.toList 2 = p2 at *
      generalize lastp (keys r) (shape s) K.data.toList 3 = p3 at *
      generalize lastp (keys r) (shape s) K.data.toList 4 = p4 at *
      generalize lastp (keys r) (shape s) K.data.toList 5 = p5 at *
      generalize lastp (keys r) (shape s) K.data.toList 6 = p6 at *
      generalize lastp (keys r) (shape s) K.data.toList 7 = p7 at *
      generalize lastp (keys r) (shape s) K.data.toList 8 = p8 at *
      generalize lastp (keys r) (shape s) K.data.toList 9 = p9 at *
      generalize lastp (keys r) (shape s) K.data.toList 10 = p10 at *
      generalize lastp (keys r) (shape s) K.data.toList 11 = p11 at *
      go_wp2_with fail
      rw [g0.out, g1.out, g2.out, g3.out, g4.out, g5.out, g6.out, g7.out, g8.out, g9.out, g10.out, g11.out]
      refine bodyPost_ret (v := .agg R) ?_ rfl ⟨rfl, HB.out⟩
      have hl := HL.out
      simp [results, Try.results39, asAddr, hl]
    | succ j =>
      have e1 : ((j + 1 : Nat) : Int) - 1 = j := by omega
      rw [e1]
      have hj : (j : Int) < 12 := by omega
      have HB := Lib.hid hbel
      have HLS := Lib.hid (HH.out.below hbel)
      have HR := Lib.hid hrow
      obtain ⟨g, off, n, hc, _, hcell⟩ := links_any HLS.out hcome.eq
      obtain ⟨hj1, hj2⟩ := hcell j (fun y hy => hcome.tall y hy) (by omega)
      have hjn : (j : Int) < n := by omega
      have HCO := Lib.hid hcome; have HC := Lib.hid hc
      clear hbel hcome hrow hc hcell
      go_wp2_with fail
      refine HC.out.mono ?_
      rintro e w1 ⟨rfl, rfl⟩
      go_wp2_with fail
      go_loopw [5, 7] (fun p nx wr2 => ∃ (A B : Sh) (q : Nat), p = .int .i64 (plo (keys r) A.getLast? : Int) ∧ nx = .int .i64 (nxt (keys r) j B : Int) ∧ Come (shape s) K.data.toList (j + 1) A B ∧ wr2 = w1.drewN q) (fun _ nx _ => left (keys r) (shape s) (intOf nx).toNat)
      case atStart => exact ⟨A, B, 0, rfl, rfl, HCO.out, rfl⟩
      case round =>
        obtain ⟨A2, B2, q, rfl, rfl, hcome, rfl⟩ := hrel
        have HCO := Lib.hid hcome
        have hsto := prow_cell (HR.out) j (by omega)
        obtain ⟨v0, hv0⟩ := hsto
        have hv1 := unfrozen_of (HR.out) j
        have HD : Hid (∀ v, lastp (keys r) (shape s) K.data.toList j = v → ((w1.drewN q).setCell ⟨w.heap.size, j, none⟩ (.int .i64 (v : Int))).heap[w.heap.size]? = some (.cells (prow (keys r) (shape s) K.data.toList j).toArray 66 (0, 0))) := Lib.hid (fun v hv => by
          subst hv
          rw [← prow_set]
          exact heap_setCell_same (w1.drewN q) w.heap.size j _ _ _ HR.out)
        have HBD : Hid (∀ v, Below w.heap.size w ((w1.drewN q).setCell ⟨w.heap.size, j, none⟩ v)) := Lib.hid (fun v => (below_drewN HB.out q).setCell (p := ⟨w.heap.size, j, none⟩) (Nat.le_refl _) _)
        by_cases h0 : nxt (keys r) j B2 = 0
        · have HE : Hid (lastp (keys r) (shape s) K.data.toList j = plo (keys r) A2.getLast?) := Lib.hid (hcome.end fun z hz hj => absurd hj (nxt_zero.1 h0 z hz))
          rw [h0]
          generalize hpl : plo (keys r) A2.getLast? = pl at *
          have HPL := Lib.hid hpl
          clear hcome h0 hpl hj2
          go_wp2_with fail
          go_roundw
          case rel => exact ⟨j, A2, B2, by omega, rfl, by rw [HPL.out], HCO.out.down, HBD.out _, HD.out _ HE.out⟩
          case measure => simp [intOf]
        · obtain ⟨B1, p, B3, hB, hn, hjp, hB1⟩ := nxt_some h0
          have hsh : shape s = A2 ++ B1 ++ p :: B3 := by rw [hcome.eq, hB]; simp
          obtain ⟨y, hy, rfl⟩ := shape_of hsh
          rw [hn]
          obtain ⟨gn, i, hc, c0, _, _, _, _, _⟩ := nodeAt_any (HLS.out.drewN q) hy
          have hp := plc_pos (keys r) y.key
          have hpl := HLS.out.plc_le hy
          have HC2 := Lib.hid hc
          have HLE : Hid (Op.bytesLess (txt y.key).toList K.toList = bytesBefore y.key K.data.toList) := Lib.hid (by rw [less_eq, txt_list, hKL.out])
          rw [World.cell?_drewN] at c0
          subst hB
          cases hk : bytesBefore y.key K.data.toList with
          | false =>
            have HE : Hid (lastp (keys r) (shape s) K.data.toList j = plo (keys r) A2.getLast?) := Lib.hid (hcome.stop HU.out hk hB1)
            have hle := HLE.out
            rw [hk] at hle
            generalize hpx : plo (keys r) A2.getLast? = pl at *
            generalize plc (keys r) y.key = pc at *
            have HPL := Lib.hid hpx
            have hne : ¬ (pc : Int) = 0 := by omega
            clear hcome hpx hj2 h0 hn hc hsh hk
            go_wp2_with fail
            refine HC2.out.mono ?_
            rintro e w2 ⟨rfl, rfl⟩
            go_wp2_with fail
            go_roundw
            case rel => exact ⟨j, A2, _, by omega, rfl, by rw [HPL.out], HCO.out.down, HBD.out _, HD.out _ HE.out⟩
            case measure => simp [intOf]
          | true =>
            have hle := HLE.out
            rw [hk] at hle
            have HN := Lib.hid (HCO.out.next HU.out (by show j + 1 ≤ y.h; exact hjp) hk)
            have HLT : Hid (left (keys r) (shape s) (nxt (keys r) j B3) < left (keys r) (shape s) (plc (keys r) y.key)) := Lib.hid (by
              have h1 := left_at (ks := keys r) hsh HU.out (fun z hz => HLS.out.keys_in (A := []) rfl z hz)
              have h2 := left_nxt (ks := keys r) (A := A2 ++ B1 ++ [(y.key, y.h)]) (B := B3) (by rw [hsh]; simp) HU.out (fun z hz => HLS.out.keys_in (A := []) rfl z hz) j
              rw [h1]; omega)
            have HL2 := Lib.hid (fun q => linksAt_any (HLS.out.drewN q) hy)
            have hlk := HLS.out.link hsh hjp
            have HPE : Hid (plo (keys r) (A2 ++ B1 ++ [(y.key, y.h)]).getLast? = plc (keys r) y.key) := Lib.hid (plo_last ..)
            have hjy : (j : Int) < y.h := by have : j < y.h := hjp; omega
            generalize plc (keys r) y.key = pc at *
            generalize hnx : nxt (keys r) j B3 = nx at *
            have HNX := Lib.hid hnx
            have hne : ¬ (pc : Int) = 0 := by omega
            clear hcome hj2 h0 hn hc hsh hk HD HBD hv0 hv1 hB1 hnx
            go_wp2_with fail
            refine HC2.out.mono ?_
            rintro e w2 ⟨rfl, rfl⟩
            go_wp2_with fail
            go_quiet (first | (go_at_call 32; refine (HL2.out _).mono ?_; rintro e wz ⟨rfl, rfl⟩; exact ⟨rfl, _, rfl⟩))
            go_wp2_with fail
            go_roundw
            case rel => exact ⟨_, B3, q + nq, by rw [HPE.out], by rw [HNX.out], HN.out, World.drewN_drewN _ _ _⟩
            case measure => exact HLT.out

end Go.Proofs.Ytmdnmabbphnhaaa.Sm

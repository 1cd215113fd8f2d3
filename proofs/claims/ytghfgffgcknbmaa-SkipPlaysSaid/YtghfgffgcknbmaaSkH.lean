/- The walk of List.Set over a list that lies in memory. -/
import Derived.Test.YtghfgffgcknbmaaSkG
namespace Go.Proofs.Ytghfgffgcknbmaa.Sk
open Go Go.RowKit
set_option linter.unusedVariables false

theorem ownsRow_set {w : World} {base : Nat} {e : TypeId} {z n : Nat} {v : Value} {xs : List Value} (h : w.ownsRow base e z v n xs) {g : Nat} (hg : v.ownBlock = some g) (k : Nat) (u : Value) : (w.setCell ⟨g, k, none⟩ u).ownsRow base e z v n (xs.set k u) := by
  obtain ⟨h1, h2⟩ := h
  refine ⟨by rw [List.length_set]; exact h1, ?_⟩
  rcases h2 with ⟨rfl, h2⟩ | ⟨g', cap, cur, rfl, hb, hh, hn, hm, hs, ht⟩
  · simp [Value.ownBlock] at hg
  · obtain rfl : g' = g := by simpa [Value.ownBlock] using hg
    refine Or.inr ⟨g', cap, cur.setIfInBounds k u, rfl, hb, heap_setCell_same w g' k _ _ _ hh, hn, hm, by simpa using hs, ?_⟩
    rw [← ht, Array.toList_setIfInBounds, List.take_set]
theorem flat_set {β : Type} {f : β → List Value} {z : Nat} (hf : ∀ y, (f y).length = z) {y y' : β} {c : Nat} {u : Value} (hc : c < z) (hy : f y' = (f y).set c u) : ∀ (C D : List β), ((C ++ y :: D).flatMap f).set (C.length * z + c) u = (C ++ y' :: D).flatMap f
  | [], D => by
    rw [List.nil_append, List.nil_append, List.flatMap_cons, List.flatMap_cons, hy, List.length_nil, Nat.zero_mul, Nat.zero_add, List.set_append_left _ _ (by rw [hf]; exact hc)]
  | x :: C, D => by
    rw [List.cons_append, List.cons_append, List.flatMap_cons, List.flatMap_cons, List.length_cons, List.set_append_right _ _ (by rw [hf, Nat.add_mul]; omega), hf, show (C.length + 1) * z + c - z = C.length * z + c by rw [Nat.add_mul]; omega, flat_set hf hc hy C D]
section
variable {α : Type}
theorem put_old {x : It α} {A B : List (It α)} {y : It α} (hA : ∀ z ∈ A, bytesBefore z.key x.key = true) (hy : y.key = x.key) : put x (A ++ y :: B) = A ++ ⟨x.key, x.val, y.h⟩ :: B := by
  induction A with
  | nil => rw [List.nil_append, put, if_pos hy]; rfl
  | cons z A ih =>
    have hz := hA z (by simp)
    rw [List.cons_append, put, if_neg (lt_ne hz), if_pos hz, ih fun w hw => hA w (by simp [hw])]
    rfl
theorem rput_old {x : It α} {C D : List (It α)} {y : It α} (hC : ∀ z ∈ C, z.key ≠ x.key) (hy : y.key = x.key) : rput x (C ++ y :: D) = C ++ ⟨x.key, x.val, y.h⟩ :: D := by
  induction C with
  | nil => rw [List.nil_append, rput, if_pos hy]; rfl
  | cons z C ih =>
    rw [List.cons_append, rput, if_neg (hC z (by simp)), ih fun w hw => hC w (by simp [hw])]
    rfl
end
/-- A value is another one. -/
theorem Lies.revalue {w : World} {L : Lay} {A B r : List (It ByteArray)} {y : It ByteArray} (h : ListS w L (A ++ y :: B) r) (x : It ByteArray) (hA : ∀ z ∈ A, bytesBefore z.key x.key = true) (hy : y.key = x.key) {i g : Nat} (hi : r[i]? = some y) (hg : L.vec.ownBlock = some g) :
    ListS (w.setCell ⟨g, i * 3 + 1, none⟩ (.string x.val)) L (put x (A ++ y :: B)) (rput x r) := by
  have hil : i < r.length := (List.getElem?_eq_some_iff.1 hi).1
  obtain ⟨C, D, hr, hCl⟩ : ∃ C D, r = C ++ y :: D ∧ C.length = i := by
    refine ⟨r.take i, r.drop (i + 1), ?_, by rw [List.length_take]; omega⟩
    have e := (List.getElem?_eq_some_iff.1 hi).2
    rw [← e, List.getElem_cons_drop, List.take_append_drop]
  have hC : ∀ z ∈ C, z.key ≠ x.key := fun z hz e => by
    have ho : One (C ++ y :: D) := by rw [← hr]; exact h.kin.one
    have := (List.pairwise_append.1 ho).2.2 z hz y (by simp)
    exact this (e.trans hy.symm)
  have hk := h.kin.put x
  have e1 := put_old (B := B) hA hy
  have e2 : rput x r = C ++ ⟨x.key, x.val, y.h⟩ :: D := by rw [hr]; exact rput_old hC hy
  have hsh : shape (put x (A ++ y :: B)) = shape (A ++ y :: B) := by rw [e1]; simp [shape, hy]
  have hks : keys (rput x r) = keys r := by rw [e2, hr]; simp [keys, hy]
  have hm : ∀ z ∈ put x (A ++ y :: B), z ∈ A ++ y :: B ∨ z = ⟨x.key, x.val, y.h⟩ := fun z hz => by
    rw [e1] at hz
    simp only [List.mem_append, List.mem_cons] at hz ⊢
    rcases hz with h1 | h1 | h1
    · exact Or.inl (Or.inl h1)
    · exact Or.inr h1
    · exact Or.inl (Or.inr (Or.inr h1))
  have hym : y ∈ A ++ y :: B := by simp
  have hgb : g ≠ L.b := by
    obtain ⟨cs, e⟩ := ownsRow_obj h.row hg
    exact (obj_cells_ne h.box e (by decide)).symm
  refine ⟨hk, fun z hz => ?_, fun z hz => ?_, ?_, ?_, ?_, fun S k q T e => ?_, fun z hz u hu hzu => ?_⟩
  · rcases hm z hz with h1 | rfl
    · exact h.hgt z h1
    · exact h.hgt y hym
  · rcases hm z hz with h1 | rfl
    · exact h.small z h1
    · rw [show (⟨x.key, x.val, y.h⟩ : It ByteArray).key = y.key from hy.symm]; exact h.small y hym
  · have : (rput x r).length = r.length := by rw [e2, hr]; simp
    rw [this]; exact h.few
  · rw [setCell_kept _ _ _ (Ne.symm hgb), hsh, hks]; exact h.box
  · have hl : (rput x r).length = r.length := by rw [e2, hr]; simp
    rw [hl]
    have := ownsRow_set h.row hg (i * 3 + 1) (.string x.val)
    rw [hr] at this
    rw [← hCl, flat_set (y' := ⟨x.key, x.val, y.h⟩) (nodeCells_length cvS L.loc) (by omega) (by unfold nodeCells; rw [hy]; rfl) C D] at this
    rw [e2, hr, ← hCl]
    exact this
  · rw [hsh] at e
    rw [hks]
    have ht := h.tower S k q T e
    rw [setCell_kept _ _ _ ?_, ht]
    obtain ⟨cs, e3⟩ := ownsRow_obj h.row hg
    exact obj_cells_ne ht e3 (by decide)
  · have hz' : ∀ z ∈ put x (A ++ y :: B), ∃ z' ∈ A ++ y :: B, z'.key = z.key := fun z hz => by
      rcases hm z hz with h1 | rfl
      · exact ⟨z, h1, rfl⟩
      · exact ⟨y, hym, hy⟩
    obtain ⟨z', h1, h2⟩ := hz' z hz
    obtain ⟨u', h3, h4⟩ := hz' u hu
    rw [← h2, ← h4]
    exact h.apart z' h1 u' h3 (by rw [h2, h4]; exact hzu)

/-- A height as an int says it. -/
def clampH (h : Int) : Nat := (min (max h 1) 12).toNat

theorem clamp_eq (H : Int) : ((clampH H : Nat) : Int) = min (max H 1) 12 := by unfold clampH; omega
theorem clamp_in (H : Int) : 1 ≤ clampH H ∧ clampH H ≤ 12 := by unfold clampH; omega

theorem slice_path (W : World) (b : Nat) (H : Int) : (Instr.sliceAt 28 (.pointer (some ⟨b, 0, none⟩)) none (some (.int .i64 (min (max H 1) 12))) none).run Try.prog W = .ok (.slice (some ⟨b, 0, none⟩) (clampH H) 12) W := by
  have hl : Try.prog.arrayLen 28 = 12 := by kernel_rfl
  have hc := clamp_eq H
  have h1 : (0 : Int) ≤ min (max H 1) 12 := by omega
  have h2 : min (max H 1) 12 ≤ Try.prog.arrayLen 28 := by rw [hl]; omega
  have hn : (min (max H 1) 12).toNat = clampH H := by omega
  have hz : (sizeOf (Try.prog.elem 28)).run Try.prog W = .ok 1 W := by
    have e1 : Try.prog.elem 28 = 3 := by kernel_rfl
    obtain ⟨i0, hi, hz0, hz1, hz2⟩ := info_parts info_int
    rw [e1]
    simp [sizeOf, typeInfo, hi, hz1]
  have hu : Try.prog.underlying 28 = some (.array (Try.prog.arrayLen 28) (Try.prog.elem 28)) := by kernel_rfl
  rw [run_sliceAt_array_h W 28 ⟨b, 0, none⟩ hu .i64 _ h1 h2, hz, hn, hl]
  rfl

set_option maxHeartbeats 4000000 in
set_option maxRecDepth 100000 in
theorem set_any {w : World} {L : Lay} {s r : List (It ByteArray)} (h : ListS w L s r) (K : ByteArray) (V : ByteArray) (H : Int) (hK : K.size ≤ 1000000) (hr : r.length < 100000) :
    Calls Try.prog 13 #[.pointer (some ⟨L.b, 0, none⟩), .string K, .string V, .int .i64 H] w fun e w' => e = .returned (.bool (find K.data.toList s).isNone) ∧ ∃ L', L'.b = L.b ∧ ListS w' L' (put ⟨K.data.toList, V, clampH H⟩ s) (rput ⟨K.data.toList, V, clampH H⟩ r) ∧ Turns (Own L s) w w' ∧
      ∀ b, Own L' (put ⟨K.data.toList, V, clampH H⟩ s) b → Own L s b ∨ w.heap.size ≤ b := by
  have HP := Lib.hid (path_any h K)
  obtain ⟨A, B, hs, hA, hB, hsk⟩ := cutAt h.kin.up K.data.toList
  have HPN := Lib.hid (prow_nought (keys r) (shape s) K.data.toList)
  have hlast : lastp (keys r) (shape s) K.data.toList 0 = plo (keys r) (shape A).getLast? := by
    rw [hs, shape_append]
    refine lastp_stop (fun y hy => ?_) (fun y hy => ?_) (fun z hz _ => ?_)
    · obtain ⟨z, hz, rfl⟩ := shape_mem hy
      exact hA z hz
    · obtain ⟨z, hz, rfl⟩ := shape_mem (List.mem_of_getLast? hy)
      exact (h.hgt z (by rw [hs]; exact List.mem_append_left _ hz)).1
    · obtain ⟨y, hy, rfl⟩ := shape_mem hz
      exact hB y hy
  have HT : Hid (∀ y, (shape A).getLast? = some y → 0 < y.2) := Lib.hid (fun y hy => by
    obtain ⟨z, hz, rfl⟩ := shape_mem (List.mem_of_getLast? hy)
    exact (h.hgt z (by rw [hs]; exact List.mem_append_left _ hz)).1)
  have HN : Hid (nxt (keys r) 0 (shape B) = plI r (seek K.data.toList s)) := Lib.hid (by rw [hsk]; exact plI_shape r B (fun y hy => (h.hgt y (by rw [hs]; exact List.mem_append_right _ hy)).1))
  have HH := Lib.hid h
  have HLK : Hid (∀ W : World, Below w.heap.size w W → ∃ g off n, Calls Try.prog 34 #[.pointer (some ⟨L.b, 0, none⟩), .int .i64 (lastp (keys r) (shape s) K.data.toList 0 : Int)] W (fun e w' => e = .returned (.slice (some ⟨g, off, none⟩) n n) ∧ w' = W) ∧ 0 < n ∧
      W.cell? ⟨g, off, none⟩ = some (.int .i64 (plI r (seek K.data.toList s) : Int))) := Lib.hid (fun W hb => by
    obtain ⟨g, off, n, h1, _, h2⟩ := links_any (HH.out.below hb) (A := shape A) (B := shape B) (by rw [hs, shape_append])
    obtain ⟨h3, h4⟩ := h2 0 HT.out (by omega)
    rw [HN.out, Nat.add_zero] at h4
    rw [hlast]
    exact ⟨g, off, n, h1, h3, h4⟩)
  have HI := Lib.hid (fun W (hb : Below w.heap.size w W) => isAtO_any (HH.out.below hb) (seek K.data.toList s) (fun y hy => seek_mem hy) K)
  have HFS := Lib.hid (find_seek (K := K.data.toList) h.kin.up)
  have hbl : L.b < w.heap.size := heap_lt h.box
  rw [HPN.out] at HP
  by_cases hk : ∃ y, seek K.data.toList s = some y ∧ y.key = K.data.toList
  · obtain ⟨y, hy, hk⟩ := hk
    have HF : Hid ((find K.data.toList s).isNone = false) := Lib.hid (by rw [HFS.out, hy]; dsimp only; rw [if_pos hk]; rfl)
    rw [HF.out]
    have hym := seek_mem hy
    have HN2 := Lib.hid (fun W (hb : Below w.heap.size w W) => nodeAt_any (HH.out.below hb) hym)
    have HRV : Hid (∀ W : World, Below w.heap.size w W → ∀ i g, r[i]? = some y → L.vec.ownBlock = some g → ListS (W.setCell ⟨g, i * 3 + 1, none⟩ (.string V)) L (put ⟨K.data.toList, V, clampH H⟩ s) (rput ⟨K.data.toList, V, clampH H⟩ r)) := Lib.hid (fun W hb i g hi hg => by
      rw [hsk] at hy
      cases B with
      | nil => cases hy
      | cons y' B =>
        obtain rfl : y' = y := Option.some.inj hy
        have h1 := HH.out.below hb
        rw [hs] at h1
        have := Lies.revalue h1 ⟨K.data.toList, V, clampH H⟩ hA hk hi hg
        rw [hs]
        exact this)
    have HOWN : Hid (∀ b, Own L (put ⟨K.data.toList, V, clampH H⟩ s) b → Own L s b) := Lib.hid (fun b hb => by
      rcases hb with h1 | h1 | ⟨z, hz, rfl⟩
      · exact Or.inl h1
      · exact Or.inr (Or.inl h1)
      · rcases (mem_put HH.out.kin.up z).1 hz with ⟨h2, _⟩ | rfl
        · exact Or.inr (Or.inr ⟨z, h2, rfl⟩)
        · exact Or.inr (Or.inr ⟨y, hym, by rw [hk]⟩))
    rw [hy] at HI HLK
    rw [show isB (some y) K.data.toList = true by simpa [isB] using hk, show plI r (some y) = plc (keys r) y.key from rfl] at HI
    rw [show plI r (some y) = plc (keys r) y.key from rfl] at HLK
    generalize plc (keys r) y.key = pl at *
    clear hs hA hB hsk hlast HT HN HFS hk hy HPN h
    generalize lastp (keys r) (shape s) K.data.toList 0 = p0 at *
    generalize lastp (keys r) (shape s) K.data.toList 1 = p1 at *
    generalize lastp (keys r) (shape s) K.data.toList 2 = p2 at *
    generalize lastp (keys r) (shape s) K.data.toList 3 = p3 at *
    generalize lastp (keys r) (shape s) K.data.toList 4 = p4 at *
    generalize lastp (keys r) (shape s) K.data.toList 5 = p5 at *
    generalize lastp (keys r) (shape s) K.data.toList 6 = p6 at *
    generalize lastp (keys r) (shape s) K.data.toList 7 = p7 at *
    generalize lastp (keys r) (shape s) K.data.toList 8 = p8 at *
    generalize lastp (keys r) (shape s) K.data.toList 9 = p9 at *
    generalize lastp (keys r) (shape s) K.data.toList 10 = p10 at *
    generalize lastp (keys r) (shape s) K.data.toList 11 = p11 at *
    go_enter Try.func13, Try.ntmps13
    go_wp2_with fail
    refine HP.out.mono ?_
    rintro e w1 ⟨rfl, hb1⟩
    have HB : Hid (∀ o, Below w.heap.size w (w1.alloc o)) := Lib.hid (fun o => hb1.alloc hb1.size o)
    clear hb1
    go_wp2_with fail
    obtain ⟨g, off, n, hc, hn, hcell⟩ := HLK.out _ (HB.out _)
    have hn2 : (0 : Int) < n := by omega
    refine hc.mono ?_
    clear hc
    rintro e w2 ⟨rfl, rfl⟩
    go_wp2_with fail
    refine (HI.out _ (HB.out _)).mono ?_
    rintro e w2 ⟨rfl, rfl⟩
    go_wp2_with fail
    obtain ⟨gn, i, hc, d0, d1, d2, d3, d4, d5⟩ := HN2.out _ (HB.out _)
    refine hc.mono ?_
    clear hc
    rintro e w2 ⟨rfl, rfl⟩
    have D := Lib.hid (And.intro d4 d5)
    clear d4 d5 d0 d2
    go_wp2_with fail
    go_ret
    refine ⟨rfl, L, rfl, HRV.out _ (HB.out _) _ _ D.out.2 D.out.1, (Turns.of_below (HB.out _)).trans (Turns.of_setCell (P := fun b => b = gn) _ _ _ rfl) ?_, fun b hb => Or.inl (HOWN.out b hb)⟩
    rintro b rfl
    exact Or.inl (Or.inr (Or.inl D.out.1))
  · have hI : isB (seek K.data.toList s) K.data.toList = false := by
      cases e : seek K.data.toList s with
      | none => rfl
      | some y =>
        unfold isB
        exact beq_false_of_ne fun e2 => hk ⟨y, e, e2⟩
    have HF : Hid ((find K.data.toList s).isNone = true) := Lib.hid (by
      rw [HFS.out]
      cases e : seek K.data.toList s with
      | none => rfl
      | some y => dsimp only; rw [if_neg fun e2 => hk ⟨y, e, e2⟩]; rfl)
    rw [HF.out]
    have hB2 : ∀ y ∈ B, bytesBefore K.data.toList y.key = true := fun y hy => by
      have h1 := hB y hy
      by_cases e : y.key = K.data.toList
      · exfalso
        cases B with
        | nil => cases hy
        | cons z B =>
          rcases List.mem_cons.1 hy with rfl | hy2
          · exact hk ⟨y, hsk, e⟩
          · have hu := h.kin.up
            rw [hs] at hu
            have h2 : Up (z :: B) := List.Pairwise.sublist (List.sublist_append_right A _) hu
            have h3 := h2.head hy2
            rw [e, hB z (by simp)] at h3
            cases h3
      · exact (lt_total e).resolve_left (by rw [h1]; decide)
    have HPUT : Hid (∀ (W : World) (Bp : Nat), Below w.heap.size w W → W.heap[Bp]? = some (.cells (prow (keys r) (shape s) K.data.toList 0).toArray 28 (0, 0)) → Calls Try.prog 37 #[.pointer (some ⟨L.b, 0, none⟩), .string K, .string V, .slice (some ⟨Bp, 0, none⟩) (clampH H) 12] W fun e w' => e = .returned (.tuple #[]) ∧
        ∃ L', L'.b = L.b ∧ ListS w' L' (put ⟨K.data.toList, V, clampH H⟩ s) (rput ⟨K.data.toList, V, clampH H⟩ r) ∧ Turns (Own L s) W w' ∧ ∀ b, Own L' (put ⟨K.data.toList, V, clampH H⟩ s) b → Own L s b ∨ W.heap.size ≤ b) := Lib.hid (fun W Bp hb hbp => by
      have h1 := HH.out.below hb
      rw [hs] at h1 hbp
      have h2 := put_any h1 K V (clampH H) (clamp_in H) hK hA hB2 hr Bp hbp
      have e1 : put ⟨K.data.toList, V, clampH H⟩ (A ++ B) = A ++ ⟨K.data.toList, V, clampH H⟩ :: B := put_new hA hB2
      have e2 : rput ⟨K.data.toList, V, clampH H⟩ r = r ++ [⟨K.data.toList, V, clampH H⟩] := rput_new (fixed_of h1 K V (clampH H) (clamp_in H) hK hA hB2 hr).fresh
      rw [← e1, ← e2, ← hs] at h2
      exact h2)
    rw [hI] at HI
    rw [HPN.out] at HPUT
    have hsl := fun W b => slice_path W b H
    generalize hcl : clampH H = ch at *
    have HCL := Lib.hid hcl
    clear hcl
    generalize plI r (seek K.data.toList s) = pl at *
    clear hs hA hB hsk hlast HT HN HFS hk HPN h hI hB2
    generalize lastp (keys r) (shape s) K.data.toList 0 = p0 at *
    generalize lastp (keys r) (shape s) K.data.toList 1 = p1 at *
    generalize lastp (keys r) (shape s) K.data.toList 2 = p2 at *
    generalize lastp (keys r) (shape s) K.data.toList 3 = p3 at *
    generalize lastp (keys r) (shape s) K.data.toList 4 = p4 at *
    generalize lastp (keys r) (shape s) K.data.toList 5 = p5 at *
    generalize lastp (keys r) (shape s) K.data.toList 6 = p6 at *
    generalize lastp (keys r) (shape s) K.data.toList 7 = p7 at *
    generalize lastp (keys r) (shape s) K.data.toList 8 = p8 at *
    generalize lastp (keys r) (shape s) K.data.toList 9 = p9 at *
    generalize lastp (keys r) (shape s) K.data.toList 10 = p10 at *
    generalize lastp (keys r) (shape s) K.data.toList 11 = p11 at *
    go_enter Try.func13, Try.ntmps13
    go_wp2_with fail
    refine HP.out.mono ?_
    rintro e w1 ⟨rfl, hb1⟩
    have HB : Hid (∀ o, Below w.heap.size w (w1.alloc o)) := Lib.hid (fun o => hb1.alloc hb1.size o)
    clear hb1
    go_wp2_with fail
    obtain ⟨g, off, n, hc, hn, hcell⟩ := HLK.out _ (HB.out _)
    have hn2 : (0 : Int) < n := by omega
    refine hc.mono ?_
    clear hc
    rintro e w2 ⟨rfl, rfl⟩
    go_wp2_with fail
    refine (HI.out _ (HB.out _)).mono ?_
    rintro e w2 ⟨rfl, rfl⟩
    go_wp2_with fail
    refine (HPUT.out _ _ (HB.out _) (heap_alloc_new w1 _)).mono ?_
    rintro e w2 ⟨rfl, L', h1, h2, h3, h4⟩
    have H2 := Lib.hid (And.intro h1 (And.intro h2 (And.intro h3 h4)))
    clear h1 h2 h3 h4
    go_wp2_with fail
    go_ret
    obtain ⟨h1, h2, h3, h4⟩ := H2.out
    refine ⟨rfl, L', h1, h2, (Turns.of_below (HB.out _)).trans h3 (fun b hb => Or.inl hb), fun b hb => ?_⟩
    rcases h4 b hb with h5 | h5
    · exact Or.inl h5
    · exact Or.inr (Nat.le_trans (HB.out _).size h5)

end Go.Proofs.Ytghfgffgcknbmaa.Sk

/- The walk of List.Set over a list that lies in memory. -/
import Derived.Test.YtmdnmabbphnhaaaSmG
namespace Go.Proofs.Ytmdnmabbphnhaaa.Sm
open Go.Proofs.Ytmdnmabbphnhaaa.Sk
open Go Go.RowKit
set_option linter.unusedVariables false

theorem ownsRow_set {w : World} {base : Nat} {e : TypeId} {z n : Nat} {v : Value} {xs : List Value} (h : w.ownsRow base e z v n xs) {g : Nat} (hg : v.ownBlock = some g) (k : Nat) (u : Value) : (w.setCell ⟨g, k, none⟩ u).ownsRow base e z v n (xs.set k u) := by
  obtain ⟨h1, h2⟩ := h
  refine ⟨by rw [List.length_set]; exact h1, ?_⟩
  rcases h2 with ⟨rfl, h2⟩ | ⟨g', cap, cur, rfl, hb, hh, hn, hm, hs, ht⟩
  · simp [Value.ownBlock] at hg
  · obtain rfl : g' = g := by simpa [Value.ownBlock] using hg
    refine Or.inr ⟨g', cap, cur.setIfInBounds k u, rfl, hb, heap_setCell_same w g' k _ _ _ hh, hn, hm, by simpa using hs, ?_⟩
    rw [← ht, Array.toList_setIfInBounds, List.take_set]
theorem flat_set {β : Type} {f : β → List Value} {z : Nat} (hf : ∀ y, (f y).length = z) {y y' : β} {c : Nat} {u : Value} (hc : c < z) (hy : f y' = (f y).set c u) : ∀ (C D : List β), ((C ++ y :: D).flatMap f).set (C.length * z + c) u = (C ++ y' :: D).flatMap f
  | [], D => by
    rw [List.nil_append, List.nil_append, List.flatMap_cons, List.flatMap_cons, hy, List.length_nil, Nat.zero_mul, Nat.zero_add, List.set_append_left _ _ (by rw [hf]; exact hc)]
  | x :: C, D => by
    rw [List.cons_append, List.cons_append, List.flatMap_cons, List.flatMap_cons, List.length_cons, List.set_append_right _ _ (by rw [hf, Nat.add_mul]; omega), hf, show (C.length + 1) * z + c - z = C.length * z + c by rw [Nat.add_mul]; omega, flat_set hf hc hy C D]
section
variable {α : Type}
theorem put_old {x : It α} {A B : List (It α)} {y : It α} (hA : ∀ z ∈ A, bytesBefore z.key x.key = true) (hy : y.key = x.key) : put x (A ++ y :: B) = A ++ ⟨x.key, x.val, y.h⟩ :: B := by
  induction A with
  | nil => rw [List.nil_append, put, if_pos hy]; rfl
  | cons z A ih =>
    have hz := hA z (by simp)
    rw [List.cons_append, put, if_neg (lt_ne hz), if_pos hz, ih fun w hw => hA w (by simp [hw])]
    rfl
theorem rput_old {x : It α} {C D : List (It α)} {y : It α} (hC : ∀ z ∈ C, z.key ≠ x.key) (hy : y.key = x.key) : rput x (C ++ y :: D) = C ++ ⟨x.key, x.val, y.h⟩ :: D := by
  induction C with
  | nil => rw [List.nil_append, rput, if_pos hy]; rfl
  | cons z C ih =>
    rw [List.cons_append, rput, if_neg (hC z (by simp)), ih fun w hw => hC w (by simp [hw])]
    rfl
end
/-- A height as an int says it. -/
def clampH (h : Int) : Nat := (min (max h 1) 12).toNat

theorem clamp_eq (H : Int) : ((clampH H : Nat) : Int) = min (max H 1) 12 := by unfold clampH; omega
theorem clamp_in (H : Int) : 1 ≤ clampH H ∧ clampH H ≤ 12 := by unfold clampH; omega

theorem slice_path (W : World) (b : Nat) (H : Int) : (Instr.sliceAt 66 (.pointer (some ⟨b, 0, none⟩)) none (some (.int .i64 (min (max H 1) 12))) none).run Try.prog W = .ok (.slice (some ⟨b, 0, none⟩) (clampH H) 12) W := by
  have hl : Try.prog.arrayLen 66 = 12 := by kernel_rfl
  have hc := clamp_eq H
  have h1 : (0 : Int) ≤ min (max H 1) 12 := by omega
  have h2 : min (max H 1) 12 ≤ Try.prog.arrayLen 66 := by rw [hl]; omega
  have hn : (min (max H 1) 12).toNat = clampH H := by omega
  have hz : (sizeOf (Try.prog.elem 66)).run Try.prog W = .ok 1 W := by
    have e1 : Try.prog.elem 66 = 3 := by kernel_rfl
    obtain ⟨i0, hi, hz0, hz1, hz2⟩ := info_parts info_int
    rw [e1]
    simp [sizeOf, typeInfo, hi, hz1]
  have hu : Try.prog.underlying 66 = some (.array (Try.prog.arrayLen 66) (Try.prog.elem 66)) := by kernel_rfl
  rw [run_sliceAt_array_h W 66 ⟨b, 0, none⟩ hu .i64 _ h1 h2, hz, hn, hl]
  rfl

set_option linter.unusedSimpArgs false in
set_option maxHeartbeats 4000000 in
set_option maxRecDepth 100000 in
theorem set_any {w00 : World} {L : Lay} {s r : List (It Ent)} (h : ListS w00 L s r) (K : ByteArray) (V : Ent) (H : Int) (hK : K.size ≤ 1000000) (hr : r.length < 100000) (hfree : Sk.find K.data.toList s = none) :
    Calls Try.prog 26 #[.pointer (some ⟨L.b, 0, none⟩), .string K, enV V, .int .i64 H] w00 fun e w' => e = .returned (.bool (find K.data.toList s).isNone) ∧ ∃ L', L'.b = L.b ∧ ListS w' L' (put ⟨K.data.toList, V, clampH H⟩ s) (rput ⟨K.data.toList, V, clampH H⟩ r) ∧ Turns (Own L s) w00 w' ∧
      ∀ b, Own L' (put ⟨K.data.toList, V, clampH H⟩ s) b → Own L s b ∨ w00.heap.size ≤ b := by
  rw [show enV V = .agg #[.string V.key, .string V.val, .int .u64 (V.seq : Int), .bool V.gone] from rfl]
  obtain ⟨w, hw⟩ : ∃ w, w = w00.alloc (.cells #[.string V.key, .string V.val, .int .u64 (V.seq : Int), .bool V.gone] 32) := ⟨_, rfl⟩
  obtain ⟨pb, hpb⟩ : ∃ pb, pb = w00.heap.size := ⟨_, rfl⟩
  suffices hs : Calls Try.prog 26 #[.pointer (some ⟨L.b, 0, none⟩), .string K, .agg #[.string V.key, .string V.val, .int .u64 (V.seq : Int), .bool V.gone], .int .i64 H] w00 (fun e w' => e = .returned (.bool (find K.data.toList s).isNone) ∧ ∃ L', L'.b = L.b ∧ ListS w' L' (put ⟨K.data.toList, V, clampH H⟩ s) (rput ⟨K.data.toList, V, clampH H⟩ r) ∧ Turns (Own L s) w w' ∧
      ∀ b, Own L' (put ⟨K.data.toList, V, clampH H⟩ s) b → Own L s b ∨ w.heap.size ≤ b) by
    refine hs.mono ?_
    rintro e w' ⟨rfl, L', h1, h2, h3, h4⟩
    refine ⟨rfl, L', h1, h2, (Turns.of_below (by rw [hw]; exact alloc_below w00 _)).trans h3 (fun b hb => Or.inl hb), fun b hb => (h4 b hb).imp id fun h5 => ?_⟩
    rw [hw, World.size_alloc] at h5
    omega
  have h0 := h
  clear h
  have h : ListS w L s r := by rw [hw]; exact h0.alloc _
  have HP0 : Hid (pb < w.heap.size) := Lib.hid (by rw [hw, hpb, World.size_alloc]; omega)
  have hbx0 : w.heap[pb]? = some (.cells #[.string V.key, .string V.val, .int .u64 (V.seq : Int), .bool V.gone] 32 (0, 0)) := by rw [hw, hpb]; exact heap_alloc_new w00 _
  have HBX : Hid (∀ (W : World) (_ : Below w.heap.size w W), W.cell? ⟨pb, 0, none⟩ = some (.string V.key) ∧ W.cell? ⟨pb, 1, none⟩ = some (.string V.val) ∧ W.cell? ⟨pb, 2, none⟩ = some (.int .u64 (V.seq : Int)) ∧ W.cell? ⟨pb, 3, none⟩ = some (.bool V.gone)) := Lib.hid (fun W hb => by
    obtain ⟨a, b, c, d, _⟩ := box4 ((hb.block pb HP0.out).trans hbx0)
    exact ⟨a, b, c, d⟩)
  have HNO : Hid (¬ Own L s pb) := Lib.hid (fun ho => by have := h0.own_lt ho; omega)
  clear h0 hbx0
  have HHW := Lib.hid (And.intro hw hpb)
  clear hw hpb
  have HP := Lib.hid (path_any h K)
  obtain ⟨A, B, hs, hA, hB, hsk⟩ := cutAt h.kin.up K.data.toList
  have HPN := Lib.hid (prow_nought (keys r) (shape s) K.data.toList)
  have hlast : lastp (keys r) (shape s) K.data.toList 0 = plo (keys r) (shape A).getLast? := by
    rw [hs, shape_append]
    refine lastp_stop (fun y hy => ?_) (fun y hy => ?_) (fun z hz _ => ?_)
    · obtain ⟨z, hz, rfl⟩ := shape_mem hy
      exact hA z hz
    · obtain ⟨z, hz, rfl⟩ := shape_mem (List.mem_of_getLast? hy)
      exact (h.hgt z (by rw [hs]; exact List.mem_append_left _ hz)).1
    · obtain ⟨y, hy, rfl⟩ := shape_mem hz
      exact hB y hy
  have HT : Hid (∀ y, (shape A).getLast? = some y → 0 < y.2) := Lib.hid (fun y hy => by
    obtain ⟨z, hz, rfl⟩ := shape_mem (List.mem_of_getLast? hy)
    exact (h.hgt z (by rw [hs]; exact List.mem_append_left _ hz)).1)
  have HN : Hid (nxt (keys r) 0 (shape B) = plI r (seek K.data.toList s)) := Lib.hid (by rw [hsk]; exact plI_shape r B (fun y hy => (h.hgt y (by rw [hs]; exact List.mem_append_right _ hy)).1))
  have HH := Lib.hid h
  have HLK : Hid (∀ W : World, Below w.heap.size w W → ∃ g off n, Calls Try.prog 32 #[.pointer (some ⟨L.b, 0, none⟩), .int .i64 (lastp (keys r) (shape s) K.data.toList 0 : Int)] W (fun e w' => e = .returned (.slice (some ⟨g, off, none⟩) n n) ∧ w' = W) ∧ 0 < n ∧
      W.cell? ⟨g, off, none⟩ = some (.int .i64 (plI r (seek K.data.toList s) : Int))) := Lib.hid (fun W hb => by
    obtain ⟨g, off, n, h1, _, h2⟩ := links_any (HH.out.below hb) (A := shape A) (B := shape B) (by rw [hs, shape_append])
    obtain ⟨h3, h4⟩ := h2 0 HT.out (by omega)
    rw [HN.out, Nat.add_zero] at h4
    rw [hlast]
    exact ⟨g, off, n, h1, h3, h4⟩)
  have HI := Lib.hid (fun W (hb : Below w.heap.size w W) => isAtO_any (HH.out.below hb) (seek K.data.toList s) (fun y hy => seek_mem hy) K)
  have HFS := Lib.hid (find_seek (K := K.data.toList) h.kin.up)
  have hbl : L.b < w.heap.size := heap_lt h.box
  rw [HPN.out] at HP
  by_cases hk : ∃ y, seek K.data.toList s = some y ∧ y.key = K.data.toList
  · obtain ⟨y, hy, hk⟩ := hk
    have HF : Hid ((find K.data.toList s).isNone = false) := Lib.hid (by rw [HFS.out, hy]; dsimp only; rw [if_pos hk]; rfl)
    have h9 := HF.out
    rw [hfree] at h9
    cases h9
  · have hI : isB (seek K.data.toList s) K.data.toList = false := by
      cases e : seek K.data.toList s with
      | none => rfl
      | some y =>
        unfold isB
        exact beq_false_of_ne fun e2 => hk ⟨y, e, e2⟩
    have HF : Hid ((find K.data.toList s).isNone = true) := Lib.hid (by
      rw [HFS.out]
      cases e : seek K.data.toList s with
      | none => rfl
      | some y => dsimp only; rw [if_neg fun e2 => hk ⟨y, e, e2⟩]; rfl)
    rw [HF.out]
    have hB2 : ∀ y ∈ B, bytesBefore K.data.toList y.key = true := fun y hy => by
      have h1 := hB y hy
      by_cases e : y.key = K.data.toList
      · exfalso
        cases B with
        | nil => cases hy
        | cons z B =>
          rcases List.mem_cons.1 hy with rfl | hy2
          · exact hk ⟨y, hsk, e⟩
          · have hu := h.kin.up
            rw [hs] at hu
            have h2 : Up (z :: B) := List.Pairwise.sublist (List.sublist_append_right A _) hu
            have h3 := h2.head hy2
            rw [e, hB z (by simp)] at h3
            cases h3
      · exact (lt_total e).resolve_left (by rw [h1]; decide)
    have HPUT : Hid (∀ (W : World) (Bp : Nat), Below w.heap.size w W → W.heap[Bp]? = some (.cells (prow (keys r) (shape s) K.data.toList 0).toArray 66 (0, 0)) → Calls Try.prog 40 #[.pointer (some ⟨L.b, 0, none⟩), .string K, enV V, .slice (some ⟨Bp, 0, none⟩) (clampH H) 12] W fun e w' => e = .returned (.tuple #[]) ∧
        ∃ L', L'.b = L.b ∧ ListS w' L' (put ⟨K.data.toList, V, clampH H⟩ s) (rput ⟨K.data.toList, V, clampH H⟩ r) ∧ Turns (Own L s) W w' ∧ ∀ b, Own L' (put ⟨K.data.toList, V, clampH H⟩ s) b → Own L s b ∨ W.heap.size ≤ b) := Lib.hid (fun W Bp hb hbp => by
      have h1 := HH.out.below hb
      rw [hs] at h1 hbp
      have h2 := put_any h1 K V (clampH H) (clamp_in H) hK hA hB2 hr Bp hbp
      have e1 : put ⟨K.data.toList, V, clampH H⟩ (A ++ B) = A ++ ⟨K.data.toList, V, clampH H⟩ :: B := put_new hA hB2
      have e2 : rput ⟨K.data.toList, V, clampH H⟩ r = r ++ [⟨K.data.toList, V, clampH H⟩] := rput_new (fixed_of h1 K V (clampH H) (clamp_in H) hK hA hB2 hr).fresh
      rw [← e1, ← e2, ← hs] at h2
      exact h2)
    rw [hI] at HI
    rw [HPN.out] at HPUT
    have hsl := fun W b => slice_path W b H
    generalize hcl : clampH H = ch at *
    have HCL := Lib.hid hcl
    clear hcl
    generalize plI r (seek K.data.toList s) = pl at *
    clear hs hA hB hsk hlast HT HN HFS hk HPN h hI hB2
    generalize lastp (keys r) (shape s) K.data.toList 0 = p0 at *
    generalize lastp (keys r) (shape s) K.data.toList 1 = p1 at *
    generalize lastp (keys r) (shape s) K.data.toList 2 = p2 at *
    generalize lastp (keys r) (shape s) K.data.toList 3 = p3 at *
    generalize lastp (keys r) (shape s) K.data.toList 4 = p4 at *
    generalize lastp (keys r) (shape s) K.data.toList 5 = p5 at *
    generalize lastp (keys r) (shape s) K.data.toList 6 = p6 at *
    generalize lastp (keys r) (shape s) K.data.toList 7 = p7 at *
    generalize lastp (keys r) (shape s) K.data.toList 8 = p8 at *
    generalize lastp (keys r) (shape s) K.data.toList 9 = p9 at *
    generalize lastp (keys r) (shape s) K.data.toList 10 = p10 at *
    generalize lastp (keys r) (shape s) K.data.toList 11 = p11 at *
    go_enter Try.func26, Try.ntmps26
    refine wp_seq_k (fun K' hK' => ?_)
    have HK := Lib.hid hK'
    clear hK'
    go_wp2_with fail
    refine HK.out _ _ ?_
    clear HK K'
    obtain ⟨hw, hpb⟩ := HHW.out
    rw [← hw, ← hpb]
    clear hw hpb HHW w00
    go_wp2_with fail
    refine HP.out.mono ?_
    rintro e w1 ⟨rfl, hb1⟩
    have HB : Hid (∀ o, Below w.heap.size w (w1.alloc o)) := Lib.hid (fun o => hb1.alloc hb1.size o)
    clear hb1
    go_wp2_with fail
    obtain ⟨g, off, n, hc, hn, hcell⟩ := HLK.out _ (HB.out _)
    have hn2 : (0 : Int) < n := by omega
    refine hc.mono ?_
    clear hc
    rintro e w2 ⟨rfl, rfl⟩
    go_wp2_with fail
    refine (HI.out _ (HB.out _)).mono ?_
    rintro e w2 ⟨rfl, rfl⟩
    have k0 : ∀ o, (w1.alloc o).cell? ⟨pb, 0, none⟩ = some (.string V.key) := fun o => (HBX.out _ (HB.out o)).1
    have k1 : ∀ o, (w1.alloc o).cell? ⟨pb, 1, none⟩ = some (.string V.val) := fun o => (HBX.out _ (HB.out o)).2.1
    have k2 : ∀ o, (w1.alloc o).cell? ⟨pb, 2, none⟩ = some (.int .u64 (V.seq : Int)) := fun o => (HBX.out _ (HB.out o)).2.2.1
    have k3 : ∀ o, (w1.alloc o).cell? ⟨pb, 3, none⟩ = some (.bool V.gone) := fun o => (HBX.out _ (HB.out o)).2.2.2
    go_wp2_with fail
    refine wp_region_held_drew (S := fun w' => w'.cell? ⟨pb, 0, none⟩ = some (.string V.key) ∧ w'.cell? ⟨pb, 1, none⟩ = some (.string V.val) ∧ w'.cell? ⟨pb, 2, none⟩ = some (.int .u64 (V.seq : Int)) ∧ w'.cell? ⟨pb, 3, none⟩ = some (.bool V.gone)) (by kernel_rfl) ⟨k0 _, k1 _, k2 _, k3 _⟩ (fun hH => ?_)
    refine wpAnyH_take (i := 0) (v := ?v0) rfl (by kernel_rfl) (by kernel_rfl) (by kernel_rfl) (fun _ _ _ h => h) (Or.inl ⟨by kernel_rfl, ?y0⟩) (by assumption) ?_; case y0 => (intro w' hS; obtain ⟨k0, k1, k2, k3⟩ := hS; go_simp; try with_reducible rfl)
    simp only [Act.put, List.setIfInBounds_toArray, List.set_cons_zero, List.set_cons_succ]
    refine wpAnyH_take (i := 1) (v := ?v1) rfl (by kernel_rfl) (by kernel_rfl) (by kernel_rfl) (fun _ _ _ h => h) (Or.inl ⟨by kernel_rfl, ?y1⟩) (by assumption) ?_; case y1 => (intro w' hS; obtain ⟨k0, k1, k2, k3⟩ := hS; go_simp; try with_reducible rfl)
    simp only [Act.put, List.setIfInBounds_toArray, List.set_cons_zero, List.set_cons_succ]
    refine wpAnyH_take (i := 2) (v := ?v2) rfl (by kernel_rfl) (by kernel_rfl) (by kernel_rfl) (fun _ _ _ h => h) (Or.inl ⟨by kernel_rfl, ?y2⟩) (by assumption) ?_; case y2 => (intro w' hS; obtain ⟨k0, k1, k2, k3⟩ := hS; go_simp; try with_reducible rfl)
    simp only [Act.put, List.setIfInBounds_toArray, List.set_cons_zero, List.set_cons_succ]
    refine wpAnyH_take (i := 3) (v := ?v3) rfl (by kernel_rfl) (by kernel_rfl) (by kernel_rfl) (fun _ _ _ h => h) (Or.inl ⟨by kernel_rfl, ?y3⟩) (by assumption) ?_; case y3 => (intro w' hS; obtain ⟨k0, k1, k2, k3⟩ := hS; go_simp; try with_reducible rfl)
    simp only [Act.put, List.setIfInBounds_toArray, List.set_cons_zero, List.set_cons_succ]
    refine wpAnyH_take (i := 4) (v := ?v4) rfl (by kernel_rfl) (by kernel_rfl) (by kernel_rfl) (fun _ _ _ h => h) (Or.inl ⟨by kernel_rfl, ?y4⟩) (by assumption) ?_; case y4 => (intro w' hS; obtain ⟨k0, k1, k2, k3⟩ := hS; go_simp; try with_reducible rfl)
    simp only [Act.put, List.setIfInBounds_toArray, List.set_cons_zero, List.set_cons_succ]
    refine wpAnyH_take (i := 5) (v := ?v5) rfl (by kernel_rfl) (by kernel_rfl) (by kernel_rfl) (fun _ _ _ h => h) (Or.inl ⟨by kernel_rfl, ?y5⟩) (by assumption) ?_; case y5 => (intro w' hS; obtain ⟨k0, k1, k2, k3⟩ := hS; go_simp; try with_reducible rfl)
    simp only [Act.put, List.setIfInBounds_toArray, List.set_cons_zero, List.set_cons_succ]
    refine wpAnyH_take (i := 6) (v := ?v6) rfl (by kernel_rfl) (by kernel_rfl) (by kernel_rfl) (fun _ _ _ h => h) (Or.inl ⟨by kernel_rfl, ?y6⟩) (by assumption) ?_; case y6 => (intro w' hS; obtain ⟨k0, k1, k2, k3⟩ := hS; go_simp; try with_reducible rfl)
    simp only [Act.put, List.setIfInBounds_toArray, List.set_cons_zero, List.set_cons_succ]
    refine wpAnyH_ready (rs := [7]) (by kernel_rfl) (by simp) ?_
    refine AllReadyH.cons rfl (fun K' hK' => ?_) AllReadyH.nil
    go_simp
    refine (HPUT.out _ _ (drew_below (HB.out _)) (heap_alloc_new w1 _)).mono ?_
    rintro e w2 ⟨rfl, L', h1, h2, h3, h4⟩
    have H2 := Lib.hid (And.intro h1 (And.intro h2 (And.intro h3 h4)))
    have hke : ∀ j, w2.cell? ⟨pb, j, none⟩ = (w1.alloc (.cells #[.int .i64 (p0 : Int), .int .i64 (p1 : Int), .int .i64 (p2 : Int), .int .i64 (p3 : Int), .int .i64 (p4 : Int), .int .i64 (p5 : Int), .int .i64 (p6 : Int), .int .i64 (p7 : Int), .int .i64 (p8 : Int), .int .i64 (p9 : Int), .int .i64 (p10 : Int), .int .i64 (p11 : Int)] 66)).cell? ⟨pb, j, none⟩ := fun j => World.cell?_of_block (a := ⟨pb, j, none⟩) (h3.block pb (Nat.lt_of_lt_of_le HP0.out (HB.out _).size) HNO.out)
    refine hK'.out _ _ (by simp only [hke]; exact ⟨k0 _, k1 _, k2 _, k3 _⟩) (fun _ => ?_)
    clear h1 h2 h3 h4 hK' K' hke hH k0 k1 k2 k3
    try simp only [Act.put, List.setIfInBounds_toArray, List.set_cons_zero, List.set_cons_succ]
    refine wpAnyH_done (by kernel_rfl) ?_ _
    go_wp2_with fail
    go_ret
    obtain ⟨h1, h2, h3, h4⟩ := H2.out
    refine ⟨rfl, L', h1, h2, (Turns.of_below (drew_below (HB.out _))).trans h3 (fun b hb => Or.inl hb), fun b hb => ?_⟩
    rcases h4 b hb with h5 | h5
    · exact Or.inl h5
    · exact Or.inr (Nat.le_trans (HB.out _).size h5)

end Go.Proofs.Ytmdnmabbphnhaaa.Sm

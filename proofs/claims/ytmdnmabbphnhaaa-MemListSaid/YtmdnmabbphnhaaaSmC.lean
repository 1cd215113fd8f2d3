/- The walks of List.find, tell, Get, Seek, After, Len, New over a list that lies in memory. -/
import Derived.Test.YtmdnmabbphnhaaaSmB
import Derived.Test.YtmdnmabbphnhaaaClone
import Derived.Deep.RegionHeld3
namespace Go.Proofs.Ytmdnmabbphnhaaa.Sm
open Go.Proofs.Ytmdnmabbphnhaaa.Sk
open Go Go.RowKit
set_option linter.unusedVariables false

section
variable {α : Type}
/-- The keys below one, and the others. -/
theorem cutAt : ∀ {s : List (It α)}, Up s → ∀ K : Str, ∃ A B, s = A ++ B ∧ (∀ y ∈ A, bytesBefore y.key K = true) ∧ (∀ y ∈ B, bytesBefore y.key K = false) ∧ seek K s = B.head?
  | [], _, K => ⟨[], [], rfl, by simp, by simp, rfl⟩
  | x :: s, hu, K => by
    cases hx : bytesBefore x.key K with
    | true =>
      obtain ⟨A, B, rfl, hA, hB, hs⟩ := cutAt hu.tail K
      refine ⟨x :: A, B, rfl, fun y hy => ?_, hB, ?_⟩
      · rcases List.mem_cons.1 hy with rfl | hy
        · exact hx
        · exact hA y hy
      · unfold seek at hs ⊢
        rw [List.find?_cons_of_neg (by simp [hx])]
        exact hs
    | false =>
      refine ⟨[], x :: s, rfl, by simp, fun y hy => ?_, ?_⟩
      · rcases List.mem_cons.1 hy with rfl | hy
        · exact hx
        · cases e : bytesBefore y.key K with
          | false => rfl
          | true => rw [lt_trans (hu.head hy) e] at hx; cases hx
      · unfold seek
        rw [List.find?_cons_of_pos (by simp [hx])]
        rfl
theorem after_same {A B : List (It α)} {y : It α} (hu : Up (A ++ y :: B)) : after y.key (A ++ y :: B) = B.head? := by
  have h := after_at hu (k := A.length) (x := y) (by simp)
  rw [h]
  cases B with
  | nil => simp
  | cons z B => simp
theorem after_next {A B : List (It α)} {y : It α} {K : Str} (hA : ∀ z ∈ A, bytesBefore z.key K = true) (hy : bytesBefore y.key K = false) (hne : y.key ≠ K) : after K (A ++ y :: B) = some y := by
  unfold after
  rw [List.find?_append, List.find?_eq_none.2 (fun z hz => by rw [lt_asym (hA z hz)]; decide), List.find?_cons_of_pos (p := fun z : It α => bytesBefore K z.key) ((lt_total hne).resolve_left (by rw [hy]; decide))]
  rfl
theorem after_none {A : List (It α)} {K : Str} (hA : ∀ z ∈ A, bytesBefore z.key K = true) : after K A = none := by
  unfold after
  exact List.find?_eq_none.2 (fun z hz => by rw [lt_asym (hA z hz)]; decide)
theorem find_seek {s : List (It α)} (hu : Up s) {K : Str} : find K s = match seek K s with
    | some y => if y.key = K then some y else none
    | none => none := by
  obtain ⟨A, B, rfl, hA, hB, hs⟩ := cutAt hu K
  rw [hs]
  have h1 : find K A = none := find_none.2 fun y hy => lt_ne (hA y hy)
  have e : find K (A ++ B) = find K B := by
    unfold find at h1 ⊢
    rw [List.find?_append, h1]; rfl
  rw [e]
  cases B with
  | nil => rfl
  | cons y B =>
    show _ = if y.key = K then some y else none
    by_cases hk : y.key = K
    · rw [if_pos hk]; exact find_cons_eq hk
    · rw [if_neg hk]
      refine find_none.2 fun z hz e2 => ?_
      rcases List.mem_cons.1 hz with rfl | hz
      · exact hk e2
      · have h2 : Up (y :: B) := by
          have : Up (A ++ y :: B) := hu
          exact List.Pairwise.sublist (List.sublist_append_right A _) this
        have h3 := h2.head hz
        rw [e2, hB y (by simp)] at h3
        cases h3
theorem index_array (v : Value) (vs : Array Value) (h : vs[0]? = some v) (hn : vs.size = 12) (w : World) : (Instr.index 66 (.agg vs) (.int .i64 0)).run Try.prog w = .ok v w := by
  have h0 : 0 < vs.size := by omega
  simp [Instr.index, run_underlying Try.underlying66, asIntOf, go_sem]
  rw [h]
  rfl
/-- A place. -/
def plI (r : List (It α)) : Option (It α) → Nat
  | none => 0
  | some y => plc (keys r) y.key
theorem plI_shape (r : List (It α)) (B : List (It α)) (h : ∀ y ∈ B, 1 ≤ y.h) : nxt (keys r) 0 (shape B) = plI r B.head? := by
  cases B with
  | nil => rfl
  | cons y B => exact nxt_here (h y (by simp))
end

set_option maxHeartbeats 2000000 in
theorem find_any {w : World} {L : Lay} {s r : List (It Ent)} (h : ListS w L s r) (K : ByteArray) :
    Calls Try.prog 35 #[.pointer (some ⟨L.b, 0, none⟩), .string K] w fun e w' => e = .returned (.int .i64 (plI r (seek K.data.toList s) : Int)) ∧ Below w.heap.size w w' := by
  obtain ⟨A, B, hs, hA, hB, hsk⟩ := cutAt h.kin.up K.data.toList
  have hsh : shape s = shape A ++ shape B := by rw [hs]; simp [shape]
  have hlast : lastp (keys r) (shape s) K.data.toList 0 = plo (keys r) (shape A).getLast? := by
    rw [hsh]
    refine lastp_stop (fun y hy => ?_) (fun y hy => ?_) (fun z hz _ => ?_)
    · obtain ⟨z, hz, rfl⟩ := shape_mem hy
      exact hA z hz
    · obtain ⟨z, hz, rfl⟩ := shape_mem (List.mem_of_getLast? hy)
      exact (h.hgt z (by rw [hs]; exact List.mem_append_left _ hz)).1
    · obtain ⟨y, hy, rfl⟩ := shape_mem hz
      exact hB y hy
  have HN : Hid (nxt (keys r) 0 (shape B) = plI r (seek K.data.toList s)) := Lib.hid (by rw [hsk]; exact plI_shape r B (fun y hy => (h.hgt y (by rw [hs]; exact List.mem_append_right _ hy)).1))
  have HP := Lib.hid (path_any h K)
  have HL := Lib.hid (fun W (hb : Below w.heap.size w W) => links_any (h.below hb) hsh)
  have HT : Hid (∀ y, (shape A).getLast? = some y → 0 < y.2) := Lib.hid (fun y hy => by
    obtain ⟨z, hz, rfl⟩ := shape_mem (List.mem_of_getLast? hy)
    exact (h.hgt z (by rw [hs]; exact List.mem_append_left _ hz)).1)
  clear h hsk hA hB hs hsh
  generalize plI r (seek K.data.toList s) = pl at *
  generalize plo (keys r) (shape A).getLast? = pa at *
  have hv0 : (prow (keys r) (shape s) K.data.toList 0).toArray[0]? = some (.int .i64 (pa : Int)) := by rw [← hlast]; rfl
  have hv1 : (prow (keys r) (shape s) K.data.toList 0).toArray.size = 12 := rfl
  generalize (prow (keys r) (shape s) K.data.toList 0).toArray = vs at *
  have hix := index_array (.int .i64 (pa : Int)) vs hv0 hv1
  clear hlast hv0 hv1
  go_enter Try.func35, Try.ntmps35
  go_wp2_with fail
  refine HP.out.mono ?_
  rintro e w1 ⟨rfl, hb⟩
  obtain ⟨g, off, n, hc, _, hcell⟩ := HL.out w1 hb
  obtain ⟨h1, h2⟩ := hcell 0 HT.out (by omega)
  rw [HN.out, Nat.add_zero] at h2
  have hn : (0 : Int) < n := by omega
  have HC := Lib.hid hc; have HB := Lib.hid hb
  clear hc hcell hb HP HL
  go_wp2_with fail
  refine HC.out.mono ?_
  rintro e w2 ⟨rfl, rfl⟩
  go_wp2_with fail
  go_ret
  exact ⟨rfl, HB.out⟩

def zeroE : Value := .agg #[.string ⟨#[]⟩, .string ⟨#[]⟩, .int .u64 0, .bool false]
def tellV : Option (It Ent) → Value
  | none => .tuple #[.string ByteArray.empty, zeroE, .bool false]
  | some y => .tuple #[.string (txt y.key), enV y.val, .bool true]
theorem alloc_below (w : World) (o : Obj) : Below w.heap.size w (w.alloc o) := (Below.refl _ _).alloc (Nat.le_refl _) o
theorem drew_below {b : Nat} {w w' : World} (h : Below b w w') : Below b w w'.drew := h.trans (b := w') ⟨rfl, rfl, rfl, Nat.le_refl _, fun _ _ => rfl⟩
/-- The cells of a box of an entry. -/
theorem box4 {w : World} {b : Nat} {x y u v : Value} {t : TypeId} (h : w.heap[b]? = some (.cells #[x, y, u, v] t (0, 0))) :
    w.cell? ⟨b, 0, none⟩ = some x ∧ w.cell? ⟨b, 1, none⟩ = some y ∧ w.cell? ⟨b, 2, none⟩ = some u ∧ w.cell? ⟨b, 3, none⟩ = some v ∧
    w.frozen? ⟨b, 0, none⟩ = false ∧ w.frozen? ⟨b, 1, none⟩ = false ∧ w.frozen? ⟨b, 2, none⟩ = false ∧ w.frozen? ⟨b, 3, none⟩ = false :=
  ⟨by rw [cell_of h]; rfl, by rw [cell_of h]; rfl, by rw [cell_of h]; rfl, by rw [cell_of h]; rfl, unfrozen_of h 0, unfrozen_of h 1, unfrozen_of h 2, unfrozen_of h 3⟩
/-- A box of an entry is filled. -/
abbrev set4 (w : World) (b : Nat) (x y u v : Value) : World := (((w.setCell ⟨b, 0, none⟩ x).setCell ⟨b, 1, none⟩ y).setCell ⟨b, 2, none⟩ u).setCell ⟨b, 3, none⟩ v
theorem set4_kept (w : World) (b : Nat) (x y u v : Value) {k : Nat} (h : k ≠ b) : (set4 w b x y u v).heap[k]? = w.heap[k]? := by
  unfold set4
  rw [setCell_kept _ _ _ h, setCell_kept _ _ _ h, setCell_kept _ _ _ h, setCell_kept _ _ _ h]
theorem set4_heap {w : World} {b : Nat} {x0 y0 u0 v0 : Value} (x y u v : Value) {t : TypeId} (h : w.heap[b]? = some (.cells #[x0, y0, u0, v0] t (0, 0))) : (set4 w b x y u v).heap[b]? = some (.cells #[x, y, u, v] t (0, 0)) := by
  have h1 := heap_setCell_same w b 0 _ _ x h
  have h2 := heap_setCell_same _ b 1 _ _ y h1
  have h3 := heap_setCell_same _ b 2 _ _ u h2
  have h4 := heap_setCell_same _ b 3 _ _ v h3
  exact h4
theorem set4_below {w0 w : World} {B b : Nat} (x y u v : Value) (h : Below B w0 w) (hb : B ≤ b) : Below B w0 (set4 w b x y u v) :=
  (((h.setCell (p := ⟨b, 0, none⟩) hb _).setCell (p := ⟨b, 1, none⟩) hb _).setCell (p := ⟨b, 2, none⟩) hb _).setCell (p := ⟨b, 3, none⟩) hb _
theorem tellNone_any (w : World) (l : Value) :
    Calls Try.prog 41 #[l, .int .i64 0] w fun e w' => e = .returned (tellV none) ∧ Below w.heap.size w w' := by
  go_enter Try.func41, Try.ntmps41
  go_wp2_with fail
  go_region
  go_wp2_with fail
  exact bodyPost_ret (v := tellV none) (by simp [results, Try.results41, go_sem, tellV, zeroE]; rfl) rfl ⟨rfl, drew_below (alloc_below w _)⟩
theorem txt_size (k : Str) : (txt k).size = k.length := by unfold txt ByteArray.size; simp
set_option linter.unusedSimpArgs false in
set_option maxHeartbeats 2000000 in
theorem tellAt_any {w : World} {L : Lay} {s r : List (It Ent)} (h : ListS w L s r) {y : It Ent} (hy : y ∈ s) :
    Calls Try.prog 41 #[.pointer (some ⟨L.b, 0, none⟩), .int .i64 (plc (keys r) y.key : Int)] w fun e w' => e = .returned (tellV (some y)) ∧ Below w.heap.size w w' := by
  have HN := Lib.hid (fun W (hb : Below w.heap.size w W) => nodeAt_any (h.below hb) hy)
  have hp := plc_pos (keys r) y.key
  have hl := h.plc_le hy
  have hne : ¬ ((plc (keys r) y.key : Nat) : Int) = 0 := by omega
  have hks := h.small y hy
  have HCL := Lib.hid (fun W => clone_any (txt y.key) W (by rw [txt_size]; omega))
  have HGS := Lib.hid (fun W (hb : Below w.heap.size w W) {b} (hv : L.vec.ownBlock = some b) => ownsRow_lt (h.below hb).row hv)
  rw [show tellV (some y) = .tuple #[.string (txt y.key), enV y.val, .bool true] from rfl]
  generalize plc (keys r) y.key = p at *
  generalize txt y.key = S at *
  generalize y.val = V at *
  obtain ⟨VK, VV, VS, VG⟩ := V
  dsimp only at HN
  rw [show enV ⟨VK, VV, VS, VG⟩ = .agg #[.string VK, .string VV, .int .u64 (VS : Int), .bool VG] from rfl]
  clear h hy hks
  go_enter Try.func41, Try.ntmps41
  go_wp2_with fail
  obtain ⟨g, i, hc, h0, ⟨h1, h3, h4, h5⟩, _, _, hv, _⟩ := HN.out (w.alloc (.cells #[.string ⟨#[]⟩, .string ⟨#[]⟩, .int .u64 0, .bool false] 32)) (alloc_below w _)
  have HC := Lib.hid hc; clear hc
  have hg := HGS.out w (Below.refl _ _) hv
  clear hv
  refine HC.out.mono ?_
  rintro e w1 ⟨rfl, rfl⟩
  go_wp2_with fail
  have hgp : g ≠ w.heap.size := by omega
  refine wp_region_held_drew (S := fun w' => w'.cell? ⟨g, i * 6, none⟩ = some (.string S) ∧ w'.cell? ⟨g, i * 6 + 1, none⟩ = some (.string VK) ∧ w'.cell? ⟨g, i * 6 + 2, none⟩ = some (.string VV) ∧ w'.cell? ⟨g, i * 6 + 3, none⟩ = some (.int .u64 (VS : Int)) ∧ w'.cell? ⟨g, i * 6 + 4, none⟩ = some (.bool VG)) (by kernel_rfl) ⟨h0, h1, h3, h4, h5⟩ (fun hH => ?_)
  refine wpAnyH_take (i := 0) (v := ?v0) rfl (by kernel_rfl) (by kernel_rfl) (by kernel_rfl) (fun _ _ _ h => h) (Or.inl ⟨by kernel_rfl, ?y0⟩) (by assumption) ?_; case y0 => (intro w' hS; obtain ⟨h0, h1, h3, h4, h5⟩ := hS; go_simp; try with_reducible rfl)
  simp only [Act.put, List.setIfInBounds_toArray, List.set_cons_zero, List.set_cons_succ]
  refine wpAnyH_take (i := 1) (v := ?v1) rfl (by kernel_rfl) (by kernel_rfl) (by kernel_rfl) (fun _ _ _ h => h) (Or.inl ⟨by kernel_rfl, ?y1⟩) (by assumption) ?_; case y1 => (intro w' hS; obtain ⟨h0, h1, h3, h4, h5⟩ := hS; go_simp; try with_reducible rfl)
  simp only [Act.put, List.setIfInBounds_toArray, List.set_cons_zero, List.set_cons_succ]
  refine wpAnyH_take (i := 2) (v := ?v2) rfl (by kernel_rfl) (by kernel_rfl) (by kernel_rfl) (fun _ _ _ h => h) (Or.inl ⟨by kernel_rfl, ?y2⟩) (by assumption) ?_; case y2 => (intro w' hS; obtain ⟨h0, h1, h3, h4, h5⟩ := hS; go_simp; try with_reducible rfl)
  simp only [Act.put, List.setIfInBounds_toArray, List.set_cons_zero, List.set_cons_succ]
  refine wpAnyH_take (i := 3) (v := ?v3) rfl (by kernel_rfl) (by kernel_rfl) (by kernel_rfl) (fun _ _ _ h => h) (Or.inl ⟨by kernel_rfl, ?y3⟩) (by assumption) ?_; case y3 => (intro w' hS; obtain ⟨h0, h1, h3, h4, h5⟩ := hS; go_simp; try with_reducible rfl)
  simp only [Act.put, List.setIfInBounds_toArray, List.set_cons_zero, List.set_cons_succ]
  refine wpAnyH_take (i := 5) (v := ?v5) rfl (by kernel_rfl) (by kernel_rfl) (by kernel_rfl) (fun _ _ _ h => h) (Or.inl ⟨by kernel_rfl, ?y5⟩) (by assumption) ?_; case y5 => (intro w' hS; obtain ⟨h0, h1, h3, h4, h5⟩ := hS; go_simp; try with_reducible rfl)
  simp only [Act.put, List.setIfInBounds_toArray, List.set_cons_zero, List.set_cons_succ]
  refine wpAnyH_take (i := 6) (v := ?v6) rfl (by kernel_rfl) (by kernel_rfl) (by kernel_rfl) (fun _ _ _ h => h) (Or.inl ⟨by kernel_rfl, ?y6⟩) (by assumption) ?_; case y6 => (intro w' hS; obtain ⟨h0, h1, h3, h4, h5⟩ := hS; go_simp; try with_reducible rfl)
  simp only [Act.put, List.setIfInBounds_toArray, List.set_cons_zero, List.set_cons_succ]
  refine wpAnyH_take (i := 7) (v := ?v7) rfl (by kernel_rfl) (by kernel_rfl) (by kernel_rfl) (fun _ _ _ h => h) (Or.inl ⟨by kernel_rfl, ?y7⟩) (by assumption) ?_; case y7 => (intro w' hS; obtain ⟨h0, h1, h3, h4, h5⟩ := hS; go_simp; try with_reducible rfl)
  simp only [Act.put, List.setIfInBounds_toArray, List.set_cons_zero, List.set_cons_succ]
  refine wpAnyH_take (i := 8) (v := ?v8) rfl (by kernel_rfl) (by kernel_rfl) (by kernel_rfl) (fun _ _ _ h => h) (Or.inl ⟨by kernel_rfl, ?y8⟩) (by assumption) ?_; case y8 => (intro w' hS; obtain ⟨h0, h1, h3, h4, h5⟩ := hS; go_simp; try with_reducible rfl)
  simp only [Act.put, List.setIfInBounds_toArray, List.set_cons_zero, List.set_cons_succ]
  refine wpAnyH_ready (rs := [4]) (by kernel_rfl) (by simp) ?_
  refine AllReadyH.cons rfl (fun K hK => ?_) AllReadyH.nil
  go_simp
  refine (HCL.out _).mono ?_
  rintro e w3 ⟨rfl, hb3⟩
  go_wp2_with fail
  refine hK.out _ _ ⟨(hb3.cell (p := ⟨g, i * 6, none⟩) (by simp; omega)).trans h0, (hb3.cell (p := ⟨g, i * 6 + 1, none⟩) (by simp; omega)).trans h1, (hb3.cell (p := ⟨g, i * 6 + 2, none⟩) (by simp; omega)).trans h3, (hb3.cell (p := ⟨g, i * 6 + 3, none⟩) (by simp; omega)).trans h4, (hb3.cell (p := ⟨g, i * 6 + 4, none⟩) (by simp; omega)).trans h5⟩ (fun hS => ?_)
  clear hK K
  try simp only [Act.put, List.setIfInBounds_toArray, List.set_cons_zero, List.set_cons_succ]
  have hbx : w3.heap[w.heap.size]? = some (.cells #[.string ⟨#[]⟩, .string ⟨#[]⟩, .int .u64 0, .bool false] 32 (0, 0)) := (hb3.block w.heap.size (by simp)).trans (heap_alloc_new w _)
  refine wpAnyH_ready (rs := [9]) (by kernel_rfl) (by simp) ?_
  refine AllReadyH.cons rfl (fun K hK => ?_) AllReadyH.nil
  go_simp
  refine hK.out _ _ hS (fun _ => ?_)
  clear hK K
  try simp only [Act.put, List.setIfInBounds_toArray, List.set_cons_zero, List.set_cons_succ]
  obtain ⟨b0, b1, b2, b3, f0, f1, f2, f3⟩ := box4 hbx
  refine wpAnyH_ready (rs := [10]) (by kernel_rfl) (by simp) ?_
  refine AllReadyH.cons rfl (fun K hK => ?_) AllReadyH.nil
  go_simp
  have hk : (set4 w3 w.heap.size (.string VK) (.string VV) (.int .u64 (VS : Int)) (.bool VG)).heap[g]? = w3.heap[g]? := set4_kept _ _ _ _ _ _ hgp
  have hS2 : ∀ j, (set4 w3 w.heap.size (.string VK) (.string VV) (.int .u64 (VS : Int)) (.bool VG)).cell? ⟨g, j, none⟩ = w3.cell? ⟨g, j, none⟩ := fun j => World.cell?_of_block (a := ⟨g, j, none⟩) hk
  refine hK.out _ _ (by dsimp only [set4] at hS2; simp only [hS2]; exact hS) (fun _ => ?_)
  clear hK K
  try simp only [Act.put, List.setIfInBounds_toArray, List.set_cons_zero, List.set_cons_succ]
  refine wpAnyH_ready (rs := [11]) (by kernel_rfl) (by simp) ?_
  refine AllReadyH.cons rfl (fun K hK => ?_) AllReadyH.nil
  go_simp
  refine hK.out _ _ ‹_› (fun _ => ?_)
  clear hK K
  try simp only [Act.put, List.setIfInBounds_toArray, List.set_cons_zero, List.set_cons_succ]
  refine wpAnyH_done (by kernel_rfl) ?_ _
  go_wp2_with fail
  have hz := set4_heap (.string VK) (.string VV) (.int .u64 (VS : Int)) (.bool VG) hbx
  have hbz := set4_below (B := w.heap.size) (.string VK) (.string VV) (.int .u64 (VS : Int)) (.bool VG) ((drew_below (alloc_below w (.cells #[.string ⟨#[]⟩, .string ⟨#[]⟩, .int .u64 0, .bool false] 32))).trans (hb3.mono (by rw [heap_drew, World.size_alloc]; omega))) (Nat.le_refl _)
  dsimp only [set4] at hz hbz
  generalize (((w3.setCell ⟨w.heap.size, 0, none⟩ (.string VK)).setCell ⟨w.heap.size, 1, none⟩ (.string VV)).setCell ⟨w.heap.size, 2, none⟩ (.int .u64 (VS : Int))).setCell ⟨w.heap.size, 3, none⟩ (.bool VG) = w5 at *
  obtain ⟨b0, b1, b2, b3, _, _, _, _⟩ := box4 hz
  exact bodyPost_ret (v := .tuple #[.string S, .agg #[.string VK, .string VV, .int .u64 (VS : Int), .bool VG], .bool true]) (by simp [results, Try.results41, go_sem, b0, b1, b2, b3]) rfl ⟨rfl, hbz⟩
theorem seek_mem {α : Type} {s : List (It α)} {K : Str} {y : It α} (h : seek K s = some y) : y ∈ s := List.mem_of_find?_eq_some h
theorem tell_any {w : World} {L : Lay} {s r : List (It Ent)} (h : ListS w L s r) (o : Option (It Ent)) (ho : ∀ y, o = some y → y ∈ s) :
    Calls Try.prog 41 #[.pointer (some ⟨L.b, 0, none⟩), .int .i64 (plI r o : Int)] w fun e w' => e = .returned (tellV o) ∧ Below w.heap.size w w' := by
  cases o with
  | none => exact tellNone_any w _
  | some y => exact tellAt_any h (ho y rfl)
def isB (o : Option (It Ent)) (K : Str) : Bool := match o with
  | some y => y.key == K
  | none => false
theorem isAtO_any {w : World} {L : Lay} {s r : List (It Ent)} (h : ListS w L s r) (o : Option (It Ent)) (ho : ∀ y, o = some y → y ∈ s) (K : ByteArray) :
    Calls Try.prog 36 #[.pointer (some ⟨L.b, 0, none⟩), .int .i64 (plI r o : Int), .string K] w fun e w' => e = .returned (.bool (isB o K.data.toList)) ∧ w' = w := by
  cases o with
  | none => exact isNone_any w _ K
  | some y => exact isAt_any h (ho y rfl) K

theorem tellV_made (o : Option (It Ent)) : ∃ (a v1 v2 : ByteArray) (v3 : Nat) (v4 c : Bool), tellV o = .tuple #[.string a, .agg #[.string v1, .string v2, .int .u64 (v3 : Int), .bool v4], .bool c] := by
  cases o with
  | none => exact ⟨_, _, _, 0, _, _, rfl⟩
  | some y => exact ⟨_, _, _, _, _, _, rfl⟩
set_option maxHeartbeats 2000000 in
theorem seek_any {w : World} {L : Lay} {s r : List (It Ent)} (h : ListS w L s r) (K : ByteArray) :
    Calls Try.prog 28 #[.pointer (some ⟨L.b, 0, none⟩), .string K] w fun e w' => e = .returned (tellV (seek K.data.toList s)) ∧ Below w.heap.size w w' := by
  have HF := Lib.hid (fun W (hb : Below w.heap.size w W) => find_any (h.below hb) K)
  have HT := Lib.hid (fun W (hb : Below w.heap.size w W) => tell_any (h.below hb) (seek K.data.toList s) (fun y hy => seek_mem hy))
  obtain ⟨a, v1, v2, v3, v4, c, hT⟩ := tellV_made (seek K.data.toList s)
  rw [hT] at HT ⊢
  generalize plI r (seek K.data.toList s) = p at *
  clear hT h
  go_enter Try.func28, Try.ntmps28
  go_wp2_with fail
  refine (HF.out _ (alloc_below w _)).mono ?_
  rintro e w1 ⟨rfl, hb⟩
  have HB := Lib.hid ((alloc_below w (.cells #[.string ⟨#[]⟩, .string ⟨#[]⟩, .int .u64 0, .bool false] 32)).trans (hb.mono (by rw [World.size_alloc]; omega)))
  have hk := (hb.block w.heap.size (by simp)).trans (heap_alloc_new w _)
  have hz1 := hb.size
  rw [World.size_alloc] at hz1
  clear hb
  go_wp2_with fail
  refine (HT.out w1 HB.out).mono ?_
  rintro e w2 ⟨rfl, hb2⟩
  have HB2 := Lib.hid (Below.next HB.out hb2)
  have hk2 := (hb2.block w.heap.size (by omega)).trans hk
  obtain ⟨b0, b1, b2, b3, f0, f1, f2, f3⟩ := box4 hk2
  clear hb2 HT HF
  go_wp2_with fail
  have hz := set4_heap (.string v1) (.string v2) (.int .u64 (v3 : Int)) (.bool v4) hk2
  have hbz := set4_below (B := w.heap.size) (.string v1) (.string v2) (.int .u64 (v3 : Int)) (.bool v4) HB2.out (Nat.le_refl _)
  dsimp only [set4] at hz hbz
  generalize (((w2.setCell ⟨w.heap.size, 0, none⟩ (.string v1)).setCell ⟨w.heap.size, 1, none⟩ (.string v2)).setCell ⟨w.heap.size, 2, none⟩ (.int .u64 (v3 : Int))).setCell ⟨w.heap.size, 3, none⟩ (.bool v4) = w5 at *
  clear b0 b1 b2 b3
  obtain ⟨b0, b1, b2, b3, _, _, _, _⟩ := box4 hz
  exact bodyPost_ret (v := .tuple #[.string a, .agg #[.string v1, .string v2, .int .u64 (v3 : Int), .bool v4], .bool c]) (by simp [results, Try.results28, go_sem, b0, b1, b2, b3]) rfl ⟨rfl, hbz⟩

def getV : Option (It Ent) → Value
  | none => .tuple #[zeroE, .bool false]
  | some y => .tuple #[enV y.val, .bool true]
set_option maxHeartbeats 2000000 in
theorem get_any {w : World} {L : Lay} {s r : List (It Ent)} (h : ListS w L s r) (K : ByteArray) :
    Calls Try.prog 22 #[.pointer (some ⟨L.b, 0, none⟩), .string K] w fun e w' => e = .returned (getV (find K.data.toList s)) ∧ Below w.heap.size w w' := by
  have HF := Lib.hid (fun W (hb : Below w.heap.size w W) => find_any (h.below hb) K)
  have HI := Lib.hid (fun W (hb : Below w.heap.size w W) => isAtO_any (h.below hb) (seek K.data.toList s) (fun y hy => seek_mem hy) K)
  have HB0 := Lib.hid (alloc_below w (.cells #[.string ⟨#[]⟩, .string ⟨#[]⟩, .int .u64 0, .bool false] 32))
  rw [find_seek h.kin.up]
  cases hs : seek K.data.toList s with
  | none =>
    rw [hs] at HF HI
    rw [show isB none K.data.toList = false from rfl, show plI r none = 0 from rfl] at HI
    rw [show plI r none = 0 from rfl] at HF
    clear h hs
    go_enter Try.func22, Try.ntmps22
    go_wp2_with fail
    refine (HF.out _ HB0.out).mono ?_
    rintro e w1 ⟨rfl, hb⟩
    have HB := Lib.hid (Below.next HB0.out hb)
    have hk := (hb.block w.heap.size (by simp)).trans (heap_alloc_new w _)
    clear hb
    go_wp2_with fail
    refine (HI.out _ HB.out).mono ?_
    rintro e w2 ⟨rfl, rfl⟩
    obtain ⟨b0, b1, b2, b3, f0, f1, f2, f3⟩ := box4 hk
    go_wp2_with fail
    have hz := set4_heap (.string ⟨#[]⟩) (.string ⟨#[]⟩) (.int .u64 0) (.bool false) hk
    have hbz := set4_below (B := w.heap.size) (.string ⟨#[]⟩) (.string ⟨#[]⟩) (.int .u64 0) (.bool false) HB.out (Nat.le_refl _)
    dsimp only [set4] at hz hbz
    generalize (((w2.setCell ⟨w.heap.size, 0, none⟩ (.string ⟨#[]⟩)).setCell ⟨w.heap.size, 1, none⟩ (.string ⟨#[]⟩)).setCell ⟨w.heap.size, 2, none⟩ (.int .u64 0)).setCell ⟨w.heap.size, 3, none⟩ (.bool false) = w5 at *
    clear b0 b1 b2 b3
    obtain ⟨b0, b1, b2, b3, _, _, _, _⟩ := box4 hz
    exact bodyPost_ret (v := .tuple #[zeroE, .bool false]) (by simp [zeroE, results, Try.results22, go_sem, b0, b1, b2, b3]) rfl ⟨rfl, hbz⟩
  | some y =>
    have hy := seek_mem hs
    rw [hs] at HF HI
    have HH := Lib.hid h
    dsimp only
    clear h hs
    by_cases hk : y.key = K.data.toList
    · rw [if_pos hk]
      rw [show isB (some y) K.data.toList = true by simpa [isB] using hk] at HI
      obtain ⟨yk, ⟨VK, VV, VS, VG⟩, yh⟩ := y
      rw [show getV (some (⟨yk, ⟨VK, VV, VS, VG⟩, yh⟩ : It Ent)) = .tuple #[.agg #[.string VK, .string VV, .int .u64 (VS : Int), .bool VG], .bool true] from rfl]
      have HN := Lib.hid (fun W (hb : Below w.heap.size w W) => nodeAt_any (HH.out.below hb) hy)
      rw [show plI r (some (⟨yk, ⟨VK, VV, VS, VG⟩, yh⟩ : It Ent)) = plc (keys r) yk from rfl] at HF HI
      dsimp only at HN
      generalize plc (keys r) yk = p at *
      clear hk
      go_enter Try.func22, Try.ntmps22
      go_wp2_with fail
      refine (HF.out _ HB0.out).mono ?_
      rintro e w1 ⟨rfl, hb⟩
      have HB := Lib.hid (Below.next HB0.out hb)
      have hk := (hb.block w.heap.size (by simp)).trans (heap_alloc_new w _)
      clear hb
      go_wp2_with fail
      refine (HI.out _ HB.out).mono ?_
      rintro e w2 ⟨rfl, rfl⟩
      go_wp2_with fail
      obtain ⟨g, i, hc, _, ⟨h1, h3, h4, h5⟩, _⟩ := HN.out _ HB.out
      have HC := Lib.hid hc
      clear hc
      refine HC.out.mono ?_
      rintro e w3 ⟨rfl, rfl⟩
      obtain ⟨b0, b1, b2, b3, f0, f1, f2, f3⟩ := box4 hk
      go_wp2_with fail
      have hz := set4_heap (.string VK) (.string VV) (.int .u64 (VS : Int)) (.bool VG) hk
      have hbz := set4_below (B := w.heap.size) (.string VK) (.string VV) (.int .u64 (VS : Int)) (.bool VG) HB.out (Nat.le_refl _)
      dsimp only [set4] at hz hbz
      generalize (((w3.setCell ⟨w.heap.size, 0, none⟩ (.string VK)).setCell ⟨w.heap.size, 1, none⟩ (.string VV)).setCell ⟨w.heap.size, 2, none⟩ (.int .u64 (VS : Int))).setCell ⟨w.heap.size, 3, none⟩ (.bool VG) = w5 at *
      clear b0 b1 b2 b3
      obtain ⟨b0, b1, b2, b3, _, _, _, _⟩ := box4 hz
      exact bodyPost_ret (v := .tuple #[.agg #[.string VK, .string VV, .int .u64 (VS : Int), .bool VG], .bool true]) (by simp [results, Try.results22, go_sem, b0, b1, b2, b3]) rfl ⟨rfl, hbz⟩
    · rw [if_neg hk]
      rw [show isB (some y) K.data.toList = false by simpa [isB] using hk] at HI
      generalize plI r (some y) = p at *
      clear hk
      go_enter Try.func22, Try.ntmps22
      go_wp2_with fail
      refine (HF.out _ HB0.out).mono ?_
      rintro e w1 ⟨rfl, hb⟩
      have HB := Lib.hid (Below.next HB0.out hb)
      have hk := (hb.block w.heap.size (by simp)).trans (heap_alloc_new w _)
      clear hb
      go_wp2_with fail
      refine (HI.out _ HB.out).mono ?_
      rintro e w2 ⟨rfl, rfl⟩
      obtain ⟨b0, b1, b2, b3, f0, f1, f2, f3⟩ := box4 hk
      go_wp2_with fail
      have hz := set4_heap (.string ⟨#[]⟩) (.string ⟨#[]⟩) (.int .u64 0) (.bool false) hk
      have hbz := set4_below (B := w.heap.size) (.string ⟨#[]⟩) (.string ⟨#[]⟩) (.int .u64 0) (.bool false) HB.out (Nat.le_refl _)
      dsimp only [set4] at hz hbz
      generalize (((w2.setCell ⟨w.heap.size, 0, none⟩ (.string ⟨#[]⟩)).setCell ⟨w.heap.size, 1, none⟩ (.string ⟨#[]⟩)).setCell ⟨w.heap.size, 2, none⟩ (.int .u64 0)).setCell ⟨w.heap.size, 3, none⟩ (.bool false) = w5 at *
      clear b0 b1 b2 b3
      obtain ⟨b0, b1, b2, b3, _, _, _, _⟩ := box4 hz
      exact bodyPost_ret (v := .tuple #[zeroE, .bool false]) (by simp [zeroE, results, Try.results22, go_sem, b0, b1, b2, b3]) rfl ⟨rfl, hbz⟩

theorem len_any {w : World} {L : Lay} {s r : List (It Ent)} (h : ListS w L s r) :
    Calls Try.prog 14 #[.pointer (some ⟨L.b, 0, none⟩)] w fun e w' => e = .returned (.int .i64 (r.length : Int)) ∧ w' = w := by
  have hv := h.vec
  obtain ⟨ao, cap, e⟩ := row_any h.row
  rw [e] at hv
  generalize r.length = n at *
  clear h e
  go_enter Try.func14, Try.ntmps14
  go_wp2_with fail
  go_ret
  exact ⟨rfl, rfl⟩

/-- A new list. -/
theorem new_any (w : World) :
    Calls Try.prog 24 #[] w fun e w' => e = .returned (.pointer (some ⟨w.heap.size, 0, none⟩)) ∧ Below w.heap.size w w' ∧ ListS w' ⟨w.heap.size, .slice none 0 0, fun _ => 0⟩ [] [] := by
  go_enter Try.func24, Try.ntmps24
  go_wp2_with fail
  go_ret
  refine ⟨rfl, (Below.refl _ _).alloc (Nat.le_refl _) _, ?_⟩
  refine ⟨Kin.nil, by simp, by simp, by simp, ?_, World.ownsRow_nil .., ?_, by simp⟩
  · rw [heap_alloc_new]; rfl
  · intro A k q B e
    have := congrArg List.length e
    simp [shape] at this


end Go.Proofs.Ytmdnmabbphnhaaa.Sm

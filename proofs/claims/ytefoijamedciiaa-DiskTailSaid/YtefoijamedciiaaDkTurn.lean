/- What turning one part of a disk that lies in memory makes of it. No function is named. -/
import Derived.Test.YtefoijamedciiaaDkHeap
namespace Go.Proofs.Ytefoijamedciiaa
open Go.RowKit Go.Maps
open Dk (Dir Chg Disk File Str)

section
variable {w w' : World} {L : Lay} {S : Disk}

theorem obj_cells_ne {w : World} {a b : Nat} {c c' : Array Value} {t t' : TypeId} (ha : w.heap[a]? = some (.cells c t (0, 0))) (hb : w.heap[b]? = some (.cells c' t' (0, 0))) (h : t ≠ t') : a ≠ b :=
  obj_ne ha hb (fun e => h (by simp only [Obj.cells.injEq] at e; exact e.2.1))
theorem obj_map_ne {w : World} {a b : Nat} {c : Array Value} {t : TypeId} {es : Array MapEntry} {k : Nat} (ha : w.heap[a]? = some (.map es k)) (hb : w.heap[b]? = some (.cells c t (0, 0))) : a ≠ b :=
  obj_ne ha hb (fun e => by cases e)

/-- The blocks of a disk are not each other. -/
structure Lone (L : Lay) : Prop where
  bn_d : L.bn ≠ L.d
  bl_d : L.bl ≠ L.d
  bn_bl : L.bn ≠ L.bl
  vec_d : ∀ b, L.vec.ownBlock = some b → b ≠ L.d ∧ b ≠ L.bn ∧ b ≠ L.bl
  loc : ∀ i, L.live i → L.loc i ≠ L.d ∧ L.loc i ≠ L.bn ∧ L.loc i ≠ L.bl ∧ ∀ b, L.vec.ownBlock = some b → b ≠ L.loc i
  dat : ∀ i, L.live i → ∀ b, (L.dat i).ownBlock = some b → b ≠ L.d ∧ b ≠ L.bn ∧ b ≠ L.bl ∧ (∀ g, L.vec.ownBlock = some g → g ≠ b) ∧ ∀ j, L.live j → L.loc j ≠ b
theorem Holds.lone (h : Holds w L S) : Lone L := by
  obtain ⟨es, k, hn⟩ := ownsMap_obj h.now
  obtain ⟨es', k', hl⟩ := ownsMap_obj h.old
  have hv : ∀ b, L.vec.ownBlock = some b → ∃ cur, w.heap[b]? = some (.cells cur 62 (0, 0)) := fun b hb => ownsRow_obj h.chg hb
  have hf := fun i hi => (h.file i hi).box
  have hd : ∀ i, L.live i → ∀ b, (L.dat i).ownBlock = some b → ∃ cur, w.heap[b]? = some (.cells cur 5 (0, 0)) := fun i hi b hb => ownsRow_obj (h.file i hi).row hb
  refine ⟨obj_map_ne hn h.box, obj_map_ne hl h.box, h.two, fun b hb => ?_, fun i hi => ⟨?_, ?_, ?_, fun b hb => ?_⟩, fun i hi b hb => ?_⟩
  · obtain ⟨cur, hc⟩ := hv b hb
    exact ⟨obj_cells_ne hc h.box (by decide), (obj_map_ne hn hc).symm, (obj_map_ne hl hc).symm⟩
  · exact obj_cells_ne (hf i hi) h.box (by decide)
  · exact (obj_map_ne hn (hf i hi)).symm
  · exact (obj_map_ne hl (hf i hi)).symm
  · obtain ⟨cur, hc⟩ := hv b hb
    exact obj_cells_ne hc (hf i hi) (by decide)
  · obtain ⟨cur, hc⟩ := hd i hi b hb
    refine ⟨obj_cells_ne hc h.box (by decide), (obj_map_ne hn hc).symm, (obj_map_ne hl hc).symm, fun g hg => ?_, fun j hj => obj_cells_ne (hf j hj) hc (by decide)⟩
    obtain ⟨cur', hc'⟩ := hv g hg
    exact obj_cells_ne hc' hc (by decide)

theorem setCell_kept (w : World) (a : Addr) (v : Value) {k : Nat} (h : k ≠ a.block) : (w.setCell a v).heap[k]? = w.heap[k]? := RowKit.Below.heap_setCell w a v k h

/-- A cell of the disk's own block. -/
theorem Holds.setBox (h : Holds w L S) (j : Nat) (v : Value) (S' : Disk) (hb : (boxCells L S).toArray.setIfInBounds j v = (boxCells L S').toArray) (h1 : S'.now = S.now) (h2 : S'.lasting = S.lasting) (h3 : S'.changes = S.changes) (h4 : S'.file = S.file) (h5 : S'.next = S.next) :
    Holds (w.setCell ⟨L.d, j, none⟩ v) L S' := by
  have A := h.lone
  have kept : ∀ b, b ≠ L.d → (w.setCell ⟨L.d, j, none⟩ v).heap[b]? = w.heap[b]? := fun b hb => setCell_kept w _ v hb
  refine ⟨?_, ?_, ?_, h.two, ?_, fun i hi => ?_, h.apart, ?_, ?_, ?_, ?_⟩
  · rw [← hb]; exact heap_setCell_same w L.d j _ _ v h.box
  · rw [h1]; exact ownsMap_frame h.now (kept _ A.bn_d)
  · rw [h2]; exact ownsMap_frame h.old (kept _ A.bl_d)
  · rw [h3]; exact ownsRow_frame h.chg fun b hb => kept b (A.vec_d b hb).1
  · rw [h4]; exact (h.file i hi).frame (kept _ (A.loc i hi).1) fun g hg => kept g (A.dat i hi g hg).1
  · rw [h1]; exact h.inNow
  · rw [h2]; exact h.inOld
  · rw [h3]; exact h.inChg
  · rw [h5]; exact h.lt

/-- The count of a file's bytes that last. -/
theorem Holds.setLasts (h : Holds w L S) (i n : Nat) (hi : L.live i) (hn : n ≤ (S.file i).data.length) : Holds (w.setCell ⟨L.loc i, 1, none⟩ (.int .i64 (n : Int))) L (S.setFile i ⟨(S.file i).data, n⟩) := by
  have A := h.lone
  have kept : ∀ b, b ≠ L.loc i → (w.setCell ⟨L.loc i, 1, none⟩ (.int .i64 (n : Int))).heap[b]? = w.heap[b]? := fun b hb => setCell_kept w _ _ hb
  refine ⟨(kept _ (A.loc i hi).1.symm).trans h.box, ownsMap_frame h.now (kept _ (A.loc i hi).2.1.symm), ownsMap_frame h.old (kept _ (A.loc i hi).2.2.1.symm), h.two, ownsRow_frame h.chg fun b hb => kept b ((A.loc i hi).2.2.2 b hb), fun k hk => ?_, h.apart, h.inNow, h.inOld, h.inChg, h.lt⟩
  by_cases e : k = i
  · subst e
    have hf := h.file k hk
    unfold Disk.setFile
    dsimp only
    rw [Dk.upd_same]
    refine ⟨?_, ownsRow_frame hf.row fun b hb => kept b ((A.dat k hk b hb).2.2.2.2 k hk).symm, hn⟩
    exact heap_setCell_same w (L.loc k) 1 _ _ _ hf.box
  · unfold Disk.setFile
    dsimp only
    rw [Dk.upd_other e]
    exact (h.file k hk).frame (kept _ (h.apart k i hk hi e).1) fun g hg => kept g ((A.dat k hk g hg).2.2.2.2 i hi).symm

/-- The bytes of a file: a slice of its own row, or of a new one, is laid in the place of its slice. -/
theorem Holds.setData {w1 : World} (h : Holds w L S) (i : Nat) (hi : L.live i) (v : Value) (l : Str) (hg : w.grownBy w1 (L.dat i).ownBlock) (hrow : w1.ownsRow 0 5 1 v l.length (Lib.byteCells l)) (hle : (S.file i).lasts ≤ l.length)
    (hv : ∀ b, v.ownBlock = some b → (L.dat i).ownBlock = some b ∨ w.heap.size ≤ b) :
    Holds (w1.setCell ⟨L.loc i, 0, none⟩ v) { L with dat := fun k => if k = i then v else L.dat k } (S.setFile i ⟨l, (S.file i).lasts⟩) := by
  have A := h.lone
  have kept : ∀ b, b < w.heap.size → b ≠ L.loc i → (L.dat i).ownBlock ≠ some b → (w1.setCell ⟨L.loc i, 0, none⟩ v).heap[b]? = w.heap[b]? := fun b hl hb hd => (setCell_kept w1 _ _ hb).trans (hg.block b hl (fun e => hd e.symm))
  have hloc : w1.heap[L.loc i]? = w.heap[L.loc i]? := hg.block _ (heap_lt (h.file i hi).box) (fun e => (A.dat i hi _ e.symm).2.2.2.2 i hi rfl)
  refine ⟨(kept _ (heap_lt h.box) (A.loc i hi).1.symm fun e => (A.dat i hi _ e).1 rfl).trans h.box, ownsMap_frame h.now (kept _ h.now.lt (A.loc i hi).2.1.symm fun e => (A.dat i hi _ e).2.1 rfl),
    ownsMap_frame h.old (kept _ h.old.lt (A.loc i hi).2.2.1.symm fun e => (A.dat i hi _ e).2.2.1 rfl), h.two, ownsRow_frame h.chg fun b hb => kept b (ownsRow_lt h.chg hb) ((A.loc i hi).2.2.2 b hb) fun e => (A.dat i hi _ e).2.2.2.1 b hb rfl, fun k hk => ?_, fun k m hk hm hkm => ?_, h.inNow, h.inOld, h.inChg, h.lt⟩
  · by_cases e : k = i
    · subst e
      have hf := h.file k hk
      unfold Disk.setFile
      dsimp only
      rw [Dk.upd_same]
      rw [if_pos rfl]
      refine ⟨?_, ownsRow_frame hrow fun b hb => setCell_kept w1 _ _ ?_, hle⟩
      · exact heap_setCell_same w1 (L.loc k) 0 _ _ _ (hloc.trans hf.box)
      · intro e2
        rcases hv b hb with h1 | h1
        · exact (A.dat k hk b h1).2.2.2.2 k hk e2.symm
        · have := heap_lt hf.box
          simp only at e2
          omega
    · unfold Disk.setFile
      dsimp only
      rw [Dk.upd_other e]
      rw [if_neg e]
      have hf := h.file k hk
      exact hf.frame (kept _ (heap_lt hf.box) (h.apart k i hk hi e).1 fun e2 => (A.dat i hi _ e2).2.2.2.2 k hk rfl) fun g hg2 => kept g (ownsRow_lt hf.row hg2) ((A.dat k hk g hg2).2.2.2.2 i hi).symm ((h.apart k i hk hi e).2 g hg2)
  · refine ⟨(h.apart k m hk hm hkm).1, fun b hb hb2 => ?_⟩
    dsimp only at hb hb2
    by_cases e : k = i
    · rw [if_pos e] at hb
      rw [if_neg (fun e2 => hkm (e.trans e2.symm))] at hb2
      rcases hv b hb with h1 | h1
      · exact (h.apart i m hi hm (e ▸ hkm)).2 b h1 hb2
      · have := ownsRow_lt (h.file m hm).row hb2; omega
    · rw [if_neg e] at hb
      by_cases e2 : m = i
      · rw [if_pos e2] at hb2
        rcases hv b hb2 with h1 | h1
        · exact (h.apart k i hk hi e).2 b hb h1
        · have := ownsRow_lt (h.file k hk).row hb; omega
      · rw [if_neg e2] at hb2
        exact (h.apart k m hk hm hkm).2 b hb hb2

/-- The directory. -/
theorem Holds.setNow (h : Holds w L S) (hg : w.grownBy w' (some L.bn)) (d : Dir) {n : Nat} (ho : w'.ownsMap Try.prog 9 ptrElem L.bn n (toD L.loc d)) (hd : ∀ p ∈ d, L.live p.2) : Holds w' L { S with now := d } := by
  have A := h.lone
  have kept : ∀ b, b < w.heap.size → b ≠ L.bn → w'.heap[b]? = w.heap[b]? := fun b hl hb => hg.block b hl (fun e => hb (by simpa using e))
  have ho' := ownsMap_sized ho
  rw [toD_size] at ho'
  exact ⟨(kept _ (heap_lt h.box) A.bn_d.symm).trans h.box, ho', ownsMap_frame h.old (kept _ h.old.lt h.two.symm), h.two, ownsRow_frame h.chg fun b hb => kept b (ownsRow_lt h.chg hb) (A.vec_d b hb).2.1,
    fun i hi => (h.file i hi).frame (kept _ (heap_lt (h.file i hi).box) (A.loc i hi).2.1) fun g hg2 => kept g (ownsRow_lt (h.file i hi).row hg2) (A.dat i hi g hg2).2.1, h.apart, hd, h.inOld, h.inChg, h.lt⟩
/-- .. as it lasts. -/
theorem Holds.setOld (h : Holds w L S) (hg : w.grownBy w' (some L.bl)) (d : Dir) {n : Nat} (ho : w'.ownsMap Try.prog 9 ptrElem L.bl n (toD L.loc d)) (hd : ∀ p ∈ d, L.live p.2) : Holds w' L { S with lasting := d } := by
  have A := h.lone
  have kept : ∀ b, b < w.heap.size → b ≠ L.bl → w'.heap[b]? = w.heap[b]? := fun b hl hb => hg.block b hl (fun e => hb (by simpa using e))
  have ho' := ownsMap_sized ho
  rw [toD_size] at ho'
  exact ⟨(kept _ (heap_lt h.box) A.bl_d.symm).trans h.box, ownsMap_frame h.now (kept _ h.now.lt h.two), ho', h.two, ownsRow_frame h.chg fun b hb => kept b (ownsRow_lt h.chg hb) (A.vec_d b hb).2.2,
    fun i hi => (h.file i hi).frame (kept _ (heap_lt (h.file i hi).box) (A.loc i hi).2.2.1) fun g hg2 => kept g (ownsRow_lt (h.file i hi).row hg2) (A.dat i hi g hg2).2.2.1, h.apart, h.inNow, hd, h.inChg, h.lt⟩
/-- The changes: a slice of their own row, or of a new one, is laid in the place of theirs. -/
theorem Holds.setVec {w1 : World} (h : Holds w L S) (v : Value) (cs : List Chg) (hg : w.grownBy w1 L.vec.ownBlock) (hrow : w1.ownsRow 0 62 3 v cs.length (cs.flatMap (chgCells L.loc))) (hv : ∀ b, v.ownBlock = some b → L.vec.ownBlock = some b ∨ w.heap.size ≤ b)
    (hc : ∀ c ∈ cs, ∀ i, c.made = some i → L.live i) : Holds (w1.setCell ⟨L.d, 6, none⟩ v) { L with vec := v } { S with changes := cs } := by
  have A := h.lone
  have kept : ∀ b, b < w.heap.size → b ≠ L.d → L.vec.ownBlock ≠ some b → (w1.setCell ⟨L.d, 6, none⟩ v).heap[b]? = w.heap[b]? := fun b hl hb hd => (setCell_kept w1 _ _ hb).trans (hg.block b hl (fun e => hd e.symm))
  have hloc : w1.heap[L.d]? = w.heap[L.d]? := hg.block _ (heap_lt h.box) (fun e => (A.vec_d _ e.symm).1 rfl)
  refine ⟨?_, ownsMap_frame h.now (kept _ h.now.lt A.bn_d fun e => (A.vec_d _ e).2.1 rfl), ownsMap_frame h.old (kept _ h.old.lt A.bl_d fun e => (A.vec_d _ e).2.2 rfl), h.two, ownsRow_frame hrow fun b hb => setCell_kept w1 _ _ ?_,
    fun i hi => (h.file i hi).frame (kept _ (heap_lt (h.file i hi).box) (A.loc i hi).1 fun e => (A.loc i hi).2.2.2 _ e rfl) fun g hg2 => kept g (ownsRow_lt (h.file i hi).row hg2) (A.dat i hi g hg2).1 fun e => (A.dat i hi g hg2).2.2.2.1 g e rfl, h.apart, h.inNow, h.inOld, hc, h.lt⟩
  · exact heap_setCell_same w1 L.d 6 _ _ _ (hloc.trans h.box)
  · intro e2
    rcases hv b hb with h1 | h1
    · exact (A.vec_d b h1).1 e2
    · have := heap_lt h.box
      simp only at e2
      omega

end
end Go.Proofs.Ytefoijamedciiaa

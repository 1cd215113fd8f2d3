/- Texts on the program's own functions, several in one: DkHeap, DkTurn, DkA, DkB, DkN. -/
import Derived.Test.YtfeconankopjmaaGreatDoorPk9
import Derived.Test.YtfeconankopjmaaGreatDoorPk1
import Derived.Maps.OwnSet
import Derived.Maps.Range
import Derived.Sort.KeysCollected
import Derived.Maps.OwnOps

/- A disk in memory: which blocks hold it, and what turning one of its cells makes of it. No function is named. -/
namespace Go.Proofs.YtfeconankopjmaaGreatDoor
open Go.RowKit Go.Maps
open Dk (Dir Chg Disk File Str)

/-- How a file's address reads: by its block. -/
def ptrElem : Value → Option (DataW Unit × List MemPlace)
  | .pointer (some ⟨b, 0, none⟩) => some (.lit (.int .i64 b), [])
  | .pointer none => some (.nil, [])
  | _ => none
theorem ptrElem_inv {v : Value} {b : Int} {ps : List MemPlace} (h : ptrElem v = some (.lit (.int .i64 b), ps)) : ∃ n : Nat, v = .pointer (some ⟨n, 0, none⟩) ∧ b = n := by
  unfold ptrElem at h
  split at h
  · rename_i n
    simp only [Option.some.injEq, Prod.mk.injEq, DataW.lit.injEq, Lit.int.injEq, true_and] at h
    exact ⟨n, rfl, h.1.symm⟩
  · simp at h
  · cases h
theorem ptrElem_nil {v : Value} {ps : List MemPlace} (h : ptrElem v = some (.nil, ps)) : v = .pointer none := by
  unfold ptrElem at h
  split at h
  · simp at h
  · rfl
  · cases h

def ent (loc : Nat → Nat) (p : Str × Nat) : Lit × DataW Unit := (.string p.1, .lit (.int .i64 (loc p.2)))
/-- What a directory reads as, its files lying where 'loc' says. -/
def toD (loc : Nat → Nat) (d : Dir) : DataW Unit := .map (d.map (ent loc))
theorem toD_congr {loc loc' : Nat → Nat} {d : Dir} (h : ∀ p ∈ d, loc p.2 = loc' p.2) : toD loc d = toD loc' d := by
  unfold toD
  exact congrArg DataW.map (List.map_congr_left fun p hp => by unfold ent; rw [h p hp])
theorem ins_ent (loc : Nat → Nat) (x : Str × Nat) : ∀ d : Dir, DataW.insert (ent loc x) (d.map (ent loc)) = (Dk.ins x d).map (ent loc)
  | [] => rfl
  | y :: r => by
    simp only [List.map_cons, DataW.insert, Dk.ins]
    have e : (ent loc x).1.before (ent loc y).1 = bytesBefore x.1 y.1 := rfl
    rw [e]
    split
    · rfl
    · rw [ins_ent loc x r]; rfl
theorem toD_del (loc : Nat → Nat) (s : Str) (d : Dir) : (toD loc d).del (.string s) = toD loc (Dk.del s d) := by
  unfold toD DataW.del Dk.del
  simp only [List.filter_map]
  rfl
theorem toD_put (loc : Nat → Nat) (s : Str) (i : Nat) (d : Dir) : (toD loc d).put (.string s) (.lit (.int .i64 (loc i))) = toD loc (Dk.put s i d) := by
  have h : ((d.map (ent loc)).filter fun p => !p.1.sameKey (.string s)) = (Dk.del s d).map (ent loc) := by
    unfold Dk.del
    simp only [List.filter_map]
    rfl
  unfold toD DataW.put Dk.put
  simp only [h]
  exact congrArg DataW.map (ins_ent loc (s, i) _)
theorem toD_at (loc : Nat → Nat) (s : Str) (d : Dir) (z : DataW Unit) : (toD loc d).atKey (.string s) z = match Dk.look s d with
    | some i => .lit (.int .i64 (loc i))
    | none => z := by
  unfold toD DataW.atKey Dk.look
  simp only [List.find?_map]
  have e : (fun p : Lit × DataW Unit => p.1.sameKey (.string s)) ∘ ent loc = fun p => p.1 == s := by funext p; rfl
  rw [e]
  cases d.find? (fun p => p.1 == s) <;> rfl
theorem toD_size (loc : Nat → Nat) (d : Dir) : Maps.size (toD loc d) = d.length := by simp [toD, Maps.size]
theorem toD_keys (loc : Nat → Nat) (d : Dir) : strKeys (toD loc d) = d.map (·.1) := by
  simp [toD, strKeys]
  intro a b _
  rfl
theorem toD_has (loc : Nat → Nat) (s : Str) (d : Dir) : Maps.has (toD loc d) (.string s) = (Dk.look s d).isSome := by
  unfold toD Dk.look Maps.has
  simp only [List.any_map]
  have e : (fun p : Lit × DataW Unit => p.1.sameKey (.string s)) ∘ ent loc = fun p => p.1 == s := by funext p; rfl
  rw [e]
  rw [Bool.eq_iff_iff, List.any_eq_true]
  cases hf : d.find? (fun p => p.1 == s) with
  | none =>
    rw [List.find?_eq_none] at hf
    simp only [Option.isSome_none, Bool.false_eq_true, iff_false]
    rintro ⟨p, hp, hs⟩
    exact hf p hp hs
  | some p =>
    simp only [Option.isSome_some, iff_true]
    exact ⟨p, List.mem_of_find?_eq_some hf, List.find?_some (p := fun p : Str × Nat => p.1 == s) hf⟩

/-- Where a disk lies: its own block, its two directories', the slice of its changes; where its files lie, and their bytes; which numbers are files. -/
structure Lay where
  d : Nat
  bn : Nat
  bl : Nat
  vec : Value
  loc : Nat → Nat
  dat : Nat → Value
  live : Nat → Prop
def fileV (loc : Nat → Nat) : Option Nat → Value
  | some i => .pointer (some ⟨loc i, 0, none⟩)
  | none => .pointer none
def chgCells (loc : Nat → Nat) (c : Chg) : List Value := [.string ⟨c.src.toArray⟩, .string ⟨c.dst.toArray⟩, fileV loc c.made]
def boxCells (L : Lay) (S : Disk) : List Value := [.int .i64 S.room, .int .i64 S.used, .int .i64 (S.fuse : Int), .bool S.down, .map (some L.bn), .map (some L.bl), L.vec]

structure FileAt (w : World) (b : Nat) (v : Value) (f : File) : Prop where
  box : w.heap[b]? = some (.cells #[v, .int .i64 (f.lasts : Int)] 130 (0, 0))
  row : w.ownsRow 0 5 1 v f.data.length (Lib.byteCells f.data)
  le : f.lasts ≤ f.data.length

structure Holds (w : World) (L : Lay) (S : Disk) : Prop where
  box : w.heap[L.d]? = some (.cells (boxCells L S).toArray 89 (0, 0))
  now : w.ownsMap Tryz.prog 9 ptrElem L.bn S.now.length (toD L.loc S.now)
  old : w.ownsMap Tryz.prog 9 ptrElem L.bl S.lasting.length (toD L.loc S.lasting)
  two : L.bn ≠ L.bl
  chg : w.ownsRow 0 133 3 L.vec S.changes.length (S.changes.flatMap (chgCells L.loc))
  file : ∀ i, L.live i → FileAt w (L.loc i) (L.dat i) (S.file i)
  apart : ∀ i j, L.live i → L.live j → i ≠ j → L.loc i ≠ L.loc j ∧ ∀ b, (L.dat i).ownBlock = some b → (L.dat j).ownBlock ≠ some b
  inNow : ∀ p ∈ S.now, L.live p.2
  inOld : ∀ p ∈ S.lasting, L.live p.2
  inChg : ∀ c ∈ S.changes, ∀ i, c.made = some i → L.live i
  lt : ∀ i, L.live i → i < S.next

/-- The blocks of a disk. -/
def Own (L : Lay) (b : Nat) : Prop := b = L.d ∨ b = L.bn ∨ b = L.bl ∨ L.vec.ownBlock = some b ∨ ∃ i, L.live i ∧ (b = L.loc i ∨ (L.dat i).ownBlock = some b)

/-- Of what was there, but for these blocks, nothing has turned. -/
structure Turns (P : Nat → Prop) (w w' : World) : Prop where
  os : w'.os = w.os
  tape : w'.tape = w.tape
  output : w'.output = w.output
  size : w.heap.size ≤ w'.heap.size
  block : ∀ k, k < w.heap.size → ¬ P k → w'.heap[k]? = w.heap[k]?
theorem Turns.refl (P : Nat → Prop) (w : World) : Turns P w w := ⟨rfl, rfl, rfl, Nat.le_refl _, fun _ _ _ => rfl⟩
/-- One behind the other; the second one's blocks are the first one's, or new. -/
theorem Turns.trans {P Q : Nat → Prop} {a b c : World} (h : Turns P a b) (k : Turns Q b c) (hQ : ∀ x, Q x → P x ∨ a.heap.size ≤ x) : Turns P a c :=
  ⟨k.os.trans h.os, k.tape.trans h.tape, k.output.trans h.output, Nat.le_trans h.size k.size, fun i hi hp =>
    (k.block i (Nat.lt_of_lt_of_le hi h.size) (fun hq => (hQ i hq).elim hp (fun e => by omega))).trans (h.block i hi hp)⟩
theorem Turns.mono {P Q : Nat → Prop} {a b : World} (h : Turns P a b) (hQ : ∀ x, P x → Q x ∨ a.heap.size ≤ x) : Turns Q a b :=
  ⟨h.os, h.tape, h.output, h.size, fun i hi hq => h.block i hi (fun hp => (hQ i hp).elim hq (fun e => by omega))⟩
theorem Turns.of_below {P : Nat → Prop} {w w' : World} (h : Below w.heap.size w w') : Turns P w w' := ⟨h.os, h.tape, h.output, h.size, fun k hk _ => h.block k hk⟩
theorem Turns.of_grown {P : Nat → Prop} {w w' : World} {row : Option Nat} (h : w.grownBy w' row) (hP : ∀ k, row = some k → P k) : Turns P w w' :=
  ⟨h.os, h.tape, h.output, h.size, fun k hk hp => h.block k hk (fun e => hp (hP k e.symm))⟩
theorem Turns.of_setCell {P : Nat → Prop} (w : World) (a : Addr) (v : Value) (h : P a.block) : Turns P w (w.setCell a v) :=
  ⟨rfl, rfl, rfl, by simp [World.setCell], fun k _ hp => RowKit.Below.heap_setCell w a v k (fun e => hp (e ▸ h))⟩
theorem Turns.to_below {P : Nat → Prop} {w w' : World} {B : Nat} (h : Turns P w w') (hB : B ≤ w.heap.size) (hP : ∀ k, P k → B ≤ k) : Below B w w' :=
  ⟨h.os, h.tape, h.output, h.size, fun k hk => h.block k (Nat.lt_of_lt_of_le hk hB) (fun hp => by have := hP k hp; omega)⟩
theorem Turns.alloc {P : Nat → Prop} {w w' : World} (h : Turns P w w') (o : Obj) : Turns P w (w'.alloc o) :=
  h.trans (Turns.of_below (P := fun _ => False) ((Below.refl _ _).alloc (Nat.le_refl _) o)) (fun _ hx => hx.elim)
theorem Turns.drew {P : Nat → Prop} {w w' : World} (h : Turns P w w') : Turns P w w'.drew := ⟨h.os, h.tape, h.output, h.size, h.block⟩

theorem ownsRow_frame {w w' : World} {base : Nat} {e : TypeId} {z n : Nat} {v : Value} {xs : List Value} (h : w.ownsRow base e z v n xs) (hk : ∀ b, v.ownBlock = some b → w'.heap[b]? = w.heap[b]?) : w'.ownsRow base e z v n xs := by
  obtain ⟨h1, h2⟩ := h
  refine ⟨h1, ?_⟩
  rcases h2 with h2 | ⟨g, cap, cur, rfl, hg, hb, r⟩
  · exact Or.inl h2
  · exact Or.inr ⟨g, cap, cur, rfl, hg, (hk g rfl).trans hb, r⟩
theorem ownsMap_frame {H : Type} {P : Program} {k : TypeId} {R : Value → Option (DataW H × List MemPlace)} {w w' : World} {b n : Nat} {D : DataW H} (h : w.ownsMap P k R b n D) (hk : w'.heap[b]? = w.heap[b]?) : w'.ownsMap P k R b n D := by
  obtain ⟨es, clock, hb, r⟩ := h
  exact ⟨es, clock, hk.trans hb, r⟩
theorem ownsMap_sized {H : Type} {P : Program} {k : TypeId} {R : Value → Option (DataW H × List MemPlace)} {w : World} {b n : Nat} {D : DataW H} (h : w.ownsMap P k R b n D) : w.ownsMap P k R b (Maps.size D) D := by
  obtain ⟨es, clock, hb, F, hs, rfl⟩ := h
  exact ⟨es, clock, hb, F, by simp [Maps.size, length_sorted], rfl⟩
theorem FileAt.frame {w w' : World} {b : Nat} {v : Value} {f : File} (h : FileAt w b v f) (h1 : w'.heap[b]? = w.heap[b]?) (h2 : ∀ g, v.ownBlock = some g → w'.heap[g]? = w.heap[g]?) : FileAt w' b v f :=
  ⟨h1.trans h.box, ownsRow_frame h.row h2, h.le⟩

theorem heap_lt {w : World} {b : Nat} {o : Obj} (h : w.heap[b]? = some o) : b < w.heap.size := (Array.getElem?_eq_some_iff.1 h).1
theorem ownsRow_lt {w : World} {base : Nat} {e : TypeId} {z n : Nat} {v : Value} {xs : List Value} (h : w.ownsRow base e z v n xs) {b : Nat} (hb : v.ownBlock = some b) : b < w.heap.size := (World.ownsRow.lt h b hb).2
theorem Holds.own_lt {w : World} {L : Lay} {S : Disk} (h : Holds w L S) {b : Nat} (hb : Own L b) : b < w.heap.size := by
  rcases hb with rfl | rfl | rfl | hv | ⟨i, hi, rfl | hv⟩
  · exact heap_lt h.box
  · exact h.now.lt
  · exact h.old.lt
  · exact ownsRow_lt h.chg hv
  · exact heap_lt (h.file i hi).box
  · exact ownsRow_lt (h.file i hi).row hv
/-- A disk stays what it is while other blocks are turned. -/
theorem Holds.frame {w w' : World} {L : Lay} {S : Disk} (h : Holds w L S) (hk : ∀ b, Own L b → w'.heap[b]? = w.heap[b]?) : Holds w' L S where
  box := (hk _ (Or.inl rfl)).trans h.box
  now := ownsMap_frame h.now (hk _ (Or.inr (Or.inl rfl)))
  old := ownsMap_frame h.old (hk _ (Or.inr (Or.inr (Or.inl rfl))))
  two := h.two
  chg := ownsRow_frame h.chg fun b hb => hk b (Or.inr (Or.inr (Or.inr (Or.inl hb))))
  file := fun i hi => (h.file i hi).frame (hk _ (Or.inr (Or.inr (Or.inr (Or.inr ⟨i, hi, Or.inl rfl⟩))))) fun g hg => hk g (Or.inr (Or.inr (Or.inr (Or.inr ⟨i, hi, Or.inr hg⟩))))
  apart := h.apart
  inNow := h.inNow
  inOld := h.inOld
  inChg := h.inChg
  lt := h.lt
theorem Holds.turned {w w' : World} {L : Lay} {S : Disk} {P : Nat → Prop} (h : Holds w L S) (ht : Turns P w w') (hP : ∀ b, Own L b → ¬ P b) : Holds w' L S :=
  h.frame fun b hb => ht.block b (h.own_lt hb) (hP b hb)
theorem Holds.below {w w' : World} {L : Lay} {S : Disk} (h : Holds w L S) (hb : Below w.heap.size w w') : Holds w' L S := h.frame fun b ho => hb.block b (h.own_lt ho)
theorem Holds.alloc {w : World} {L : Lay} {S : Disk} (h : Holds w L S) (o : Obj) : Holds (w.alloc o) L S := h.below ((Below.refl _ _).alloc (Nat.le_refl _) o)
theorem Holds.drew {w : World} {L : Lay} {S : Disk} (h : Holds w L S) : Holds w.drew L S := h.frame fun _ _ => rfl

/-! ### the blocks of a disk are not each other -/
theorem obj_ne {w : World} {a b : Nat} {o o' : Obj} (ha : w.heap[a]? = some o) (hb : w.heap[b]? = some o') (h : o ≠ o') : a ≠ b := fun e => h (by subst e; rw [ha] at hb; simpa using hb)
theorem ownsRow_obj {w : World} {base : Nat} {e : TypeId} {z n : Nat} {v : Value} {xs : List Value} (h : w.ownsRow base e z v n xs) {b : Nat} (hb : v.ownBlock = some b) : ∃ cur, w.heap[b]? = some (.cells cur e (0, 0)) := by
  rcases h.2 with ⟨rfl, _⟩ | ⟨g, cap, cur, rfl, _, hg, _⟩
  · simp [Value.ownBlock] at hb
  · simp only [Value.ownBlock, Option.some.injEq] at hb
    subst hb
    exact ⟨cur, hg⟩
theorem ownsMap_obj {H : Type} {P : Program} {k : TypeId} {R : Value → Option (DataW H × List MemPlace)} {w : World} {b n : Nat} {D : DataW H} (h : w.ownsMap P k R b n D) : ∃ es clock, w.heap[b]? = some (.map es clock) := by
  obtain ⟨es, clock, hb, _⟩ := h
  exact ⟨es, clock, hb⟩

end Go.Proofs.YtfeconankopjmaaGreatDoor

/- What turning one part of a disk that lies in memory makes of it. No function is named. -/
namespace Go.Proofs.YtfeconankopjmaaGreatDoor
open Go.RowKit Go.Maps
open Dk (Dir Chg Disk File Str)

section
variable {w w' : World} {L : Lay} {S : Disk}

theorem obj_cells_ne {w : World} {a b : Nat} {c c' : Array Value} {t t' : TypeId} (ha : w.heap[a]? = some (.cells c t (0, 0))) (hb : w.heap[b]? = some (.cells c' t' (0, 0))) (h : t ≠ t') : a ≠ b :=
  obj_ne ha hb (fun e => h (by simp only [Obj.cells.injEq] at e; exact e.2.1))
theorem obj_map_ne {w : World} {a b : Nat} {c : Array Value} {t : TypeId} {es : Array MapEntry} {k : Nat} (ha : w.heap[a]? = some (.map es k)) (hb : w.heap[b]? = some (.cells c t (0, 0))) : a ≠ b :=
  obj_ne ha hb (fun e => by cases e)

/-- The blocks of a disk are not each other. -/
structure Lone (L : Lay) : Prop where
  bn_d : L.bn ≠ L.d
  bl_d : L.bl ≠ L.d
  bn_bl : L.bn ≠ L.bl
  vec_d : ∀ b, L.vec.ownBlock = some b → b ≠ L.d ∧ b ≠ L.bn ∧ b ≠ L.bl
  loc : ∀ i, L.live i → L.loc i ≠ L.d ∧ L.loc i ≠ L.bn ∧ L.loc i ≠ L.bl ∧ ∀ b, L.vec.ownBlock = some b → b ≠ L.loc i
  dat : ∀ i, L.live i → ∀ b, (L.dat i).ownBlock = some b → b ≠ L.d ∧ b ≠ L.bn ∧ b ≠ L.bl ∧ (∀ g, L.vec.ownBlock = some g → g ≠ b) ∧ ∀ j, L.live j → L.loc j ≠ b
theorem Holds.lone (h : Holds w L S) : Lone L := by
  obtain ⟨es, k, hn⟩ := ownsMap_obj h.now
  obtain ⟨es', k', hl⟩ := ownsMap_obj h.old
  have hv : ∀ b, L.vec.ownBlock = some b → ∃ cur, w.heap[b]? = some (.cells cur 133 (0, 0)) := fun b hb => ownsRow_obj h.chg hb
  have hf := fun i hi => (h.file i hi).box
  have hd : ∀ i, L.live i → ∀ b, (L.dat i).ownBlock = some b → ∃ cur, w.heap[b]? = some (.cells cur 5 (0, 0)) := fun i hi b hb => ownsRow_obj (h.file i hi).row hb
  refine ⟨obj_map_ne hn h.box, obj_map_ne hl h.box, h.two, fun b hb => ?_, fun i hi => ⟨?_, ?_, ?_, fun b hb => ?_⟩, fun i hi b hb => ?_⟩
  · obtain ⟨cur, hc⟩ := hv b hb
    exact ⟨obj_cells_ne hc h.box (by decide), (obj_map_ne hn hc).symm, (obj_map_ne hl hc).symm⟩
  · exact obj_cells_ne (hf i hi) h.box (by decide)
  · exact (obj_map_ne hn (hf i hi)).symm
  · exact (obj_map_ne hl (hf i hi)).symm
  · obtain ⟨cur, hc⟩ := hv b hb
    exact obj_cells_ne hc (hf i hi) (by decide)
  · obtain ⟨cur, hc⟩ := hd i hi b hb
    refine ⟨obj_cells_ne hc h.box (by decide), (obj_map_ne hn hc).symm, (obj_map_ne hl hc).symm, fun g hg => ?_, fun j hj => obj_cells_ne (hf j hj) hc (by decide)⟩
    obtain ⟨cur', hc'⟩ := hv g hg
    exact obj_cells_ne hc' hc (by decide)

theorem setCell_kept (w : World) (a : Addr) (v : Value) {k : Nat} (h : k ≠ a.block) : (w.setCell a v).heap[k]? = w.heap[k]? := RowKit.Below.heap_setCell w a v k h

/-- A cell of the disk's own block. -/
theorem Holds.setBox (h : Holds w L S) (j : Nat) (v : Value) (S' : Disk) (hb : (boxCells L S).toArray.setIfInBounds j v = (boxCells L S').toArray) (h1 : S'.now = S.now) (h2 : S'.lasting = S.lasting) (h3 : S'.changes = S.changes) (h4 : S'.file = S.file) (h5 : S'.next = S.next) :
    Holds (w.setCell ⟨L.d, j, none⟩ v) L S' := by
  have A := h.lone
  have kept : ∀ b, b ≠ L.d → (w.setCell ⟨L.d, j, none⟩ v).heap[b]? = w.heap[b]? := fun b hb => setCell_kept w _ v hb
  refine ⟨?_, ?_, ?_, h.two, ?_, fun i hi => ?_, h.apart, ?_, ?_, ?_, ?_⟩
  · rw [← hb]; exact heap_setCell_same w L.d j _ _ v h.box
  · rw [h1]; exact ownsMap_frame h.now (kept _ A.bn_d)
  · rw [h2]; exact ownsMap_frame h.old (kept _ A.bl_d)
  · rw [h3]; exact ownsRow_frame h.chg fun b hb => kept b (A.vec_d b hb).1
  · rw [h4]; exact (h.file i hi).frame (kept _ (A.loc i hi).1) fun g hg => kept g (A.dat i hi g hg).1
  · rw [h1]; exact h.inNow
  · rw [h2]; exact h.inOld
  · rw [h3]; exact h.inChg
  · rw [h5]; exact h.lt

/-- The count of a file's bytes that last. -/
theorem Holds.setLasts (h : Holds w L S) (i n : Nat) (hi : L.live i) (hn : n ≤ (S.file i).data.length) : Holds (w.setCell ⟨L.loc i, 1, none⟩ (.int .i64 (n : Int))) L (S.setFile i ⟨(S.file i).data, n⟩) := by
  have A := h.lone
  have kept : ∀ b, b ≠ L.loc i → (w.setCell ⟨L.loc i, 1, none⟩ (.int .i64 (n : Int))).heap[b]? = w.heap[b]? := fun b hb => setCell_kept w _ _ hb
  refine ⟨(kept _ (A.loc i hi).1.symm).trans h.box, ownsMap_frame h.now (kept _ (A.loc i hi).2.1.symm), ownsMap_frame h.old (kept _ (A.loc i hi).2.2.1.symm), h.two, ownsRow_frame h.chg fun b hb => kept b ((A.loc i hi).2.2.2 b hb), fun k hk => ?_, h.apart, h.inNow, h.inOld, h.inChg, h.lt⟩
  by_cases e : k = i
  · subst e
    have hf := h.file k hk
    unfold Disk.setFile
    dsimp only
    rw [Dk.upd_same]
    refine ⟨?_, ownsRow_frame hf.row fun b hb => kept b ((A.dat k hk b hb).2.2.2.2 k hk).symm, hn⟩
    exact heap_setCell_same w (L.loc k) 1 _ _ _ hf.box
  · unfold Disk.setFile
    dsimp only
    rw [Dk.upd_other e]
    exact (h.file k hk).frame (kept _ (h.apart k i hk hi e).1) fun g hg => kept g ((A.dat k hk g hg).2.2.2.2 i hi).symm

/-- The bytes of a file: a slice of its own row, or of a new one, is laid in the place of its slice. -/
theorem Holds.setData {w1 : World} (h : Holds w L S) (i : Nat) (hi : L.live i) (v : Value) (l : Str) (hg : w.grownBy w1 (L.dat i).ownBlock) (hrow : w1.ownsRow 0 5 1 v l.length (Lib.byteCells l)) (hle : (S.file i).lasts ≤ l.length)
    (hv : ∀ b, v.ownBlock = some b → (L.dat i).ownBlock = some b ∨ w.heap.size ≤ b) :
    Holds (w1.setCell ⟨L.loc i, 0, none⟩ v) { L with dat := fun k => if k = i then v else L.dat k } (S.setFile i ⟨l, (S.file i).lasts⟩) := by
  have A := h.lone
  have kept : ∀ b, b < w.heap.size → b ≠ L.loc i → (L.dat i).ownBlock ≠ some b → (w1.setCell ⟨L.loc i, 0, none⟩ v).heap[b]? = w.heap[b]? := fun b hl hb hd => (setCell_kept w1 _ _ hb).trans (hg.block b hl (fun e => hd e.symm))
  have hloc : w1.heap[L.loc i]? = w.heap[L.loc i]? := hg.block _ (heap_lt (h.file i hi).box) (fun e => (A.dat i hi _ e.symm).2.2.2.2 i hi rfl)
  refine ⟨(kept _ (heap_lt h.box) (A.loc i hi).1.symm fun e => (A.dat i hi _ e).1 rfl).trans h.box, ownsMap_frame h.now (kept _ h.now.lt (A.loc i hi).2.1.symm fun e => (A.dat i hi _ e).2.1 rfl),
    ownsMap_frame h.old (kept _ h.old.lt (A.loc i hi).2.2.1.symm fun e => (A.dat i hi _ e).2.2.1 rfl), h.two, ownsRow_frame h.chg fun b hb => kept b (ownsRow_lt h.chg hb) ((A.loc i hi).2.2.2 b hb) fun e => (A.dat i hi _ e).2.2.2.1 b hb rfl, fun k hk => ?_, fun k m hk hm hkm => ?_, h.inNow, h.inOld, h.inChg, h.lt⟩
  · by_cases e : k = i
    · subst e
      have hf := h.file k hk
      unfold Disk.setFile
      dsimp only
      rw [Dk.upd_same]
      rw [if_pos rfl]
      refine ⟨?_, ownsRow_frame hrow fun b hb => setCell_kept w1 _ _ ?_, hle⟩
      · exact heap_setCell_same w1 (L.loc k) 0 _ _ _ (hloc.trans hf.box)
      · intro e2
        rcases hv b hb with h1 | h1
        · exact (A.dat k hk b h1).2.2.2.2 k hk e2.symm
        · have := heap_lt hf.box
          simp only at e2
          omega
    · unfold Disk.setFile
      dsimp only
      rw [Dk.upd_other e]
      rw [if_neg e]
      have hf := h.file k hk
      exact hf.frame (kept _ (heap_lt hf.box) (h.apart k i hk hi e).1 fun e2 => (A.dat i hi _ e2).2.2.2.2 k hk rfl) fun g hg2 => kept g (ownsRow_lt hf.row hg2) ((A.dat k hk g hg2).2.2.2.2 i hi).symm ((h.apart k i hk hi e).2 g hg2)
  · refine ⟨(h.apart k m hk hm hkm).1, fun b hb hb2 => ?_⟩
    dsimp only at hb hb2
    by_cases e : k = i
    · rw [if_pos e] at hb
      rw [if_neg (fun e2 => hkm (e.trans e2.symm))] at hb2
      rcases hv b hb with h1 | h1
      · exact (h.apart i m hi hm (e ▸ hkm)).2 b h1 hb2
      · have := ownsRow_lt (h.file m hm).row hb2; omega
    · rw [if_neg e] at hb
      by_cases e2 : m = i
      · rw [if_pos e2] at hb2
        rcases hv b hb2 with h1 | h1
        · exact (h.apart k i hk hi e).2 b hb h1
        · have := ownsRow_lt (h.file k hk).row hb; omega
      · rw [if_neg e2] at hb2
        exact (h.apart k m hk hm hkm).2 b hb hb2

/-- The directory. -/
theorem Holds.setNow (h : Holds w L S) (hg : w.grownBy w' (some L.bn)) (d : Dir) {n : Nat} (ho : w'.ownsMap Tryz.prog 9 ptrElem L.bn n (toD L.loc d)) (hd : ∀ p ∈ d, L.live p.2) : Holds w' L { S with now := d } := by
  have A := h.lone
  have kept : ∀ b, b < w.heap.size → b ≠ L.bn → w'.heap[b]? = w.heap[b]? := fun b hl hb => hg.block b hl (fun e => hb (by simpa using e))
  have ho' := ownsMap_sized ho
  rw [toD_size] at ho'
  exact ⟨(kept _ (heap_lt h.box) A.bn_d.symm).trans h.box, ho', ownsMap_frame h.old (kept _ h.old.lt h.two.symm), h.two, ownsRow_frame h.chg fun b hb => kept b (ownsRow_lt h.chg hb) (A.vec_d b hb).2.1,
    fun i hi => (h.file i hi).frame (kept _ (heap_lt (h.file i hi).box) (A.loc i hi).2.1) fun g hg2 => kept g (ownsRow_lt (h.file i hi).row hg2) (A.dat i hi g hg2).2.1, h.apart, hd, h.inOld, h.inChg, h.lt⟩
/-- .. as it lasts. -/
theorem Holds.setOld (h : Holds w L S) (hg : w.grownBy w' (some L.bl)) (d : Dir) {n : Nat} (ho : w'.ownsMap Tryz.prog 9 ptrElem L.bl n (toD L.loc d)) (hd : ∀ p ∈ d, L.live p.2) : Holds w' L { S with lasting := d } := by
  have A := h.lone
  have kept : ∀ b, b < w.heap.size → b ≠ L.bl → w'.heap[b]? = w.heap[b]? := fun b hl hb => hg.block b hl (fun e => hb (by simpa using e))
  have ho' := ownsMap_sized ho
  rw [toD_size] at ho'
  exact ⟨(kept _ (heap_lt h.box) A.bl_d.symm).trans h.box, ownsMap_frame h.now (kept _ h.now.lt h.two), ho', h.two, ownsRow_frame h.chg fun b hb => kept b (ownsRow_lt h.chg hb) (A.vec_d b hb).2.2,
    fun i hi => (h.file i hi).frame (kept _ (heap_lt (h.file i hi).box) (A.loc i hi).2.2.1) fun g hg2 => kept g (ownsRow_lt (h.file i hi).row hg2) (A.dat i hi g hg2).2.2.1, h.apart, h.inNow, hd, h.inChg, h.lt⟩
/-- The changes: a slice of their own row, or of a new one, is laid in the place of theirs. -/
theorem Holds.setVec {w1 : World} (h : Holds w L S) (v : Value) (cs : List Chg) (hg : w.grownBy w1 L.vec.ownBlock) (hrow : w1.ownsRow 0 133 3 v cs.length (cs.flatMap (chgCells L.loc))) (hv : ∀ b, v.ownBlock = some b → L.vec.ownBlock = some b ∨ w.heap.size ≤ b)
    (hc : ∀ c ∈ cs, ∀ i, c.made = some i → L.live i) : Holds (w1.setCell ⟨L.d, 6, none⟩ v) { L with vec := v } { S with changes := cs } := by
  have A := h.lone
  have kept : ∀ b, b < w.heap.size → b ≠ L.d → L.vec.ownBlock ≠ some b → (w1.setCell ⟨L.d, 6, none⟩ v).heap[b]? = w.heap[b]? := fun b hl hb hd => (setCell_kept w1 _ _ hb).trans (hg.block b hl (fun e => hd e.symm))
  have hloc : w1.heap[L.d]? = w.heap[L.d]? := hg.block _ (heap_lt h.box) (fun e => (A.vec_d _ e.symm).1 rfl)
  refine ⟨?_, ownsMap_frame h.now (kept _ h.now.lt A.bn_d fun e => (A.vec_d _ e).2.1 rfl), ownsMap_frame h.old (kept _ h.old.lt A.bl_d fun e => (A.vec_d _ e).2.2 rfl), h.two, ownsRow_frame hrow fun b hb => setCell_kept w1 _ _ ?_,
    fun i hi => (h.file i hi).frame (kept _ (heap_lt (h.file i hi).box) (A.loc i hi).1 fun e => (A.loc i hi).2.2.2 _ e rfl) fun g hg2 => kept g (ownsRow_lt (h.file i hi).row hg2) (A.dat i hi g hg2).1 fun e => (A.dat i hi g hg2).2.2.2.1 g e rfl, h.apart, h.inNow, h.inOld, hc, h.lt⟩
  · exact heap_setCell_same w1 L.d 6 _ _ _ (hloc.trans h.box)
  · intro e2
    rcases hv b hb with h1 | h1
    · exact (A.vec_d b h1).1 e2
    · have := heap_lt h.box
      simp only at e2
      omega

end
end Go.Proofs.YtfeconankopjmaaGreatDoor

/- The walks of disk.held, made, barred, burns, find, isName over a disk that lies in memory. -/
namespace Go.Proofs.YtfeconankopjmaaGreatDoor
open Go.RowKit Go.Maps
open Dk (Dir Chg Disk File Str)

theorem cell_of {w : World} {b : Nat} {cs : Array Value} {t : TypeId} (h : w.heap[b]? = some (.cells cs t (0, 0))) (j : Nat) : w.cell? ⟨b, j, none⟩ = cs[j]? := by
  simp [World.cell?, h]
theorem unfrozen_of {w : World} {b : Nat} {cs : Array Value} {t : TypeId} (h : w.heap[b]? = some (.cells cs t (0, 0))) (j : Nat) : w.frozen? ⟨b, j, none⟩ = false := by
  simp [World.frozen?, h]
theorem cell_kept {w w' : World} {a : Addr} {v : Value} (h : w.cell? a = some v) (hb : w'.heap[a.block]? = w.heap[a.block]?) : w'.cell? a = some v := (World.cell?_of_block hb).trans h
theorem Holds.cells {w : World} {L : Lay} {S : Disk} (h : Holds w L S) :
    w.cell? ⟨L.d, 0, none⟩ = some (.int .i64 S.room) ∧ w.cell? ⟨L.d, 1, none⟩ = some (.int .i64 S.used) ∧ w.cell? ⟨L.d, 2, none⟩ = some (.int .i64 (S.fuse : Int)) ∧ w.cell? ⟨L.d, 3, none⟩ = some (.bool S.down) ∧
    w.cell? ⟨L.d, 4, none⟩ = some (.map (some L.bn)) ∧ w.cell? ⟨L.d, 5, none⟩ = some (.map (some L.bl)) ∧ w.cell? ⟨L.d, 6, none⟩ = some L.vec := by
  refine ⟨?_, ?_, ?_, ?_, ?_, ?_, ?_⟩ <;> rw [cell_of h.box] <;> rfl
theorem Holds.soft {w : World} {L : Lay} {S : Disk} (h : Holds w L S) (j : Nat) : w.frozen? ⟨L.d, j, none⟩ = false := unfrozen_of h.box j

set_option maxHeartbeats 1000000 in
theorem held_any (n most : Int) (w : World) : Calls Tryz.prog 37 #[.int .i64 n, .int .i64 most] w fun e w' => e = .returned (.int .i64 (Dk.held n most)) ∧ w' = w := by
  obtain ⟨R, hR⟩ : ∃ R, R = Dk.held n most := ⟨_, rfl⟩
  rw [← hR]
  have HR := Lib.hid hR; clear hR
  go_enter Tryz.func37, Tryz.ntmps37
  go_wp2_with fail
  go_ret
  exact ⟨by rw [HR.out]; rfl, rfl⟩

theorem run_equalIn_map_nil (w : World) (d : Nat) (t k e : TypeId) (p : Option Nat) (h : Tryz.prog.underlying t = some (.map k e)) :
    (Op.equalIn (d + 1) t (.map p) (.map none)).run Tryz.prog w = .ok p.isNone w := by
  cases p <;> simp [Op.equalIn, run_underlying h]
theorem run_neq_map_nil (w : World) (p : Option Nat) : (binOp BinOp.neq 86 (.map p) (.map none)).run Tryz.prog w = .ok (.bool p.isSome) w := by
  simp only [binOp]
  simp [show Op.equal 86 (.map p) (.map none) = Op.equalIn (9999 + 1) 86 (.map p) (.map none) from rfl, run_equalIn_map_nil w 9999 _ _ _ p Tryz.underlying86]

set_option maxHeartbeats 1000000 in
set_option maxRecDepth 100000 in
theorem made_any {L : Lay} {S : Disk} (w : World) (h : Holds w L S) : Calls Tryz.prog 52 #[.pointer (some ⟨L.d, 0, none⟩)] w fun e w' => e = .returned (.bool true) ∧ w' = w := by
  obtain ⟨c0, c1, c2, c3, c4, c5, c6⟩ := h.cells
  clear h
  have hne := run_neq_map_nil w (some L.bn)
  rw [Option.isSome_some] at hne
  go_enter Tryz.func52, Tryz.ntmps52
  go_wp2_with fail
  go_ret
  exact ⟨rfl, rfl⟩

/-- What bars each operation. -/
def barV (S : Disk) : Value := .int .i64 (if S.down then 7 else 0)

set_option maxHeartbeats 1000000 in
set_option maxRecDepth 100000 in
theorem barred_any {L : Lay} {S : Disk} (w : World) (h : Holds w L S) : Calls Tryz.prog 82 #[.pointer (some ⟨L.d, 0, none⟩)] w fun e w' => e = .returned (barV S) ∧ w' = w := by
  obtain ⟨c0, c1, c2, c3, c4, c5, c6⟩ := h.cells
  have HM := Lib.hid (made_any w h)
  clear h
  go_enter Tryz.func82, Tryz.ntmps82
  go_wp2_with fail
  refine HM.out.mono ?_
  rintro e w1 ⟨rfl, rfl⟩
  cases hd : S.down
  · rw [hd] at c3
    go_wp2_with fail
    go_ret
    exact ⟨by unfold barV; rw [hd]; rfl, rfl⟩
  · rw [hd] at c3
    go_wp2_with fail
    go_ret
    exact ⟨by unfold barV; rw [hd]; rfl, rfl⟩

/-- An operation that nothing else bars. -/
theorem Dk_burn_fuse0 {S : Disk} (h : S.fuse = 0) : S.burn = S ∧ S.burnt = false := by
  unfold Disk.burn Disk.burnt
  rw [if_pos h, h]
  exact ⟨rfl, rfl⟩

set_option maxHeartbeats 1000000 in
set_option maxRecDepth 100000 in
theorem burns_any {L : Lay} {S : Disk} (w : World) (h : Holds w L S) (hf : S.fuse ≤ 9223372036854775807) :
    Calls Tryz.prog 86 #[.pointer (some ⟨L.d, 0, none⟩)] w fun e w' => e = .returned (.bool S.burnt) ∧ Holds w' L S.burn ∧ Turns (fun b => b = L.d) w w' ∧ w'.heap.size = w.heap.size := by
  obtain ⟨c0, c1, c2, c3, c4, c5, c6⟩ := h.cells
  have f2 := h.soft 2
  have f3 := h.soft 3
  have H := Lib.hid h; clear h
  by_cases h0 : S.fuse = 0
  · have HB := Lib.hid (Dk_burn_fuse0 h0)
    rw [HB.out.1, HB.out.2]
    rw [h0] at c2
    clear h0
    go_enter Tryz.func86, Tryz.ntmps86
    go_wp2_with fail
    go_ret
    exact ⟨rfl, H.out, Turns.refl _ _, rfl⟩
  · obtain ⟨n, hn⟩ : ∃ n : Nat, S.fuse = n + 1 := ⟨S.fuse - 1, by omega⟩
    have e2 : (S.fuse : Int) = (n : Int) + 1 := by omega
    have hn2 : (n : Int) ≤ 9223372036854775806 := by omega
    rw [e2] at c2
    have HN := Lib.hid hn
    clear h0 hn e2 hf
    go_enter Tryz.func86, Tryz.ntmps86
    go_wp2_with fail
    go_ret
    have e1 : S.burnt = ((n : Int) == 0) := by
      unfold Disk.burnt
      rw [HN.out]
      cases n <;> simp <;> omega
    have e2 : S.burn = { S with fuse := n, down := S.burnt } := by
      unfold Disk.burn
      rw [if_neg (by rw [HN.out]; omega)]
      have e3 : S.fuse - 1 = n := by rw [HN.out]; rfl
      rw [e3]
      rfl
    have hH := H.out
    refine ⟨by rw [e1]; rfl, ?_, ?_, by simp [World.setCell]⟩
    · rw [e2, ← e1]
      have h1 := hH.setBox 2 (.int .i64 (n : Int)) { S with fuse := n } rfl rfl rfl rfl rfl rfl
      exact h1.setBox 3 (.bool S.burnt) { S with fuse := n, down := S.burnt } rfl rfl rfl rfl rfl rfl
    · exact (Turns.of_setCell (P := fun b => b = L.d) w ⟨L.d, 2, none⟩ _ rfl).trans (Turns.of_setCell (P := fun b => b = L.d) _ ⟨L.d, 3, none⟩ _ rfl) (fun _ hx => Or.inl hx)

theorem notEmpty {s : ByteArray} (h0 : s.size ≠ 0) : s.toList.isEmpty = false ∧ ¬ s.toList = [] := by
  have e1 : s.toList ≠ [] := fun e => h0 (by rw [Lib.size_eq, ← ByteArray.toList_eq, e]; rfl)
  exact ⟨by cases hs : s.toList with
    | nil => exact absurd hs e1
    | cons _ _ => rfl, e1⟩

theorem law : Keyed Tryz.prog 9 := string_keyed Tryz.underlying9
theorem zero_ptr (w : World) : (zeroValue 126).run Tryz.prog w = .ok (.pointer none) w := by kernel_rfl
theorem key_string (s : ByteArray) (h : s.size ≤ maxLen) : keyOf Tryz.prog 9 (.string s) = some (.string s.data.toList)   := Go.WideMaps.keyOf_string_mk Tryz.underlying9 h
/-- A look-up in a directory. -/
theorem look_run {w : World} {b n : Nat} {loc : Nat → Nat} {d : Dir} (h : w.ownsMap Tryz.prog 9 ptrElem b n (toD loc d)) (s : ByteArray) (hs : s.size ≤ maxLen) :
    (Instr.lookup 86 (.map (some b)) (.string s) false).run Tryz.prog w = .ok (fileV loc (Dk.look s.data.toList d)) w := by
  obtain ⟨v, ps, hrun, hR⟩ := h.lookup law Tryz.underlying86 (zero_ptr w) (zd := .nil) (zp := []) rfl (key_string s hs)
  rw [toD_at] at hR
  rw [hrun]
  cases hl : Dk.look s.data.toList d with
  | none =>
    rw [hl] at hR
    rw [ptrElem_nil hR]; rfl
  | some i =>
    rw [hl] at hR
    obtain ⟨m, rfl, hm⟩ := ptrElem_inv hR
    have : m = loc i := by omega
    subst this
    rfl

/-- What find answers. -/
def findV (L : Lay) (S : Disk) (s : ByteArray) : Value := if S.down then .tuple #[.pointer none, .int .i64 7] else match Dk.look s.data.toList S.now with
  | none => .tuple #[.pointer none, .int .i64 4]
  | some i => .tuple #[.pointer (some ⟨L.loc i, 0, none⟩), .int .i64 0]

set_option maxHeartbeats 1000000 in
set_option maxRecDepth 100000 in
theorem find_any {L : Lay} {S : Disk} (w : World) (h : Holds w L S) (s : ByteArray) (hs : s.size ≤ maxLen) : Calls Tryz.prog 87 #[.pointer (some ⟨L.d, 0, none⟩), .string s] w fun e w' => e = .returned (findV L S s) ∧ w' = w := by
  obtain ⟨c0, c1, c2, c3, c4, c5, c6⟩ := h.cells
  have HL := Lib.hid (look_run h.now s hs)
  have HM := Lib.hid (barred_any w h)
  clear h
  obtain ⟨R, hR⟩ : ∃ R, R = findV L S s := ⟨_, rfl⟩
  rw [← hR]
  unfold findV at hR
  have HR := Lib.hid hR; clear hR
  go_enter Tryz.func87, Tryz.ntmps87
  go_wp2_with fail
  refine HM.out.mono ?_
  rintro e w1 ⟨rfl, rfl⟩
  cases hd : S.down
  · have HV : Hid (barV S = .int .i64 0) := by unfold barV; rw [hd]; exact Lib.hid rfl
    rw [HV.out]
    have HR2 : Hid _ := Lib.hid (by have := HR.out; rw [hd] at this; exact this)
    cases hl : Dk.look s.data.toList S.now with
    | none =>
      have hlr := HL.out
      rw [hl] at hlr
      unfold fileV at hlr
      have HE : Hid (R = .tuple #[.pointer none, .int .i64 4]) := by have := HR2.out; rw [hl] at this; exact Lib.hid this
      clear HR HR2 HL HM HV hs
      go_wp2_with fail
      go_ret2
      exact ⟨HE.out.symm ▸ rfl, rfl⟩
    | some i =>
      have hlr := HL.out
      rw [hl] at hlr
      unfold fileV at hlr
      have HE : Hid (R = .tuple #[.pointer (some ⟨L.loc i, 0, none⟩), .int .i64 0]) := by have := HR2.out; rw [hl] at this; exact Lib.hid this
      clear HR HR2 HL HM HV hs
      go_wp2_with fail
      go_ret2
      exact ⟨HE.out.symm ▸ rfl, rfl⟩
  · have HV : Hid (barV S = .int .i64 7) := by unfold barV; rw [hd]; exact Lib.hid rfl
    rw [HV.out]
    have HE : Hid (R = .tuple #[.pointer none, .int .i64 7]) := by have := HR.out; rw [hd] at this; exact Lib.hid this
    clear HR HL HM HV hs
    go_wp2_with fail
    go_ret2
    exact ⟨HE.out.symm ▸ rfl, rfl⟩

end Go.Proofs.YtfeconankopjmaaGreatDoor

/- The walk of change.do in a directory that lies in memory. -/
namespace Go.Proofs.YtfeconankopjmaaGreatDoor
open Go.RowKit Go.Maps
open Dk (Dir Chg Disk File Str)

def chgV (loc : Nat → Nat) (c : Chg) : Value := .agg (chgCells loc c).toArray

set_option maxHeartbeats 2000000 in
set_option maxRecDepth 100000 in
theorem do_any (loc : Nat → Nat) (sf st : ByteArray) (mk : Option Nat) (d : Dir) (b : Nat) (w : World) (hown : w.ownsMap Tryz.prog 9 ptrElem b d.length (toD loc d))
    (hcan : (⟨sf.data.toList, st.data.toList, mk⟩ : Chg).Can d) (h1 : sf.size ≤ maxLen) (h2 : st.size ≤ maxLen) (hn : d.length < maxLen) :
    Calls Tryz.prog 74 #[.agg #[.string sf, .string st, fileV loc mk], .map (some b)] w fun e w' => e = .returned (.tuple #[]) ∧ (∃ n, w'.ownsMap Tryz.prog 9 ptrElem b n (toD loc ((⟨sf.data.toList, st.data.toList, mk⟩ : Chg).run d))) ∧ Turns (fun k => k = b) w w' := by
  have hbl := hown.lt
  have HO := Lib.hid hown; clear hown
  by_cases hf : sf.size = 0
  · obtain rfl := empty_of_size hf
    obtain ⟨hc1, hc2⟩ := hcan
    have hst : st.data.toList ≠ [] := hc2 rfl
    obtain ⟨i, hi⟩ := hc1 hst
    have hmk : mk = some i := hi
    subst hmk
    have hst0 : st.size ≠ 0 := fun e => hst (by rw [empty_of_size e]; rfl)
    obtain ⟨hne, hne2⟩ := notEmpty hst0
    have HS := Lib.hid hst
    clear hc1 hc2 hi hst hst0
    unfold fileV
    have hkey := Lib.hid (key_string st h2)
    have HO1 : ∀ o, Hid ((w.alloc o).ownsMap Tryz.prog 9 ptrElem b d.length (toD loc d)) := fun o => Lib.hid (HO.out.alloc o)
    go_enter Tryz.func74, Tryz.ntmps74
    go_wp2_with (at_mapUpdate; refine wpList_mapUpdate_own _ rfl _ _ _ 86 rfl 9 126 law Tryz.underlying86 _ b d.length _ rfl (HO1 _).out hn _ _ _ rfl rfl hkey.out (.lit (.int .i64 (loc i))) [] rfl ?_)
    intro w2 hown2 hg2
    rw [toD_put] at hown2
    have HF : Hid _ := Lib.hid (And.intro hown2 hg2); clear hown2 hg2
    go_wp2_with fail
    go_end0
    obtain ⟨hown2, hg2⟩ := HF.out
    have e : (⟨ByteArray.empty.data.toList, st.data.toList, some i⟩ : Chg).run d = Dk.put st.data.toList i d := by
      unfold Chg.run Chg.file
      simp only
      rw [if_neg HS.out]
      rfl
    exact ⟨rfl, ⟨d.length + 1, by rw [e]; exact hown2⟩, (Turns.of_below (P := fun k => k = b) ((Below.refl _ w).alloc (Nat.le_refl _) _)).trans (Turns.of_grown (P := fun k => k = b) hg2 (fun k e => (Option.some.inj e).symm)) (fun _ hx => Or.inl hx)⟩
  · obtain ⟨hc1, hc2⟩ := hcan
    obtain ⟨hnf, hnf2⟩ := notEmpty hf
    have hsf : sf.data.toList ≠ [] := fun e => hf (by rw [Lib.size_eq, e]; rfl)
    have hlr : ∀ o, (Instr.lookup 86 (.map (some b)) (.string sf) false).run Tryz.prog (w.alloc o) = .ok (fileV loc (Dk.look sf.data.toList d)) (w.alloc o) := fun o => look_run (HO.out.alloc o) sf h1
    have hkf := Lib.hid (key_string sf h1)
    have hkt := Lib.hid (key_string st h2)
    have HO1 : ∀ o, Hid ((w.alloc o).ownsMap Tryz.prog 9 ptrElem b d.length (toD loc d)) := fun o => Lib.hid (HO.out.alloc o)
    have hne : w.heap.size ≠ b := by omega
    have hB0 : ∀ o, Hid (Turns (fun k => k = b) w (w.alloc o)) := fun o => Lib.hid (Turns.of_below (P := fun k => k = b) ((Below.refl _ w).alloc (Nat.le_refl _) _))
    have HC := Lib.hid hc1
    have HSF := Lib.hid hsf
    clear hc1 hc2 hf hsf h1 h2
    by_cases ht : st.size = 0
    · obtain rfl := empty_of_size ht
      generalize hG : fileV loc (Dk.look sf.data.toList d) = g at hlr
      clear hG
      go_enter Tryz.func74, Tryz.ntmps74
      go_wp2_with (at_delete; refine wpList_delete_own _ rfl _ _ 86 9 rfl 126 law Tryz.underlying86 ptrElem b d.length _ rfl (HO1 _).out _ _ rfl hkf.out ?_)
      intro w2 hown2 hturn
      rw [toD_del] at hown2
      have hk2 := hturn.grown.block w.heap.size (by simp) (by simp [hne])
      have c1 := cell_kept (a := ⟨w.heap.size, 1, none⟩) (v := .string ByteArray.empty) (by rw [World.cell?_alloc_mark]; rfl) hk2
      have HE : Hid (w2.ownsMap Tryz.prog 9 ptrElem b d.length (toD loc (Dk.del sf.data.toList d)) ∧ Turns (fun k => k = b) w w2) := Lib.hid ⟨hown2, (hB0 _).out.trans (Turns.of_grown (P := fun k => k = b) hturn.grown (fun k e => (Option.some.inj e).symm)) (fun _ hx => Or.inl hx)⟩
      clear hown2 hturn hk2
      go_wp2_with fail
      go_end0
      refine ⟨rfl, ⟨d.length, ?_⟩, HE.out.2⟩
      have e : (⟨sf.data.toList, ByteArray.empty.data.toList, mk⟩ : Chg).run d = Dk.del sf.data.toList d := by
        unfold Chg.run
        simp only
        rw [if_neg HSF.out]
        rfl
      rw [e]
      exact HE.out.1
    · obtain ⟨hnt, hnt2⟩ := notEmpty ht
      have hst : st.data.toList ≠ [] := fun e => ht (by rw [Lib.size_eq, e]; rfl)
      obtain ⟨i, hi⟩ := HC.out hst
      have hi2 : Dk.look sf.data.toList d = some i := by
        unfold Chg.file at hi
        simp only at hi
        rw [if_neg HSF.out] at hi
        exact hi
      rw [hi2] at hlr
      have HR : Hid ((⟨sf.data.toList, st.data.toList, mk⟩ : Chg).run d = Dk.put st.data.toList i (Dk.del sf.data.toList d)) := by
        unfold Chg.run
        simp only
        rw [if_neg HSF.out, if_neg hst, hi]
        exact Lib.hid rfl
      unfold fileV at hlr
      clear hi hi2 hst ht HC
      rw [HR.out]
      go_enter Tryz.func74, Tryz.ntmps74
      go_wp2_with (at_delete; refine wpList_delete_own _ rfl _ _ 86 9 rfl 126 law Tryz.underlying86 ptrElem b d.length _ rfl (HO1 _).out _ _ rfl hkf.out ?_)
      intro w2 hown2 hturn
      rw [toD_del] at hown2
      have hk2 := hturn.grown.block w.heap.size (by simp) (by simp [hne])
      have c1 := cell_kept (a := ⟨w.heap.size, 1, none⟩) (v := .string st) (by rw [World.cell?_alloc_mark]; rfl) hk2
      have HE : Hid (w2.ownsMap Tryz.prog 9 ptrElem b d.length (toD loc (Dk.del sf.data.toList d)) ∧ Turns (fun k => k = b) w w2) := Lib.hid ⟨hown2, (hB0 _).out.trans (Turns.of_grown (P := fun k => k = b) hturn.grown (fun k e => (Option.some.inj e).symm)) (fun _ hx => Or.inl hx)⟩
      clear hown2 hturn hk2
      go_wp2_with (at_mapUpdate; refine wpList_mapUpdate_own _ rfl _ _ _ 86 rfl 9 126 law Tryz.underlying86 _ b d.length _ rfl HE.out.1 hn _ _ _ rfl rfl hkt.out (.lit (.int .i64 (loc i))) [] rfl ?_)
      intro w3 hown3 hg3
      rw [toD_put] at hown3
      have HF : Hid _ := Lib.hid (And.intro hown3 hg3); clear hown3 hg3
      go_wp2_with fail
      go_end0
      exact ⟨rfl, ⟨_, HF.out.1⟩, HE.out.2.trans (Turns.of_grown (P := fun k => k = b) HF.out.2 (fun k e => (Option.some.inj e).symm)) (fun _ hx => Or.inl hx)⟩

end Go.Proofs.YtfeconankopjmaaGreatDoor

/- The walk of disk.isName. -/
namespace Go.Proofs.YtfeconankopjmaaGreatDoor
open Go.RowKit Go.Maps
open Dk (Dir Chg Disk File Str)

theorem okByte_int (b : UInt8) : Dk.okByte b = (((decide ((97 : Int) ≤ b.toNat) && decide ((b.toNat : Int) ≤ 122)) || (decide ((48 : Int) ≤ b.toNat) && decide ((b.toNat : Int) ≤ 57))) || decide ((b.toNat : Int) = 46) || decide ((b.toNat : Int) = 45)) := by
  have h1 : (97 ≤ b) ↔ (97 : Int) ≤ b.toNat := by rw [UInt8.le_iff_toNat_le]; exact Int.ofNat_le.symm
  have h2 : (b ≤ 122) ↔ (b.toNat : Int) ≤ 122 := by rw [UInt8.le_iff_toNat_le]; exact Int.ofNat_le.symm
  have h3 : (48 ≤ b) ↔ (48 : Int) ≤ b.toNat := by rw [UInt8.le_iff_toNat_le]; exact Int.ofNat_le.symm
  have h4 : (b ≤ 57) ↔ (b.toNat : Int) ≤ 57 := by rw [UInt8.le_iff_toNat_le]; exact Int.ofNat_le.symm
  have h5 : (b = 46) ↔ (b.toNat : Int) = 46 := by rw [← UInt8.toNat_inj]; exact (Int.ofNat_inj (m := b.toNat) (n := 46)).symm
  have h6 : (b = 45) ↔ (b.toNat : Int) = 45 := by rw [← UInt8.toNat_inj]; exact (Int.ofNat_inj (m := b.toNat) (n := 45)).symm
  unfold Dk.okByte
  rw [Bool.eq_iff_iff]
  simp [h1, h2, h3, h4, h5, h6]

theorem isName_iff (s : ByteArray) (h0 : s.size ≠ 0) (h1 : s.size ≤ 24) : Dk.isName s.data.toList = s.data.toList.all Dk.okByte := by
  unfold Dk.isName
  have e1 : s.data.toList ≠ [] := fun e => h0 (by rw [Lib.size_eq, e]; rfl)
  have e2 : s.data.toList.length ≤ 24 := by rw [← Lib.size_eq]; exact h1
  rw [decide_eq_true e1, decide_eq_true e2, Bool.true_and, Bool.true_and]
theorem all_false (s : ByteArray) (k : Nat) (h : k < s.size) (hb : Dk.okByte (s[k]'h) = false) : s.data.toList.all Dk.okByte = false := by
  rw [← Bool.not_eq_true, List.all_eq_true]
  intro ha
  have hm : (s[k]'h) ∈ s.data.toList := by
    have e : (s[k]'h) = s.data.toList[k]'(by simpa using h) := by simp; rfl
    rw [e]
    exact List.getElem_mem _
  rw [ha _ hm] at hb
  cases hb

set_option maxHeartbeats 2000000 in
set_option maxRecDepth 100000 in
theorem isName_any (s : ByteArray) (w : World) (hs : s.size ≤ 4611686018427387904) : Calls Tryz.prog 83 #[.string s] w fun e w' => e = .returned (.bool (Dk.isName s.data.toList)) ∧ w' = w := by
  by_cases h0 : s.size = 0
  · obtain rfl := empty_of_size h0
    go_enter Tryz.func83, Tryz.ntmps83
    go_wp2_with fail
    go_ret
    exact ⟨rfl, rfl⟩
  · obtain ⟨hne, hne2⟩ := notEmpty h0
    by_cases h1 : s.size ≤ 24
    · have HI := Lib.hid (isName_iff s h0 h1)
      have h1i : (s.size : Int) ≤ 24 := by omega
      have H0 := Lib.hid h0; clear h0
      clear hs h1
      go_enter Tryz.func83, Tryz.ntmps83
      go_wp2_with fail
      go_loopw [14] (fun z wr => ∃ k : Nat, k ≤ s.size ∧ z = .int .i64 (k : Int) ∧ Hid ((s.data.toList.take k).all Dk.okByte = true) ∧ wr = w) (fun z _ => s.size - (intOf z).toNat)
      case atStart => exact ⟨0, by omega, rfl, Lib.hid rfl, rfl⟩
      case round =>
        obtain ⟨k, hk, rfl, HK, rfl⟩ := hrel
        by_cases hlt : k < s.size
        · have hlt2 : (k : Int) < s.size := by omega
          have hix := index_byte s k hlt wr
          obtain ⟨c, hc⟩ : ∃ c : Int, c = ((s[k]'hlt).toNat : Int) := ⟨_, rfl⟩
          have HB := Lib.hid (okByte_int (s[k]'hlt))
          rw [← hc] at hix
          have HC := Lib.hid hc; clear hc
          rw [← HC.out] at HB
          have HT := Lib.hid (take_snoc s k hlt)
          go_wp2_with fail
          all_goals rename_i hz hy hx
          all_goals try simp at hx
          all_goals try simp at hy
          all_goals try simp at hz
          all_goals first
            | (go_ret
               refine ⟨?_, rfl⟩
               have hb : Dk.okByte (s[k]'hlt) = false := by rw [HB.out]; simp; omega
               rw [HI.out, all_false s k hlt hb]
               rfl)
            | (have hb : Dk.okByte (s[k]'hlt) = true := by rw [HB.out]; simp; omega
               go_roundw
               case rel => exact ⟨k + 1, by omega, by go_num, Lib.hid (by rw [HT.out, List.all_append, HK.out, List.all_cons, List.all_nil, hb]; rfl), trivial⟩
               case measure => simp [intOf]; omega)
        · have hk2 : (k : Int) = s.size := by omega
          have HE : Hid (s.data.toList.all Dk.okByte = true) := by
            have := HK.out
            rw [List.take_of_length_le (by rw [← Lib.size_eq]; omega)] at this
            exact Lib.hid this
          obtain rfl : k = s.size := by omega
          clear hk2 hlt
          go_wp2_with fail
          go_ret
          exact ⟨by rw [HI.out, HE.out]; rfl, rfl⟩
    · have HI : Hid (Dk.isName s.data.toList = false) := by
        unfold Dk.isName
        have e2 : ¬ s.data.toList.length ≤ 24 := by rw [← Lib.size_eq]; exact h1
        rw [decide_eq_false e2, Bool.and_false, Bool.false_and]
        exact Lib.hid rfl
      have h1i : (24 : Int) < s.size := by omega
      rw [HI.out]
      clear hs h1 h0
      go_enter Tryz.func83, Tryz.ntmps83
      go_wp2_with fail
      go_ret
      exact ⟨rfl, rfl⟩

end Go.Proofs.YtfeconankopjmaaGreatDoor

/- A disk in memory: which blocks hold it, and what turning one of its cells makes of it. No function is named. -/
import Derived.Test.YtefoijamedciiaaBytes
import Derived.Test.YtefoijamedciiaaDkMath
import Derived.Maps.OwnSet
import Derived.Maps.Range
import Derived.Sort.KeysCollected
namespace Go.Proofs.Ytefoijamedciiaa
open Go.RowKit Go.Maps
open Dk (Dir Chg Disk File Str)

/-- How a file's address reads: by its block. -/
def ptrElem : Value → Option (DataW Unit × List MemPlace)
  | .pointer (some ⟨b, 0, none⟩) => some (.lit (.int .i64 b), [])
  | .pointer none => some (.nil, [])
  | _ => none
theorem ptrElem_inv {v : Value} {b : Int} {ps : List MemPlace} (h : ptrElem v = some (.lit (.int .i64 b), ps)) : ∃ n : Nat, v = .pointer (some ⟨n, 0, none⟩) ∧ b = n := by
  unfold ptrElem at h
  split at h
  · rename_i n
    simp only [Option.some.injEq, Prod.mk.injEq, DataW.lit.injEq, Lit.int.injEq, true_and] at h
    exact ⟨n, rfl, h.1.symm⟩
  · simp at h
  · cases h
theorem ptrElem_nil {v : Value} {ps : List MemPlace} (h : ptrElem v = some (.nil, ps)) : v = .pointer none := by
  unfold ptrElem at h
  split at h
  · simp at h
  · rfl
  · cases h

def ent (loc : Nat → Nat) (p : Str × Nat) : Lit × DataW Unit := (.string p.1, .lit (.int .i64 (loc p.2)))
/-- What a directory reads as, its files lying where 'loc' says. -/
def toD (loc : Nat → Nat) (d : Dir) : DataW Unit := .map (d.map (ent loc))
theorem toD_congr {loc loc' : Nat → Nat} {d : Dir} (h : ∀ p ∈ d, loc p.2 = loc' p.2) : toD loc d = toD loc' d := by
  unfold toD
  exact congrArg DataW.map (List.map_congr_left fun p hp => by unfold ent; rw [h p hp])
theorem ins_ent (loc : Nat → Nat) (x : Str × Nat) : ∀ d : Dir, DataW.insert (ent loc x) (d.map (ent loc)) = (Dk.ins x d).map (ent loc)
  | [] => rfl
  | y :: r => by
    simp only [List.map_cons, DataW.insert, Dk.ins]
    have e : (ent loc x).1.before (ent loc y).1 = bytesBefore x.1 y.1 := rfl
    rw [e]
    split
    · rfl
    · rw [ins_ent loc x r]; rfl
theorem toD_del (loc : Nat → Nat) (s : Str) (d : Dir) : (toD loc d).del (.string s) = toD loc (Dk.del s d) := by
  unfold toD DataW.del Dk.del
  simp only [List.filter_map]
  rfl
theorem toD_put (loc : Nat → Nat) (s : Str) (i : Nat) (d : Dir) : (toD loc d).put (.string s) (.lit (.int .i64 (loc i))) = toD loc (Dk.put s i d) := by
  have h : ((d.map (ent loc)).filter fun p => !p.1.sameKey (.string s)) = (Dk.del s d).map (ent loc) := by
    unfold Dk.del
    simp only [List.filter_map]
    rfl
  unfold toD DataW.put Dk.put
  simp only [h]
  exact congrArg DataW.map (ins_ent loc (s, i) _)
theorem toD_at (loc : Nat → Nat) (s : Str) (d : Dir) (z : DataW Unit) : (toD loc d).atKey (.string s) z = match Dk.look s d with
    | some i => .lit (.int .i64 (loc i))
    | none => z := by
  unfold toD DataW.atKey Dk.look
  simp only [List.find?_map]
  have e : (fun p : Lit × DataW Unit => p.1.sameKey (.string s)) ∘ ent loc = fun p => p.1 == s := by funext p; rfl
  rw [e]
  cases d.find? (fun p => p.1 == s) <;> rfl
theorem toD_size (loc : Nat → Nat) (d : Dir) : Maps.size (toD loc d) = d.length := by simp [toD, Maps.size]
theorem toD_keys (loc : Nat → Nat) (d : Dir) : strKeys (toD loc d) = d.map (·.1) := by
  simp [toD, strKeys]
  intro a b _
  rfl
theorem toD_has (loc : Nat → Nat) (s : Str) (d : Dir) : Maps.has (toD loc d) (.string s) = (Dk.look s d).isSome := by
  unfold toD Dk.look Maps.has
  simp only [List.any_map]
  have e : (fun p : Lit × DataW Unit => p.1.sameKey (.string s)) ∘ ent loc = fun p => p.1 == s := by funext p; rfl
  rw [e]
  rw [Bool.eq_iff_iff, List.any_eq_true]
  cases hf : d.find? (fun p => p.1 == s) with
  | none =>
    rw [List.find?_eq_none] at hf
    simp only [Option.isSome_none, Bool.false_eq_true, iff_false]
    rintro ⟨p, hp, hs⟩
    exact hf p hp hs
  | some p =>
    simp only [Option.isSome_some, iff_true]
    exact ⟨p, List.mem_of_find?_eq_some hf, List.find?_some (p := fun p : Str × Nat => p.1 == s) hf⟩

/-- Where a disk lies: its own block, its two directories', the slice of its changes; where its files lie, and their bytes; which numbers are files. -/
structure Lay where
  d : Nat
  bn : Nat
  bl : Nat
  vec : Value
  loc : Nat → Nat
  dat : Nat → Value
  live : Nat → Prop
def fileV (loc : Nat → Nat) : Option Nat → Value
  | some i => .pointer (some ⟨loc i, 0, none⟩)
  | none => .pointer none
def chgCells (loc : Nat → Nat) (c : Chg) : List Value := [.string ⟨c.src.toArray⟩, .string ⟨c.dst.toArray⟩, fileV loc c.made]
def boxCells (L : Lay) (S : Disk) : List Value := [.int .i64 S.room, .int .i64 S.used, .int .i64 (S.fuse : Int), .bool S.down, .map (some L.bn), .map (some L.bl), L.vec]

structure FileAt (w : World) (b : Nat) (v : Value) (f : File) : Prop where
  box : w.heap[b]? = some (.cells #[v, .int .i64 (f.lasts : Int)] 67 (0, 0))
  row : w.ownsRow 0 5 1 v f.data.length (Lib.byteCells f.data)
  le : f.lasts ≤ f.data.length

structure Holds (w : World) (L : Lay) (S : Disk) : Prop where
  box : w.heap[L.d]? = some (.cells (boxCells L S).toArray 57 (0, 0))
  now : w.ownsMap Try.prog 9 ptrElem L.bn S.now.length (toD L.loc S.now)
  old : w.ownsMap Try.prog 9 ptrElem L.bl S.lasting.length (toD L.loc S.lasting)
  two : L.bn ≠ L.bl
  chg : w.ownsRow 0 62 3 L.vec S.changes.length (S.changes.flatMap (chgCells L.loc))
  file : ∀ i, L.live i → FileAt w (L.loc i) (L.dat i) (S.file i)
  apart : ∀ i j, L.live i → L.live j → i ≠ j → L.loc i ≠ L.loc j ∧ ∀ b, (L.dat i).ownBlock = some b → (L.dat j).ownBlock ≠ some b
  inNow : ∀ p ∈ S.now, L.live p.2
  inOld : ∀ p ∈ S.lasting, L.live p.2
  inChg : ∀ c ∈ S.changes, ∀ i, c.made = some i → L.live i
  lt : ∀ i, L.live i → i < S.next

/-- The blocks of a disk. -/
def Own (L : Lay) (b : Nat) : Prop := b = L.d ∨ b = L.bn ∨ b = L.bl ∨ L.vec.ownBlock = some b ∨ ∃ i, L.live i ∧ (b = L.loc i ∨ (L.dat i).ownBlock = some b)

/-- Of what was there, but for these blocks, nothing has turned. -/
structure Turns (P : Nat → Prop) (w w' : World) : Prop where
  os : w'.os = w.os
  tape : w'.tape = w.tape
  output : w'.output = w.output
  size : w.heap.size ≤ w'.heap.size
  block : ∀ k, k < w.heap.size → ¬ P k → w'.heap[k]? = w.heap[k]?
theorem Turns.refl (P : Nat → Prop) (w : World) : Turns P w w := ⟨rfl, rfl, rfl, Nat.le_refl _, fun _ _ _ => rfl⟩
/-- One behind the other; the second one's blocks are the first one's, or new. -/
theorem Turns.trans {P Q : Nat → Prop} {a b c : World} (h : Turns P a b) (k : Turns Q b c) (hQ : ∀ x, Q x → P x ∨ a.heap.size ≤ x) : Turns P a c :=
  ⟨k.os.trans h.os, k.tape.trans h.tape, k.output.trans h.output, Nat.le_trans h.size k.size, fun i hi hp =>
    (k.block i (Nat.lt_of_lt_of_le hi h.size) (fun hq => (hQ i hq).elim hp (fun e => by omega))).trans (h.block i hi hp)⟩
theorem Turns.mono {P Q : Nat → Prop} {a b : World} (h : Turns P a b) (hQ : ∀ x, P x → Q x ∨ a.heap.size ≤ x) : Turns Q a b :=
  ⟨h.os, h.tape, h.output, h.size, fun i hi hq => h.block i hi (fun hp => (hQ i hp).elim hq (fun e => by omega))⟩
theorem Turns.of_below {P : Nat → Prop} {w w' : World} (h : Below w.heap.size w w') : Turns P w w' := ⟨h.os, h.tape, h.output, h.size, fun k hk _ => h.block k hk⟩
theorem Turns.of_grown {P : Nat → Prop} {w w' : World} {row : Option Nat} (h : w.grownBy w' row) (hP : ∀ k, row = some k → P k) : Turns P w w' :=
  ⟨h.os, h.tape, h.output, h.size, fun k hk hp => h.block k hk (fun e => hp (hP k e.symm))⟩
theorem Turns.of_setCell {P : Nat → Prop} (w : World) (a : Addr) (v : Value) (h : P a.block) : Turns P w (w.setCell a v) :=
  ⟨rfl, rfl, rfl, by simp [World.setCell], fun k _ hp => RowKit.Below.heap_setCell w a v k (fun e => hp (e ▸ h))⟩
theorem Turns.to_below {P : Nat → Prop} {w w' : World} {B : Nat} (h : Turns P w w') (hB : B ≤ w.heap.size) (hP : ∀ k, P k → B ≤ k) : Below B w w' :=
  ⟨h.os, h.tape, h.output, h.size, fun k hk => h.block k (Nat.lt_of_lt_of_le hk hB) (fun hp => by have := hP k hp; omega)⟩
theorem Turns.alloc {P : Nat → Prop} {w w' : World} (h : Turns P w w') (o : Obj) : Turns P w (w'.alloc o) :=
  h.trans (Turns.of_below (P := fun _ => False) ((Below.refl _ _).alloc (Nat.le_refl _) o)) (fun _ hx => hx.elim)
theorem Turns.drew {P : Nat → Prop} {w w' : World} (h : Turns P w w') : Turns P w w'.drew := ⟨h.os, h.tape, h.output, h.size, h.block⟩

theorem ownsRow_frame {w w' : World} {base : Nat} {e : TypeId} {z n : Nat} {v : Value} {xs : List Value} (h : w.ownsRow base e z v n xs) (hk : ∀ b, v.ownBlock = some b → w'.heap[b]? = w.heap[b]?) : w'.ownsRow base e z v n xs := by
  obtain ⟨h1, h2⟩ := h
  refine ⟨h1, ?_⟩
  rcases h2 with h2 | ⟨g, cap, cur, rfl, hg, hb, r⟩
  · exact Or.inl h2
  · exact Or.inr ⟨g, cap, cur, rfl, hg, (hk g rfl).trans hb, r⟩
theorem ownsMap_frame {H : Type} {P : Program} {k : TypeId} {R : Value → Option (DataW H × List MemPlace)} {w w' : World} {b n : Nat} {D : DataW H} (h : w.ownsMap P k R b n D) (hk : w'.heap[b]? = w.heap[b]?) : w'.ownsMap P k R b n D := by
  obtain ⟨es, clock, hb, r⟩ := h
  exact ⟨es, clock, hk.trans hb, r⟩
theorem ownsMap_sized {H : Type} {P : Program} {k : TypeId} {R : Value → Option (DataW H × List MemPlace)} {w : World} {b n : Nat} {D : DataW H} (h : w.ownsMap P k R b n D) : w.ownsMap P k R b (Maps.size D) D := by
  obtain ⟨es, clock, hb, F, hs, rfl⟩ := h
  exact ⟨es, clock, hb, F, by simp [Maps.size, length_sorted], rfl⟩
theorem FileAt.frame {w w' : World} {b : Nat} {v : Value} {f : File} (h : FileAt w b v f) (h1 : w'.heap[b]? = w.heap[b]?) (h2 : ∀ g, v.ownBlock = some g → w'.heap[g]? = w.heap[g]?) : FileAt w' b v f :=
  ⟨h1.trans h.box, ownsRow_frame h.row h2, h.le⟩

theorem heap_lt {w : World} {b : Nat} {o : Obj} (h : w.heap[b]? = some o) : b < w.heap.size := (Array.getElem?_eq_some_iff.1 h).1
theorem ownsRow_lt {w : World} {base : Nat} {e : TypeId} {z n : Nat} {v : Value} {xs : List Value} (h : w.ownsRow base e z v n xs) {b : Nat} (hb : v.ownBlock = some b) : b < w.heap.size := (World.ownsRow.lt h b hb).2
theorem Holds.own_lt {w : World} {L : Lay} {S : Disk} (h : Holds w L S) {b : Nat} (hb : Own L b) : b < w.heap.size := by
  rcases hb with rfl | rfl | rfl | hv | ⟨i, hi, rfl | hv⟩
  · exact heap_lt h.box
  · exact h.now.lt
  · exact h.old.lt
  · exact ownsRow_lt h.chg hv
  · exact heap_lt (h.file i hi).box
  · exact ownsRow_lt (h.file i hi).row hv
/-- A disk stays what it is while other blocks are turned. -/
theorem Holds.frame {w w' : World} {L : Lay} {S : Disk} (h : Holds w L S) (hk : ∀ b, Own L b → w'.heap[b]? = w.heap[b]?) : Holds w' L S where
  box := (hk _ (Or.inl rfl)).trans h.box
  now := ownsMap_frame h.now (hk _ (Or.inr (Or.inl rfl)))
  old := ownsMap_frame h.old (hk _ (Or.inr (Or.inr (Or.inl rfl))))
  two := h.two
  chg := ownsRow_frame h.chg fun b hb => hk b (Or.inr (Or.inr (Or.inr (Or.inl hb))))
  file := fun i hi => (h.file i hi).frame (hk _ (Or.inr (Or.inr (Or.inr (Or.inr ⟨i, hi, Or.inl rfl⟩))))) fun g hg => hk g (Or.inr (Or.inr (Or.inr (Or.inr ⟨i, hi, Or.inr hg⟩))))
  apart := h.apart
  inNow := h.inNow
  inOld := h.inOld
  inChg := h.inChg
  lt := h.lt
theorem Holds.turned {w w' : World} {L : Lay} {S : Disk} {P : Nat → Prop} (h : Holds w L S) (ht : Turns P w w') (hP : ∀ b, Own L b → ¬ P b) : Holds w' L S :=
  h.frame fun b hb => ht.block b (h.own_lt hb) (hP b hb)
theorem Holds.below {w w' : World} {L : Lay} {S : Disk} (h : Holds w L S) (hb : Below w.heap.size w w') : Holds w' L S := h.frame fun b ho => hb.block b (h.own_lt ho)
theorem Holds.alloc {w : World} {L : Lay} {S : Disk} (h : Holds w L S) (o : Obj) : Holds (w.alloc o) L S := h.below ((Below.refl _ _).alloc (Nat.le_refl _) o)
theorem Holds.drew {w : World} {L : Lay} {S : Disk} (h : Holds w L S) : Holds w.drew L S := h.frame fun _ _ => rfl

/-! ### the blocks of a disk are not each other -/
theorem obj_ne {w : World} {a b : Nat} {o o' : Obj} (ha : w.heap[a]? = some o) (hb : w.heap[b]? = some o') (h : o ≠ o') : a ≠ b := fun e => h (by subst e; rw [ha] at hb; simpa using hb)
theorem ownsRow_obj {w : World} {base : Nat} {e : TypeId} {z n : Nat} {v : Value} {xs : List Value} (h : w.ownsRow base e z v n xs) {b : Nat} (hb : v.ownBlock = some b) : ∃ cur, w.heap[b]? = some (.cells cur e (0, 0)) := by
  rcases h.2 with ⟨rfl, _⟩ | ⟨g, cap, cur, rfl, _, hg, _⟩
  · simp [Value.ownBlock] at hb
  · simp only [Value.ownBlock, Option.some.injEq] at hb
    subst hb
    exact ⟨cur, hg⟩
theorem ownsMap_obj {H : Type} {P : Program} {k : TypeId} {R : Value → Option (DataW H × List MemPlace)} {w : World} {b n : Nat} {D : DataW H} (h : w.ownsMap P k R b n D) : ∃ es clock, w.heap[b]? = some (.map es clock) := by
  obtain ⟨es, clock, hb, _⟩ := h
  exact ⟨es, clock, hb⟩

end Go.Proofs.Ytefoijamedciiaa

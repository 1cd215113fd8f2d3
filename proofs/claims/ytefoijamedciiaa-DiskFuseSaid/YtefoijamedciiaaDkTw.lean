/- The twin's files, one by one. No function is named. -/
import Derived.Test.YtefoijamedciiaaDkSame
import Derived.Test.YtefoijamedciiaaDkMade
namespace Go.Proofs.Ytefoijamedciiaa
open Go.RowKit Go.Maps
open Dk (Dir Chg Disk File Str)

/-- Files that were twinned, from a base on. -/
structure Twins (w : World) (base : Nat) (loc : Nat → Nat) (dat : Nat → Value) (live : Nat → Prop) (S : Disk) : Prop where
  file : ∀ i, live i → FileAt w (loc i) (dat i) (S.file i)
  lo : ∀ i, live i → base ≤ loc i ∧ ∀ b, (dat i).ownBlock = some b → base ≤ b
  apart : ∀ i j, live i → live j → i ≠ j → loc i ≠ loc j ∧ ∀ b, (dat i).ownBlock = some b → (dat j).ownBlock ≠ some b
theorem Twins.frame {w w' : World} {base : Nat} {loc : Nat → Nat} {dat : Nat → Value} {live : Nat → Prop} {S : Disk} (h : Twins w base loc dat live S) (hk : ∀ b, base ≤ b → b < w.heap.size → w'.heap[b]? = w.heap[b]?) : Twins w' base loc dat live S :=
  ⟨fun i hi => (h.file i hi).frame (hk _ (h.lo i hi).1 (heap_lt (h.file i hi).box)) fun g hg => hk g ((h.lo i hi).2 g hg) (ownsRow_lt (h.file i hi).row hg), h.lo, h.apart⟩
theorem Twins.more {w w' : World} {base : Nat} {loc : Nat → Nat} {dat : Nat → Value} {live : Nat → Prop} {S : Disk} (h : Twins w base loc dat live S) (k : Nat) (hk : ¬ live k) {b' : Nat} {v' : Value} (hf : FileAt w' b' v' (S.file k)) (hb : Below w.heap.size w w')
    (hlo : w.heap.size ≤ b') (hv : ∀ g, v'.ownBlock = some g → w.heap.size ≤ g) (hbase : base ≤ w.heap.size) :
    Twins w' base (fun i => if i = k then b' else loc i) (fun i => if i = k then v' else dat i) (fun i => i = k ∨ live i) S := by
  have hfr := h.frame (w' := w') (fun b _ hl => hb.block b hl)
  have aux : ∀ i, (i = k ∨ live i) → i ≠ k → live i := fun i hi hne => hi.resolve_left hne
  refine ⟨fun i hi => ?_, fun i hi => ?_, fun i j hi hj hij => ?_⟩
  · by_cases e : i = k
    · subst e; simp only [if_true]; exact hf
    · simp only [if_neg e]; exact hfr.file i (aux i hi e)
  · by_cases e : i = k
    · simp only [if_pos e]; exact ⟨Nat.le_trans hbase hlo, fun b hb => Nat.le_trans hbase (hv b hb)⟩
    · simp only [if_neg e]; exact h.lo i (aux i hi e)
  · by_cases e : i = k
    · have ej : j ≠ k := fun e2 => hij (e.trans e2.symm)
      have hjl := aux j hj ej
      simp only [if_pos e, if_neg ej]
      refine ⟨fun e2 => ?_, fun b hb1 hb2 => ?_⟩
      · have := heap_lt (h.file j hjl).box; omega
      · have := ownsRow_lt (h.file j hjl).row hb2; have := hv b hb1; omega
    · by_cases ej : j = k
      · have hil := aux i hi e
        simp only [if_neg e, if_pos ej]
        refine ⟨fun e2 => ?_, fun b hb1 hb2 => ?_⟩
        · have := heap_lt (h.file i hil).box; omega
        · have := ownsRow_lt (h.file i hil).row hb1; have := hv b hb2; omega
      · simp only [if_neg e, if_neg ej]
        exact h.apart i j (aux i hi e) (aux j hj ej) hij

theorem Twins.congr {w : World} {base : Nat} {loc : Nat → Nat} {dat : Nat → Value} {live live' : Nat → Prop} {S : Disk} (h : Twins w base loc dat live S) (e : ∀ i, live' i ↔ live i) : Twins w base loc dat live' S :=
  ⟨fun i hi => h.file i ((e i).1 hi), fun i hi => h.lo i ((e i).1 hi), fun i j hi hj hij => h.apart i j ((e i).1 hi) ((e j).1 hj) hij⟩
/-- Two rising directories with the same entries are the same. -/
theorem rising_eq : ∀ {a b : Dir}, a.Pairwise (fun p q => bytesBefore p.1 q.1 = true) → b.Pairwise (fun p q => bytesBefore p.1 q.1 = true) → (∀ p, p ∈ a ↔ p ∈ b) → a = b := by
  have irr : ∀ p q : Str, bytesBefore p q = true → bytesBefore q p = true → False := fun p q h1 h2 => by
    have l1 := bytes_lt _ _ h1
    have l2 := bytes_lt _ _ h2
    exact absurd (List.lt_trans l1 l2) (List.lt_irrefl _)
  have irr2 : ∀ p : Str, bytesBefore p p = true → False := fun p h => irr p p h h
  intro a
  induction a with
  | nil =>
    intro b _ _ hm
    cases b with
    | nil => rfl
    | cons q r => exact absurd ((hm q).2 (List.mem_cons_self ..)) (by simp)
  | cons p r ih =>
    intro b ha hb hm
    cases b with
    | nil => exact absurd ((hm p).1 (List.mem_cons_self ..)) (by simp)
    | cons q s =>
      rw [List.pairwise_cons] at ha hb
      have hpq : p = q := by
        rcases List.mem_cons.1 ((hm p).1 (List.mem_cons_self ..)) with h | h
        · exact h
        · rcases List.mem_cons.1 ((hm q).2 (List.mem_cons_self ..)) with h2 | h2
          · exact h2.symm
          · exact (irr _ _ (hb.1 p h) (ha.1 q h2)).elim
      subst hpq
      have hrs : r = s := ih ha.2 hb.2 fun x => by
        constructor
        · intro hx
          rcases List.mem_cons.1 ((hm x).1 (List.mem_cons_of_mem _ hx)) with h | h
          · subst h; exact (irr2 _ (ha.1 _ hx)).elim
          · exact h
        · intro hx
          rcases List.mem_cons.1 ((hm x).2 (List.mem_cons_of_mem _ hx)) with h | h
          · subst h; exact (irr2 _ (hb.1 _ hx)).elim
          · exact h
      rw [hrs]

/-- A disk to which a file is added that was twinned elsewhere: its number is not live yet. -/
theorem Holds.addFile {w w' : World} {L : Lay} {S : Disk} (h : Holds w L S) (k : Nat) (hk : ¬ L.live k) (hlt : k < S.next) {b' : Nat} {v' : Value} (hf : FileAt w' b' v' (S.file k)) (hb : Below w.heap.size w w')
    (hlo : w.heap.size ≤ b') (hv : ∀ g, v'.ownBlock = some g → w.heap.size ≤ g) :
    Holds w' { L with loc := fun i => if i = k then b' else L.loc i, dat := fun i => if i = k then v' else L.dat i, live := fun i => i = k ∨ L.live i } S := by
  have hT : Twins w 0 L.loc L.dat L.live S := ⟨h.file, fun i _ => ⟨Nat.zero_le _, fun _ _ => Nat.zero_le _⟩, h.apart⟩
  have hT2 := hT.more k hk hf hb hlo hv (Nat.zero_le _)
  have h' := h.below hb
  have hne : ∀ i, L.live i → i ≠ k := fun i hi e => hk (e ▸ hi)
  refine ⟨h'.box, ?_, ?_, h'.two, ?_, hT2.file, hT2.apart, fun p hp => Or.inr (h.inNow p hp), fun p hp => Or.inr (h.inOld p hp), fun c hc i hi => Or.inr (h.inChg c hc i hi), fun i hi => ?_⟩
  · rw [← toD_congr (loc := L.loc) (d := S.now) (fun p hp => (if_neg (hne _ (h.inNow p hp))).symm)]
    exact h'.now
  · rw [← toD_congr (loc := L.loc) (d := S.lasting) (fun p hp => (if_neg (hne _ (h.inOld p hp))).symm)]
    exact h'.old
  · rw [← flat_congr (loc := L.loc) (cs := S.changes) (fun c hc i hi => (if_neg (hne _ (h.inChg c hc i hi))).symm)]
    exact h'.chg
  · rcases hi with rfl | hi
    · exact hlt
    · exact h.lt i hi

end Go.Proofs.Ytefoijamedciiaa

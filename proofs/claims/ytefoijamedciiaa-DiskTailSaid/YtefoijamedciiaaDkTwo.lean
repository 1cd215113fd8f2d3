/- Two disks in one memory. No function of its own is named. -/
import Derived.Test.YtefoijamedciiaaDkPlays
import Derived.Test.YtefoijamedciiaaDkMore
import Derived.Test.YtefoijamedciiaaDkLast
import Derived.Test.YtefoijamedciiaaDkList
namespace Go.Proofs.Ytefoijamedciiaa
open Go.RowKit Go.Maps
open Dk (Dir Chg Disk File Str)

theorem made_does {S : Disk} (h : Dk.Made S) (O : Dk.Sole S) (x : Act) : Dk.Made (does S x).1 := by
  unfold does
  split
  · exact h.create O _
  · exact h.append _ _
  · exact h.sync _
  · exact h.rename _ _
  · exact h.delete _
  · exact h.dirSync
  · exact h.light _
  · exact Dk.Made.crash _
  · exact h.start
  · exact h
  · exact h
theorem kin_played : ∀ (l : List Act) {n m : Nat} {S : Disk}, Dk.Good n m S → Dk.Sole S → Dk.Made S → (∀ x ∈ l, x.n ≤ 9223372036854775807) → Dk.Sole (played S l) ∧ Dk.Made (played S l)
  | [], _, _, _, _, h, k, _ => ⟨h, k⟩
  | x :: r, _, _, _, G, h, k, hx => kin_played r (good_does G x (hx x (List.mem_cons_self ..))) (sole_does h G x) (made_does k h x) (fun y hy => hx y (List.mem_cons_of_mem _ hy))
theorem Disc.apart {w w' : World} {base : Nat} {L : Lay} {S : Disk} {n m : Nat} {P : Nat → Prop} (h : Disc w base L S n m) (ht : Turns P w w') (hP : ∀ b, Own L b → ¬ P b) : Disc w' base L S n m :=
  ⟨h.holds.frame (fun b hb => ht.block b (h.holds.own_lt hb) (hP b hb)), h.good, h.own, Nat.le_trans h.lo ht.size⟩
theorem Disc.base {w : World} {base base' : Nat} {L : Lay} {S : Disk} {n m : Nat} (h : Disc w base L S n m) (hb : base' ≤ base) : Disc w base' L S n m :=
  ⟨h.holds, h.good, fun b ho => Nat.le_trans hb (h.own b ho), Nat.le_trans hb h.lo⟩
theorem Older.mono {w : World} {base base' : Nat} {vk vs : Value} {c : Dk.Crash} (h : Older w base vk vs c) (hb : base ≤ base') : Older w base' vk vs c :=
  ⟨h.keep, h.spoil, fun hne b hv => Nat.lt_of_lt_of_le (h.keepIn hne b hv) hb, fun hne b hv => Nat.lt_of_lt_of_le (h.spoilIn hne b hv) hb, h.keepLen, h.spoilLen, h.masks⟩
theorem ActsAt.mono {w : World} {base base' : Nat} {v : Value} {l : List Act} (h : ActsAt w base v l) (hb : base ≤ base') : ActsAt w base' v l := by
  rcases h with h | ⟨b, off, cap, rfl, hlt, hs, hc⟩
  · exact Or.inl h
  · refine Or.inr ⟨b, off, cap, rfl, Nat.lt_of_lt_of_le hlt hb, hs, fun i x hi => ?_⟩
    obtain ⟨hf, vk, vs, ho, cc⟩ := hc i x hi
    exact ⟨hf, vk, vs, ho.mono hb, cc⟩
/-- The twin of a disk of the call's own. -/
theorem twin_of {w : World} {base : Nat} {L : Lay} {S : Disk} {n m : Nat} (D : Disc w base L S n m) (hn : n ≤ 1048576) (hm : m ≤ 1048576) (O : Dk.Sole S) (M : Dk.Made S) :
    Calls Try.prog 14 #[.pointer (some ⟨L.d, 0, none⟩)] w fun e w' => ∃ L' : Lay, e = .returned (.pointer (some ⟨L'.d, 0, none⟩)) ∧ Disc w' w.heap.size L' S n m ∧ Below w.heap.size w w' := by
  refine (twin_any w D.holds (fits_of D.good hn hm) M (by have := O.uniq 0; exact this) D.good.cans D.good.runs (sizes_of D.good)).mono ?_
  rintro e w' ⟨L', rfl, hh, ho, hb⟩
  exact ⟨L', rfl, ⟨hh, D.good, ho, hb.size⟩, hb⟩
/-- One disk goes on; two others, apart from it, stay. -/
theorem goes_three {w w' : World} {base bx bz : Nat} {L X Z : Lay} {S S' Y V : Disk} {n m n' m' k l i j : Nat} (D : Disc w base L S n m) (g : Goes L w S' w') (G : Dk.Good n' m' S') (E : Disc w bx X Y k l) (F : Disc w bz Z V i j)
    (sx : ∀ b, Own L b → ¬ Own X b) (sz : ∀ b, Own L b → ¬ Own Z b) :
    ∃ L' : Lay, L'.d = L.d ∧ Disc w' base L' S' n' m' ∧ Below base w w' ∧ Disc w' bx X Y k l ∧ Disc w' bz Z V i j ∧ (∀ b, Own L' b → ¬ Own X b) ∧ ∀ b, Own L' b → ¬ Own Z b := by
  have g2 := g
  obtain ⟨L', e1, hh, ht, ho⟩ := g
  have tox : ∀ b, Own L' b → ¬ Own X b := fun b hb hx => by
    rcases ho b hb with h | h
    · exact sx b h hx
    · have := E.holds.own_lt hx; omega
  have toz : ∀ b, Own L' b → ¬ Own Z b := fun b hb hx => by
    rcases ho b hb with h | h
    · exact sz b h hx
    · have := F.holds.own_lt hx; omega
  refine ⟨L', e1, ⟨hh, G, fun b hb => ?_, Nat.le_trans D.lo ht.size⟩, ht.to_below D.lo D.own, E.apart ht fun b hb h => sx b h hb, F.apart ht fun b hb h => sz b h hb, tox, toz⟩
  rcases ho b hb with h | h
  · exact D.own b h
  · exact Nat.le_trans D.lo h

end Go.Proofs.Ytefoijamedciiaa

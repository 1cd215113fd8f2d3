/- An act on a disk with a fuse beside the same act on one without. No function is named. -/
import Derived.Test.YtefoijamedciiaaDkTwo
import Derived.Test.YtefoijamedciiaaDkFz
namespace Go.Proofs.Ytefoijamedciiaa
open Go.RowKit Go.Maps
open Dk (Dir Chg Disk File Str)

/-- What an act does without a fuse (R), and with one at j (A). -/
def Step (S : Disk) (j : Nat) (kind : Nat) (R A : Disk × Str × Int) : Prop :=
  A.2.1 = R.2.1 ∧ ((kind < 6 ∧ R.2.2 = 0 ∧ R.1.fuse = 0 ∧ R.1.down = false ∧ ((j = 1 ∧ A.2.2 = 7 ∧ A.1 = { S with fuse := 0, down := true }) ∨ (2 ≤ j ∧ A.2.2 = 0 ∧ A.1 = R.1.lit (j - 1)))) ∨
    ((kind < 6 → R.2.2 ≠ 0) ∧ R.1 = S ∧ A.2.2 = R.2.2 ∧ A.1 = S.lit j))
theorem step_of {S : Disk} {j kind : Nat} {r a : Int × Disk} (hk : kind < 6) (h : Dk.Fz S j r a) : Step S j kind (r.2, [], r.1) (a.2, [], a.1) := by
  refine ⟨rfl, ?_⟩
  rcases h with ⟨h1, h2, h3, ⟨h4, h5⟩ | ⟨h4, h5⟩⟩ | ⟨h1, h2, h3⟩
  · subst h5; exact Or.inl ⟨hk, h1, h2, h3, Or.inl ⟨h4, rfl, rfl⟩⟩
  · subst h5; exact Or.inl ⟨hk, h1, h2, h3, Or.inr ⟨h4, rfl, rfl⟩⟩
  · subst h3; exact Or.inr ⟨fun _ => h1, h2, rfl, rfl⟩
theorem step_still {S : Disk} {j kind : Nat} (hk : 6 ≤ kind) (s : Str) (c : Int) : Step S j kind (S, s, c) (S.lit j, s, c) := ⟨rfl, Or.inr ⟨fun h => by omega, rfl, rfl, rfl⟩⟩
theorem does_step {S : Disk} {j : Nat} (h0 : S.fuse = 0) (hd : S.down = false) (hj : 1 ≤ j) (x : Act) (hk : x.kind < 6 ∨ 9 ≤ x.kind) : Step S j x.kind (does S x) (does (S.lit j) x) := by
  unfold does
  split
  · rename_i e; exact step_of (by omega) (Dk.fz_create h0 hd hj _)
  · rename_i e; exact step_of (by omega) (Dk.fz_append h0 hd hj _ _)
  · rename_i e; exact step_of (by omega) (Dk.fz_sync h0 hd hj _)
  · rename_i e; exact step_of (by omega) (Dk.fz_rename h0 hd hj _ _)
  · rename_i e; exact step_of (by omega) (Dk.fz_delete h0 hd hj _)
  · rename_i e; exact step_of (by omega) (Dk.fz_dirSync h0 hd hj)
  · omega
  · omega
  · omega
  · rename_i e
    exact step_still (by omega) (S.read x.a.data.toList).1 (S.read x.a.data.toList).2
  · rename_i h0 h1 h2 h3 h4 h5 h6 h7 h8 h9
    refine step_still ?_ _ _
    rcases hk with hk | hk
    · exfalso
      rcases (show x.kind = 0 ∨ x.kind = 1 ∨ x.kind = 2 ∨ x.kind = 3 ∨ x.kind = 4 ∨ x.kind = 5 by omega) with h | h | h | h | h | h
      · exact h0 h
      · exact h1 h
      · exact h2 h
      · exact h3 h
      · exact h4 h
      · exact h5 h
    · omega
theorem back_on {S : Disk} (h0 : S.fuse = 0) (hd : S.down = false) : ({ S with fuse := 0, down := true } : Disk).start = S := by
  cases S
  simp only at h0 hd
  subst h0 hd
  rfl

end Go.Proofs.Ytefoijamedciiaa

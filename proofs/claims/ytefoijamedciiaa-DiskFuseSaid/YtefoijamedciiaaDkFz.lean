/- What a fuse changes: nothing ahead of its end, and there the operation is not done. No function is named. -/
import Derived.Test.YtefoijamedciiaaDkGood
namespace Go.Proofs.Ytefoijamedciiaa.Dk
open Go

def Disk.lit (S : Disk) (k : Nat) : Disk := { S with fuse := k }
/-- r: what an operation does without a fuse; a: with one at k. -/
def Fz (S : Disk) (k : Nat) (r a : Int × Disk) : Prop :=
  (r.1 = 0 ∧ r.2.fuse = 0 ∧ r.2.down = false ∧ ((k = 1 ∧ a = (7, { S with fuse := 0, down := true })) ∨ (2 ≤ k ∧ a = (0, r.2.lit (k - 1))))) ∨ (r.1 ≠ 0 ∧ r.2 = S ∧ a = (r.1, S.lit k))

theorem burn_lit {S : Disk} {k : Nat} (hk : 1 ≤ k) : (S.lit k).burn = { S with fuse := k - 1, down := k == 1 } := by
  unfold Disk.burn Disk.lit
  dsimp only
  rw [if_neg (by omega)]
theorem burnt_lit (S : Disk) (k : Nat) : (S.lit k).burnt = (k == 1) := rfl
theorem burn_off {S : Disk} (h : S.fuse = 0) : S.burn = S ∧ S.burnt = false := by
  unfold Disk.burn Disk.burnt
  rw [if_pos h, h]
  exact ⟨rfl, rfl⟩
/-- An operation that nothing bars: it burns, and goes on. -/
theorem fz_did {S : Disk} {k : Nat} (h0 : S.fuse = 0) (hd : S.down = false) (hk : 1 ≤ k) (g : Disk → Disk) (h1 : (g S).fuse = 0) (h2 : (g S).down = false) (h3 : 2 ≤ k → g { S with fuse := k - 1 } = (g S).lit (k - 1)) :
    Fz S k (0, g S.burn) (if (S.lit k).burnt then (7, (S.lit k).burn) else (0, g (S.lit k).burn)) := by
  rw [(burn_off h0).1, burn_lit hk, burnt_lit]
  refine Or.inl ⟨rfl, h1, h2, ?_⟩
  by_cases e : k = 1
  · subst e
    exact Or.inl ⟨rfl, rfl⟩
  · right
    have e2 : (k == 1) = false := by rw [beq_eq_false_iff_ne]; exact e
    rw [e2]
    have e3 : ({ S with fuse := k - 1, down := false } : Disk) = { S with fuse := k - 1 } := by rw [← hd]
    rw [e3, h3 (by omega)]
    exact ⟨by omega, rfl⟩
theorem fz_no {S : Disk} {k : Nat} {c : Int} (hc : c ≠ 0) : Fz S k (c, S) (c, S.lit k) := Or.inr ⟨hc, rfl, rfl⟩

section
variable {S : Disk} {k : Nat} (h0 : S.fuse = 0) (hd : S.down = false) (hk : 1 ≤ k)
include h0 hd hk
theorem fz_change (c : Chg) (lost : Option Nat) : Fz S k (S.change c lost) ((S.lit k).change c lost) := by
  have := fz_did h0 hd hk (fun T => T.did c lost) (by exact h0) (by exact hd) (fun _ => rfl)
  have e1 : S.change c lost = (0, S.burn.did c lost) := by unfold Disk.change; rw [(burn_off h0).2]; rfl
  rw [e1]
  exact this
theorem fz_create (s : Str) : Fz S k (S.create s) ((S.lit k).create s) := by
  unfold Disk.create
  have e1 : (S.lit k).down = false := hd
  have e2 : (S.lit k).now = S.now := rfl
  rw [e1, e2, hd, (burn_off h0).2]
  simp only [Bool.false_eq_true, if_false]
  by_cases h1 : (!isName s) = true
  · rw [if_pos h1, if_pos h1]; exact fz_no (by decide)
  · rw [if_neg h1, if_neg h1]
    by_cases h2 : (look s S.now).isSome = true
    · rw [if_pos h2, if_pos h2]; exact fz_no (by decide)
    · rw [if_neg h2, if_neg h2]
      exact fz_did h0 hd hk (fun T => T.with.did ⟨[], s, some S.next⟩ none) (by exact h0) (by exact hd) (fun _ => rfl)
theorem fz_append (s data : Str) : Fz S k (S.append s data) ((S.lit k).append s data) := by
  unfold Disk.append
  have e1 : (S.lit k).down = false := hd
  have e2 : (S.lit k).now = S.now := rfl
  have e3 : (S.lit k).room - (S.lit k).used = S.room - S.used := rfl
  rw [e1, e2, e3, hd, (burn_off h0).2]
  simp only [Bool.false_eq_true, if_false]
  cases look s S.now with
  | none => exact fz_no (by decide)
  | some i =>
    dsimp only
    by_cases h2 : (data.length : Int) > S.room - S.used
    · rw [if_pos h2, if_pos h2]; exact fz_no (by decide)
    · rw [if_neg h2, if_neg h2]
      exact fz_did h0 hd hk (fun T => { T.setFile i ⟨(S.file i).data ++ data, (S.file i).lasts⟩ with used := S.used + data.length }) (by exact h0) (by exact hd) (fun _ => rfl)
theorem fz_sync (s : Str) : Fz S k (S.sync s) ((S.lit k).sync s) := by
  unfold Disk.sync
  have e1 : (S.lit k).down = false := hd
  have e2 : (S.lit k).now = S.now := rfl
  rw [e1, e2, hd, (burn_off h0).2]
  simp only [Bool.false_eq_true, if_false]
  cases look s S.now with
  | none => exact fz_no (by decide)
  | some i =>
    dsimp only
    exact fz_did h0 hd hk (fun T => T.setFile i ⟨(S.file i).data, (S.file i).data.length⟩) (by exact h0) (by exact hd) (fun _ => rfl)
theorem fz_rename (s t : Str) : Fz S k (S.rename s t) ((S.lit k).rename s t) := by
  unfold Disk.rename
  have e1 : (S.lit k).down = false := hd
  have e2 : (S.lit k).now = S.now := rfl
  rw [e1, e2, hd, (burn_off h0).2]
  simp only [Bool.false_eq_true, if_false]
  by_cases h1 : (!isName t) = true
  · rw [if_pos h1, if_pos h1]; exact fz_no (by decide)
  · rw [if_neg h1, if_neg h1]
    cases look s S.now with
    | none => exact fz_no (by decide)
    | some i =>
      dsimp only
      by_cases h2 : s = t
      · rw [if_pos h2, if_pos h2]
        exact fz_did h0 hd hk (fun T => T) (by exact h0) (by exact hd) (fun _ => rfl)
      · rw [if_neg h2, if_neg h2]
        exact fz_change h0 hd hk _ _
theorem fz_delete (s : Str) : Fz S k (S.delete s) ((S.lit k).delete s) := by
  unfold Disk.delete
  have e1 : (S.lit k).down = false := hd
  have e2 : (S.lit k).now = S.now := rfl
  rw [e1, e2, hd]
  simp only [Bool.false_eq_true, if_false]
  cases look s S.now with
  | none => exact fz_no (by decide)
  | some i => exact fz_change h0 hd hk _ _
theorem fz_dirSync : Fz S k S.dirSync (S.lit k).dirSync := by
  unfold Disk.dirSync
  have e1 : (S.lit k).down = false := hd
  have e2 : (S.lit k).changes = S.changes := rfl
  rw [e1, e2, hd, (burn_off h0).2]
  simp only [Bool.false_eq_true, if_false]
  exact fz_did h0 hd hk (fun T => T.keep S.changes.length) (by exact h0) (by exact hd) (fun _ => rfl)
end

end Go.Proofs.Ytefoijamedciiaa.Dk

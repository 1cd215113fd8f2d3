/- Files that were made since the last DirSync are none of those that last, and each was made once. No function is named. -/
import Derived.Test.YtefoijamedciiaaDkInv
namespace Go.Proofs.Ytefoijamedciiaa.Dk
open Go

structure Made (S : Disk) : Prop where
  old : ∀ c ∈ S.changes, ∀ i, c.made = some i → ∀ p ∈ S.lasting, p.2 ≠ i
  one : S.changes.Pairwise fun a b => ∀ i, a.made = some i → b.made ≠ some i
theorem Made.of {S T : Disk} (h : Made S) (h1 : T.changes = S.changes) (h2 : T.lasting = S.lasting) : Made T := ⟨by rw [h1, h2]; exact h.old, by rw [h1]; exact h.one⟩
theorem made_none {T : Disk} (h : T.changes = []) : Made T := ⟨fun c hc => (by rw [h] at hc; simp at hc), by rw [h]; exact List.Pairwise.nil⟩
theorem Made.burnt {S : Disk} (h : Made S) : Made S.burn := by
  obtain ⟨_, b2, b3, _⟩ := burn_eqs S
  exact h.of b3 b2
theorem Made.did {S : Disk} (h : Made S) (c : Chg) (lost : Option Nat) (h1 : ∀ i, c.made = some i → (∀ p ∈ S.lasting, p.2 ≠ i) ∧ ∀ x ∈ S.changes, x.made ≠ some i) : Made (S.did c lost) := by
  unfold Disk.did
  refine ⟨fun x hx i hi p hp => ?_, ?_⟩
  · rcases List.mem_append.1 hx with hx | hx
    · exact h.old x hx i hi p hp
    · obtain rfl : x = c := by simpa using hx
      exact (h1 i hi).1 p hp
  · dsimp only
    rw [List.pairwise_append]
    refine ⟨h.one, List.pairwise_singleton .., fun a ha b hb i hi hb2 => ?_⟩
    obtain rfl : b = c := by simpa using hb
    exact (h1 i hb2).2 a ha hi
theorem Made.change {S : Disk} (h : Made S) (c : Chg) (lost : Option Nat) (h1 : c.made = none) : Made (S.change c lost).2 := by
  unfold Disk.change
  split
  · exact h.burnt
  · exact h.burnt.did c lost (fun i hi => by rw [h1] at hi; cases hi)
theorem Made.create {S : Disk} (h : Made S) (O : Sole S) (s : Str) : Made (S.create s).2 := by
  unfold Disk.create
  split
  · exact h
  · split
    · exact h
    · split
      · exact h
      · split
        · exact h.burnt
        · obtain ⟨b1, b2, b3, b4, b5, _, _⟩ := burn_eqs S
          have hw : Made S.burn.with := h.burnt.of rfl rfl
          refine hw.did _ _ (fun i hi => ?_)
          simp only [Option.some.injEq] at hi
          subst hi
          refine ⟨fun p hp => ?_, fun x hx e => ?_⟩
          · have hp' : p ∈ S.lasting := by
              have e : S.burn.with.lasting = S.lasting := b2
              rw [e] at hp
              exact hp
            have := O.old p hp'
            omega
          · have hx' : x ∈ S.changes := by
              have e : S.burn.with.changes = S.changes := b3
              rw [e] at hx
              exact hx
            have := O.made x hx' _ e
            omega
theorem Made.append {S : Disk} (h : Made S) (s data : Str) : Made (S.append s data).2 := by
  unfold Disk.append
  split
  · exact h
  · split
    · exact h
    · split
      · exact h
      · split
        · exact h.burnt
        · exact h.burnt.of rfl rfl
theorem Made.sync {S : Disk} (h : Made S) (s : Str) : Made (S.sync s).2 := by
  unfold Disk.sync
  split
  · exact h
  · split
    · exact h
    · split
      · exact h.burnt
      · exact h.burnt.of rfl rfl
theorem Made.rename {S : Disk} (h : Made S) (s t : Str) : Made (S.rename s t).2 := by
  unfold Disk.rename
  split
  · exact h
  · split
    · exact h
    · split
      · exact h
      · split
        · split
          · exact h.burnt
          · exact h.burnt
        · exact h.change _ _ rfl
theorem Made.delete {S : Disk} (h : Made S) (s : Str) : Made (S.delete s).2 := by
  unfold Disk.delete
  split
  · exact h
  · split
    · exact h
    · exact h.change _ _ rfl
theorem Made.dirSync {S : Disk} (h : Made S) : Made S.dirSync.2 := by
  unfold Disk.dirSync
  split
  · exact h
  · split
    · exact h.burnt
    · exact made_none rfl
theorem Made.crash {S : Disk} (c : Crash) : Made (S.crash c) := made_none rfl
theorem Made.light {S : Disk} (h : Made S) (n : Int) : Made (S.light n) := h.of rfl rfl
theorem Made.start {S : Disk} (h : Made S) : Made S.start := h.of rfl rfl
theorem made_fresh (room : Int) : Made (fresh room) := made_none rfl

/-- Which numbers stand in what lasts, or were made by the first so many changes. -/
def stands (S : Disk) (k : Nat) (i : Nat) : Prop := (∃ p ∈ S.lasting, p.2 = i) ∨ ∃ c ∈ S.changes.take k, c.made = some i
theorem stands_runs {S : Disk} {k : Nat} {p : Str × Nat} (h : p ∈ Dk.runs (S.changes.take k) S.lasting) : stands S k p.2 := by
  have aux : ∀ (cs : List Chg) (d : Dir), p ∈ Dk.runs cs d → (∃ z ∈ d, z.2 = p.2) ∨ ∃ c ∈ cs, c.made = some p.2 := by
    intro cs
    induction cs with
    | nil => intro d hp; exact Or.inl ⟨p, hp, rfl⟩
    | cons c r ih =>
      intro d hp
      rcases ih _ hp with ⟨z, hz, e⟩ | ⟨x, hx, e⟩
      · rcases id_run hz with ⟨y, hy, e2⟩ | e2
        · exact Or.inl ⟨y, hy, e2.trans e⟩
        · exact Or.inr ⟨c, List.mem_cons_self .., by rw [← e]; exact e2⟩
      · exact Or.inr ⟨x, List.mem_cons_of_mem _ hx, e⟩
  exact aux _ _ h

end Go.Proofs.Ytefoijamedciiaa.Dk

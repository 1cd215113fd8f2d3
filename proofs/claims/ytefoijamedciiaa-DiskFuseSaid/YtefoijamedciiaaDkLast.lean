/- A file that lasts stays, as long as its name is not touched. No function is named. -/
import Derived.Test.YtefoijamedciiaaDkInv
import Derived.Test.YtefoijamedciiaaDkPlays
namespace Go.Proofs.Ytefoijamedciiaa
open Go
open Dk (Dir Chg Disk File Str)

theorem sole_does {n m : Nat} {S : Disk} (h : Dk.Sole S) (G : Dk.Good n m S) (x : Act) : Dk.Sole (does S x).1 := by
  unfold does
  split
  · exact h.create G _
  · exact h.append _ _
  · exact h.sync _
  · exact h.rename G _ _
  · exact h.delete G _
  · exact h.dirSync
  · exact ⟨h.uniq, h.old, h.made⟩
  · exact h.crash _
  · exact ⟨h.uniq, h.old, h.made⟩
  · exact h
  · exact h

/-- The file of a name lasts, with its bytes. -/
structure Keeps (s : Str) (i : Nat) (D : Str) (S : Disk) : Prop where
  old : Dk.look s S.lasting = some i
  off : ∀ c ∈ S.changes, s ≠ c.src ∧ s ≠ c.dst
  file : S.file i = ⟨D, D.length⟩
theorem Keeps.now {n m : Nat} {s : Str} {i : Nat} {D : Str} {S : Disk} (h : Keeps s i D S) (G : Dk.Good n m S) : Dk.look s S.now = some i := by
  rw [G.runs, Dk.look_runs h.off]
  exact h.old
theorem Keeps.lt {s : Str} {i : Nat} {D : Str} {S : Disk} (h : Keeps s i D S) (O : Dk.Sole S) : i < S.next := O.old _ (Dk.mem_of_look h.old)
theorem Keeps.other {n m : Nat} {s t : Str} {i j : Nat} {D : Str} {S : Disk} (h : Keeps s i D S) (G : Dk.Good n m S) (O : Dk.Sole S) (ht : t ≠ s) (hj : Dk.look t S.now = some j) : i ≠ j := fun e => by
  have hu := O.uniq S.changes.length
  rw [List.take_length, ← G.runs] at hu
  exact ht (hu _ (Dk.mem_of_look hj) _ (Dk.mem_of_look (h.now G)) e.symm)
theorem Keeps.burnt {s : Str} {i : Nat} {D : Str} {S : Disk} (h : Keeps s i D S) : Keeps s i D S.burn := by
  obtain ⟨b1, b2, b3, b4, b5, _, _⟩ := Dk.burn_eqs S
  exact ⟨by rw [b2]; exact h.old, by rw [b3]; exact h.off, by rw [b4]; exact h.file⟩
theorem Keeps.did {s : Str} {i : Nat} {D : Str} {S : Disk} (h : Keeps s i D S) (c : Chg) (lost : Option Nat) (h1 : s ≠ c.src) (h2 : s ≠ c.dst) : Keeps s i D (S.did c lost) :=
  ⟨h.old, fun x hx => by
    rcases List.mem_append.1 hx with hx | hx
    · exact h.off x hx
    · obtain rfl : x = c := by simpa using hx
      exact ⟨h1, h2⟩, h.file⟩
theorem Keeps.change {s : Str} {i : Nat} {D : Str} {S : Disk} (h : Keeps s i D S) (c : Chg) (lost : Option Nat) (h1 : s ≠ c.src) (h2 : s ≠ c.dst) : Keeps s i D (S.change c lost).2 := by
  unfold Disk.change
  split
  · exact h.burnt
  · exact h.burnt.did c lost h1 h2
theorem Keeps.files {s : Str} {i j : Nat} {D : Str} {S : Disk} (h : Keeps s i D S) (hj : i ≠ j) (f : File) : Keeps s i D (S.setFile j f) :=
  ⟨h.old, h.off, by unfold Disk.setFile; dsimp only; rw [Dk.upd_other hj]; exact h.file⟩
theorem tails_still (ks : List Int) (sp : List (Int × Nat)) (i : Nat) : ∀ (d : Dir) (k : Nat) (G : Nat → File), (G i).lasts = (G i).data.length → Dk.tails ks sp d k G i = G i
  | [], _, _, _ => rfl
  | p :: r, k, G, h => by
    unfold Dk.tails
    split
    · exact tails_still ks sp i r k G h
    · rename_i hne
      have hpi : i ≠ p.2 := fun e => hne (by rw [← e]; exact h)
      have e : Dk.upd G p.2 (Dk.left (G p.2) ks sp k) i = G i := Dk.upd_other hpi _
      rw [tails_still ks sp i r (k + 1) _ (by rw [e]; exact h), e]
theorem Keeps.crash {n m : Nat} {s : Str} {i : Nat} {D : Str} {S : Disk} (h : Keeps s i D S) (_ : Dk.Good n m S) (c : Dk.Crash) : Keeps s i D (S.crash c) := by
  unfold Disk.crash
  simp only
  refine ⟨?_, fun c hc => by simp at hc, ?_⟩
  · dsimp only
    rw [Dk.look_runs fun x hx => h.off x (List.mem_of_mem_take hx)]
    exact h.old
  · dsimp only
    rw [tails_still _ _ _ _ _ _ (by rw [h.file]), h.file]
theorem keeps_does {n m : Nat} {s : Str} {i : Nat} {D : Str} {S : Disk} (h : Keeps s i D S) (G : Dk.Good n m S) (O : Dk.Sole S) (x : Act) (ha : x.a.data.toList ≠ s) (hb : x.b.data.toList ≠ s) : Keeps s i D (does S x).1 := by
  have hs : s ≠ [] := (G.nowNames _ (Dk.mem_of_look (h.now G))).1
  unfold does
  split
  · unfold Disk.create
    split
    · exact h
    · split
      · exact h
      · split
        · exact h
        · split
          · exact h.burnt
          · obtain ⟨b1, b2, b3, b4, b5, _, _⟩ := Dk.burn_eqs S
            have hw : Keeps s i D S.burn.with := ⟨h.burnt.old, h.burnt.off, by
              unfold Disk.with
              dsimp only
              rw [Dk.upd_other (by rw [b5]; have := h.lt O; omega)]
              exact h.burnt.file⟩
            exact hw.did _ _ hs (fun e => ha e.symm)
  · unfold Disk.append
    split
    · exact h
    · split
      · exact h
      · rename_i j hj
        split
        · exact h
        · split
          · exact h.burnt
          · have := h.burnt.files (h.other G O ha hj) ⟨(S.file j).data ++ x.b.data.toList, (S.file j).lasts⟩
            exact ⟨this.old, this.off, this.file⟩
  · unfold Disk.sync
    split
    · exact h
    · split
      · exact h
      · rename_i j hj
        split
        · exact h.burnt
        · exact h.burnt.files (h.other G O ha hj) _
  · unfold Disk.rename
    split
    · exact h
    · split
      · exact h
      · split
        · exact h
        · split
          · split
            · exact h.burnt
            · exact h.burnt
          · exact h.change _ _ (fun e => ha e.symm) (fun e => hb e.symm)
  · unfold Disk.delete
    split
    · exact h
    · split
      · exact h
      · exact h.change _ _ (fun e => ha e.symm) hs
  · unfold Disk.dirSync
    split
    · exact h
    · split
      · exact h.burnt
      · have hb := h.burnt
        refine ⟨?_, fun c hc => by simp [Disk.keep] at hc, hb.file⟩
        unfold Disk.keep
        dsimp only
        rw [Dk.look_runs fun x hx => hb.off x (List.mem_of_mem_take hx)]
        exact hb.old
  · exact ⟨h.old, h.off, h.file⟩
  · exact h.crash G _
  · exact ⟨h.old, h.off, h.file⟩
  · exact h
  · exact h

/-- With the power on, and no fuse. -/
theorem sync_on {S : Disk} (hd : S.down = false) (hf : S.fuse = 0) (s : Str) : S.sync s = match Dk.look s S.now with
    | none => (4, S)
    | some i => (0, S.setFile i ⟨(S.file i).data, (S.file i).data.length⟩) := by
  have hb : S.burn = S := by unfold Disk.burn; rw [if_pos hf]
  have hb2 : S.burnt = false := by unfold Disk.burnt; rw [hf]; rfl
  unfold Disk.sync
  rw [hd, hb, hb2]
  cases Dk.look s S.now <;> rfl
theorem dirSync_on {S : Disk} (hd : S.down = false) (hf : S.fuse = 0) : S.dirSync = (0, S.keep S.changes.length) := by
  have hb : S.burn = S := by unfold Disk.burn; rw [if_pos hf]
  have hb2 : S.burnt = false := by unfold Disk.burnt; rw [hf]; rfl
  unfold Disk.dirSync
  rw [hd, hb, hb2]
  rfl
/-- What was synced, and whose name was there at a DirSync, lasts from then on. -/
theorem keeps_start {n m : Nat} {S : Disk} (G : Dk.Good n m S) {s : Str} {i : Nat} (hl : Dk.look s S.now = some i) :
    Keeps s i (S.file i).data ((S.setFile i ⟨(S.file i).data, (S.file i).data.length⟩).keep S.changes.length) := by
  refine ⟨?_, fun c hc => by simp [Disk.keep] at hc, ?_⟩
  · unfold Disk.keep Disk.setFile
    dsimp only
    rw [List.take_length, ← G.runs]
    exact hl
  · unfold Disk.keep Disk.setFile
    dsimp only
    rw [Dk.upd_same]
/-- .. and is read behind a crash. -/
theorem keeps_read {n m : Nat} {s : Str} {i : Nat} {D : Str} {S : Disk} (h : Keeps s i D S) (G : Dk.Good n m S) (c : Dk.Crash) : ((S.crash c).start).read s = (D, 0) := by
  have hk := h.crash G c
  have hn := hk.now (G.crash c)
  unfold Disk.read Disk.start
  dsimp only
  rw [hn]
  have hf := hk.file
  rw [if_neg (by simp)]
  dsimp only
  rw [hf]

/-- What is done behind: what names it is left out. -/
def playedOff (s : ByteArray) (S : Disk) (l : List Act) : Disk := l.foldl (fun T x => if x.a.data.toList ≠ s.data.toList ∧ x.b.data.toList ≠ s.data.toList then (does T x).1 else T) S
theorem off_snoc (s : ByteArray) (S : Disk) (l : List Act) (x : Act) : playedOff s S (l ++ [x]) = if x.a.data.toList ≠ s.data.toList ∧ x.b.data.toList ≠ s.data.toList then (does (playedOff s S l) x).1 else playedOff s S l := by simp [playedOff]

end Go.Proofs.Ytefoijamedciiaa

/- What stays true of a disk, whatever is done to it. No function is named. -/
import Derived.Test.YtefoijamedciiaaDkMath
import Derived.Test.YtefoijamedciiaaDkSize
namespace Go.Proofs.Ytefoijamedciiaa.Dk
open Go

def Nm (s : Str) : Prop := s ≠ [] ∧ s.length ≤ 24
theorem nm_of {s : Str} (h : isName s = true) : Nm s := by
  unfold isName at h
  simp only [Bool.and_eq_true, decide_eq_true_eq] at h
  exact ⟨h.1.1, h.1.2⟩
/-- After n operations that brought m bytes. -/
structure Good (n m : Nat) (S : Disk) : Prop where
  fuse : S.fuse ≤ 9223372036854775807
  room0 : 0 ≤ S.room
  room : S.room ≤ 1048576
  count : S.lasting.length + S.changes.length ≤ n
  least : -((n * m : Nat) : Int) ≤ S.used
  most : S.used ≤ ((n * m : Nat) : Int)
  dat : ∀ i, (S.file i).data.length ≤ m
  cans : Cans S.changes S.lasting
  runs : S.now = Dk.runs S.changes S.lasting
  names : ∀ p ∈ S.lasting, Nm p.1
  chgs : ∀ c ∈ S.changes, (c.src = [] ∨ Nm c.src) ∧ (c.dst = [] ∨ Nm c.dst)

theorem name_run {c : Chg} {d : Dir} {y : Str × Nat} (h : y ∈ c.run d) : y ∈ d ∨ (y.1 = c.dst ∧ c.dst ≠ []) := by
  unfold Chg.run at h
  simp only at h
  have hd1 : ∀ z, z ∈ (if c.src = [] then d else del c.src d) → z ∈ d := fun z hz => by
    split at hz
    · exact hz
    · exact (mem_del.1 hz).1
  split at h
  · exact Or.inl (hd1 _ h)
  · rename_i hne
    split at h
    · rcases mem_put.1 h with rfl | h
      · exact Or.inr ⟨rfl, hne⟩
      · exact Or.inl (hd1 _ h.1)
    · exact Or.inl (hd1 _ h)
theorem names_runs : ∀ {cs : List Chg} {d : Dir}, (∀ p ∈ d, Nm p.1) → (∀ c ∈ cs, (c.src = [] ∨ Nm c.src) ∧ (c.dst = [] ∨ Nm c.dst)) → ∀ p ∈ Dk.runs cs d, Nm p.1
  | [], _, hd, _, p, hp => hd p hp
  | c :: r, d, hd, hc, p, hp => names_runs (cs := r) (fun q hq => by
      rcases name_run hq with h | ⟨h1, h2⟩
      · exact hd q h
      · rcases (hc c (List.mem_cons_self ..)).2 with h3 | h3
        · exact absurd h3 h2
        · rw [h1]; exact h3) (fun x hx => hc x (List.mem_cons_of_mem _ hx)) p hp
theorem Good.nowNames {n m : Nat} {S : Disk} (G : Good n m S) : ∀ p ∈ S.now, Nm p.1 := by
  rw [G.runs]
  exact names_runs G.names G.chgs
theorem Good.nowLen {n m : Nat} {S : Disk} (G : Good n m S) : S.now.length ≤ n := by
  rw [G.runs]
  exact Nat.le_trans (length_runs _ _) G.count
theorem mul_step (n m l : Nat) : n * m + m + l ≤ (n + 1) * (m + l) := by
  rw [Nat.add_mul, Nat.one_mul, Nat.mul_add]
  omega
theorem Good.more {n m : Nat} {S : Disk} (G : Good n m S) (l : Nat) : Good (n + 1) (m + l) S := by
  have h := mul_step n m l
  have h1 := G.least
  have h2 := G.most
  exact ⟨G.fuse, G.room0, G.room, Nat.le_succ_of_le G.count, by omega, by omega, fun i => Nat.le_trans (G.dat i) (Nat.le_add_right _ _), G.cans, G.runs, G.names, G.chgs⟩
theorem Good.burnt {n m : Nat} {S : Disk} (G : Good n m S) : Good n m S.burn := by
  unfold Disk.burn
  split
  · exact G
  · exact ⟨by dsimp only; have := G.fuse; omega, G.room0, G.room, G.count, G.least, G.most, G.dat, G.cans, G.runs, G.names, G.chgs⟩
theorem Good.withFile {n m : Nat} {S : Disk} (G : Good n m S) : Good n m S.with := by
  refine ⟨G.fuse, G.room0, G.room, G.count, G.least, G.most, fun i => ?_, G.cans, G.runs, G.names, G.chgs⟩
  unfold Disk.with upd
  dsimp only
  split
  · exact Nat.zero_le _
  · exact G.dat i
theorem Good.did {n m : Nat} {S : Disk} (G : Good n m S) (c : Chg) (lost : Option Nat) (hc : c.Can S.now) (hn : (c.src = [] ∨ Nm c.src) ∧ (c.dst = [] ∨ Nm c.dst)) : Good (n + 1) m (S.did c lost) := by
  have h : n * m + m ≤ (n + 1) * m := by rw [Nat.add_mul, Nat.one_mul]; exact Nat.le_refl _
  have h1 := G.least
  have h2 := G.most
  have hs : Dk.sizeOf S lost ≤ m := by
    unfold Dk.sizeOf
    split
    · exact G.dat _
    · exact Nat.zero_le _
  have h3 := G.count
  unfold Disk.did
  refine ⟨G.fuse, G.room0, G.room, by simp; omega, by dsimp only; omega, by dsimp only; omega, G.dat, cans_append.2 ⟨G.cans, ?_⟩, ?_, G.names, fun x hx => ?_⟩
  · rw [← G.runs]; exact ⟨hc, trivial⟩
  · dsimp only
    rw [runs_append, ← G.runs]
    rfl
  · rcases List.mem_append.1 hx with hx | hx
    · exact G.chgs x hx
    · obtain rfl : x = c := by simpa using hx
      exact hn
theorem Good.setFile {n m : Nat} {S : Disk} (G : Good n m S) (i : Nat) (f : File) (l : Nat) (hf : f.data.length ≤ m + l) : Good (n + 1) (m + l) (S.setFile i f) := by
  have G' := G.more l
  refine ⟨G'.fuse, G'.room0, G'.room, G'.count, G'.least, G'.most, fun j => ?_, G'.cans, G'.runs, G'.names, G'.chgs⟩
  unfold Disk.setFile upd
  dsimp only
  split
  · exact hf
  · exact G'.dat j

theorem burn_eqs (S : Disk) : S.burn.now = S.now ∧ S.burn.lasting = S.lasting ∧ S.burn.changes = S.changes ∧ S.burn.file = S.file ∧ S.burn.next = S.next ∧ S.burn.used = S.used ∧ S.burn.room = S.room := by
  unfold Disk.burn
  split <;> exact ⟨rfl, rfl, rfl, rfl, rfl, rfl, rfl⟩
theorem Good.change {n m : Nat} {S : Disk} (G : Good n m S) (c : Chg) (lost : Option Nat) (hc : c.Can S.now) (hn : (c.src = [] ∨ Nm c.src) ∧ (c.dst = [] ∨ Nm c.dst)) : Good (n + 1) m (S.change c lost).2 := by
  unfold Disk.change
  split
  · exact G.burnt.more 0
  · exact G.burnt.did c lost (by rw [(burn_eqs S).1]; exact hc) hn
theorem Good.create {n m : Nat} {S : Disk} (G : Good n m S) (s : Str) : Good (n + 1) m (S.create s).2 := by
  unfold Disk.create
  split
  · exact G.more 0
  · split
    · exact G.more 0
    · rename_i hn
      split
      · exact G.more 0
      · split
        · exact G.burnt.more 0
        · have hnm := nm_of (s := s) (by simpa using hn)
          exact G.burnt.withFile.did _ _ ⟨fun _ => ⟨S.next, rfl⟩, fun _ => hnm.1⟩ ⟨Or.inl rfl, Or.inr hnm⟩
theorem Good.append {n m : Nat} {S : Disk} (G : Good n m S) (s data : Str) : Good (n + 1) (m + data.length) (S.append s data).2 := by
  unfold Disk.append
  split
  · exact G.more _
  · split
    · exact G.more _
    · split
      · exact G.more _
      · split
        · exact G.burnt.more _
        · rename_i i _ _ _
          have G' := G.burnt.setFile i ⟨(S.file i).data ++ data, (S.file i).lasts⟩ data.length (by rw [List.length_append]; have := G.dat i; omega)
          have h := mul_step n m data.length
          have h1 := G.least
          have h2 := G.most
          exact ⟨G'.fuse, G'.room0, G'.room, G'.count, by dsimp only; omega, by dsimp only; omega, G'.dat, G'.cans, G'.runs, G'.names, G'.chgs⟩
theorem Good.sync {n m : Nat} {S : Disk} (G : Good n m S) (s : Str) : Good (n + 1) m (S.sync s).2 := by
  unfold Disk.sync
  split
  · exact G.more 0
  · split
    · exact G.more 0
    · split
      · exact G.burnt.more 0
      · exact G.burnt.setFile _ _ 0 (G.dat _)
theorem look_name {n m : Nat} {S : Disk} (G : Good n m S) {s : Str} {i : Nat} (h : look s S.now = some i) : Nm s := G.nowNames _ (mem_of_look h)
theorem Good.rename {n m : Nat} {S : Disk} (G : Good n m S) (s t : Str) : Good (n + 1) m (S.rename s t).2 := by
  unfold Disk.rename
  split
  · exact G.more 0
  · split
    · exact G.more 0
    · rename_i hn
      have hnm := nm_of (s := t) (by simpa using hn)
      split
      · exact G.more 0
      · rename_i i hl
        have hns := look_name G hl
        split
        · split
          · exact G.burnt.more 0
          · exact G.burnt.more 0
        · exact G.change _ _ ⟨fun _ => ⟨i, by unfold Chg.file; rw [if_neg hns.1]; exact hl⟩, fun e => absurd e hns.1⟩ ⟨Or.inr hns, Or.inr hnm⟩
theorem Good.delete {n m : Nat} {S : Disk} (G : Good n m S) (s : Str) : Good (n + 1) m (S.delete s).2 := by
  unfold Disk.delete
  split
  · exact G.more 0
  · split
    · exact G.more 0
    · rename_i i hl
      have hns := look_name G hl
      exact G.change _ _ ⟨fun e => absurd rfl e, fun e => absurd e hns.1⟩ ⟨Or.inr hns, Or.inl rfl⟩
theorem Good.keep {n m : Nat} {S : Disk} (G : Good n m S) : Good n m (S.keep S.changes.length) := by
  have h1 := length_runs S.changes S.lasting
  have h2 := G.count
  unfold Disk.keep
  rw [List.take_length]
  refine ⟨G.fuse, G.room0, G.room, by dsimp only; simp; omega, G.least, G.most, G.dat, trivial, ?_, names_runs G.names G.chgs, fun c hc => by simp at hc⟩
  dsimp only
  rw [G.runs]
  rfl
theorem Good.dirSync {n m : Nat} {S : Disk} (G : Good n m S) : Good (n + 1) m S.dirSync.2 := by
  unfold Disk.dirSync
  split
  · exact G.more 0
  · split
    · exact G.burnt.more 0
    · have := G.burnt.keep.more 0
      rw [(burn_eqs S).2.2.1] at this
      exact this
theorem Good.light {n m : Nat} {S : Disk} (G : Good n m S) (k : Int) (hk : k ≤ 9223372036854775807) : Good n m (S.light k) :=
  ⟨by unfold Disk.light; dsimp only; omega, G.room0, G.room, G.count, G.least, G.most, G.dat, G.cans, G.runs, G.names, G.chgs⟩
theorem Good.start {n m : Nat} {S : Disk} (G : Good n m S) : Good n m S.start := ⟨G.fuse, G.room0, G.room, G.count, G.least, G.most, G.dat, G.cans, G.runs, G.names, G.chgs⟩
theorem total_le (F : Nat → File) (m : Nat) (h : ∀ i, (F i).data.length ≤ m) : ∀ d : Dir, total F d ≤ d.length * m
  | [] => by simp [total]
  | p :: r => by
    have h1 := total_le F m h r
    have h2 := h p.2
    simp only [total, List.length_cons, Nat.add_mul, Nat.one_mul]
    omega
theorem Good.crash {n m : Nat} {S : Disk} (G : Good n m S) (c : Crash) : Good (n + 1) m (S.crash c) := by
  have h1 := length_runs (S.changes.take (held c.names S.changes.length).toNat) S.lasting
  have h2 := G.count
  rw [List.length_take] at h1
  have hd : ∀ i, (tails c.keep c.spoil (Dk.runs (S.changes.take (held c.names S.changes.length).toNat) S.lasting) 0 S.file i).data.length ≤ m := fun i => Nat.le_trans (tails_le _ _ _ _ _ i) (G.dat i)
  have h3 := total_le _ m hd (Dk.runs (S.changes.take (held c.names S.changes.length).toNat) S.lasting)
  have h4 : (Dk.runs (S.changes.take (held c.names S.changes.length).toNat) S.lasting).length * m ≤ (n + 1) * m := Nat.mul_le_mul_right _ (by omega)
  unfold Disk.crash
  simp only
  exact ⟨G.fuse, G.room0, G.room, by dsimp only; simp; omega, by dsimp only; omega, by dsimp only; omega, hd, trivial, rfl, names_runs G.names (fun c hc => G.chgs c (List.mem_of_mem_take hc)), fun c hc => by simp at hc⟩
theorem good_fresh (room : Int) : Good 0 0 (fresh room) := by
  refine ⟨by simp [fresh], ?_, ?_, by simp [fresh], by simp [fresh], by simp [fresh], fun _ => by simp [fresh], trivial, rfl, fun p hp => by simp [fresh] at hp, fun c hc => by simp [fresh] at hc⟩
  · unfold fresh held; dsimp only; omega
  · unfold fresh held; dsimp only; omega
theorem Good.mono {n m n' m' : Nat} {S : Disk} (G : Good n m S) (hn : n ≤ n') (hm : m ≤ m') : Good n' m' S := by
  have h : n * m ≤ n' * m' := Nat.mul_le_mul hn hm
  have h1 := G.least
  have h2 := G.most
  exact ⟨G.fuse, G.room0, G.room, Nat.le_trans G.count hn, by omega, by omega, fun i => Nat.le_trans (G.dat i) hm, G.cans, G.runs, G.names, G.chgs⟩

end Go.Proofs.Ytefoijamedciiaa.Dk

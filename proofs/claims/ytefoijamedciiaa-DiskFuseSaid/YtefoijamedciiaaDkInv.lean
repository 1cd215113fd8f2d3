/- Each file has one name: what stays true of directories. No function is named. -/
import Derived.Test.YtefoijamedciiaaDkGood
namespace Go.Proofs.Ytefoijamedciiaa.Dk
open Go

theorem look_nil (s : Str) : look s [] = none := rfl
theorem look_cons (s : Str) (p : Str × Nat) (d : Dir) : look s (p :: d) = if p.1 = s then some p.2 else look s d := by
  unfold look
  rw [List.find?_cons]
  by_cases h : p.1 = s
  · rw [if_pos h]; simp [h]
  · rw [if_neg h]
    have : (p.1 == s) = false := by rw [beq_eq_false_iff_ne]; exact h
    rw [this]
theorem look_none {s : Str} : ∀ {d : Dir}, (∀ p ∈ d, p.1 ≠ s) → look s d = none
  | [], _ => rfl
  | p :: r, h => by
    rw [look_cons, if_neg (h p (List.mem_cons_self ..))]
    exact look_none fun q hq => h q (List.mem_cons_of_mem _ hq)
theorem look_del_same (s : Str) (d : Dir) : look s (del s d) = none := look_none fun _ hp => (mem_del.1 hp).2
theorem look_del_other {s t : Str} (h : t ≠ s) : ∀ d : Dir, look t (del s d) = look t d
  | [] => rfl
  | p :: r => by
    have ih := look_del_other h r
    unfold del at ih ⊢
    rw [List.filter_cons, look_cons]
    by_cases hp : p.1 = s
    · have e1 : (!(p.1 == s)) = false := by simp [hp]
      rw [e1]
      simp only [Bool.false_eq_true, if_false]
      rw [if_neg (by rw [hp]; exact fun e => h e.symm)]
      exact ih
    · have e1 : (!(p.1 == s)) = true := by simp [hp]
      rw [e1]
      simp only [if_true]
      rw [look_cons, ih]
theorem look_ins {s t : Str} {i : Nat} : ∀ {d : Dir}, (∀ p ∈ d, p.1 ≠ s) → look t (ins (s, i) d) = if t = s then some i else look t d
  | [], _ => by
    unfold ins
    rw [look_cons]
    by_cases h : t = s
    · rw [if_pos h, if_pos h.symm]
    · rw [if_neg h, if_neg (fun e => h e.symm)]
  | p :: r, hd => by
    unfold ins
    split
    · rw [look_cons]
      by_cases h : t = s
      · rw [if_pos h, if_pos h.symm]
      · rw [if_neg h, if_neg (fun e => h e.symm)]
    · rw [look_cons, look_ins (fun q hq => hd q (List.mem_cons_of_mem _ hq)), look_cons]
      by_cases h : t = s
      · rw [if_pos h, if_pos h, if_neg (by rw [h]; exact hd p (List.mem_cons_self ..))]
      · rw [if_neg h, if_neg h]
theorem look_put (s t : Str) (i : Nat) (d : Dir) : look t (put s i d) = if t = s then some i else look t d := by
  unfold put
  rw [look_ins (fun _ hp => (mem_del.1 hp).2)]
  by_cases h : t = s
  · rw [if_pos h, if_pos h]
  · rw [if_neg h, if_neg h, look_del_other h]
theorem look_run {c : Chg} {d : Dir} {t : Str} (h1 : t ≠ c.src) (h2 : t ≠ c.dst) : look t (c.run d) = look t d := by
  unfold Chg.run
  simp only
  have hd : look t (if c.src = [] then d else del c.src d) = look t d := by
    split
    · rfl
    · exact look_del_other h1 d
  split
  · exact hd
  · split
    · rw [look_put, if_neg h2]; exact hd
    · exact hd
theorem look_runs : ∀ {cs : List Chg} {d : Dir} {t : Str}, (∀ c ∈ cs, t ≠ c.src ∧ t ≠ c.dst) → look t (runs cs d) = look t d
  | [], _, _, _ => rfl
  | c :: r, d, t, h => by
    have h1 := h c (List.mem_cons_self ..)
    exact (look_runs (cs := r) fun x hx => h x (List.mem_cons_of_mem _ hx)).trans (look_run h1.1 h1.2)

/-- No file has two names. -/
def Uniq (d : Dir) : Prop := ∀ p ∈ d, ∀ q ∈ d, p.2 = q.2 → p.1 = q.1
theorem uniq_run {c : Chg} {d : Dir} (h : Uniq d) (hm : c.src = [] → ∀ i, c.made = some i → ∀ p ∈ d, p.2 ≠ i) : Uniq (c.run d) := by
  have hd1 : ∀ z, z ∈ (if c.src = [] then d else del c.src d) → z ∈ d := fun z hz => by
    split at hz
    · exact hz
    · exact (mem_del.1 hz).1
  have hu : Uniq (if c.src = [] then d else del c.src d) := fun p hp q hq e => h p (hd1 p hp) q (hd1 q hq) e
  unfold Chg.run
  simp only
  split
  · exact hu
  · split
    · rename_i i hi
      have hno : ∀ p ∈ (if c.src = [] then d else del c.src d), p.2 ≠ i := fun p hp => by
        unfold Chg.file at hi
        by_cases hs : c.src = []
        · rw [if_pos hs] at hi hp
          exact hm hs i hi p hp
        · rw [if_neg hs] at hi hp
          have h1 := mem_del.1 hp
          intro e
          exact h1.2 (h p h1.1 (c.src, i) (mem_of_look hi) e)
      intro p hp q hq e
      rcases mem_put.1 hp with rfl | hp'
      · rcases mem_put.1 hq with rfl | hq'
        · rfl
        · exact absurd e.symm (hno q hq'.1)
      · rcases mem_put.1 hq with rfl | hq'
        · exact absurd e (hno p hp'.1)
        · exact hu p hp'.1 q hq'.1 e
    · exact hu

/-- Whatever a crash leaves of the directory, no file has two names; all numbers are below the next one. -/
structure Sole (S : Disk) : Prop where
  uniq : ∀ k, Uniq (Dk.runs (S.changes.take k) S.lasting)
  old : ∀ p ∈ S.lasting, p.2 < S.next
  made : ∀ c ∈ S.changes, ∀ i, c.made = some i → i < S.next
theorem ids_runs : ∀ {cs : List Chg} {d : Dir} {n : Nat}, (∀ p ∈ d, p.2 < n) → (∀ c ∈ cs, ∀ i, c.made = some i → i < n) → ∀ p ∈ Dk.runs cs d, p.2 < n
  | [], _, _, hd, _, p, hp => hd p hp
  | c :: r, d, n, hd, hc, p, hp => ids_runs (cs := r) (fun q hq => by
      rcases id_run hq with ⟨z, hz, e⟩ | e
      · rw [← e]; exact hd z hz
      · exact hc c (List.mem_cons_self ..) _ e) (fun x hx => hc x (List.mem_cons_of_mem _ hx)) p hp
theorem Sole.burnt {S : Disk} (h : Sole S) : Sole S.burn := by
  obtain ⟨b1, b2, b3, b4, b5, _, _⟩ := burn_eqs S
  exact ⟨by rw [b2, b3]; exact h.uniq, by rw [b2, b5]; exact h.old, by rw [b3, b5]; exact h.made⟩
theorem Sole.did {n m : Nat} {S : Disk} (h : Sole S) (G : Good n m S) (c : Chg) (lost : Option Nat) (hm : c.src = [] → ∀ i, c.made = some i → ∀ p ∈ S.now, p.2 ≠ i) (hn : ∀ i, c.made = some i → i < S.next) : Sole (S.did c lost) := by
  unfold Disk.did
  refine ⟨fun k => ?_, h.old, fun x hx i hi => ?_⟩
  · dsimp only
    rcases Nat.lt_or_ge S.changes.length k with hk | hk
    · rw [List.take_of_length_le (by rw [List.length_append, List.length_singleton]; omega), runs_append, ← G.runs]
      have h1 := h.uniq S.changes.length
      rw [List.take_length, ← G.runs] at h1
      exact uniq_run h1 hm
    · rw [List.take_append_of_le_length hk]
      exact h.uniq k
  · rcases List.mem_append.1 hx with hx | hx
    · exact h.made x hx i hi
    · obtain rfl : x = c := by simpa using hx
      exact hn i hi
theorem Sole.change {n m : Nat} {S : Disk} (h : Sole S) (G : Good n m S) (c : Chg) (lost : Option Nat) (hm : c.src = [] → ∀ i, c.made = some i → ∀ p ∈ S.now, p.2 ≠ i) (hn : ∀ i, c.made = some i → i < S.next) : Sole (S.change c lost).2 := by
  obtain ⟨b1, b2, b3, b4, b5, _, _⟩ := burn_eqs S
  unfold Disk.change
  split
  · exact h.burnt
  · exact h.burnt.did G.burnt c lost (by rw [b1]; exact hm) (by rw [b5]; exact hn)
theorem Sole.nowIds {n m : Nat} {S : Disk} (h : Sole S) (G : Good n m S) : ∀ p ∈ S.now, p.2 < S.next := by
  rw [G.runs]
  exact ids_runs h.old h.made
theorem Sole.create {n m : Nat} {S : Disk} (h : Sole S) (G : Good n m S) (s : Str) : Sole (S.create s).2 := by
  unfold Disk.create
  split
  · exact h
  · split
    · exact h
    · split
      · exact h
      · split
        · exact h.burnt
        · obtain ⟨b1, b2, b3, b4, b5, _, _⟩ := burn_eqs S
          have hw : Sole S.burn.with := ⟨h.burnt.uniq, fun p hp => by have := h.burnt.old p hp; unfold Disk.with; dsimp only; omega, fun c hc i hi => by have := h.burnt.made c hc i hi; unfold Disk.with; dsimp only; omega⟩
          refine hw.did G.burnt.withFile _ _ (fun _ i hi p hp => ?_) (fun i hi => ?_)
          · simp only [Option.some.injEq] at hi
            have h1 := h.nowIds G
            have hp' : p ∈ S.now := by
              have : S.burn.with.now = S.now := b1
              rw [this] at hp
              exact hp
            have := h1 p hp'
            omega
          · simp only [Option.some.injEq] at hi
            unfold Disk.with
            dsimp only
            rw [b5]
            omega
theorem Sole.files {S : Disk} (h : Sole S) (F : Nat → File) (u : Int) : Sole { S with file := F, used := u } := ⟨h.uniq, h.old, h.made⟩
theorem Sole.append {S : Disk} (h : Sole S) (s data : Str) : Sole (S.append s data).2 := by
  unfold Disk.append
  split
  · exact h
  · split
    · exact h
    · split
      · exact h
      · split
        · exact h.burnt
        · exact h.burnt.files _ _
theorem Sole.sync {S : Disk} (h : Sole S) (s : Str) : Sole (S.sync s).2 := by
  unfold Disk.sync
  split
  · exact h
  · split
    · exact h
    · split
      · exact h.burnt
      · exact h.burnt.files _ _
theorem Sole.rename {n m : Nat} {S : Disk} (h : Sole S) (G : Good n m S) (s t : Str) : Sole (S.rename s t).2 := by
  unfold Disk.rename
  split
  · exact h
  · split
    · exact h
    · split
      · exact h
      · rename_i i hl
        split
        · split
          · exact h.burnt
          · exact h.burnt
        · exact h.change G _ _ (fun _ i hi => by cases hi) (fun i hi => by cases hi)
theorem Sole.delete {n m : Nat} {S : Disk} (h : Sole S) (G : Good n m S) (s : Str) : Sole (S.delete s).2 := by
  unfold Disk.delete
  split
  · exact h
  · split
    · exact h
    · exact h.change G _ _ (fun _ i hi => by cases hi) (fun i hi => by cases hi)
theorem Sole.keepAll {S : Disk} (h : Sole S) (k : Nat) (D : Disk) (h1 : D.lasting = Dk.runs (S.changes.take k) S.lasting) (h2 : D.changes = []) (h3 : D.next = S.next) : Sole D := by
  refine ⟨fun j => ?_, ?_, fun c hc => by rw [h2] at hc; simp at hc⟩
  · rw [h1, h2, List.take_nil]
    exact h.uniq k
  · rw [h1, h3]
    exact ids_runs h.old (fun c hc => h.made c (List.mem_of_mem_take hc))
theorem Sole.dirSync {S : Disk} (h : Sole S) : Sole S.dirSync.2 := by
  unfold Disk.dirSync
  split
  · exact h
  · split
    · exact h.burnt
    · exact h.burnt.keepAll S.changes.length _ rfl rfl rfl
theorem Sole.crash {S : Disk} (h : Sole S) (c : Crash) : Sole (S.crash c) := h.keepAll _ _ rfl rfl rfl
theorem sole_fresh (room : Int) : Sole (fresh room) := ⟨fun k p hp => by simp [fresh, Dk.runs] at hp, fun p hp => by simp [fresh] at hp, fun c hc => by simp [fresh] at hc⟩

end Go.Proofs.Ytefoijamedciiaa.Dk

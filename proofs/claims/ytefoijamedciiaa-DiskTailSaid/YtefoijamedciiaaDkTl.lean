/- What a crash leaves of tails. No function is named. -/
import Derived.Test.YtefoijamedciiaaDkGood
namespace Go.Proofs.Ytefoijamedciiaa.Dk
open Go

theorem held_nat (x : Int) (n : Nat) : (held x (n : Int)).toNat ≤ n := by unfold held; omega
/-- So many bytes of a tail a crash keeps. -/
def keptN (f : File) (ks : List Int) (k : Nat) : Nat := match ks[k]? with
  | some x => (held x ((f.data.length : Int) - f.lasts)).toNat
  | none => 0
theorem keptN_le (f : File) (hf : f.lasts ≤ f.data.length) (ks : List Int) (k : Nat) : keptN f ks k ≤ f.data.length - f.lasts := by
  unfold keptN
  split
  · have e : (f.data.length : Int) - f.lasts = ((f.data.length - f.lasts : Nat) : Int) := by omega
    rw [e]; exact held_nat _ _
  · omega
/-- What is kept of a tail, turned. -/
def kept (t : Str) (sp : List (Int × Nat)) (k : Nat) : Str := match sp[k]? with
  | some q => turn t q.1 q.2
  | none => t
theorem kept_length (t : Str) (sp : List (Int × Nat)) (k : Nat) : (kept t sp k).length = t.length := by
  unfold kept
  split
  · unfold turn
    rw [List.length_mapIdx]
  · rfl
theorem left_is (f : File) (ks : List Int) (sp : List (Int × Nat)) (k : Nat) :
    left f ks sp k = ⟨f.data.take f.lasts ++ (if keptN f ks k = 0 then (f.data.drop f.lasts).take (keptN f ks k) else kept ((f.data.drop f.lasts).take (keptN f ks k)) sp k), f.lasts + keptN f ks k⟩ := rfl
theorem left_lasts (f : File) (hf : f.lasts ≤ f.data.length) (ks : List Int) (sp : List (Int × Nat)) (k : Nat) : (left f ks sp k).lasts = (left f ks sp k).data.length := by
  rw [left_is]
  have hn := keptN_le f hf ks k
  generalize keptN f ks k = n at hn
  dsimp only
  rw [List.length_append, List.length_take, Nat.min_eq_left hf]
  congr 1
  split
  · rw [List.length_take, List.length_drop]; omega
  · rw [kept_length, List.length_take, List.length_drop]; omega

/-- What becomes of a file that stands in the directory. -/
theorem tails_at (ks : List Int) (sp : List (Int × Nat)) (i : Nat) : ∀ (d : Dir) (k : Nat) (G : Nat → File), (G i).lasts ≤ (G i).data.length → (∃ p ∈ d, p.2 = i) →
    ((G i).lasts = (G i).data.length ∧ tails ks sp d k G i = G i) ∨ ((G i).lasts ≠ (G i).data.length ∧ ∃ k', tails ks sp d k G i = left (G i) ks sp k')
  | [], _, _, _, h => by obtain ⟨p, hp, _⟩ := h; simp at hp
  | p :: r, k, G, hG, h => by
    have still : ∀ (d : Dir) (k : Nat) (G : Nat → File), (G i).lasts = (G i).data.length → tails ks sp d k G i = G i := by
      intro d
      induction d with
      | nil => intro k G _; rfl
      | cons q s ih =>
        intro k G hq
        unfold tails
        split
        · exact ih k G hq
        · rename_i hne
          have hqi : q.2 ≠ i := fun e => hne (by rw [e]; exact hq)
          rw [ih (k + 1) _ (by rw [upd_other (fun e => hqi e.symm)]; exact hq), upd_other (fun e => hqi e.symm)]
    by_cases hl : (G i).lasts = (G i).data.length
    · exact Or.inl ⟨hl, still _ _ _ hl⟩
    · refine Or.inr ⟨hl, ?_⟩
      unfold tails
      by_cases hp : p.2 = i
      · rw [hp, if_neg hl]
        refine ⟨k, ?_⟩
        rw [still r (k + 1) _ (by rw [upd_same]; exact left_lasts _ hG ks sp k), upd_same]
      · have hr : ∃ q ∈ r, q.2 = i := by
          obtain ⟨q, hq, e⟩ := h
          rcases List.mem_cons.1 hq with rfl | hq
          · exact absurd e hp
          · exact ⟨q, hq, e⟩
        split
        · rcases tails_at ks sp i r k G hG hr with ⟨h1, _⟩ | ⟨_, h2⟩
          · exact absurd h1 hl
          · exact h2
        · have hoth : ∀ f, upd G p.2 f i = G i := fun f => upd_other (fun e => hp e.symm) f
          rcases tails_at ks sp i r (k + 1) (upd G p.2 (left (G p.2) ks sp k)) (by rw [hoth]; exact hG) hr with ⟨h1, _⟩ | ⟨_, k', h2⟩
          · rw [hoth] at h1; exact absurd h1 hl
          · rw [hoth] at h2; exact ⟨k', h2⟩

/-- Four bytes side by side of b may differ from z; b is no longer than z, and begins with a. -/
structure Near (a b z : Str) : Prop where
  ab : a <+: b
  bz : b.length ≤ z.length
  four : ∃ p, ∀ j (h1 : j < b.length) (h2 : j < z.length), b[j] ≠ z[j] → p ≤ j ∧ j < p + 4
theorem near_self (a : Str) : Near a a a := ⟨List.prefix_refl a, Nat.le_refl _, 0, fun _ _ _ h => absurd rfl h⟩
theorem near_left (f : File) (hf : f.lasts ≤ f.data.length) (ks : List Int) (sp : List (Int × Nat)) (k k' : Nat) : Near (left f [] [] k').data (left f ks sp k).data f.data := by
  have e0 : (left f [] [] k').data = f.data.take f.lasts := by
    rw [left_is]
    simp [keptN]
  rw [e0]
  have hd := left_lasts f hf ks sp k
  rw [left_is] at hd ⊢
  have hn := keptN_le f hf ks k
  generalize keptN f ks k = n at hn hd ⊢
  dsimp only at hd ⊢
  refine ⟨List.prefix_append _ _, by rw [← hd]; omega, ?_⟩
  have same : ∀ j (h1 : j < (f.data.take f.lasts ++ (f.data.drop f.lasts).take n).length) (h2 : j < f.data.length), (f.data.take f.lasts ++ (f.data.drop f.lasts).take n)[j] = f.data[j] := fun j h1 h2 => by
    have e : f.data.take f.lasts ++ (f.data.drop f.lasts).take n = f.data.take (f.lasts + n) := by rw [List.take_add]
    simp only [e, List.getElem_take]
  by_cases hn0 : n = 0
  · simp only [hn0, if_true] at same ⊢
    exact ⟨0, fun j h1 h2 h => absurd (same j h1 h2) h⟩
  · simp only [if_neg hn0]
    unfold kept
    cases sp[k]? with
    | none => exact ⟨0, fun j h1 h2 h => absurd (same j h1 h2) h⟩
    | some q =>
      dsimp only
      refine ⟨f.lasts + (q.1 % (((f.data.drop f.lasts).take n).length : Int)).toNat, fun j h1 h2 h => ?_⟩
      have hlt : (f.data.take f.lasts).length = f.lasts := by rw [List.length_take, Nat.min_eq_left hf]
      rcases Nat.lt_or_ge j f.lasts with hj | hj
      · exfalso
        apply h
        rw [List.getElem_append_left (by omega), List.getElem_take]
      · unfold turn at h h1
        simp only [List.length_append, hlt, List.length_mapIdx] at h1
        rw [List.getElem_append_right (by omega), List.getElem_mapIdx] at h
        split at h
        · rename_i hc
          rw [hlt] at hc
          omega
        · exfalso
          apply h
          have := same j (by rw [List.length_append, hlt]; exact h1) h2
          rw [List.getElem_append_right (by omega)] at this
          exact this

/-- Behind a DirSync a crash keeps all names; each file's bytes are near. -/
theorem crash_near {n m : Nat} {S : Disk} (G : Good n m S) (hfl : ∀ p ∈ S.now, (S.file p.2).lasts ≤ (S.file p.2).data.length) (hc : S.changes = []) (c : Crash) :
    (S.crash c).now = S.now ∧ ∀ p ∈ S.now, Near ((S.crash ⟨0, [], []⟩).file p.2).data ((S.crash c).file p.2).data (S.file p.2).data := by
  have hr : S.now = S.lasting := by rw [G.runs, hc]; rfl
  have e1 : ∀ c : Crash, (S.crash c).now = S.lasting := fun c => by
    unfold Disk.crash
    simp only [hc, List.take_nil]
    rfl
  have e2 : ∀ c : Crash, (S.crash c).file = tails c.keep c.spoil S.lasting 0 S.file := fun c => by
    unfold Disk.crash
    simp only [hc, List.take_nil]
    rfl
  refine ⟨(e1 c).trans hr.symm, fun p hp => ?_⟩
  rw [e2, e2]
  dsimp only
  have hfp := hfl p hp
  rw [hr] at hp
  rcases tails_at [] [] p.2 S.lasting 0 S.file hfp ⟨p, hp, rfl⟩ with ⟨h1, h2⟩ | ⟨h1, k1, h2⟩
  · rcases tails_at c.keep c.spoil p.2 S.lasting 0 S.file hfp ⟨p, hp, rfl⟩ with ⟨_, h4⟩ | ⟨h3, _⟩
    · rw [h2, h4]; exact near_self _
    · exact absurd h1 h3
  · rcases tails_at c.keep c.spoil p.2 S.lasting 0 S.file hfp ⟨p, hp, rfl⟩ with ⟨h3, _⟩ | ⟨_, k2, h4⟩
    · exact absurd h3 h1
    · rw [h2, h4]; exact near_left _ hfp _ _ _ _

end Go.Proofs.Ytefoijamedciiaa.Dk

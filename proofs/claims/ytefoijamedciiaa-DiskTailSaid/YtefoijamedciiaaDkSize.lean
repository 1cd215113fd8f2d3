/- How great directories and files become. No function is named. -/
import Derived.Test.YtefoijamedciiaaDkMath
namespace Go.Proofs.Ytefoijamedciiaa.Dk
open Go

theorem length_ins (x : Str × Nat) : ∀ d : Dir, (ins x d).length = d.length + 1
  | [] => rfl
  | y :: r => by
    unfold ins
    split
    · rfl
    · simp [length_ins x r]
theorem length_run (c : Chg) (d : Dir) : (c.run d).length ≤ d.length + 1 := by
  have hd : ∀ s, (del s d).length ≤ d.length := fun s => List.length_filter_le _ _
  have h1 : (if c.src = [] then d else del c.src d).length ≤ d.length := by
    split
    · exact Nat.le_refl _
    · exact hd _
  unfold Chg.run
  simp only
  split
  · omega
  · split
    · unfold put
      rw [length_ins]
      have := List.length_filter_le (fun p : Str × Nat => !(p.1 == c.dst)) (if c.src = [] then d else del c.src d)
      unfold del at *
      omega
    · omega
theorem length_runs : ∀ (cs : List Chg) (d : Dir), (runs cs d).length ≤ d.length + cs.length
  | [], d => by simp [runs]
  | c :: r, d => by
    have h1 := length_runs r (c.run d)
    have h2 := length_run c d
    simp only [runs, List.length_cons]
    omega
theorem turn_len (t : Str) (x : Int) (m : Nat) : (turn t x m).length = t.length := by
  unfold turn
  rw [List.length_mapIdx]
def keptL (f : File) (ks : List Int) (k : Nat) : Nat := match ks[k]? with
  | some x => (held x ((f.data.length : Int) - f.lasts)).toNat
  | none => 0
theorem left_eqL (f : File) (ks : List Int) (sp : List (Int × Nat)) (k : Nat) :
    left f ks sp k = ⟨f.data.take f.lasts ++ (if keptL f ks k = 0 then (f.data.drop f.lasts).take (keptL f ks k) else match sp[k]? with
      | some q => turn ((f.data.drop f.lasts).take (keptL f ks k)) q.1 q.2
      | none => (f.data.drop f.lasts).take (keptL f ks k)), f.lasts + keptL f ks k⟩ := rfl
theorem left_le (f : File) (ks : List Int) (sp : List (Int × Nat)) (k : Nat) : (left f ks sp k).data.length ≤ f.data.length := by
  have key : ∀ n : Nat, ∀ u : Str, u.length = ((f.data.drop f.lasts).take n).length → (f.data.take f.lasts ++ u).length ≤ f.data.length := fun n u hu => by
    have h1 : ((f.data.drop f.lasts).take n).length ≤ f.data.length - f.lasts := by rw [List.length_take, List.length_drop]; omega
    rw [List.length_append, List.length_take, hu]
    omega
  rw [left_eqL]
  dsimp only
  apply key (keptL f ks k)
  split
  · rfl
  · split
    · exact turn_len _ _ _
    · rfl
theorem tails_le (ks : List Int) (sp : List (Int × Nat)) : ∀ (d : Dir) (k : Nat) (G : Nat → File) (j : Nat), (tails ks sp d k G j).data.length ≤ (G j).data.length
  | [], _, _, _ => Nat.le_refl _
  | p :: r, k, G, j => by
    unfold tails
    split
    · exact tails_le ks sp r k G j
    · refine Nat.le_trans (tails_le ks sp r (k + 1) _ j) ?_
      unfold upd
      split
      · rename_i e
        rw [e]
        exact left_le _ _ _ _
      · exact Nat.le_refl _

end Go.Proofs.Ytefoijamedciiaa.Dk

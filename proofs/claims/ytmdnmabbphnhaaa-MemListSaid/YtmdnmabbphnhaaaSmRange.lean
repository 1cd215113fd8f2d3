/- A range over what List.From tells, whose two loop variables are plain slots. No function is named but that one. -/
import Derived.Test.YtmdnmabbphnhaaaSmS
namespace Go.Proofs.Ytmdnmabbphnhaaa.Sm
open Go.Proofs.Ytmdnmabbphnhaaa.Sk
open Go Go.RowKit Go.Shelf

/-- The slots behind the assignment of a round's two values. -/
def roundTmps (tmps : Array Value) (p1 p2 q1 q2 : Nat) (y : It Ent) : Array Value := (((tmps.setIfInBounds p1 (.string (txt y.key))).setIfInBounds p2 (enV y.val)).setIfInBounds q1 (.string (txt y.key))).setIfInBounds q2 (enV y.val)
theorem range_two {n : Nat} {g : Operand} {p1 p2 : Nat} (q1 q2 : Nat) {assign body : Code} {Q : Exit → Act → World → Prop} {tmps : Array Value} {ds : List Deferred} {w : World} (h1 : 1 ≤ n) {lb : Array Value} (hg : ({ tmps := tmps, defers := ds } : Act).eval g = .func (.func 42) #[] lb)
    {Kp : World → World → Prop} {S Sp : List (It Ent) → Prop} {N : Nat} (hseq : SeqStopsK Fence.wide (n - 1) Try.prog 42 lb encS Kp S Sp N w)
    (hKt : ∀ {A B C : World}, Kp A B → Kp B C → Kp A C) (hKb : ∀ (W : World) (l : Nat) (o o' : Obj), w.heap.size ≤ l → W.heap[l]? = some o → o.isCells = false → o.isWalk = false → Kp W (W.putObj l o'))
    (I : List (It Ent) → World → Prop) (Ix : Code → List (It Ent) → World → Prop) (hI : OwnFrom w.heap.size I) (hIx : ∀ c, OwnFrom w.heap.size (Ix c)) (h0 : I [] w)
    (hassign : ∀ (l : Nat) (x : It Ent) (W : World) (K : Act → World → Prop), K { tmps := roundTmps tmps p1 p2 q1 q2 x, defers := [] } W →
      assign.wpIn (Fence.wide.inRound l) (n - 1 - 1) Try.prog (Exit.then K (fun _ _ _ => False)) { tmps := (tmps.setIfInBounds p1 (.string (txt x.key))).setIfInBounds p2 (enV x.val), defers := [] } W)
    (hbody : ∀ (l : Nat) (pre : List (It Ent)) (x : It Ent) (W : World), I pre W → pre.length < N → body.wpIn (Fence.wide.inRound l) (n - 1 - 1) Try.prog (ownPostK Kp I Ix (pre ++ [x]) W) { tmps := roundTmps tmps p1 p2 q1 q2 x, defers := [] } W)
    (hdone : ∀ (D : Nat) (xs : List (It Ent)) (W : World), w.heap.size ≤ D → S xs → I xs W → W.heap[D]? = some (.deferred (some [])) → Q .normal { tmps := tmps, defers := { target := .collected D, args := #[] } :: ds } W)
    (hstop : ∀ (D : Nat) (c : Code) (pre : List (It Ent)) (W : World), w.heap.size ≤ D → Sp pre → Ix c pre W → W.heap[D]? = some (.deferred (some [])) → c.wpIn Fence.wide n Try.prog Q { tmps := tmps, defers := { target := .collected D, args := #[] } :: ds } W) :
    (Code.rangeFunc g #[p1, p2] assign body).wp Try.prog Q { tmps := tmps, defers := ds } w :=
  (wpIn_wide (n := n)).1 (wpIn_rangeFunc_ownF (a := { tmps := tmps, defers := ds }) rfl h1 (gf := 42) hg trivial (enters_of Try.func42 (by kernel_rfl) rfl) hseq hKt hKb (Below.refl _ _) (fun _ => rfl) I Ix hI hIx h0
    (fun x => { tmps := roundTmps tmps p1 p2 q1 q2 x, defers := [] }) (fun l x W K hK => by
      have e : ((#[p1, p2] : Array Tmp).zip (encS x)).foldl (fun t (p : Tmp × Value) => t.setIfInBounds p.1 p.2) tmps = (tmps.setIfInBounds p1 (.string (txt x.key))).setIfInBounds p2 (enV x.val) := by simp [encS]
      show assign.wpIn _ _ _ _ { tmps := ((#[p1, p2] : Array Tmp).zip (encS x)).foldl (fun t (p : Tmp × Value) => t.setIfInBounds p.1 p.2) tmps, defers := [] } W
      rw [e]
      exact hassign l x W K hK) hbody hdone hstop)

end Go.Proofs.Ytmdnmabbphnhaaa.Sm

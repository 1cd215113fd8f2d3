/- For SkipPlays: rows of items beside a list; an empty list. -/
import Derived.Test.YtghfgffgcknbmaaSkWhole
namespace Go.Proofs.Ytghfgffgcknbmaa.Sk
open Go Go.RowKit
set_option linter.unusedVariables false
set_option linter.unusedSimpArgs false

theorem Items.mono {b b' : Nat} {w : World} {v : Value} {r : List (It ByteArray)} (h : Items b w v r) (hb : b' ≤ b) : Items b' w v r := by
  refine ⟨h.1, ?_⟩
  rcases h.2 with h2 | ⟨g, cap, cur, e, h3, h4⟩
  · exact Or.inl h2
  · exact Or.inr ⟨g, cap, cur, e, Nat.le_trans hb h3, h4⟩
/-- A row of items is no block of a list. -/
theorem Items.apart {b : Nat} {w w' : World} {L : Lay} {v : Value} {s r q : List (It ByteArray)} (h : Items b w v q) (hL : ListS w L s r) (ht : Turns (Own L s) w w') : Items b w' v q :=
  ownsRow_frame h fun g hg => ht.block g (ownsRow_lt h hg) fun ho => by
    obtain ⟨cs, e⟩ := ownsRow_obj h hg
    obtain ⟨cs', t, e', ht⟩ := hL.own_type ho
    rw [e] at e'
    simp only [Option.some.injEq, Obj.cells.injEq] at e'
    obtain ⟨_, h1, _⟩ := e'
    rcases ht with h2 | h2 | h2 <;> (rw [← h1] at h2; exact absurd h2 (by decide))
theorem empty_list {w : World} {cs : Array Value} (h : cs = #[.slice none 0 0, .int .i64 0, .int .i64 0, .int .i64 0, .int .i64 0, .int .i64 0, .int .i64 0, .int .i64 0, .int .i64 0, .int .i64 0, .int .i64 0, .int .i64 0, .int .i64 0]) : ListS (w.alloc (.cells cs 30)) ⟨w.heap.size, .slice none 0 0, fun _ => 0⟩ [] [] := by
  subst h
  refine ⟨Kin.nil, by simp, by simp, by simp, ?_, World.ownsRow_nil .., ?_, by simp⟩
  · rw [heap_alloc_new]; rfl
  · intro A k q B e
    have := congrArg List.length e
    simp [shape] at this
theorem mine_nil {base B0 : Nat} {w : World} (h : ListS w ⟨B0, .slice none 0 0, fun _ => 0⟩ [] []) (hb : base ≤ B0) : Mine base w ⟨B0, .slice none 0 0, fun _ => 0⟩ [] [] := ⟨h, fun b ho => by
  rcases ho with rfl | ho | ⟨y, hy, _⟩
  · exact hb
  · simp [Value.ownBlock] at ho
  · cases hy⟩
def hx (x : Ac) : Int := x.h

end Go.Proofs.Ytghfgffgcknbmaa.Sk

/- A list of the call's own. -/
import Derived.Test.YtmdnmabbphnhaaaSmH
import Derived.Deep.QuietTactic
import Derived.BigQuiet
namespace Go.Proofs.Ytmdnmabbphnhaaa.Sm
open Go.Proofs.Ytmdnmabbphnhaaa.Sk
open Go Go.RowKit
set_option linter.unusedVariables false

/-- A list of the call's own: its blocks lie from a base on. -/
structure Mine (base : Nat) (w : World) (L : Lay) (s r : List (It Ent)) : Prop where
  lies : ListS w L s r
  from_ : ∀ b, Own L s b → base ≤ b
theorem Mine.below {base : Nat} {w w' : World} {L : Lay} {s r : List (It Ent)} (h : Mine base w L s r) (hb : Below w.heap.size w w') : Mine base w' L s r := ⟨h.lies.below hb, h.from_⟩
/-- What a Set leaves. -/
def SetTo (base : Nat) (L : Lay) (s r : List (It Ent)) (x : It Ent) (w w' : World) : Prop := ∃ L', L'.b = L.b ∧ Mine base w' L' (put x s) (rput x r) ∧ Turns (Own L s) w w'
theorem set_mine {base : Nat} {w : World} {L : Lay} {s r : List (It Ent)} (h : Mine base w L s r) (hbase : base ≤ w.heap.size) (K : ByteArray) (V : Ent) (H : Int) (hK : K.size ≤ 1000000) (hr : r.length < 100000) (hfree : Sk.find K.data.toList s = none) :
    Calls Try.prog 26 #[.pointer (some ⟨L.b, 0, none⟩), .string K, enV V, .int .i64 H] w fun e w' => e = .returned (.bool (find K.data.toList s).isNone) ∧ SetTo base L s r ⟨K.data.toList, V, clampH H⟩ w w' := by
  refine (set_any h.lies K V H hK hr hfree).mono ?_
  rintro e w' ⟨rfl, L', h1, h2, h3, h4⟩
  refine ⟨rfl, L', h1, ⟨h2, fun b hb => ?_⟩, h3⟩
  rcases h4 b hb with h5 | h5
  · exact h.from_ b h5
  · omega
theorem Turns.base {base : Nat} {w w' : World} {L : Lay} {s r : List (It Ent)} (h : Mine base w L s r) (ht : Turns (Own L s) w w') (hbase : base ≤ w.heap.size) : Below base w w' := ht.to_below hbase h.from_

theorem length_rput_le {x : It Ent} {r : List (It Ent)} (h : One r) : (rput x r).length ≤ r.length + 1 := by
  rw [length_rput h]
  split <;> omega

end Go.Proofs.Ytmdnmabbphnhaaa.Sm

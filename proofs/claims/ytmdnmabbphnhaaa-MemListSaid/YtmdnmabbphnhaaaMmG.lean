/- A memory of the call's own; the walk of law 9's awake. -/
import Derived.Test.YtmdnmabbphnhaaaMmC
import Derived.Test.YtmdnmabbphnhaaaMmE
import Derived.Test.YtmdnmabbphnhaaaMmF
namespace Go.Proofs.Ytmdnmabbphnhaaa.Mm
open Go Go.RowKit Go.Proofs.Ytmdnmabbphnhaaa.Sk Go.Proofs.Ytmdnmabbphnhaaa.Sm
set_option linter.unusedVariables false

/-- A memory whose blocks lie from a base on. -/
def Has (base : Nat) (w : World) (m : Nat) (s r : List (It Ent)) : Prop := ∃ M, M.m = m ∧ Held w M s r ∧ ∀ b, OwnM M s b → base ≤ b
section
variable {base m : Nat} {w w' : World} {s r : List (It Ent)}
theorem Has.below (h : Has base w m s r) (hb : Below w.heap.size w w') : Has base w' m s r := by
  obtain ⟨M, e, h1, h2⟩ := h
  exact ⟨M, e, h1.below hb, h2⟩
theorem Has.drew (h : Has base w m s r) : Has base w.drew m s r := by
  obtain ⟨M, e, h1, h2⟩ := h
  exact ⟨M, e, h1.drew, h2⟩
/-- What was there ahead of the base may be turned. -/
theorem Has.keep (h : Has base w m s r) (hb : ∀ b, base ≤ b → b < w.heap.size → w'.heap[b]? = w.heap[b]?) : Has base w' m s r := by
  obtain ⟨M, e, h1, h2⟩ := h
  exact ⟨M, e, h1.frame fun b ho => hb b (h2 b ho) (h1.own_lt ho), h2⟩
theorem Has.placed (h : Has base w m s r) : Placed s := by obtain ⟨M, _, h1, _⟩ := h; exact h1.placed
theorem Has.kin (h : Has base w m s r) : Kin s r := by obtain ⟨M, _, h1, _⟩ := h; exact h1.lies.kin
theorem Has.fit (h : Has base w m s r) : ∀ e ∈ ents s, Fit e := by obtain ⟨M, _, h1, _⟩ := h; exact fun e he => h1.fits he
theorem has_new (w : World) : Calls Try.prog 7 #[] w fun e w' => ∃ m, e = .returned (.pointer (some ⟨m, 0, none⟩)) ∧ Has w.heap.size w' m [] [] ∧ Below w.heap.size w w' := by
  refine (new_any w).mono ?_
  rintro e w' ⟨M, rfl, h1, h2, h3⟩
  exact ⟨M.m, rfl, ⟨M, rfl, h1, h3⟩, h2⟩
theorem has_put (h : Has base w m s r) (hb : base ≤ w.heap.size) (e : Ent) (H : Int) (hf : Fit e) (hr : r.length < 100000) :
    Calls Try.prog 9 #[.pointer (some ⟨m, 0, none⟩), enV e, .int .i64 H] w fun x w' => x = .returned (.int .i64 (putE e s)) ∧ Has base w' m (putS e H s) (putR e H s r) ∧ Below base w w' := by
  obtain ⟨M, rfl, h1, h2⟩ := h
  refine (put_any h1 e H hf hr).mono ?_
  rintro x w' ⟨rfl, ⟨M', e1, h3, h4, h5⟩⟩
  refine ⟨rfl, ⟨M', e1, h3, fun b hb2 => ?_⟩, h4.to_below hb h2⟩
  rcases h5 b hb2 with h6 | h6
  · exact h2 b h6
  · omega
theorem has_at (h : Has base w m s r) (K : ByteArray) (q : Nat) (hK : K.size ≤ 1000000) (hq : q < 18446744073709551616) :
    Calls Try.prog 10 #[.pointer (some ⟨m, 0, none⟩), .string K, .int .u64 (q : Int)] w fun e w' => e = .returned (atV (atL s K.data.toList q)) ∧ Below w.heap.size w w' := by
  obtain ⟨M, rfl, h1, h2⟩ := h
  exact at_any h1 K q hK hq
theorem has_range (h : Has base w m s r) (FR TO : ByteArray) (hF : FR.size ≤ 1000000) :
    Calls Try.prog 16 #[.pointer (some ⟨m, 0, none⟩), .string FR, .string TO] w fun e w' => ∃ v, e = .returned v ∧ OwnsE w' w.heap.size v (rangeL s FR.data.toList TO.data.toList) ∧ Below w.heap.size w w' := by
  obtain ⟨M, rfl, h1, h2⟩ := h
  exact range_any h1 FR TO hF
/-- Its list: where a call of one of the list's methods begins. -/
theorem Has.list (h : Has base w m s r) : ∃ L : Lay, w.cell? ⟨m, 0, none⟩ = some (.pointer (some ⟨L.b, 0, none⟩)) ∧ ListS w L s r := by
  obtain ⟨M, rfl, h1, h2⟩ := h
  exact ⟨M.L, h1.c0, h1.lies⟩
end

def eA : Ent := ⟨⟨#[97]⟩, ⟨#[49]⟩, 3, false⟩
def eB : Ent := ⟨⟨#[97]⟩, ⟨#[]⟩, 5, true⟩
def sA : List (It Ent) := [⟨placeE eA, eA, 1⟩]
def sB : List (It Ent) := [⟨placeE eB, eB, 2⟩, ⟨placeE eA, eA, 1⟩]
theorem awake_facts : putE eA [] = 0 ∧ putS eA 1 [] = sA ∧ putE eB sA = 0 ∧ putS eB 2 sA = sB ∧ atL sB [97] 4 = some eA ∧ rangeL sB [] [] = [eB, eA] ∧ (putR eB 2 sA (putR eA 1 [] [])).length = 2 := by
  refine ⟨by decide, ?_, by decide, ?_, ?_, ?_, ?_⟩
  · rfl
  · rfl
  · rfl
  · rfl
  · rfl
end Go.Proofs.Ytmdnmabbphnhaaa.Mm

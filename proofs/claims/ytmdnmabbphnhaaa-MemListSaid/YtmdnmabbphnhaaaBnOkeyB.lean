/- Walks of okey.Compare, over slices.CompareFunc. -/
import Derived.Test.YtmdnmabbphnhaaaBnOkeyA
namespace Go.Proofs.Ytmdnmabbphnhaaa.Bn
set_option maxRecDepth 100000
open Go.RowKit

/-- No part. -/
def pd : Pt := ⟨false, ByteArray.empty, 0⟩

/-- A part that lies in memory. -/
def PtAt (w : World) (b off : Nat) (p : Pt) : Prop := w.cell? ⟨b, off, none⟩ = some (.bool p.t) ∧ w.cell? ⟨b, off + 1, none⟩ = some (.string p.s) ∧ w.cell? ⟨b, off + 2, none⟩ = some (.int .u64 p.n)

/-- A slice of parts that lies in memory. -/
def SeesP (w : World) (v : Value) (ps : List Pt) : Prop :=
  (ps = [] ∧ ∃ a cap, v = .slice a 0 cap) ∨
  ∃ b off cap, v = .slice (some ⟨b, off, none⟩) ps.length cap ∧ b < w.heap.size ∧ ∀ i, i < ps.length → PtAt w b (off + i * 3) (ps.getD i pd)

theorem PtAt.below {w w' : World} {b off : Nat} {p : Pt} (h : PtAt w b off p) {B : Nat} (hb : Below B w w') (hB : b < B) : PtAt w' b off p := by
  obtain ⟨h0, h1, h2⟩ := h
  exact ⟨(hb.cell (p := ⟨b, off, none⟩) hB).trans h0, (hb.cell (p := ⟨b, off + 1, none⟩) hB).trans h1, (hb.cell (p := ⟨b, off + 2, none⟩) hB).trans h2⟩
theorem SeesP.below {w w' : World} {v : Value} {ps : List Pt} (h : SeesP w v ps) (hb : Below w.heap.size w w') : SeesP w' v ps := by
  rcases h with h | ⟨b, off, cap, rfl, hlt, hc⟩
  · exact Or.inl h
  · exact Or.inr ⟨b, off, cap, rfl, Nat.lt_of_lt_of_le hlt hb.size, fun i hi => (hc i hi).below hb hlt⟩
theorem SeesP.get {w : World} {ao : Option Addr} {len cap : Nat} {ps : List Pt} (h : SeesP w (.slice ao len cap) ps) :
    ps.length = len ∧ ∃ b off, ∀ i, i < len → ao = some ⟨b, off, none⟩ ∧ b < w.heap.size ∧ PtAt w b (off + i * 3) (ps.getD i pd) := by
  rcases h with ⟨rfl, a, c, h⟩ | ⟨b, off, c, h, hb, hc⟩
  · simp only [Value.slice.injEq] at h
    obtain ⟨rfl, rfl, rfl⟩ := h
    exact ⟨rfl, 0, 0, fun i hi => by omega⟩
  · simp only [Value.slice.injEq] at h
    obtain ⟨rfl, rfl, rfl⟩ := h
    exact ⟨rfl, b, off, fun i hi => ⟨rfl, hb, hc i hi⟩⟩

end Go.Proofs.Ytmdnmabbphnhaaa.Bn

/- Walks of the small functions of okey: Num, Str, comparePart. -/
import Derived.Test.YtmdnmabbphnhaaaBnNumVar
import Derived.Lib.Bytealg
namespace Go.Proofs.Ytmdnmabbphnhaaa.Bn
set_option maxRecDepth 100000
open Go.RowKit

/-- A part. -/
structure Pt where
  t : Bool
  s : ByteArray
  n : Nat

/-- A part, as a value. -/
def partV (t : Bool) (s : ByteArray) (n : Nat) : Value := .agg #[.bool t, .string s, .int .u64 n]

theorem bcell {W w1 : World} (hb : Below W.heap.size W w1) : (∀ b o, b < W.heap.size → w1.cell? ⟨b, o, none⟩ = W.cell? ⟨b, o, none⟩) ∧ (∀ b o, b < W.heap.size → w1.frozen? ⟨b, o, none⟩ = W.frozen? ⟨b, o, none⟩) :=
  ⟨fun b o h => hb.cell (p := ⟨b, o, none⟩) h, fun b o h => hb.frozen (p := ⟨b, o, none⟩) h⟩

set_option maxHeartbeats 400000 in
theorem str_any (s : ByteArray) (w : World) (hs : s.size ≤ 281474976710656) :
    Calls Try.prog 38 #[.string s] w (Gives (partV true s 0) w) := by
  have HS := Lib.hid hs; clear hs
  go_enter Try.func38, Try.ntmps38
  go_wp2_with fail
  refine (clone_any _ _ HS.out).mono ?_
  rintro e w1 ⟨rfl, hb⟩
  obtain ⟨hc, hf⟩ := bcell hb
  have hz : w.heap.size < w1.heap.size := by have := hb.size; simp at this; omega
  go_wp2_with fail
  refine bodyPost_ret (v := partV true s 0) (by simp [results, Try.results38, go_sem, partV, hc]) rfl ⟨rfl, ?_⟩
  exact ((((((Below.refl _ _).alloc (Nat.le_refl _) _).trans (hb.mono (by simp))).setCell (Nat.le_refl _) _).setCell (Nat.le_refl _) _).setCell (Nat.le_refl _) _)

end Go.Proofs.Ytmdnmabbphnhaaa.Bn

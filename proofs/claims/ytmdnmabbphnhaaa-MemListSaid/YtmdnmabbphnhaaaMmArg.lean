/- Puts that came in, as a list. -/
import Derived.Test.YtmdnmabbphnhaaaMmHeap
import Derived.ProofKit
import Derived.OpenShut
import Derived.ShutString
import Derived.ChangeOld
import Derived.SliceStrings
import Derived.Deep.Slices
import Derived.Deep.Fields
namespace Go.Proofs.Ytmdnmabbphnhaaa.Mm
open Go Go.RowKit Go.ChangeShapes Go.WideShapes Go.ChangeAt Go.Proofs.Ytmdnmabbphnhaaa.Sk Go.Proofs.Ytmdnmabbphnhaaa.Sm

structure Pu where
  e : Ent
  h : Int
/-- Puts that lie in memory. -/
def SeesQ (w : World) (v : Value) (l : List Pu) : Prop :=
  (l = [] ∧ ∃ a cap, v = .slice a 0 cap) ∨ ∃ b off cap, v = .slice (some ⟨b, off, none⟩) l.length cap ∧ b < w.heap.size ∧ ∀ i x, l[i]? = some x → (x.e.seq < 18446744073709551616 ∧ -9223372036854775808 ≤ x.h ∧ x.h ≤ 9223372036854775807) ∧
    w.cell? ⟨b, off + i * 5, none⟩ = some (.string x.e.key) ∧ w.cell? ⟨b, off + i * 5 + 1, none⟩ = some (.string x.e.val) ∧ w.cell? ⟨b, off + i * 5 + 2, none⟩ = some (.int .u64 (x.e.seq : Int)) ∧ w.cell? ⟨b, off + i * 5 + 3, none⟩ = some (.bool x.e.gone) ∧ w.cell? ⟨b, off + i * 5 + 4, none⟩ = some (.int .i64 x.h)
theorem SeesQ.shape {w : World} {v : Value} {l : List Pu} (h : SeesQ w v l) : ∃ a cap, v = .slice a l.length cap := by
  rcases h with ⟨rfl, a, cap, rfl⟩ | ⟨b, off, cap, rfl, _⟩ <;> exact ⟨_, _, rfl⟩
theorem SeesQ.len {w : World} {a : Option Addr} {n cap : Nat} {l : List Pu} (h : SeesQ w (.slice a n cap) l) : l.length = n := by
  obtain ⟨_, _, e⟩ := h.shape
  simp only [Value.slice.injEq] at e
  exact e.2.1.symm
theorem SeesQ.below {w w' : World} {v : Value} {l : List Pu} (h : SeesQ w v l) (hb : Below w.heap.size w w') : SeesQ w' v l := by
  rcases h with h | ⟨b, off, cap, rfl, hlt, hc⟩
  · exact Or.inl h
  · refine Or.inr ⟨b, off, cap, rfl, Nat.lt_of_lt_of_le hlt hb.size, fun i x hi => ?_⟩
    obtain ⟨hf, c0, c1, c2, c3, c4⟩ := hc i x hi
    exact ⟨hf, (hb.cell (p := ⟨b, _, none⟩) hlt).trans c0, (hb.cell (p := ⟨b, _, none⟩) hlt).trans c1, (hb.cell (p := ⟨b, _, none⟩) hlt).trans c2, (hb.cell (p := ⟨b, _, none⟩) hlt).trans c3, (hb.cell (p := ⟨b, _, none⟩) hlt).trans c4⟩
/-- One of them. -/
theorem SeesQ.get {w : World} {ao : Option Addr} {n cap : Nat} {l : List Pu} (h : SeesQ w (.slice ao n cap) l) {i : Nat} {x : Pu} (hi : l[i]? = some x) : ∃ b off, ao = some ⟨b, off, none⟩ ∧ b < w.heap.size ∧ (x.e.seq < 18446744073709551616 ∧ -9223372036854775808 ≤ x.h ∧ x.h ≤ 9223372036854775807) ∧
    w.cell? ⟨b, off + i * 5, none⟩ = some (.string x.e.key) ∧ w.cell? ⟨b, off + i * 5 + 1, none⟩ = some (.string x.e.val) ∧ w.cell? ⟨b, off + i * 5 + 2, none⟩ = some (.int .u64 (x.e.seq : Int)) ∧ w.cell? ⟨b, off + i * 5 + 3, none⟩ = some (.bool x.e.gone) ∧ w.cell? ⟨b, off + i * 5 + 4, none⟩ = some (.int .i64 x.h) := by
  rcases h with ⟨rfl, _⟩ | ⟨b, off, c, e, hb, hc⟩
  · simp at hi
  · simp only [Value.slice.injEq] at e
    obtain ⟨rfl, rfl, rfl⟩ := e
    obtain ⟨h1, h2⟩ := hc i x hi
    exact ⟨b, off, rfl, hb, h1, h2⟩

theorem list_ofQ {Q : Nat → Pu → Prop} : ∀ n : Nat, (∀ i, i < n → ∃ p, Q i p) → ∃ ps : List Pu, ps.length = n ∧ ∀ i x, ps[i]? = some x → Q i x
  | 0, _ => ⟨[], rfl, fun i x hi => by simp at hi⟩
  | n + 1, h => by
    obtain ⟨ps, hl, hq⟩ := list_ofQ n (fun i hi => h i (by omega))
    obtain ⟨p, hp⟩ := h n (by omega)
    refine ⟨ps ++ [p], by simp [hl], fun i x hi => ?_⟩
    by_cases e : i < n
    · rw [List.getElem?_append_left (by omega)] at hi
      exact hq i x hi
    · rw [List.getElem?_append_right (by omega)] at hi
      by_cases e2 : i = n
      · subst e2
        rw [hl, Nat.sub_self] at hi
        obtain rfl : p = x := by simpa using hi
        exact hp
      · exfalso
        rw [List.getElem?_eq_none (by simp; omega)] at hi
        cases hi
theorem addPlain (b off k : Nat) : (⟨b, off, none⟩ : Addr).add k = ⟨b, off + k, none⟩ := by unfold Addr.add; split <;> simp_all

set_option maxRecDepth 100000 in
set_option maxHeartbeats 1000000 in
theorem seesQ_of {H : Type} {enc : TypeId × Value → H} {W : World} {a : Option Addr} {len cap : Nat} {d : DataW H} {p : List MemPlace} (h : DataW.Trod enc Try.prog W 0 (fun _ => true) true 22 (.slice a len cap) d p) :
    ∃ ps : List Pu, SeesQ W (.slice a len cap) ps := by
  obtain ⟨fuel, hf⟩ := h
  rcases Deep.open_slice Try.underlying22 hf with ⟨hcs, _⟩ | ⟨x, l, c, m, n, D, Pl, hcs, _, hlc, hcm, hm, _, hel⟩
  · simp [Value.cells] at hcs
    obtain ⟨rfl, rfl, rfl⟩ := hcs
    exact ⟨[], Or.inl ⟨rfl, none, 0, rfl⟩⟩
  · simp [Value.cells] at hcs
    obtain ⟨rfl, rfl, rfl⟩ := hcs
    have hmc : m = cap := by rw [hm]; simp
    have h5 : Try.prog.cellsOf 34 = 5 := by kernel_rfl
    have h4 : Try.prog.cellsOf 32 = 4 := by kernel_rfl
    have hu1 : Try.prog.cellsOf 23 = 1 := by kernel_rfl
    have hs1 : Try.prog.cellsOf 9 = 1 := by kernel_rfl
    have hn1 : Try.prog.cellsOf 3 = 1 := by kernel_rfl
    have hb1 : Try.prog.cellsOf 4 = 1 := by kernel_rfl
    have key : ∀ i, i < len → ∃ q : Pu, (q.e.seq < 18446744073709551616 ∧ -9223372036854775808 ≤ q.h ∧ q.h ≤ 9223372036854775807) ∧ W.cell? ((x.add (i * 5)).add 0) = some (.string q.e.key) ∧ W.cell? ((x.add (i * 5)).add 1) = some (.string q.e.val) ∧ W.cell? ((x.add (i * 5)).add 2) = some (.int .u64 (q.e.seq : Int)) ∧ W.cell? ((x.add (i * 5)).add 3) = some (.bool q.e.gone) ∧ W.cell? ((x.add (i * 5)).add 4) = some (.int .i64 q.h) := by
      intro i hi
      obtain ⟨cs', hc, ht⟩ := hel i (by omega)
      rw [h5] at hc
      obtain ⟨_, hcl, hat⟩ := World.cells?_some hc
      obtain ⟨xs, n', _, _, _, hxl, hfd⟩ := DataW.trod_struct Try.underlying34 ht
      match cs', hcl with
      | [c0, c1, c2, c3, c4], _ =>
        match xs, hxl with
        | [y0, y1], _ =>
          have f0 : DataW.trod enc Try.prog W 0 (fun _ => true) true n' 32 (([c0, c1, c2, c3, c4].drop 0).take (Try.prog.cellsOf 32)) = some y0 := hfd 0 _ rfl
          have f1 : DataW.trod enc Try.prog W 0 (fun _ => true) true n' 3 (([c0, c1, c2, c3, c4].drop 4).take (Try.prog.cellsOf 3)) = some y1 := hfd 1 _ rfl
          rw [h4] at f0
          rw [hn1] at f1
          obtain ⟨zs, n2, _, _, _, hzl, hfe⟩ := DataW.trod_struct Try.underlying32 f0
          match zs, hzl with
          | [z0, z1, z2, z3], _ =>
            have g0 : DataW.trod enc Try.prog W 0 (fun _ => true) true n2 9 (([c0, c1, c2, c3].drop 0).take (Try.prog.cellsOf 9)) = some z0 := hfe 0 _ rfl
            have g1 : DataW.trod enc Try.prog W 0 (fun _ => true) true n2 9 (([c0, c1, c2, c3].drop 1).take (Try.prog.cellsOf 9)) = some z1 := hfe 1 _ rfl
            have g2 : DataW.trod enc Try.prog W 0 (fun _ => true) true n2 23 (([c0, c1, c2, c3].drop 2).take (Try.prog.cellsOf 23)) = some z2 := hfe 2 _ rfl
            have g3 : DataW.trod enc Try.prog W 0 (fun _ => true) true n2 4 (([c0, c1, c2, c3].drop 3).take (Try.prog.cellsOf 4)) = some z3 := hfe 3 _ rfl
            rw [hs1] at g0 g1
            rw [hu1] at g2
            rw [hb1] at g3
            obtain ⟨s0, e0, _, _⟩ := DataW.trod_string Try.underlying9 g0
            obtain ⟨s1, e1, _, _⟩ := DataW.trod_string Try.underlying9 g1
            obtain ⟨n2', e2, _, w2⟩ := DataW.trod_int Try.underlying23 g2
            obtain ⟨b3, e3, _⟩ := DataW.trod_bool Try.underlying4 g3
            obtain ⟨n4, e4, _, w4⟩ := DataW.trod_int Try.underlying3 f1
            have k0 : c0 = .string s0 := by simpa using e0
            have k1 : c1 = .string s1 := by simpa using e1
            have k2 : c2 = .int .u64 n2' := by simpa using e2
            have k3 : c3 = .bool b3 := by simpa using e3
            have k4 : c4 = .int .i64 n4 := by simpa using e4
            subst k0 k1 k2 k3 k4
            have hr := bounds_u64 w2
            have hr4 := bounds_i64 w4
            refine ⟨⟨⟨s0, s1, n2'.toNat, b3⟩, n4⟩, ⟨by show n2'.toNat < _; omega, by show _ ≤ n4; omega, by show n4 ≤ _; omega⟩, hat 0 (by omega), hat 1 (by omega), ?_, hat 3 (by omega), hat 4 (by omega)⟩
            rw [Int.toNat_of_nonneg (by omega)]
            exact hat 2 (by omega)
    by_cases h0 : len = 0
    · subst h0
      exact ⟨[], Or.inl ⟨rfl, _, _, rfl⟩⟩
    · obtain ⟨b, off, spot⟩ := x
      have hspot : spot = none := by
        obtain ⟨q, _, hq, _⟩ := key 0 (by omega)
        simpa [Addr.add] using World.cell?_spot hq
      subst hspot
      have key2 : ∀ i, i < len → ∃ q : Pu, (q.e.seq < 18446744073709551616 ∧ -9223372036854775808 ≤ q.h ∧ q.h ≤ 9223372036854775807) ∧
          W.cell? ⟨b, off + i * 5, none⟩ = some (.string q.e.key) ∧ W.cell? ⟨b, off + i * 5 + 1, none⟩ = some (.string q.e.val) ∧ W.cell? ⟨b, off + i * 5 + 2, none⟩ = some (.int .u64 (q.e.seq : Int)) ∧ W.cell? ⟨b, off + i * 5 + 3, none⟩ = some (.bool q.e.gone) ∧ W.cell? ⟨b, off + i * 5 + 4, none⟩ = some (.int .i64 q.h) := by
        intro i hi
        obtain ⟨q, hq, k0, k1, k2, k3, k4⟩ := key i hi
        rw [addPlain, addPlain] at k0 k1 k2 k3 k4
        exact ⟨q, hq, k0, k1, k2, k3, k4⟩
      obtain ⟨ps, hl, hps⟩ := list_ofQ len key2
      have hb : b < W.heap.size := by
        obtain ⟨q, _, hq, _⟩ := key2 0 (by omega)
        exact World.block_lt_of_cell? _ _ hq
      exact ⟨ps, Or.inr ⟨b, off, cap, by rw [hl], hb, hps⟩⟩

end Go.Proofs.Ytmdnmabbphnhaaa.Mm

/- Acts that came in, as a list. -/
import Derived.Test.YtghfgffgcknbmaaSkH
import Derived.ProofKit
import Derived.OpenShut
import Derived.ShutString
import Derived.ChangeOld
import Derived.SliceStrings
import Derived.Deep.Slices
import Derived.Deep.Fields
namespace Go.Proofs.Ytghfgffgcknbmaa.Sk
open Go Go.RowKit Go.ChangeShapes Go.WideShapes Go.ChangeAt

structure Ac where
  op : Nat
  key : ByteArray
  val : ByteArray
  h : Int
def acd : Ac := ⟨0, ByteArray.empty, ByteArray.empty, 0⟩
/-- Acts that lie in memory. -/
def SeesA (w : World) (v : Value) (l : List Ac) : Prop :=
  (l = [] ∧ ∃ a cap, v = .slice a 0 cap) ∨ ∃ b off cap, v = .slice (some ⟨b, off, none⟩) l.length cap ∧ b < w.heap.size ∧ ∀ i x, l[i]? = some x → (x.op < 256 ∧ -9223372036854775808 ≤ x.h ∧ x.h ≤ 9223372036854775807) ∧
    w.cell? ⟨b, off + i * 4, none⟩ = some (.int .u8 (x.op : Int)) ∧ w.cell? ⟨b, off + i * 4 + 1, none⟩ = some (.string x.key) ∧ w.cell? ⟨b, off + i * 4 + 2, none⟩ = some (.string x.val) ∧ w.cell? ⟨b, off + i * 4 + 3, none⟩ = some (.int .i64 x.h)
theorem SeesA.shape {w : World} {v : Value} {l : List Ac} (h : SeesA w v l) : ∃ a cap, v = .slice a l.length cap := by
  rcases h with ⟨rfl, a, cap, rfl⟩ | ⟨b, off, cap, rfl, _⟩ <;> exact ⟨_, _, rfl⟩
theorem SeesA.len {w : World} {a : Option Addr} {n cap : Nat} {l : List Ac} (h : SeesA w (.slice a n cap) l) : l.length = n := by
  obtain ⟨_, _, e⟩ := h.shape
  simp only [Value.slice.injEq] at e
  exact e.2.1.symm
theorem SeesA.below {w w' : World} {v : Value} {l : List Ac} (h : SeesA w v l) (hb : Below w.heap.size w w') : SeesA w' v l := by
  rcases h with h | ⟨b, off, cap, rfl, hlt, hc⟩
  · exact Or.inl h
  · refine Or.inr ⟨b, off, cap, rfl, Nat.lt_of_lt_of_le hlt hb.size, fun i x hi => ?_⟩
    obtain ⟨hf, c0, c1, c2, c3⟩ := hc i x hi
    exact ⟨hf, (hb.cell (p := ⟨b, _, none⟩) hlt).trans c0, (hb.cell (p := ⟨b, _, none⟩) hlt).trans c1, (hb.cell (p := ⟨b, _, none⟩) hlt).trans c2, (hb.cell (p := ⟨b, _, none⟩) hlt).trans c3⟩
/-- One of them. -/
theorem SeesA.get {w : World} {ao : Option Addr} {n cap : Nat} {l : List Ac} (h : SeesA w (.slice ao n cap) l) {i : Nat} {x : Ac} (hi : l[i]? = some x) : ∃ b off, ao = some ⟨b, off, none⟩ ∧ b < w.heap.size ∧ (x.op < 256 ∧ -9223372036854775808 ≤ x.h ∧ x.h ≤ 9223372036854775807) ∧
    w.cell? ⟨b, off + i * 4, none⟩ = some (.int .u8 (x.op : Int)) ∧ w.cell? ⟨b, off + i * 4 + 1, none⟩ = some (.string x.key) ∧ w.cell? ⟨b, off + i * 4 + 2, none⟩ = some (.string x.val) ∧ w.cell? ⟨b, off + i * 4 + 3, none⟩ = some (.int .i64 x.h) := by
  rcases h with ⟨rfl, _⟩ | ⟨b, off, c, e, hb, hc⟩
  · simp at hi
  · simp only [Value.slice.injEq] at e
    obtain ⟨rfl, rfl, rfl⟩ := e
    obtain ⟨h1, h2⟩ := hc i x hi
    exact ⟨b, off, rfl, hb, h1, h2⟩

theorem list_ofA {Q : Nat → Ac → Prop} : ∀ n : Nat, (∀ i, i < n → ∃ p, Q i p) → ∃ ps : List Ac, ps.length = n ∧ ∀ i x, ps[i]? = some x → Q i x
  | 0, _ => ⟨[], rfl, fun i x hi => by simp at hi⟩
  | n + 1, h => by
    obtain ⟨ps, hl, hq⟩ := list_ofA n (fun i hi => h i (by omega))
    obtain ⟨p, hp⟩ := h n (by omega)
    refine ⟨ps ++ [p], by simp [hl], fun i x hi => ?_⟩
    by_cases e : i < n
    · rw [List.getElem?_append_left (by omega)] at hi
      exact hq i x hi
    · rw [List.getElem?_append_right (by omega)] at hi
      by_cases e2 : i = n
      · subst e2
        rw [hl, Nat.sub_self] at hi
        obtain rfl : p = x := by simpa using hi
        exact hp
      · exfalso
        rw [List.getElem?_eq_none (by simp; omega)] at hi
        cases hi
theorem addPlain (b off k : Nat) : (⟨b, off, none⟩ : Addr).add k = ⟨b, off + k, none⟩ := by unfold Addr.add; split <;> simp_all

set_option maxRecDepth 100000 in
theorem seesA_of {H : Type} {enc : TypeId × Value → H} {W : World} {a : Option Addr} {len cap : Nat} {d : DataW H} {p : List MemPlace} (h : DataW.Trod enc Try.prog W 0 (fun _ => true) true 22 (.slice a len cap) d p) :
    ∃ ps : List Ac, SeesA W (.slice a len cap) ps := by
  obtain ⟨fuel, hf⟩ := h
  rcases Deep.open_slice Try.underlying22 hf with ⟨hcs, _⟩ | ⟨x, l, c, m, n, D, Pl, hcs, _, hlc, hcm, hm, _, hel⟩
  · simp [Value.cells] at hcs
    obtain ⟨rfl, rfl, rfl⟩ := hcs
    exact ⟨[], Or.inl ⟨rfl, none, 0, rfl⟩⟩
  · simp [Value.cells] at hcs
    obtain ⟨rfl, rfl, rfl⟩ := hcs
    have hmc : m = cap := by rw [hm]; simp
    have h4 : Try.prog.cellsOf 33 = 4 := by kernel_rfl
    have hb1 : Try.prog.cellsOf 5 = 1 := by kernel_rfl
    have hs1 : Try.prog.cellsOf 9 = 1 := by kernel_rfl
    have hn1 : Try.prog.cellsOf 3 = 1 := by kernel_rfl
    have key : ∀ i, i < len → ∃ q : Ac, (q.op < 256 ∧ -9223372036854775808 ≤ q.h ∧ q.h ≤ 9223372036854775807) ∧ W.cell? ((x.add (i * 4)).add 0) = some (.int .u8 (q.op : Int)) ∧ W.cell? ((x.add (i * 4)).add 1) = some (.string q.key) ∧ W.cell? ((x.add (i * 4)).add 2) = some (.string q.val) ∧ W.cell? ((x.add (i * 4)).add 3) = some (.int .i64 q.h) := by
      intro i hi
      obtain ⟨cs', hc, ht⟩ := hel i (by omega)
      rw [h4] at hc
      obtain ⟨_, hcl, hat⟩ := World.cells?_some hc
      obtain ⟨xs, n', _, _, _, hxl, hfd⟩ := DataW.trod_struct Try.underlying33 ht
      match cs', hcl with
      | [c0, c1, c2, c3], _ =>
        match xs, hxl with
        | [y0, y1, y2, y3], _ =>
          have f0 : DataW.trod enc Try.prog W 0 (fun _ => true) true n' 5 (([c0, c1, c2, c3].drop 0).take (Try.prog.cellsOf 5)) = some y0 := hfd 0 _ rfl
          have f1 : DataW.trod enc Try.prog W 0 (fun _ => true) true n' 9 (([c0, c1, c2, c3].drop 1).take (Try.prog.cellsOf 9)) = some y1 := hfd 1 _ rfl
          have f2 : DataW.trod enc Try.prog W 0 (fun _ => true) true n' 9 (([c0, c1, c2, c3].drop 2).take (Try.prog.cellsOf 9)) = some y2 := hfd 2 _ rfl
          have f3 : DataW.trod enc Try.prog W 0 (fun _ => true) true n' 3 (([c0, c1, c2, c3].drop 3).take (Try.prog.cellsOf 3)) = some y3 := hfd 3 _ rfl
          rw [hb1] at f0
          rw [hs1] at f1 f2
          rw [hn1] at f3
          obtain ⟨n0, e0, _, w0⟩ := DataW.trod_int Try.underlying5 f0
          obtain ⟨s1, e1, _, _⟩ := DataW.trod_string Try.underlying9 f1
          obtain ⟨s2, e2, _, _⟩ := DataW.trod_string Try.underlying9 f2
          obtain ⟨n3, e3, _, w3⟩ := DataW.trod_int Try.underlying3 f3
          have g0 : c0 = .int .u8 n0 := by simpa using e0
          have g1 : c1 = .string s1 := by simpa using e1
          have g2 : c2 = .string s2 := by simpa using e2
          have g3 : c3 = .int .i64 n3 := by simpa using e3
          subst g0 g1 g2 g3
          have hr := bounds_u8 w0
          have hr3 := bounds_i64 w3
          refine ⟨⟨n0.toNat, s1, s2, n3⟩, ⟨by show n0.toNat < _; omega, by show _ ≤ n3; omega, by show n3 ≤ _; omega⟩, ?_, hat 1 (by omega), hat 2 (by omega), hat 3 (by omega)⟩
          rw [Int.toNat_of_nonneg (by omega)]
          exact hat 0 (by omega)
    by_cases h0 : len = 0
    · subst h0
      exact ⟨[], Or.inl ⟨rfl, _, _, rfl⟩⟩
    · obtain ⟨b, off, spot⟩ := x
      have hspot : spot = none := by
        obtain ⟨q, _, hq, _⟩ := key 0 (by omega)
        simpa [Addr.add] using World.cell?_spot hq
      subst hspot
      have key2 : ∀ i, i < len → ∃ q : Ac, (q.op < 256 ∧ -9223372036854775808 ≤ q.h ∧ q.h ≤ 9223372036854775807) ∧
          W.cell? ⟨b, off + i * 4, none⟩ = some (.int .u8 (q.op : Int)) ∧ W.cell? ⟨b, off + i * 4 + 1, none⟩ = some (.string q.key) ∧ W.cell? ⟨b, off + i * 4 + 2, none⟩ = some (.string q.val) ∧ W.cell? ⟨b, off + i * 4 + 3, none⟩ = some (.int .i64 q.h) := by
        intro i hi
        obtain ⟨q, hq, k0, k1, k2, k3⟩ := key i hi
        rw [addPlain, addPlain] at k0 k1 k2 k3
        exact ⟨q, hq, k0, k1, k2, k3⟩
      obtain ⟨ps, hl, hps⟩ := list_ofA len key2
      have hb : b < W.heap.size := by
        obtain ⟨q, _, hq, _⟩ := key2 0 (by omega)
        exact World.block_lt_of_cell? _ _ hq
      exact ⟨ps, Or.inr ⟨b, off, cap, by rw [hl], hb, hps⟩⟩

end Go.Proofs.Ytghfgffgcknbmaa.Sk

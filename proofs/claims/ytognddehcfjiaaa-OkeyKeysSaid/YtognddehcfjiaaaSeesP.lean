/- Slices of parts that came in, as lists. -/
import Derived.Test.YtognddehcfjiaaaOkeyB
import Derived.ProofKit
import Derived.OpenShut
import Derived.ShutString
import Derived.ChangeOld
import Derived.SliceStrings
import Derived.Deep.Slices
import Derived.Deep.Fields
namespace Go.Proofs.Ytognddehcfjiaaa
open Go.ChangeShapes Go.WideShapes Go.ChangeAt Go.RowKit

theorem list_of {Q : Nat → Pt → Prop} : ∀ n : Nat, (∀ i, i < n → ∃ p, Q i p) → ∃ ps : List Pt, ps.length = n ∧ ∀ i, i < n → Q i (ps.getD i pd)
  | 0, _ => ⟨[], rfl, fun i hi => by omega⟩
  | n + 1, h => by
    obtain ⟨ps, hl, hq⟩ := list_of n (fun i hi => h i (by omega))
    obtain ⟨p, hp⟩ := h n (by omega)
    refine ⟨ps ++ [p], by simp [hl], fun i hi => ?_⟩
    by_cases e : i < n
    · have : (ps ++ [p]).getD i pd = ps.getD i pd := by simp [List.getElem?_append_left (show i < ps.length by omega)]
      rw [this]; exact hq i e
    · have e2 : i = ps.length := by omega
      have : (ps ++ [p]).getD i pd = p := by rw [e2]; simp
      rw [this, e2, hl]; exact hp

/-- A slice of the document's parts that came in. -/
theorem seesP_of {H : Type} {enc : TypeId × Value → H} {W : World} {a : Option Addr} {len cap : Nat} {d : DataW H} {p : List MemPlace} (h : DataW.Trod enc Try.prog W 0 (fun _ => true) true 36 (.slice a len cap) d p) :
    ∃ ps : List Pt, SeesP W (.slice a len cap) ps ∧ ps.length = len ∧ ∀ i, (ps.getD i pd).n < 18446744073709551616 := by
  obtain ⟨fuel, hf⟩ := h
  rcases Deep.open_slice Try.underlying36 hf with ⟨hcs, _⟩ | ⟨x, l, c, m, n, D, Pl, hcs, _, hlc, hcm, hm, _, hel⟩
  · simp [Value.cells] at hcs
    obtain ⟨rfl, rfl, rfl⟩ := hcs
    exact ⟨[], Or.inl ⟨rfl, none, 0, rfl⟩, rfl, fun i => by simp [pd]⟩
  · simp [Value.cells] at hcs
    obtain ⟨rfl, rfl, rfl⟩ := hcs
    have hmc : m = cap := by rw [hm]; simp
    have h3 : Try.prog.cellsOf 41 = 3 := by kernel_rfl
    have hb1 : Try.prog.cellsOf 4 = 1 := by kernel_rfl
    have hs1 : Try.prog.cellsOf 9 = 1 := by kernel_rfl
    have hn1 : Try.prog.cellsOf 26 = 1 := by kernel_rfl
    have key : ∀ i, i < len → ∃ q : Pt, (W.cell? ((x.add (i * 3)).add 0) = some (.bool q.t) ∧ W.cell? ((x.add (i * 3)).add 1) = some (.string q.s) ∧ W.cell? ((x.add (i * 3)).add 2) = some (.int .u64 q.n)) ∧ q.n < 18446744073709551616 := by
      intro i hi
      obtain ⟨cs', hc, ht⟩ := hel i (by omega)
      rw [h3] at hc
      obtain ⟨_, hcl, hat⟩ := World.cells?_some hc
      obtain ⟨xs, n', _, _, _, hxl, hfd⟩ := DataW.trod_struct Try.underlying41 ht
      match cs', hcl with
      | [c0, c1, c2], _ =>
        match xs, hxl with
        | [y0, y1, y2], _ =>
          have f0 : DataW.trod enc Try.prog W 0 (fun _ => true) true n' 4 (([c0, c1, c2].drop 0).take (Try.prog.cellsOf 4)) = some y0 := hfd 0 _ rfl
          have f1 : DataW.trod enc Try.prog W 0 (fun _ => true) true n' 9 (([c0, c1, c2].drop 1).take (Try.prog.cellsOf 9)) = some y1 := hfd 1 _ rfl
          have f2 : DataW.trod enc Try.prog W 0 (fun _ => true) true n' 26 (([c0, c1, c2].drop 2).take (Try.prog.cellsOf 26)) = some y2 := hfd 2 _ rfl
          rw [hb1] at f0
          rw [hs1] at f1
          rw [hn1] at f2
          obtain ⟨b0, e0, _⟩ := DataW.trod_bool Try.underlying4 f0
          obtain ⟨s0, e1, _, _⟩ := DataW.trod_string Try.underlying9 f1
          obtain ⟨n0, e2, _, hw⟩ := DataW.trod_int Try.underlying26 f2
          have g0 : c0 = .bool b0 := by simpa using e0
          have g1 : c1 = .string s0 := by simpa using e1
          have g2 : c2 = .int .u64 n0 := by simpa using e2
          subst g0 g1 g2
          have hr := bounds_u64 hw
          refine ⟨⟨b0, s0, n0.toNat⟩, ⟨hat 0 (by omega), hat 1 (by omega), ?_⟩, by show n0.toNat < _; omega⟩
          rw [Int.toNat_of_nonneg (by omega)]
          exact hat 2 (by omega)
    by_cases h0 : len = 0
    · subst h0
      exact ⟨[], Or.inl ⟨rfl, _, _, rfl⟩, rfl, fun i => by simp [pd]⟩
    · obtain ⟨b, off, spot⟩ := x
      have hspot : spot = none := by
        obtain ⟨q, ⟨hq, _⟩, _⟩ := key 0 (by omega)
        simpa [Addr.add] using World.cell?_spot hq
      subst hspot
      have key2 : ∀ i, i < len → ∃ q : Pt, PtAt W b (off + i * 3) q ∧ q.n < 18446744073709551616 := by
        intro i hi
        obtain ⟨q, ⟨k0, k1, k2⟩, hq⟩ := key i hi
        rw [add_plain, add_plain] at k0 k1 k2
        exact ⟨q, ⟨k0, k1, k2⟩, hq⟩
      obtain ⟨ps, hl, hps⟩ := list_of len key2
      refine ⟨ps, Or.inr ⟨b, off, cap, by rw [hl], World.block_lt_of_cell? _ _ ((hps 0 (by omega)).1.1), fun i hi => (hps i (by omega)).1⟩, hl, fun i => ?_⟩
      by_cases hi : i < len
      · exact (hps i hi).2
      · have e : ps.getD i pd = pd := by simp [show ¬ i < ps.length by omega]
        rw [e]; decide

end Go.Proofs.Ytognddehcfjiaaa

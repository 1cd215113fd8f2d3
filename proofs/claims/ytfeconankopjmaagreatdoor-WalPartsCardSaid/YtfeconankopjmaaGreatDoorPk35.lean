/- Texts on the program's own functions, several in one: BnBtArgs. -/
import Derived.Test.YtfeconankopjmaaGreatDoorPk5
import Derived.ProofKit
import Derived.OpenShut
import Derived.ShutString
import Derived.ChangeOld
import Derived.SliceStrings
import Derived.Deep.Slices
import Derived.Deep.Fields

/- A batch that came in, as a list. -/
namespace Go.Proofs.YtfeconankopjmaaGreatDoor.Bn
set_option maxRecDepth 100000
open Go.ChangeShapes Go.WideShapes Go.ChangeAt Go.RowKit

theorem list_ob {Q : Nat → Ob → Prop} : ∀ n : Nat, (∀ i, i < n → ∃ p, Q i p) → ∃ ps : List Ob, ps.length = n ∧ ∀ i, i < n → Q i (ps.getD i obd)
  | 0, _ => ⟨[], rfl, fun i hi => by omega⟩
  | n + 1, h => by
    obtain ⟨ps, hl, hq⟩ := list_ob n (fun i hi => h i (by omega))
    obtain ⟨p, hp⟩ := h n (by omega)
    refine ⟨ps ++ [p], by simp [hl], fun i hi => ?_⟩
    by_cases e : i < n
    · have : (ps ++ [p]).getD i obd = ps.getD i obd := by simp [List.getElem?_append_left (show i < ps.length by omega)]
      rw [this]; exact hq i e
    · have e2 : i = ps.length := by omega
      have : (ps ++ [p]).getD i obd = p := by rw [e2]; simp
      rw [this, e2, hl]; exact hp

/-- A slice of operations that came in. -/
theorem seesO_of {H : Type} {enc : TypeId × Value → H} {W : World} {cs : List Value} {fuel : Nat} {y : DataW H × List MemPlace} (hf : DataW.trod enc Tryz.prog W 0 (fun _ => true) true fuel 30 cs = some y) :
    ∃ a len cap ps, cs = [.slice a len cap] ∧ SeesO W (.slice a len cap) ps ∧ ps.length = len := by
  rcases Deep.open_slice Tryz.underlying30 hf with ⟨hcs, _⟩ | ⟨x, l, c, m, n, D, Pl, hcs, _, hlc, hcm, hm, _, hel⟩
  · exact ⟨none, 0, 0, [], hcs, Or.inl ⟨rfl, none, 0, rfl⟩, rfl⟩
  · have hmc : m = c := by rw [hm]; simp
    have h3 : Tryz.prog.cellsOf 42 = 3 := by kernel_rfl
    have hb1 : Tryz.prog.cellsOf 4 = 1 := by kernel_rfl
    have hs1 : Tryz.prog.cellsOf 9 = 1 := by kernel_rfl
    have key : ∀ i, i < l → ∃ q : Ob, W.cell? ((x.add (i * 3)).add 0) = some (.string q.key) ∧ W.cell? ((x.add (i * 3)).add 1) = some (.string q.val) ∧ W.cell? ((x.add (i * 3)).add 2) = some (.bool q.gone) := by
      intro i hi
      obtain ⟨cs', hc, ht⟩ := hel i (by omega)
      rw [h3] at hc
      obtain ⟨_, hcl, hat⟩ := World.cells?_some hc
      obtain ⟨xs, n', _, _, _, hxl, hfd⟩ := DataW.trod_struct Tryz.underlying42 ht
      match cs', hcl with
      | [c0, c1, c2], _ =>
        match xs, hxl with
        | [y0, y1, y2], _ =>
          have f0 : DataW.trod enc Tryz.prog W 0 (fun _ => true) true n' 9 (([c0, c1, c2].drop 0).take (Tryz.prog.cellsOf 9)) = some y0 := hfd 0 _ rfl
          have f1 : DataW.trod enc Tryz.prog W 0 (fun _ => true) true n' 9 (([c0, c1, c2].drop 1).take (Tryz.prog.cellsOf 9)) = some y1 := hfd 1 _ rfl
          have f2 : DataW.trod enc Tryz.prog W 0 (fun _ => true) true n' 4 (([c0, c1, c2].drop 2).take (Tryz.prog.cellsOf 4)) = some y2 := hfd 2 _ rfl
          rw [hs1] at f0 f1
          rw [hb1] at f2
          obtain ⟨s0, e0, _, _⟩ := DataW.trod_string Tryz.underlying9 f0
          obtain ⟨s1, e1, _, _⟩ := DataW.trod_string Tryz.underlying9 f1
          obtain ⟨b2, e2, _⟩ := DataW.trod_bool Tryz.underlying4 f2
          have g0 : c0 = .string s0 := by simpa using e0
          have g1 : c1 = .string s1 := by simpa using e1
          have g2 : c2 = .bool b2 := by simpa using e2
          subst g0 g1 g2
          exact ⟨⟨s0, s1, b2⟩, hat 0 (by omega), hat 1 (by omega), hat 2 (by omega)⟩
    by_cases h0 : l = 0
    · subst h0
      exact ⟨some x, 0, c, [], hcs, Or.inl ⟨rfl, _, _, rfl⟩, rfl⟩
    · obtain ⟨b, off, spot⟩ := x
      have hspot : spot = none := by
        obtain ⟨q, hq, _⟩ := key 0 (by omega)
        simpa [Addr.add] using World.cell?_spot hq
      subst hspot
      have key2 : ∀ i, i < l → ∃ q : Ob, ObAt W b (off + i * 3) q := by
        intro i hi
        obtain ⟨q, k0, k1, k2⟩ := key i hi
        rw [add_plain, add_plain] at k0 k1 k2
        exact ⟨q, k0, k1, k2⟩
      obtain ⟨ps, hl, hps⟩ := list_ob l key2
      exact ⟨_, l, c, ps, hcs, Or.inr ⟨b, off, c, by rw [hl], World.block_lt_of_cell? _ _ ((hps 0 (by omega)).1), fun i hi => hps i (by omega)⟩, hl⟩

theorem cells_u64 : Tryz.prog.cellsOf 28 = 1 := by kernel_rfl
theorem cells_ops : Tryz.prog.cellsOf 30 = 1 := by kernel_rfl
theorem cells_bat : Tryz.prog.cellsOf 32 = 2 := by kernel_rfl
/-- A batch that came in. -/
theorem bat_of {H : Type} {enc : TypeId × Value → H} {W : World} {cs : Array Value} {d : DataW H} {p : List MemPlace} (h : DataW.Trod enc Tryz.prog W 0 (fun _ => true) true 32 (.agg cs) d p) :
    ∃ (seq : Nat) (a : Option Addr) (len cap : Nat) (ops : List Ob), cs = #[.int .u64 (seq : Nat), .slice a len cap] ∧ SeesO W (.slice a len cap) ops ∧ seq < 18446744073709551616 := by
  obtain ⟨fuel, hf⟩ := h
  obtain ⟨xs, n', _, _, hlen, hxl, hfd⟩ := DataW.trod_struct Tryz.underlying32 hf
  rw [cells_bat] at hlen
  simp only [Value.cells] at hlen hfd
  obtain ⟨l, hl⟩ : ∃ l, cs = l.toArray := ⟨cs.toList, by simp⟩
  subst hl
  rw [List.toList_toArray] at *
  match l, hlen with
  | [c0, c1], _ =>
    match xs, hxl with
    | [y0, y1], _ =>
      have f0 : DataW.trod enc Tryz.prog W 0 (fun _ => true) true n' 28 (([c0, c1].drop 0).take (Tryz.prog.cellsOf 28)) = some y0 := hfd 0 _ rfl
      have f1 : DataW.trod enc Tryz.prog W 0 (fun _ => true) true n' 30 (([c0, c1].drop 1).take (Tryz.prog.cellsOf 30)) = some y1 := hfd 1 _ rfl
      rw [cells_u64] at f0
      rw [cells_ops] at f1
      obtain ⟨n0, e0, _, hw⟩ := DataW.trod_int Tryz.underlying28 f0
      obtain ⟨a, len, cap, ps, e1, hs, _⟩ := seesO_of f1
      have g0 : c0 = .int .u64 n0 := by simpa using e0
      have g1 : c1 = .slice a len cap := by simpa using e1
      have hr := bounds_u64 hw
      refine ⟨n0.toNat, a, len, cap, ps, ?_, hs, by omega⟩
      rw [g0, g1, Int.toNat_of_nonneg (by omega)]

end Go.Proofs.YtfeconankopjmaaGreatDoor.Bn

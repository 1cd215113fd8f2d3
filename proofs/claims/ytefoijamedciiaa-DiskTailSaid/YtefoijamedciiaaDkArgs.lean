/- Acts and choices that came in, as lists. -/
import Derived.Test.YtefoijamedciiaaDkPlays
import Derived.ProofKit
import Derived.OpenShut
import Derived.ShutString
import Derived.ChangeOld
import Derived.SliceStrings
import Derived.Deep.Slices
import Derived.Deep.SlicePairs
import Derived.Deep.Fields
namespace Go.Proofs.Ytefoijamedciiaa
open Go.ChangeShapes Go.WideShapes Go.ChangeAt Go.RowKit

theorem list_by {α : Type} {Q : Nat → α → Prop} : ∀ n : Nat, (∀ i, i < n → ∃ p, Q i p) → ∃ ps : List α, ps.length = n ∧ ∀ i p, ps[i]? = some p → Q i p
  | 0, _ => ⟨[], rfl, fun i p hi => by simp at hi⟩
  | n + 1, h => by
    obtain ⟨ps, hl, hq⟩ := list_by n (fun i hi => h i (by omega))
    obtain ⟨p, hp⟩ := h n (by omega)
    refine ⟨ps ++ [p], by simp [hl], fun i q hi => ?_⟩
    rcases Nat.lt_or_ge i ps.length with e | e
    · rw [List.getElem?_append_left e] at hi
      exact hq i q hi
    · rw [List.getElem?_append_right e] at hi
      have e2 : i = n := by
        rcases Nat.lt_or_ge (i - ps.length) 1 with e3 | e3
        · omega
        · rw [List.getElem?_eq_none (by simpa using e3)] at hi; cases hi
      subst e2
      rw [hl, Nat.sub_self] at hi
      simp at hi
      rw [← hi]; exact hp
/-- A slice of numbers that came in. -/
theorem seesI_of {H : Type} {enc : TypeId × Value → H} {W : World} {cs : List Value} {fuel : Nat} {y : DataW H × List MemPlace} (hf : DataW.trod enc Try.prog W 0 (fun _ => true) true fuel 23 cs = some y) :
    ∃ a len cap ks, cs = [.slice a len cap] ∧ SeesI W (.slice a len cap) ks ∧ ks.length = len := by
  rcases open_ints Try.underlying23 Try.underlying3 (by kernel_rfl) hf with ⟨hcs, _⟩ | ⟨x, l, c, zs, hcs, _, hl, _, hz, _, hcell, _⟩
  · exact ⟨none, 0, 0, [], hcs, Or.inl ⟨rfl, none, 0, rfl⟩, rfl⟩
  · have hzl : zs.length = c := by simpa using hz
    refine ⟨some x, l, c, zs.take l, hcs, ?_, by rw [List.length_take]; omega⟩
    by_cases h0 : l = 0
    · subst h0
      exact Or.inl ⟨by simp, _, _, rfl⟩
    · obtain ⟨b, off, spot⟩ := x
      have hspot : spot = none := by simpa [Addr.add] using World.cell?_spot (hcell 0 (by omega))
      subst hspot
      have hc : ∀ j, j < zs.length → W.cell? ⟨b, off + j, none⟩ = some (.int .i64 (zs.getD j 0)) := fun j hj => by rw [← Go.WideShapes.add_plain]; exact hcell j hj
      refine Or.inr ⟨b, off, c, by rw [List.length_take, Nat.min_eq_left (by omega)], World.block_lt_of_cell? _ _ (hc 0 (by omega)), fun i v hi => ?_⟩
      have hil : i < l := by
        rcases Nat.lt_or_ge i l with h | h
        · exact h
        · rw [List.getElem?_eq_none (by rw [List.length_take]; omega)] at hi; cases hi
      rw [hc i (by omega)]
      rw [List.getElem?_take_of_lt hil] at hi
      simp [List.getD, hi]
/-- A slice of spots that came in. -/
theorem seesQ_of {H : Type} {enc : TypeId × Value → H} {W : World} {cs : List Value} {fuel : Nat} {y : DataW H × List MemPlace} (hf : DataW.trod enc Try.prog W 0 (fun _ => true) true fuel 24 cs = some y) :
    ∃ a len cap sp, cs = [.slice a len cap] ∧ SeesQ W (.slice a len cap) sp ∧ sp.length = len ∧ ∀ q ∈ sp, q.2 ≤ 4294967295 := by
  rcases Deep.open_slice_pairs Try.underlying24 Try.underlying83 (by kernel_rfl) (by kernel_rfl) (by kernel_rfl) (by kernel_rfl) (by kernel_rfl) hf with ⟨hcs, _⟩ | ⟨x, l, c, m, n, V0, V1, D0, D1, P0, P1, hcs, _, hlc, _, hm, _, hel⟩
  · exact ⟨none, 0, 0, [], hcs, Or.inl ⟨rfl, none, 0, rfl⟩, rfl, fun q hq => by simp at hq⟩
  · have hmc : m = c := by rw [hm]; simp
    have key : ∀ i, i < l → ∃ q : Int × Nat, W.cell? (x.add (i * 2)) = some (.int .i64 q.1) ∧ W.cell? (x.add (i * 2 + 1)) = some (.int .u32 (q.2 : Int)) ∧ q.2 ≤ 4294967295 := by
      intro i hi
      obtain ⟨c0, c1, t0, t1⟩ := hel i (by omega)
      obtain ⟨n0, e0, _, _⟩ := DataW.trod_int Try.underlying3 t0
      obtain ⟨n1, e1, _, hw⟩ := DataW.trod_int Try.underlying81 t1
      have g0 : V0 i = .int .i64 n0 := by simpa using e0
      have g1 : V1 i = .int .u32 n1 := by simpa using e1
      have hr := bounds_u32 hw
      refine ⟨(n0, n1.toNat), by rw [c0, g0], ?_, by show n1.toNat ≤ _; omega⟩
      rw [c1, g1]
      show some (Value.int .u32 n1) = some (.int .u32 ((n1.toNat : Nat) : Int))
      rw [Int.toNat_of_nonneg (by omega)]
    by_cases h0 : l = 0
    · subst h0
      exact ⟨some x, 0, c, [], hcs, Or.inl ⟨rfl, _, _, rfl⟩, rfl, fun q hq => by simp at hq⟩
    · obtain ⟨b, off, spot⟩ := x
      have hspot : spot = none := by
        obtain ⟨q, hq, _⟩ := key 0 (by omega)
        simpa [Addr.add] using World.cell?_spot hq
      subst hspot
      have key2 : ∀ i, i < l → ∃ q : Int × Nat, W.cell? ⟨b, off + i * 2, none⟩ = some (.int .i64 q.1) ∧ W.cell? ⟨b, off + i * 2 + 1, none⟩ = some (.int .u32 (q.2 : Int)) ∧ q.2 ≤ 4294967295 := fun i hi => by
        obtain ⟨q, k0, k1, hq⟩ := key i hi
        rw [add_plain] at k0 k1
        rw [← Nat.add_assoc] at k1
        exact ⟨q, k0, k1, hq⟩
      obtain ⟨sp, hl, hsp⟩ := list_by l key2
      refine ⟨_, l, c, sp, hcs, Or.inr ⟨b, off, c, by rw [hl], World.block_lt_of_cell? _ _ (hsp 0 _ (List.getElem?_eq_getElem (by omega))).1, fun i q hi => ⟨(hsp i q hi).1, (hsp i q hi).2.1⟩⟩, hl, fun q hq => ?_⟩
      obtain ⟨i, hi, e⟩ := List.getElem_of_mem hq
      exact (hsp i q (by rw [List.getElem?_eq_getElem hi, e])).2.2

/-- A crash's choices as they come in. -/
structure Chosen (w : World) (vk vs : Value) (c : Dk.Crash) : Prop where
  keep : SeesI w vk c.keep
  spoil : SeesQ w vs c.spoil
  masks : ∀ q ∈ c.spoil, q.2 ≤ 4294967295
theorem Chosen.older {w : World} {vk vs : Value} {c : Dk.Crash} (h : Chosen w vk vs c) (hk : c.keep.length ≤ 1099511627776) (hs : c.spoil.length ≤ 1099511627776) : Older w w.heap.size vk vs c := by
  refine ⟨h.keep, h.spoil, fun hne b hv => ?_, fun hne b hv => ?_, hk, hs, h.masks⟩
  · rcases h.keep with ⟨h0, _⟩ | ⟨b', off, cap, rfl, hb, _⟩
    · exact absurd h0 hne
    · simp only [Value.ownBlock, Option.some.injEq] at hv
      omega
  · rcases h.spoil with ⟨h0, _⟩ | ⟨b', off, cap, rfl, hb, _⟩
    · exact absurd h0 hne
    · simp only [Value.ownBlock, Option.some.injEq] at hv
      omega
theorem Chosen.below {w w' : World} {vk vs : Value} {c : Dk.Crash} (h : Chosen w vk vs c) (hb : Below w.heap.size w w') : Chosen w' vk vs c := by
  have ht : Turns (fun k => w.heap.size ≤ k) w w' := ⟨hb.os, hb.tape, hb.output, hb.size, fun k _ hk => hb.block k (by omega)⟩
  refine ⟨h.keep.turned ht fun hne b hv => ?_, h.spoil.turned ht fun hne b hv => ?_, h.masks⟩
  · rcases h.keep with ⟨h0, _⟩ | ⟨b', off, cap, rfl, hb, _⟩
    · exact absurd h0 hne
    · simp only [Value.ownBlock, Option.some.injEq] at hv
      omega
  · rcases h.spoil with ⟨h0, _⟩ | ⟨b', off, cap, rfl, hb, _⟩
    · exact absurd h0 hne
    · simp only [Value.ownBlock, Option.some.injEq] at hv
      omega
theorem cells_crash : Try.prog.cellsOf 26 = 3 := by kernel_rfl
theorem cells_act : Try.prog.cellsOf 45 = 7 := by kernel_rfl
theorem cells_int : Try.prog.cellsOf 3 = 1 := by kernel_rfl
theorem cells_u8 : Try.prog.cellsOf 5 = 1 := by kernel_rfl
theorem cells_str : Try.prog.cellsOf 9 = 1 := by kernel_rfl
theorem cells_ints : Try.prog.cellsOf 23 = 1 := by kernel_rfl
theorem cells_spots : Try.prog.cellsOf 24 = 1 := by kernel_rfl
set_option maxRecDepth 100000 in
/-- A crash that came in, in cells. -/
theorem chosen_of {H : Type} {enc : TypeId × Value → H} {W : World} {cs : List Value} {fuel : Nat} {y : DataW H × List MemPlace} (hf : DataW.trod enc Try.prog W 0 (fun _ => true) true fuel 26 cs = some y) :
    ∃ (c : Dk.Crash) (vk vs : Value), cs = [.int .i64 c.names, vk, vs] ∧ Chosen W vk vs c ∧ (-9223372036854775808 ≤ c.names ∧ c.names ≤ 9223372036854775807) := by
  obtain ⟨xs, n', _, _, hlen, hxl, hfd⟩ := DataW.trod_struct Try.underlying26 hf
  rw [cells_crash] at hlen
  match cs, hlen with
  | [c0, c1, c2], _ =>
    match xs, hxl with
    | [y0, y1, y2], _ =>
      have f0 : DataW.trod enc Try.prog W 0 (fun _ => true) true n' 3 (([c0, c1, c2].drop 0).take (Try.prog.cellsOf 3)) = some y0 := hfd 0 _ rfl
      have f1 : DataW.trod enc Try.prog W 0 (fun _ => true) true n' 23 (([c0, c1, c2].drop 1).take (Try.prog.cellsOf 23)) = some y1 := hfd 1 _ rfl
      have f2 : DataW.trod enc Try.prog W 0 (fun _ => true) true n' 24 (([c0, c1, c2].drop 2).take (Try.prog.cellsOf 24)) = some y2 := hfd 2 _ rfl
      rw [cells_int] at f0
      rw [cells_ints] at f1
      rw [cells_spots] at f2
      obtain ⟨n0, e0, _, hw⟩ := DataW.trod_int Try.underlying3 f0
      obtain ⟨a1, l1, k1, ks, e1, hks, _⟩ := seesI_of f1
      obtain ⟨a2, l2, k2, sp, e2, hsp, _, hm⟩ := seesQ_of f2
      have g0 : c0 = .int .i64 n0 := by simpa using e0
      have g1 : c1 = .slice a1 l1 k1 := by simpa using e1
      have g2 : c2 = .slice a2 l2 k2 := by simpa using e2
      subst g0 g1 g2
      exact ⟨⟨n0, ks, sp⟩, _, _, rfl, ⟨hks, hsp, hm⟩, bounds_i64 hw⟩

/-- A slice of acts as it comes in. -/
def ActsRaw (w : World) (v : Value) (l : List Act) : Prop :=
  (l = [] ∧ ∃ a cap, v = .slice a 0 cap) ∨ ∃ b off cap, v = .slice (some ⟨b, off, none⟩) l.length cap ∧ b < w.heap.size ∧ ∀ i x, l[i]? = some x → (x.n ≤ 9223372036854775807 ∧ x.kind ≤ 255) ∧ ∃ vk vs, Chosen w vk vs x.crash ∧
    w.cell? ⟨b, off + i * 7, none⟩ = some (.int .u8 (x.kind : Int)) ∧ w.cell? ⟨b, off + i * 7 + 1, none⟩ = some (.string x.a) ∧ w.cell? ⟨b, off + i * 7 + 2, none⟩ = some (.string x.b) ∧ w.cell? ⟨b, off + i * 7 + 3, none⟩ = some (.int .i64 x.n) ∧
    w.cell? ⟨b, off + i * 7 + 4, none⟩ = some (.int .i64 x.crash.names) ∧ w.cell? ⟨b, off + i * 7 + 5, none⟩ = some vk ∧ w.cell? ⟨b, off + i * 7 + 6, none⟩ = some vs
theorem ActsRaw.shape {w : World} {v : Value} {l : List Act} (h : ActsRaw w v l) : ∃ a cap, v = .slice a l.length cap := by
  rcases h with ⟨rfl, a, cap, rfl⟩ | ⟨b, off, cap, rfl, _⟩ <;> exact ⟨_, _, rfl⟩
theorem ActsRaw.below {w w' : World} {v : Value} {l : List Act} (h : ActsRaw w v l) (hb : Below w.heap.size w w') : ActsRaw w' v l := by
  rcases h with h | ⟨b, off, cap, rfl, hlt, hc⟩
  · exact Or.inl h
  · refine Or.inr ⟨b, off, cap, rfl, Nat.lt_of_lt_of_le hlt hb.size, fun i x hi => ?_⟩
    obtain ⟨hf, vk, vs, ho, c0, c1, c2, c3, c4, c5, c6⟩ := hc i x hi
    have k := hb.block b hlt
    exact ⟨hf, vk, vs, ho.below hb, cell_kept c0 k, cell_kept c1 k, cell_kept c2 k, cell_kept c3 k, cell_kept c4 k, cell_kept c5 k, cell_kept c6 k⟩
/-- What is small enough of an act. -/
def small (x : Act) : Bool := decide (x.a.size ≤ 20000) && decide (x.b.size ≤ 20000) && decide (x.crash.keep.length ≤ 100) && decide (x.crash.spoil.length ≤ 100)
theorem ActsRaw.acts {w : World} {v : Value} {l : List Act} (h : ActsRaw w v l) (hs : ∀ x ∈ l, small x = true) : ActsAt w w.heap.size v l := by
  rcases h with h | ⟨b, off, cap, rfl, hlt, hc⟩
  · exact Or.inl h
  · refine Or.inr ⟨b, off, cap, rfl, hlt, hlt, fun i x hi => ?_⟩
    obtain ⟨hf, vk, vs, ho, cc⟩ := hc i x hi
    have hx := hs x (List.mem_of_getElem? hi)
    simp only [small, Bool.and_eq_true, decide_eq_true_eq] at hx
    exact ⟨⟨by omega, by omega, hf.1, hf.2⟩, vk, vs, ho.older (by omega) (by omega), cc⟩
set_option maxRecDepth 100000 in
theorem actsRaw_of {H : Type} {enc : TypeId × Value → H} {W : World} {a : Option Addr} {len cap : Nat} {d : DataW H} {p : List MemPlace} (h : DataW.Trod enc Try.prog W 0 (fun _ => true) true 22 (.slice a len cap) d p) :
    ∃ l : List Act, ActsRaw W (.slice a len cap) l ∧ l.length = len := by
  obtain ⟨fuel, hf⟩ := h
  rcases Deep.open_slice Try.underlying22 hf with ⟨hcs, _⟩ | ⟨x, l, c, m, n, D, Pl, hcs, _, hlc, hcm, hm, _, hel⟩
  · simp [Value.cells] at hcs
    obtain ⟨rfl, rfl, rfl⟩ := hcs
    exact ⟨[], Or.inl ⟨rfl, none, 0, rfl⟩, rfl⟩
  · simp [Value.cells] at hcs
    obtain ⟨rfl, rfl, rfl⟩ := hcs
    have hmc : m = cap := by rw [hm]; simp
    have key : ∀ i, i < len → ∃ q : Act, (q.n ≤ 9223372036854775807 ∧ q.kind ≤ 255) ∧ ∃ vk vs, Chosen W vk vs q.crash ∧ W.cell? ((x.add (i * 7)).add 0) = some (.int .u8 (q.kind : Int)) ∧ W.cell? ((x.add (i * 7)).add 1) = some (.string q.a) ∧ W.cell? ((x.add (i * 7)).add 2) = some (.string q.b) ∧
        W.cell? ((x.add (i * 7)).add 3) = some (.int .i64 q.n) ∧ W.cell? ((x.add (i * 7)).add 4) = some (.int .i64 q.crash.names) ∧ W.cell? ((x.add (i * 7)).add 5) = some vk ∧ W.cell? ((x.add (i * 7)).add 6) = some vs := by
      intro i hi
      obtain ⟨cs', hc, ht⟩ := hel i (by omega)
      rw [cells_act] at hc
      obtain ⟨_, hcl, hat⟩ := World.cells?_some hc
      obtain ⟨xs, n', _, _, _, hxl, hfd⟩ := DataW.trod_struct Try.underlying45 ht
      match cs', hcl with
      | [c0, c1, c2, c3, c4, c5, c6], _ =>
        match xs, hxl with
        | [y0, y1, y2, y3, y4], _ =>
          have f0 : DataW.trod enc Try.prog W 0 (fun _ => true) true n' 5 (([c0, c1, c2, c3, c4, c5, c6].drop 0).take (Try.prog.cellsOf 5)) = some y0 := hfd 0 _ rfl
          have f1 : DataW.trod enc Try.prog W 0 (fun _ => true) true n' 9 (([c0, c1, c2, c3, c4, c5, c6].drop 1).take (Try.prog.cellsOf 9)) = some y1 := hfd 1 _ rfl
          have f2 : DataW.trod enc Try.prog W 0 (fun _ => true) true n' 9 (([c0, c1, c2, c3, c4, c5, c6].drop 2).take (Try.prog.cellsOf 9)) = some y2 := hfd 2 _ rfl
          have f3 : DataW.trod enc Try.prog W 0 (fun _ => true) true n' 3 (([c0, c1, c2, c3, c4, c5, c6].drop 3).take (Try.prog.cellsOf 3)) = some y3 := hfd 3 _ rfl
          have f4 : DataW.trod enc Try.prog W 0 (fun _ => true) true n' 26 (([c0, c1, c2, c3, c4, c5, c6].drop 4).take (Try.prog.cellsOf 26)) = some y4 := hfd 4 _ rfl
          rw [cells_u8] at f0
          rw [cells_str] at f1 f2
          rw [cells_int] at f3
          rw [cells_crash] at f4
          obtain ⟨k0, e0, _, hw0⟩ := DataW.trod_int Try.underlying5 f0
          obtain ⟨s1, e1, _, _⟩ := DataW.trod_string Try.underlying9 f1
          obtain ⟨s2, e2, _, _⟩ := DataW.trod_string Try.underlying9 f2
          obtain ⟨n3, e3, _, hw3⟩ := DataW.trod_int Try.underlying3 f3
          obtain ⟨c, vk, vs, e4, hch, hnm⟩ := chosen_of f4
          have g0 : c0 = .int .u8 k0 := by simpa using e0
          have g1 : c1 = .string s1 := by simpa using e1
          have g2 : c2 = .string s2 := by simpa using e2
          have g3 : c3 = .int .i64 n3 := by simpa using e3
          have g4 : c4 = .int .i64 c.names ∧ c5 = vk ∧ c6 = vs := by simpa using e4
          obtain ⟨g4, g5, g6⟩ := g4
          subst g0 g1 g2 g3 g4 g5 g6
          have hr0 := bounds_u8 hw0
          have hr3 := bounds_i64 hw3
          refine ⟨⟨k0.toNat, s1, s2, n3, c⟩, ⟨hr3.2, by show k0.toNat ≤ _; omega⟩, c5, c6, hch, ?_, hat 1 (by omega), hat 2 (by omega), hat 3 (by omega), hat 4 (by omega), hat 5 (by omega), hat 6 (by omega)⟩
          rw [Int.toNat_of_nonneg (by omega)]
          exact hat 0 (by omega)
    by_cases h0 : len = 0
    · subst h0
      exact ⟨[], Or.inl ⟨rfl, _, _, rfl⟩, rfl⟩
    · obtain ⟨b, off, spot⟩ := x
      have hspot : spot = none := by
        obtain ⟨q, _, vk, vs, _, hq, _⟩ := key 0 (by omega)
        simpa [Addr.add] using World.cell?_spot hq
      subst hspot
      obtain ⟨l, hl, hq⟩ := list_by len key
      refine ⟨l, Or.inr ⟨b, off, cap, by rw [hl], ?_, fun i q hi => ?_⟩, hl⟩
      · obtain ⟨q, _, vk, vs, _, hq0, _⟩ := key 0 (by omega)
        rw [add_plain, add_plain] at hq0
        exact World.block_lt_of_cell? _ _ hq0
      · obtain ⟨hb, vk, vs, hch, c0, c1, c2, c3, c4, c5, c6⟩ := hq i q hi
        rw [add_plain, add_plain] at c0 c1 c2 c3 c4 c5 c6
        exact ⟨hb, vk, vs, hch, c0, c1, c2, c3, c4, c5, c6⟩

theorem crash_of {H : Type} {enc : TypeId × Value → H} {W : World} {cs : Array Value} {d : DataW H} {p : List MemPlace} (h : DataW.Trod enc Try.prog W 0 (fun _ => true) true 26 (.agg cs) d p) :
    ∃ (c : Dk.Crash) (vk vs : Value), cs = #[.int .i64 c.names, vk, vs] ∧ Chosen W vk vs c ∧ (-9223372036854775808 ≤ c.names ∧ c.names ≤ 9223372036854775807) := by
  obtain ⟨fuel, hf⟩ := h
  obtain ⟨c, vk, vs, e, hc, hb⟩ := chosen_of hf
  refine ⟨c, vk, vs, ?_, hc, hb⟩
  have e2 : cs.toList = [.int .i64 c.names, vk, vs] := by simpa [Value.cells] using e
  rw [← Array.toArray_toList (xs := cs), e2]

end Go.Proofs.Ytefoijamedciiaa

/- Tables, numbers and edits that came in, as lists. -/
import Derived.Test.YtbdoekogoiijeaaEdL
import Derived.ProofKit
import Derived.OpenShut
import Derived.ShutString
import Derived.ChangeOld
import Derived.SliceStrings
import Derived.Deep.Slices
import Derived.Deep.Fields
namespace Go.Proofs.Ytbdoekogoiijeaa
open Go.ChangeShapes Go.WideShapes Go.ChangeAt Go.RowKit
set_option linter.unusedVariables false
set_option maxRecDepth 20000

theorem list_of {α : Type} (d : α) {Q : Nat → α → Prop} : ∀ n : Nat, (∀ i, i < n → ∃ p, Q i p) → ∃ ps : List α, ps.length = n ∧ ∀ i, i < n → Q i (ps.getD i d)
  | 0, _ => ⟨[], rfl, fun i hi => by omega⟩
  | n + 1, h => by
    obtain ⟨ps, hl, hq⟩ := list_of d n (fun i hi => h i (by omega))
    obtain ⟨p, hp⟩ := h n (by omega)
    refine ⟨ps ++ [p], by simp [hl], fun i hi => ?_⟩
    by_cases e : i < n
    · have : (ps ++ [p]).getD i d = ps.getD i d := by simp [List.getElem?_append_left (show i < ps.length by omega)]
      rw [this]; exact hq i e
    · have e2 : i = ps.length := by omega
      have : (ps ++ [p]).getD i d = p := by rw [e2]; simp
      rw [this, e2, hl]; exact hp
theorem mem_getD {α : Type} {l : List α} {x d : α} (h : x ∈ l) : ∃ i, i < l.length ∧ l.getD i d = x := by
  obtain ⟨i, hi, rfl⟩ := List.getElem_of_mem h
  exact ⟨i, hi, by simp [hi]⟩

theorem cells_str1 : Try.prog.cellsOf 9 = 1 := by kernel_rfl
theorem cells_int1 : Try.prog.cellsOf 3 = 1 := by kernel_rfl
theorem cells_u641 : Try.prog.cellsOf 28 = 1 := by kernel_rfl
theorem cells_tb8 : Try.prog.cellsOf 38 = 8 := by kernel_rfl
theorem cells_tbs : Try.prog.cellsOf 26 = 1 := by kernel_rfl
theorem cells_us : Try.prog.cellsOf 27 = 1 := by kernel_rfl
theorem cells_ed5 : Try.prog.cellsOf 30 = 5 := by kernel_rfl
/-- What texts of a table that came in are short enough for. -/
def TbShort (t : Tbl) : Prop := t.first.size ≤ maxLen ∧ t.last.size ≤ maxLen

set_option maxRecDepth 100000 in
/-- A table's cells that came in. -/
theorem tb_cells {H : Type} {enc : TypeId × Value → H} {W : World} {cs : List Value} {fuel : Nat} {y : DataW H × List MemPlace} (ht : DataW.trod enc Try.prog W 0 (fun _ => true) true fuel 38 cs = some y) (hcl : cs.length = 8) :
    ∃ t : Tbl, cs = cellsTb t ∧ Ed.InT t ∧ TbShort t := by
  obtain ⟨xs, n', _, _, _, hxl, hfd⟩ := DataW.trod_struct Try.underlying38 ht
  match cs, hcl with
  | [c0, c1, c2, c3, c4, c5, c6, c7], _ =>
    match xs, hxl with
    | [y0, y1, y2, y3, y4, y5, y6, y7], _ =>
      have f0 : DataW.trod enc Try.prog W 0 (fun _ => true) true n' 28 (([c0, c1, c2, c3, c4, c5, c6, c7].drop 0).take (Try.prog.cellsOf 28)) = some y0 := hfd 0 _ rfl
      have f1 : DataW.trod enc Try.prog W 0 (fun _ => true) true n' 3 (([c0, c1, c2, c3, c4, c5, c6, c7].drop 1).take (Try.prog.cellsOf 3)) = some y1 := hfd 1 _ rfl
      have f2 : DataW.trod enc Try.prog W 0 (fun _ => true) true n' 3 (([c0, c1, c2, c3, c4, c5, c6, c7].drop 2).take (Try.prog.cellsOf 3)) = some y2 := hfd 2 _ rfl
      have f3 : DataW.trod enc Try.prog W 0 (fun _ => true) true n' 3 (([c0, c1, c2, c3, c4, c5, c6, c7].drop 3).take (Try.prog.cellsOf 3)) = some y3 := hfd 3 _ rfl
      have f4 : DataW.trod enc Try.prog W 0 (fun _ => true) true n' 9 (([c0, c1, c2, c3, c4, c5, c6, c7].drop 4).take (Try.prog.cellsOf 9)) = some y4 := hfd 4 _ rfl
      have f5 : DataW.trod enc Try.prog W 0 (fun _ => true) true n' 9 (([c0, c1, c2, c3, c4, c5, c6, c7].drop 5).take (Try.prog.cellsOf 9)) = some y5 := hfd 5 _ rfl
      have f6 : DataW.trod enc Try.prog W 0 (fun _ => true) true n' 28 (([c0, c1, c2, c3, c4, c5, c6, c7].drop 6).take (Try.prog.cellsOf 28)) = some y6 := hfd 6 _ rfl
      have f7 : DataW.trod enc Try.prog W 0 (fun _ => true) true n' 28 (([c0, c1, c2, c3, c4, c5, c6, c7].drop 7).take (Try.prog.cellsOf 28)) = some y7 := hfd 7 _ rfl
      rw [cells_u641] at f0 f6 f7
      rw [cells_int1] at f1 f2 f3
      rw [cells_str1] at f4 f5
      obtain ⟨n0, e0, _, hw0⟩ := DataW.trod_int Try.underlying28 f0
      obtain ⟨n1, e1, _, hw1⟩ := DataW.trod_int Try.underlying3 f1
      obtain ⟨n2, e2, _, hw2⟩ := DataW.trod_int Try.underlying3 f2
      obtain ⟨n3, e3, _, hw3⟩ := DataW.trod_int Try.underlying3 f3
      obtain ⟨s4, e4, _, hw4⟩ := DataW.trod_string Try.underlying9 f4
      obtain ⟨s5, e5, _, hw5⟩ := DataW.trod_string Try.underlying9 f5
      obtain ⟨n6, e6, _, hw6⟩ := DataW.trod_int Try.underlying28 f6
      obtain ⟨n7, e7, _, hw7⟩ := DataW.trod_int Try.underlying28 f7
      have g0 : c0 = .int .u64 n0 := by simpa using e0
      have g1 : c1 = .int .i64 n1 := by simpa using e1
      have g2 : c2 = .int .i64 n2 := by simpa using e2
      have g3 : c3 = .int .i64 n3 := by simpa using e3
      have g4 : c4 = .string s4 := by simpa using e4
      have g5 : c5 = .string s5 := by simpa using e5
      have g6 : c6 = .int .u64 n6 := by simpa using e6
      have g7 : c7 = .int .u64 n7 := by simpa using e7
      have b0 := bounds_u64 hw0
      have b1 := bounds_i64 hw1
      have b2 := bounds_i64 hw2
      have b3 := bounds_i64 hw3
      have b6 := bounds_u64 hw6
      have b7 := bounds_u64 hw7
      refine ⟨⟨n0.toNat, n1, n2, n3, s4, s5, n6.toNat, n7.toNat⟩, ?_, ⟨by simp only; omega, ⟨b1.1, b1.2⟩, ⟨b2.1, b2.2⟩, ⟨b3.1, b3.2⟩, by simp only; omega, by simp only; omega⟩, hw4, hw5⟩
      unfold cellsTb
      simp only
      rw [g0, g1, g2, g3, g4, g5, g6, g7, Int.toNat_of_nonneg (by omega), Int.toNat_of_nonneg (by omega), Int.toNat_of_nonneg (by omega)]

theorem tbAt_of {W : World} {x : Addr} {t : Tbl} (h : ∀ j, j < 8 → W.cell? (x.add j) = (cellsTb t)[j]?) : x.spot = none ∧ TbAt W x.block x.off t := by
  obtain ⟨b, off, spot⟩ := x
  have h0 : W.cell? ((⟨b, off, spot⟩ : Addr).add 0) = some (.int .u64 (t.n : Nat)) := h 0 (by omega)
  have hspot : spot = none := by simpa [Addr.add] using World.cell?_spot h0
  subst hspot
  refine ⟨rfl, ?_⟩
  have k : ∀ j, j < 8 → W.cell? ⟨b, off + j, none⟩ = (cellsTb t)[j]? := fun j hj => by have := h j hj; rwa [add_plain] at this
  exact ⟨k 0 (by omega), k 1 (by omega), k 2 (by omega), k 3 (by omega), k 4 (by omega), k 5 (by omega), k 6 (by omega), k 7 (by omega)⟩

/-- A slice of tables that came in. -/
theorem seesTb_raw {H : Type} {enc : TypeId × Value → H} {W : World} {cs : List Value} {fuel : Nat} {y : DataW H × List MemPlace} (hf : DataW.trod enc Try.prog W 0 (fun _ => true) true fuel 26 cs = some y) :
    ∃ a len cap ts, cs = [.slice a len cap] ∧ SeesTb W (.slice a len cap) ts ∧ ts.length = len ∧ ∀ t ∈ ts, Ed.InT t ∧ TbShort t := by
  rcases Deep.open_slice Try.underlying26 hf with ⟨hcs, _⟩ | ⟨x, l, c, m, n, D, Pl, hcs, _, hlc, hcm, hm, _, hel⟩
  · exact ⟨none, 0, 0, [], hcs, Or.inl ⟨rfl, none, 0, rfl⟩, rfl, by simp⟩
  · have hmc : m = c := by rw [hm]; simp
    have key : ∀ i, i < l → ∃ t : Tbl, (x.add (i * 8)).spot = none ∧ TbAt W (x.add (i * 8)).block (x.add (i * 8)).off t ∧ Ed.InT t ∧ TbShort t := by
      intro i hi
      obtain ⟨cs', hc, ht⟩ := hel i (by omega)
      rw [cells_tb8] at hc
      obtain ⟨_, hcl, hat⟩ := World.cells?_some hc
      obtain ⟨t, rfl, h1, h2⟩ := tb_cells ht hcl
      obtain ⟨h3, h4⟩ := tbAt_of (W := W) (x := x.add (i * 8)) (t := t) (fun j hj => by
        rw [hat j hj])
      exact ⟨t, h3, h4, h1, h2⟩
    by_cases h0 : l = 0
    · subst h0
      exact ⟨some x, 0, c, [], hcs, Or.inl ⟨rfl, _, _, rfl⟩, rfl, by simp⟩
    · obtain ⟨b, off, spot⟩ := x
      have hspot : spot = none := by
        obtain ⟨t, hq, _⟩ := key 0 (by omega)
        simpa [Addr.add] using hq
      subst hspot
      have key2 : ∀ i, i < l → ∃ t : Tbl, TbAt W b (off + i * 8) t ∧ Ed.InT t ∧ TbShort t := by
        intro i hi
        obtain ⟨t, _, k1, k2, k3⟩ := key i hi
        rw [add_plain] at k1
        exact ⟨t, k1, k2, k3⟩
      obtain ⟨ts, hl, hts⟩ := list_of tbd l key2
      refine ⟨_, l, c, ts, hcs, Or.inr ⟨b, off, c, by rw [hl], World.block_lt_of_cell? _ _ ((hts 0 (by omega)).1.1), fun i hi => (hts i (by omega)).1⟩, hl, fun t ht => ?_⟩
      obtain ⟨i, hi, rfl⟩ := mem_getD (d := tbd) ht
      exact (hts i (by omega)).2
/-- A slice of numbers that came in. -/
theorem seesU_raw {H : Type} {enc : TypeId × Value → H} {W : World} {cs : List Value} {fuel : Nat} {y : DataW H × List MemPlace} (hf : DataW.trod enc Try.prog W 0 (fun _ => true) true fuel 27 cs = some y) :
    ∃ a len cap ns, cs = [.slice a len cap] ∧ SeesU W (.slice a len cap) ns ∧ ns.length = len ∧ ∀ n ∈ ns, n < 18446744073709551616 := by
  rcases Deep.open_slice Try.underlying27 hf with ⟨hcs, _⟩ | ⟨x, l, c, m, n, D, Pl, hcs, _, hlc, hcm, hm, _, hel⟩
  · exact ⟨none, 0, 0, [], hcs, Or.inl ⟨rfl, none, 0, rfl⟩, rfl, by simp⟩
  · have hmc : m = c := by rw [hm]; simp
    have key : ∀ i, i < l → ∃ k : Nat, W.cell? (x.add i) = some (.int .u64 (k : Nat)) ∧ k < 18446744073709551616 := by
      intro i hi
      obtain ⟨cs', hc, ht⟩ := hel i (by omega)
      rw [cells_u641, Nat.mul_one] at hc
      obtain ⟨_, hcl, hat⟩ := World.cells?_some hc
      obtain ⟨n0, e0, _, hw⟩ := DataW.trod_int Try.underlying28 ht
      have hb := bounds_u64 hw
      have h0 := hat 0 (by omega)
      subst e0
      refine ⟨n0.toNat, ?_, by omega⟩
      rw [Int.toNat_of_nonneg (by omega)]
      have e : x.add i = (x.add i).add 0 := by cases x with | mk b o s => cases s <;> simp [Addr.add]
      rw [e, h0]; rfl
    by_cases h0 : l = 0
    · subst h0
      exact ⟨some x, 0, c, [], hcs, Or.inl ⟨rfl, _, _, rfl⟩, rfl, by simp⟩
    · obtain ⟨b, off, spot⟩ := x
      have hspot : spot = none := by
        obtain ⟨t, hq, _⟩ := key 0 (by omega)
        simpa [Addr.add] using World.cell?_spot hq
      subst hspot
      have key2 : ∀ i, i < l → ∃ k : Nat, W.cell? ⟨b, off + i, none⟩ = some (.int .u64 (k : Nat)) ∧ k < 18446744073709551616 := by
        intro i hi
        obtain ⟨t, k1, k2⟩ := key i hi
        rw [add_plain] at k1
        exact ⟨t, k1, k2⟩
      obtain ⟨ns, hl, hns⟩ := list_of 0 l key2
      refine ⟨_, l, c, ns, hcs, Or.inr ⟨b, off, c, by rw [hl], World.block_lt_of_cell? _ _ ((hns 0 (by omega)).1), fun i hi => (hns i (by omega)).1⟩, hl, fun t ht => ?_⟩
      obtain ⟨i, hi, rfl⟩ := mem_getD (d := 0) ht
      exact (hns i (by omega)).2

set_option maxRecDepth 100000 in
/-- An edit's cells that came in. -/
theorem ed_cells {H : Type} {enc : TypeId × Value → H} {W : World} {cs : List Value} {fuel : Nat} {y : DataW H × List MemPlace} (hf : DataW.trod enc Try.prog W 0 (fun _ => true) true fuel 30 cs = some y) (hcl : cs.length = 5) :
    ∃ (ao : Option Addr) (an ac : Nat) (bo : Option Addr) (bn bc : Nat) (e : Edt), cs = [.slice ao an ac, .slice bo bn bc, .int .u64 (e.log : Nat), .int .u64 (e.seq : Nat), .int .u64 (e.next : Nat)] ∧ SeesTb W (.slice ao an ac) e.add ∧ SeesU W (.slice bo bn bc) e.drop ∧ Ed.In e ∧ ∀ t ∈ e.add, TbShort t := by
  obtain ⟨xs, n', _, _, _, hxl, hfd⟩ := DataW.trod_struct Try.underlying30 hf
  match cs, hcl with
  | [c0, c1, c2, c3, c4], _ =>
    match xs, hxl with
    | [y0, y1, y2, y3, y4], _ =>
      have f0 : DataW.trod enc Try.prog W 0 (fun _ => true) true n' 26 (([c0, c1, c2, c3, c4].drop 0).take (Try.prog.cellsOf 26)) = some y0 := hfd 0 _ rfl
      have f1 : DataW.trod enc Try.prog W 0 (fun _ => true) true n' 27 (([c0, c1, c2, c3, c4].drop 1).take (Try.prog.cellsOf 27)) = some y1 := hfd 1 _ rfl
      have f2 : DataW.trod enc Try.prog W 0 (fun _ => true) true n' 28 (([c0, c1, c2, c3, c4].drop 2).take (Try.prog.cellsOf 28)) = some y2 := hfd 2 _ rfl
      have f3 : DataW.trod enc Try.prog W 0 (fun _ => true) true n' 28 (([c0, c1, c2, c3, c4].drop 3).take (Try.prog.cellsOf 28)) = some y3 := hfd 3 _ rfl
      have f4 : DataW.trod enc Try.prog W 0 (fun _ => true) true n' 28 (([c0, c1, c2, c3, c4].drop 4).take (Try.prog.cellsOf 28)) = some y4 := hfd 4 _ rfl
      rw [cells_tbs] at f0
      rw [cells_us] at f1
      rw [cells_u641] at f2 f3 f4
      obtain ⟨ao, an, ac, ts, e0, hs, _, hit⟩ := seesTb_raw f0
      obtain ⟨bo, bn, bc, ns, e1, hu, _, hin⟩ := seesU_raw f1
      obtain ⟨n2, e2, _, hw2⟩ := DataW.trod_int Try.underlying28 f2
      obtain ⟨n3, e3, _, hw3⟩ := DataW.trod_int Try.underlying28 f3
      obtain ⟨n4, e4, _, hw4⟩ := DataW.trod_int Try.underlying28 f4
      have g0 : c0 = .slice ao an ac := by simpa using e0
      have g1 : c1 = .slice bo bn bc := by simpa using e1
      have g2 : c2 = .int .u64 n2 := by simpa using e2
      have g3 : c3 = .int .u64 n3 := by simpa using e3
      have g4 : c4 = .int .u64 n4 := by simpa using e4
      have b2 := bounds_u64 hw2
      have b3 := bounds_u64 hw3
      have b4 := bounds_u64 hw4
      refine ⟨ao, an, ac, bo, bn, bc, ⟨ts, ns, n2.toNat, n3.toNat, n4.toNat⟩, ?_, hs, hu, ⟨fun t ht => (hit t ht).1, hin, by simp only; omega, by simp only; omega, by simp only; omega⟩, fun t ht => (hit t ht).2⟩
      simp only
      rw [g0, g1, g2, g3, g4, Int.toNat_of_nonneg (by omega), Int.toNat_of_nonneg (by omega), Int.toNat_of_nonneg (by omega)]
/-- An edit that came in. -/
theorem ed_of {H : Type} {enc : TypeId × Value → H} {W : World} {cs : Array Value} {d : DataW H} {p : List MemPlace} (h : DataW.Trod enc Try.prog W 0 (fun _ => true) true 30 (.agg cs) d p) :
    ∃ (ao : Option Addr) (an ac : Nat) (bo : Option Addr) (bn bc : Nat) (e : Edt), cs = #[.slice ao an ac, .slice bo bn bc, .int .u64 (e.log : Nat), .int .u64 (e.seq : Nat), .int .u64 (e.next : Nat)] ∧ SeesTb W (.slice ao an ac) e.add ∧ SeesU W (.slice bo bn bc) e.drop ∧ Ed.In e ∧ ∀ t ∈ e.add, TbShort t := by
  obtain ⟨fuel, hf⟩ := h
  have hlen := (DataW.trod_struct Try.underlying30 hf)
  obtain ⟨xs, n', _, _, hl, _, _⟩ := hlen
  rw [cells_ed5] at hl
  simp only [Value.cells] at hl hf
  obtain ⟨ao, an, ac, bo, bn, bc, e, hcs, r⟩ := ed_cells hf hl
  exact ⟨ao, an, ac, bo, bn, bc, e, Array.toList_inj.1 hcs, r⟩
theorem trod_slice_val {H : Type} {enc : TypeId × Value → H} {W : World} {t : TypeId} {a : Option Addr} {len cap : Nat} {d : DataW H} {p : List MemPlace} (h : DataW.Trod enc Try.prog W 0 (fun _ => true) true t (.slice a len cap) d p) :
    ∃ fuel y, DataW.trod enc Try.prog W 0 (fun _ => true) true fuel t [.slice a len cap] = some y := by
  obtain ⟨fuel, hf⟩ := h
  exact ⟨fuel, _, hf⟩
/-- A slice of tables that came in, as a value. -/
theorem seesTb_of {H : Type} {enc : TypeId × Value → H} {W : World} {a : Option Addr} {len cap : Nat} {d : DataW H} {p : List MemPlace} (h : DataW.Trod enc Try.prog W 0 (fun _ => true) true 26 (.slice a len cap) d p) :
    ∃ ts, SeesTb W (.slice a len cap) ts ∧ ∀ t ∈ ts, Ed.InT t ∧ TbShort t := by
  obtain ⟨fuel, y, hf⟩ := trod_slice_val h
  obtain ⟨a', len', cap', ts, e, hs, _, hi⟩ := seesTb_raw hf
  simp only [List.cons.injEq, Value.slice.injEq, and_true] at e
  obtain ⟨rfl, rfl, rfl⟩ := e
  exact ⟨ts, hs, hi⟩
/-- A slice of edits that came in. -/
theorem seesEd_of {H : Type} {enc : TypeId × Value → H} {W : World} {a : Option Addr} {len cap : Nat} {d : DataW H} {p : List MemPlace} (h : DataW.Trod enc Try.prog W 0 (fun _ => true) true 22 (.slice a len cap) d p) :
    ∃ es, SeesEd W (.slice a len cap) es ∧ ∀ e ∈ es, Ed.In e ∧ ∀ t ∈ e.add, TbShort t := by
  obtain ⟨fuel, y, hf⟩ := trod_slice_val h
  rcases Deep.open_slice Try.underlying22 hf with ⟨hcs, _⟩ | ⟨x, l, c, m, n, D, Pl, hcs, _, hlc, hcm, hm, _, hel⟩
  · simp only [List.cons.injEq, Value.slice.injEq, and_true] at hcs
    obtain ⟨rfl, rfl, rfl⟩ := hcs
    exact ⟨[], Or.inl ⟨rfl, none, 0, rfl⟩, by simp⟩
  · simp only [List.cons.injEq, Value.slice.injEq, and_true] at hcs
    obtain ⟨rfl, rfl, rfl⟩ := hcs
    have hmc : m = cap := by rw [hm]; simp
    have key : ∀ i, i < len → ∃ e : Edt, (x.add (i * 5)).spot = none ∧ EdAt W (x.add (i * 5)).block (x.add (i * 5)).off e ∧ Ed.In e ∧ ∀ t ∈ e.add, TbShort t := by
      intro i hi
      obtain ⟨cs', hc, ht⟩ := hel i (by omega)
      rw [cells_ed5] at hc
      obtain ⟨_, hcl, hat⟩ := World.cells?_some hc
      obtain ⟨ao, an, ac, bo, bn, bc, e, rfl, h1, h2, h3, h4⟩ := ed_cells ht hcl
      generalize x.add (i * 5) = z at *
      obtain ⟨zb, zo, zs⟩ := z
      have h0 : W.cell? ((⟨zb, zo, zs⟩ : Addr).add 0) = some (.slice ao an ac) := hat 0 (by simp)
      have hspot : zs = none := by simpa [Addr.add] using World.cell?_spot h0
      subst hspot
      have k : ∀ j (hj : j < 5), W.cell? ⟨zb, zo + j, none⟩ = [Value.slice ao an ac, .slice bo bn bc, .int .u64 (e.log : Nat), .int .u64 (e.seq : Nat), .int .u64 (e.next : Nat)][j]? := fun j hj => by
        have := hat j (by simpa using hj); rwa [add_plain] at this
      exact ⟨e, rfl, ⟨ao, an, ac, bo, bn, bc, k 0 (by omega), k 1 (by omega), k 2 (by omega), k 3 (by omega), k 4 (by omega), h1, h2⟩, h3, h4⟩
    by_cases h0 : len = 0
    · subst h0
      exact ⟨[], Or.inl ⟨rfl, _, _, rfl⟩, by simp⟩
    · obtain ⟨b, off, spot⟩ := x
      have hspot : spot = none := by
        obtain ⟨t, hq, _⟩ := key 0 (by omega)
        simpa [Addr.add] using hq
      subst hspot
      have key2 : ∀ i, i < len → ∃ e : Edt, EdAt W b (off + i * 5) e ∧ Ed.In e ∧ ∀ t ∈ e.add, TbShort t := by
        intro i hi
        obtain ⟨e, _, k1, k2, k3⟩ := key i hi
        rw [add_plain] at k1
        exact ⟨e, k1, k2, k3⟩
      obtain ⟨es, hl, hes⟩ := list_of edd len key2
      refine ⟨es, Or.inr ⟨b, off, cap, by rw [hl], ?_, fun i hi => (hes i (by omega)).1⟩, fun e he => ?_⟩
      · obtain ⟨_, _, _, _, _, _, hc0, _⟩ := (hes 0 (by omega)).1
        exact World.block_lt_of_cell? _ _ hc0
      · obtain ⟨i, hi, rfl⟩ := mem_getD (d := edd) he
        exact (hes i (by omega)).2

end Go.Proofs.Ytbdoekogoiijeaa

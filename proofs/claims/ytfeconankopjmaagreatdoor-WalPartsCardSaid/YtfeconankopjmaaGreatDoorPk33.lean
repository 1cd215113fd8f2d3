/- Texts on the program's own functions, several in one: DkChoice, DkGc. -/
import Derived.Test.YtfeconankopjmaaGreatDoorPk18
import Derived.ProofKit
import Derived.OpenShut
import Derived.ShutString
import Derived.ChangeOld
import Derived.SliceStrings
import Derived.Deep.Slices
import Derived.Deep.SlicePairs
import Derived.Deep.Fields
import Derived.Deep.QuietTactic

/- A crash's choices that came in, as lists. -/
namespace Go.Proofs.YtfeconankopjmaaGreatDoor
open Go.ChangeShapes Go.WideShapes Go.ChangeAt Go.RowKit

theorem list_by {α : Type} {Q : Nat → α → Prop} : ∀ n : Nat, (∀ i, i < n → ∃ p, Q i p) → ∃ ps : List α, ps.length = n ∧ ∀ i p, ps[i]? = some p → Q i p
  | 0, _ => ⟨[], rfl, fun i p hi => by simp at hi⟩
  | n + 1, h => by
    obtain ⟨ps, hl, hq⟩ := list_by n (fun i hi => h i (by omega))
    obtain ⟨p, hp⟩ := h n (by omega)
    refine ⟨ps ++ [p], by simp [hl], fun i q hi => ?_⟩
    rcases Nat.lt_or_ge i ps.length with e | e
    · rw [List.getElem?_append_left e] at hi
      exact hq i q hi
    · rw [List.getElem?_append_right e] at hi
      have e2 : i = n := by
        rcases Nat.lt_or_ge (i - ps.length) 1 with e3 | e3
        · omega
        · rw [List.getElem?_eq_none (by simpa using e3)] at hi; cases hi
      subst e2
      rw [hl, Nat.sub_self] at hi
      simp at hi
      rw [← hi]; exact hp
/-- A slice of numbers that came in. -/
theorem seesI_of {H : Type} {enc : TypeId × Value → H} {W : World} {cs : List Value} {fuel : Nat} {y : DataW H × List MemPlace} (hf : DataW.trod enc Tryz.prog W 0 (fun _ => true) true fuel 52 cs = some y) :
    ∃ a len cap ks, cs = [.slice a len cap] ∧ SeesI W (.slice a len cap) ks ∧ ks.length = len := by
  rcases open_ints Tryz.underlying52 Tryz.underlying3 (by kernel_rfl) hf with ⟨hcs, _⟩ | ⟨x, l, c, zs, hcs, _, hl, _, hz, _, hcell, _⟩
  · exact ⟨none, 0, 0, [], hcs, Or.inl ⟨rfl, none, 0, rfl⟩, rfl⟩
  · have hzl : zs.length = c := by simpa using hz
    refine ⟨some x, l, c, zs.take l, hcs, ?_, by rw [List.length_take]; omega⟩
    by_cases h0 : l = 0
    · subst h0
      exact Or.inl ⟨by simp, _, _, rfl⟩
    · obtain ⟨b, off, spot⟩ := x
      have hspot : spot = none := by simpa [Addr.add] using World.cell?_spot (hcell 0 (by omega))
      subst hspot
      have hc : ∀ j, j < zs.length → W.cell? ⟨b, off + j, none⟩ = some (.int .i64 (zs.getD j 0)) := fun j hj => by rw [← Go.WideShapes.add_plain]; exact hcell j hj
      refine Or.inr ⟨b, off, c, by rw [List.length_take, Nat.min_eq_left (by omega)], World.block_lt_of_cell? _ _ (hc 0 (by omega)), fun i v hi => ?_⟩
      have hil : i < l := by
        rcases Nat.lt_or_ge i l with h | h
        · exact h
        · rw [List.getElem?_eq_none (by rw [List.length_take]; omega)] at hi; cases hi
      rw [hc i (by omega)]
      rw [List.getElem?_take_of_lt hil] at hi
      simp [List.getD, hi]
/-- A slice of spots that came in. -/
theorem seesQ_of {H : Type} {enc : TypeId × Value → H} {W : World} {cs : List Value} {fuel : Nat} {y : DataW H × List MemPlace} (hf : DataW.trod enc Tryz.prog W 0 (fun _ => true) true fuel 53 cs = some y) :
    ∃ a len cap sp, cs = [.slice a len cap] ∧ SeesQ W (.slice a len cap) sp ∧ sp.length = len ∧ ∀ q ∈ sp, q.2 ≤ 4294967295 := by
  rcases Deep.open_slice_pairs Tryz.underlying53 Tryz.underlying178 (by kernel_rfl) (by kernel_rfl) (by kernel_rfl) (by kernel_rfl) (by kernel_rfl) hf with ⟨hcs, _⟩ | ⟨x, l, c, m, n, V0, V1, D0, D1, P0, P1, hcs, _, hlc, _, hm, _, hel⟩
  · exact ⟨none, 0, 0, [], hcs, Or.inl ⟨rfl, none, 0, rfl⟩, rfl, fun q hq => by simp at hq⟩
  · have hmc : m = c := by rw [hm]; simp
    have key : ∀ i, i < l → ∃ q : Int × Nat, W.cell? (x.add (i * 2)) = some (.int .i64 q.1) ∧ W.cell? (x.add (i * 2 + 1)) = some (.int .u32 (q.2 : Int)) ∧ q.2 ≤ 4294967295 := by
      intro i hi
      obtain ⟨c0, c1, t0, t1⟩ := hel i (by omega)
      obtain ⟨n0, e0, _, _⟩ := DataW.trod_int Tryz.underlying3 t0
      obtain ⟨n1, e1, _, hw⟩ := DataW.trod_int Tryz.underlying176 t1
      have g0 : V0 i = .int .i64 n0 := by simpa using e0
      have g1 : V1 i = .int .u32 n1 := by simpa using e1
      have hr := bounds_u32 hw
      refine ⟨(n0, n1.toNat), by rw [c0, g0], ?_, by show n1.toNat ≤ _; omega⟩
      rw [c1, g1]
      show some (Value.int .u32 n1) = some (.int .u32 ((n1.toNat : Nat) : Int))
      rw [Int.toNat_of_nonneg (by omega)]
    by_cases h0 : l = 0
    · subst h0
      exact ⟨some x, 0, c, [], hcs, Or.inl ⟨rfl, _, _, rfl⟩, rfl, fun q hq => by simp at hq⟩
    · obtain ⟨b, off, spot⟩ := x
      have hspot : spot = none := by
        obtain ⟨q, hq, _⟩ := key 0 (by omega)
        simpa [Addr.add] using World.cell?_spot hq
      subst hspot
      have key2 : ∀ i, i < l → ∃ q : Int × Nat, W.cell? ⟨b, off + i * 2, none⟩ = some (.int .i64 q.1) ∧ W.cell? ⟨b, off + i * 2 + 1, none⟩ = some (.int .u32 (q.2 : Int)) ∧ q.2 ≤ 4294967295 := fun i hi => by
        obtain ⟨q, k0, k1, hq⟩ := key i hi
        rw [add_plain] at k0 k1
        rw [← Nat.add_assoc] at k1
        exact ⟨q, k0, k1, hq⟩
      obtain ⟨sp, hl, hsp⟩ := list_by l key2
      refine ⟨_, l, c, sp, hcs, Or.inr ⟨b, off, c, by rw [hl], World.block_lt_of_cell? _ _ (hsp 0 _ (List.getElem?_eq_getElem (by omega))).1, fun i q hi => ⟨(hsp i q hi).1, (hsp i q hi).2.1⟩⟩, hl, fun q hq => ?_⟩
      obtain ⟨i, hi, e⟩ := List.getElem_of_mem hq
      exact (hsp i q (by rw [List.getElem?_eq_getElem hi, e])).2.2

/-- A crash's choices as they come in. -/
structure Chosen (w : World) (vk vs : Value) (c : Dk.Crash) : Prop where
  keep : SeesI w vk c.keep
  spoil : SeesQ w vs c.spoil
  masks : ∀ q ∈ c.spoil, q.2 ≤ 4294967295
theorem Chosen.older {w : World} {vk vs : Value} {c : Dk.Crash} (h : Chosen w vk vs c) (hk : c.keep.length ≤ 1099511627776) (hs : c.spoil.length ≤ 1099511627776) : Older w w.heap.size vk vs c := by
  refine ⟨h.keep, h.spoil, fun hne b hv => ?_, fun hne b hv => ?_, hk, hs, h.masks⟩
  · rcases h.keep with ⟨h0, _⟩ | ⟨b', off, cap, rfl, hb, _⟩
    · exact absurd h0 hne
    · simp only [Value.ownBlock, Option.some.injEq] at hv
      omega
  · rcases h.spoil with ⟨h0, _⟩ | ⟨b', off, cap, rfl, hb, _⟩
    · exact absurd h0 hne
    · simp only [Value.ownBlock, Option.some.injEq] at hv
      omega
theorem Chosen.below {w w' : World} {vk vs : Value} {c : Dk.Crash} (h : Chosen w vk vs c) (hb : Below w.heap.size w w') : Chosen w' vk vs c := by
  have ht : Turns (fun k => w.heap.size ≤ k) w w' := ⟨hb.os, hb.tape, hb.output, hb.size, fun k _ hk => hb.block k (by omega)⟩
  refine ⟨h.keep.turned ht fun hne b hv => ?_, h.spoil.turned ht fun hne b hv => ?_, h.masks⟩
  · rcases h.keep with ⟨h0, _⟩ | ⟨b', off, cap, rfl, hb, _⟩
    · exact absurd h0 hne
    · simp only [Value.ownBlock, Option.some.injEq] at hv
      omega
  · rcases h.spoil with ⟨h0, _⟩ | ⟨b', off, cap, rfl, hb, _⟩
    · exact absurd h0 hne
    · simp only [Value.ownBlock, Option.some.injEq] at hv
      omega
theorem cells_crash : Tryz.prog.cellsOf 55 = 3 := by kernel_rfl
theorem cells_act : Tryz.prog.cellsOf 57 = 7 := by kernel_rfl
theorem cells_int : Tryz.prog.cellsOf 3 = 1 := by kernel_rfl
theorem cells_u8 : Tryz.prog.cellsOf 5 = 1 := by kernel_rfl
theorem cells_str : Tryz.prog.cellsOf 9 = 1 := by kernel_rfl
theorem cells_ints : Tryz.prog.cellsOf 52 = 1 := by kernel_rfl
theorem cells_spots : Tryz.prog.cellsOf 53 = 1 := by kernel_rfl
set_option maxRecDepth 100000 in
/-- A crash that came in, in cells. -/
theorem chosen_of {H : Type} {enc : TypeId × Value → H} {W : World} {cs : List Value} {fuel : Nat} {y : DataW H × List MemPlace} (hf : DataW.trod enc Tryz.prog W 0 (fun _ => true) true fuel 55 cs = some y) :
    ∃ (c : Dk.Crash) (vk vs : Value), cs = [.int .i64 c.names, vk, vs] ∧ Chosen W vk vs c ∧ (-9223372036854775808 ≤ c.names ∧ c.names ≤ 9223372036854775807) := by
  obtain ⟨xs, n', _, _, hlen, hxl, hfd⟩ := DataW.trod_struct Tryz.underlying55 hf
  rw [cells_crash] at hlen
  match cs, hlen with
  | [c0, c1, c2], _ =>
    match xs, hxl with
    | [y0, y1, y2], _ =>
      have f0 : DataW.trod enc Tryz.prog W 0 (fun _ => true) true n' 3 (([c0, c1, c2].drop 0).take (Tryz.prog.cellsOf 3)) = some y0 := hfd 0 _ rfl
      have f1 : DataW.trod enc Tryz.prog W 0 (fun _ => true) true n' 52 (([c0, c1, c2].drop 1).take (Tryz.prog.cellsOf 52)) = some y1 := hfd 1 _ rfl
      have f2 : DataW.trod enc Tryz.prog W 0 (fun _ => true) true n' 53 (([c0, c1, c2].drop 2).take (Tryz.prog.cellsOf 53)) = some y2 := hfd 2 _ rfl
      rw [cells_int] at f0
      rw [cells_ints] at f1
      rw [cells_spots] at f2
      obtain ⟨n0, e0, _, hw⟩ := DataW.trod_int Tryz.underlying3 f0
      obtain ⟨a1, l1, k1, ks, e1, hks, _⟩ := seesI_of f1
      obtain ⟨a2, l2, k2, sp, e2, hsp, _, hm⟩ := seesQ_of f2
      have g0 : c0 = .int .i64 n0 := by simpa using e0
      have g1 : c1 = .slice a1 l1 k1 := by simpa using e1
      have g2 : c2 = .slice a2 l2 k2 := by simpa using e2
      subst g0 g1 g2
      exact ⟨⟨n0, ks, sp⟩, _, _, rfl, ⟨hks, hsp, hm⟩, bounds_i64 hw⟩

end Go.Proofs.YtfeconankopjmaaGreatDoor

/- The walk of the statements' GreatCrash. -/
namespace Go.Proofs.YtfeconankopjmaaGreatDoor
open Go.RowKit Go.Maps
open Dk (Dir Chg Disk File Str)

theorem Still.under {w w' : World} {base : Nat} {v : World} (h : Still w w') (hb : Below base v w) : Below base v w' := ⟨h.os.trans hb.os, h.tape.trans hb.tape, h.output.trans hb.output, by rw [h.heap]; exact hb.size, fun b hlt => by rw [h.heap]; exact hb.block b hlt⟩
def greatC (c : Dk.Crash) : Bool := decide (100 < c.keep.length) || decide (100 < c.spoil.length)
set_option maxHeartbeats 8000000 in
set_option maxRecDepth 100000 in
theorem greatCrash_any (w : World) (vk vs : Value) (c : Dk.Crash) (h : Chosen w vk vs c) :
    Calls Tryz.prog 69 #[crashV c.names vk vs] w (Gives (.bool (greatC c)) w) := by
  obtain ⟨ka, kc, rfl⟩ := h.keep.shape
  obtain ⟨sa, sc, rfl⟩ := h.spoil.shape
  have HB := Lib.hid ((Below.refl w.heap.size w).alloc (Nat.le_refl _) (.cells #[.int .i64 c.names, .slice ka c.keep.length kc, .slice sa c.spoil.length sc] 55))
  have HG : Hid (greatC c = (decide ((100 : Int) < c.keep.length) || decide ((100 : Int) < c.spoil.length))) := by
    unfold greatC
    have e1 : decide ((100 : Int) < c.keep.length) = decide (100 < c.keep.length) := by apply decide_eq_decide.2; omega
    have e2 : decide ((100 : Int) < c.spoil.length) = decide (100 < c.spoil.length) := by apply decide_eq_decide.2; omega
    rw [e1, e2]; exact Lib.hid rfl
  obtain ⟨g, hg⟩ : ∃ g, g = greatC c := ⟨_, rfl⟩
  rw [← hg] at HG ⊢
  clear h hg
  unfold crashV
  generalize c.keep.length = lk at *
  generalize c.spoil.length = ls at *
  by_cases h1 : (100 : Int) < lk
  · go_enter Tryz.func69, Tryz.ntmps69
    go_wp2_with fail
    go_ret
    refine ⟨?_, HB.out⟩
    rw [HG.out, decide_eq_true h1]; rfl
  · by_cases h2 : (100 : Int) < ls
    · go_enter Tryz.func69, Tryz.ntmps69
      go_wp2_with fail
      go_ret
      refine ⟨?_, HB.out⟩
      rw [HG.out, decide_eq_false (show ¬ (100 : Int) < lk by omega), decide_eq_true h2]; rfl
    · go_enter Tryz.func69, Tryz.ntmps69
      go_wp2_with fail
      go_ret
      refine ⟨?_, HB.out⟩
      rw [HG.out, decide_eq_false (show ¬ (100 : Int) < lk by omega), decide_eq_false (show ¬ (100 : Int) < ls by omega)]; rfl

end Go.Proofs.YtfeconankopjmaaGreatDoor

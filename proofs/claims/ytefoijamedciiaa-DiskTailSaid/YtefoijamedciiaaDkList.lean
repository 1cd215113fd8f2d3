/- The walk of List over a disk that lies in memory. -/
import Derived.Test.YtefoijamedciiaaDkO
import Derived.Test.YtefoijamedciiaaDkP
namespace Go.Proofs.Ytefoijamedciiaa
open Go.RowKit Go.Maps
open Dk (Dir Chg Disk File Str)

/-- A cell set to what it holds: nothing turns. -/
theorem set_same {w : World} {g k : Nat} {cur : Array Value} {t : TypeId} {x : Value} (hg : w.heap[g]? = some (.cells cur t (0, 0))) (hx : cur[k]? = some x) (i : Nat) : (w.setCell ⟨g, k, none⟩ x).heap[i]? = w.heap[i]? := by
  have hk : k < cur.size := by
    rcases Nat.lt_or_ge k cur.size with h | h
    · exact h
    · rw [Array.getElem?_eq_none h] at hx; cases hx
  by_cases hi : i = g
  · subst hi
    rw [heap_setCell_same w i k cur t x hg, hg]
    have e : cur.setIfInBounds k x = cur := by
      refine Array.ext_getElem? fun j => ?_
      rw [Array.getElem?_setIfInBounds]
      split
      · rename_i e; subst e; rw [hx]
      · rfl
    rw [e]
  · exact RowKit.Below.heap_setCell w ⟨g, k, none⟩ x i hi

theorem still_set {w : World} {g k : Nat} {cur : Array Value} {t : TypeId} {x : Value} (hg : w.heap[g]? = some (.cells cur t (0, 0))) (hx : cur[k]? = some x) : Still w (w.setCell ⟨g, k, none⟩ x) :=
  ⟨Array.ext_getElem? (set_same hg hx), rfl, rfl, rfl⟩

theorem Still.below {w w' : World} {base : Nat} {v : World} (h : Still w w') (hb : Below base v w) : Below base v w' := ⟨h.os.trans hb.os, h.tape.trans hb.tape, h.output.trans hb.output, by rw [h.heap]; exact hb.size, fun b hlt => by rw [h.heap]; exact hb.block b hlt⟩
/-- A cell of a row. -/
theorem row_at {w : World} {base : Nat} {t : TypeId} {a : Option Addr} {n c k : Nat} {xs : List Value} {v : Value} (h : w.ownsRow base t 1 (.slice a n c) n xs) (hk : xs[k]? = some v) (hn : k < n) : ∃ g, a = some ⟨g, 0, none⟩ ∧ w.cell? ⟨g, k, none⟩ = some v := by
  obtain ⟨hl, ⟨_, h0⟩ | ⟨g, cap2, cur, hv, hbg, hg, hnc, hcm, hcs, htk⟩⟩ := h
  · omega
  · simp only [Value.slice.injEq, true_and] at hv
    obtain ⟨rfl, rfl⟩ := hv
    refine ⟨g, rfl, ?_⟩
    rw [← htk, List.getElem?_take_of_lt (by omega)] at hk
    rw [cell_of hg]
    simpa using hk
set_option maxHeartbeats 8000000 in
set_option maxRecDepth 100000 in
/-- disk.List: the names, rising, in new memory. -/
theorem list_any (w : World) {L : Lay} {S : Disk} (h : Holds w L S) (F : Fits S) (hs : ∀ p ∈ S.now, p.1.length ≤ 281474976710656) :
    Calls Try.prog 16 #[.pointer (some ⟨L.d, 0, none⟩)] w fun e w' => ∃ v, e = .returned v ∧ w'.ownsRow w.heap.size 9 1 v S.now.length (S.now.map fun p => strV p.1) ∧ Below w.heap.size w w' := by
  obtain ⟨c0, c1, c2, c3, c4, c5, c6⟩ := h.cells
  have HM := Lib.hid (made_any w h)
  have HR := Lib.hid (rising_any h.now (by have := F.now; omega))
  have HS := Lib.hid hs
  obtain ⟨n, hn⟩ : ∃ n, n = S.now.length := ⟨_, rfl⟩
  have hn2 : (n : Int) ≤ 1099511627776 := by have := F.now; omega
  rw [← hn] at HR ⊢
  have HN := Lib.hid hn
  clear h F hs hn
  go_enter Try.func16, Try.ntmps16
  go_wp2_with fail
  refine HM.out.mono ?_
  rintro e wz ⟨rfl, rfl⟩
  go_wp2_with fail
  refine HR.out.mono ?_
  rintro e w1 ⟨v, rfl, hrow, hb⟩
  obtain ⟨ao, cap, rfl⟩ : ∃ ao cap, v = .slice ao n cap := by
    rcases hrow.2 with ⟨rfl, h0⟩ | ⟨g, cap, cur, rfl, _⟩
    · exact ⟨none, 0, by rw [h0]⟩
    · exact ⟨_, _, rfl⟩
  have ROW := Lib.hid hrow; have B1 := Lib.hid hb
  clear hrow hb HM HR c0 c1 c2 c3 c4 c5 c6
  go_wp2_with fail
  go_loopw [16] (fun z wr => ∃ k : Nat, k ≤ n ∧ z = .int .i64 (k : Int) ∧ Hid (wr.ownsRow wz.heap.size 9 1 (.slice ao n cap) n (S.now.map fun p => strV p.1) ∧ Below wz.heap.size wz wr)) (fun z _ => n - (intOf z).toNat)
  case atStart => exact ⟨0, by omega, rfl, Lib.hid ⟨ROW.out, B1.out⟩⟩
  case round =>
    obtain ⟨k, hk, rfl, HK⟩ := hrel
    by_cases hlt : k < n
    · have hlt2 : (k : Int) < n := by omega
      obtain ⟨p, hp⟩ : ∃ p, S.now[k]? = some p := ⟨_, List.getElem?_eq_getElem (by have := HN.out; omega)⟩
      obtain ⟨hl, ⟨_, h0⟩ | ⟨g, cap2, cur, hv, hbg, hg, hnc, hcm, hcs, htk⟩⟩ := HK.out.1
      · omega
      simp only [Value.slice.injEq, true_and] at hv
      obtain ⟨rfl, rfl⟩ := hv
      have hx : cur[k]? = some (strV p.1) := by
        have e1 : (cur.toList.take (n * 1))[k]? = some (strV p.1) := by rw [htk, List.getElem?_map, hp]; rfl
        rw [List.getElem?_take_of_lt (by omega)] at e1
        simpa using e1
      have e0 : wr.cell? ⟨g, k, none⟩ = some (.string ⟨p.1.toArray⟩) := by rw [cell_of hg]; exact hx
      have hsz : (⟨p.1.toArray⟩ : ByteArray).size ≤ 281474976710656 := by
        have := HS.out p (List.mem_of_getElem? hp)
        simpa [Lib.size_eq] using this
      obtain ⟨str, hstr⟩ : ∃ str, str = (⟨p.1.toArray⟩ : ByteArray) := ⟨_, rfl⟩
      unfold strV at hx
      rw [← hstr] at e0 hsz hx
      have HC := Lib.hid (clone_any str wr hsz)
      have HG := Lib.hid (And.intro hg (And.intro hx hbg))
      clear hg hx hbg hl hnc hcm hcs htk hp hsz hstr
      go_wp2_with fail
      refine HC.out.mono ?_
      rintro e w2 ⟨rfl, hb2⟩
      have hgl : g < wr.heap.size := by
        rcases Nat.lt_or_ge g wr.heap.size with h | h
        · exact h
        · have := HG.out.1; rw [Array.getElem?_eq_none h] at this; cases this
      have hg2 : w2.heap[g]? = some (.cells cur 9 (0, 0)) := (hb2.block g hgl).trans HG.out.1
      have f0 : w2.frozen? ⟨g, k, none⟩ = false := frozen_of_row w2 g k cur _ hg2
      have d0 : w2.cell? ⟨g, k, none⟩ = some (.string str) := by rw [cell_of hg2]; exact HG.out.2.1
      have HST := Lib.hid (still_set hg2 HG.out.2.1)
      have HR2 : Hid (w2.ownsRow wz.heap.size 9 1 (.slice (some ⟨g, 0, none⟩) n cap) n (S.now.map fun p => strV p.1) ∧ Below wz.heap.size wz w2) := Lib.hid ⟨ownsRow_frame HK.out.1 (fun b hb => hb2.block b (ownsRow_lt HK.out.1 hb)), Below.next HK.out.2 hb2⟩
      clear hb2 hg2 e0 HK HC
      go_wp2_with fail
      go_roundw
      case rel => exact ⟨k + 1, by omega, by go_num, Lib.hid ⟨ownsRow_frame HR2.out.1 (fun b _ => by rw [HST.out.heap]), HST.out.below HR2.out.2⟩⟩
      case measure => simp [intOf]; omega
    · obtain rfl : k = n := by omega
      clear hlt
      go_wp2_with fail
      go_ret
      exact ⟨_, rfl, HK.out.1, HK.out.2⟩

end Go.Proofs.Ytefoijamedciiaa

/- Walks of layer 13's own functions: Given, Same, Great. -/
import Derived.Test.YtbdoekogoiijeaaEdArgs
import Derived.BigQuiet
namespace Go.Proofs.Ytbdoekogoiijeaa
open Go.RowKit Sk
set_option linter.unusedVariables false
set_option maxRecDepth 20000

set_option maxHeartbeats 1000000 in
theorem given_any (ao : Option Addr) (an ac : Nat) (bo : Option Addr) (bn bc : Nat) (lg sq nx : Nat) (w : World) :
    Calls Try.prog 13 #[edV ao an ac bo bn bc lg sq nx] w (Gives (edV ao an ac bo bn bc lg sq nx) w) := by
  unfold edV
  go_enter Try.func13, Try.ntmps13
  go_wp2_with fail
  exact bodyPost_ret (v := .agg #[.slice ao an ac, .slice bo bn bc, .int .u64 (lg : Nat), .int .u64 (sq : Nat), .int .u64 (nx : Nat)]) (by simp [results, Try.results13, go_sem]) rfl ⟨rfl, Below.next_alloc ((Below.refl _ _).alloc (Nat.le_refl _) _) _⟩

set_option maxHeartbeats 4000000 in
theorem same_yes (ao co : Option Addr) (an ac cc : Nat) (bo do' : Option Addr) (bn bc dc : Nat) (e : Edt) (w : World) (hA : SeesTb w (.slice ao an ac) e.add) (hD : SeesU w (.slice bo bn bc) e.drop) (hA2 : SeesTb w (.slice co an cc) e.add) (hD2 : SeesU w (.slice do' bn dc) e.drop)
    (hla : an ≤ 1000000000) (hlb : bn ≤ 1000000000) :
    Calls Try.prog 17 #[edV ao an ac bo bn bc e.log e.seq e.next, edV co an cc do' bn dc e.log e.seq e.next] w (Gives (.bool true) w) := by
  obtain ⟨hal, ba, oa, hac⟩ := hA.get
  obtain ⟨hdl, bd, od, hdc⟩ := hD.get
  obtain ⟨-, ba2, oa2, hac2⟩ := hA2.get
  obtain ⟨-, bd2, od2, hdc2⟩ := hD2.get
  have HAC := Lib.hid hac; have HDC := Lib.hid hdc; have HAC2 := Lib.hid hac2; have HDC2 := Lib.hid hdc2
  have HB : Hid (∀ o o', Below w.heap.size w ((w.alloc o).alloc o')) := Lib.hid (fun o o' => Below.next_alloc ((Below.refl _ _).alloc (Nat.le_refl _) _) _)
  have h1 := heap_alloc2_old w (.cells #[.slice ao an ac, .slice bo bn bc, .int .u64 (e.log : Nat), .int .u64 (e.seq : Nat), .int .u64 (e.next : Nat)] 31) (.cells #[.slice co an cc, .slice do' bn dc, .int .u64 (e.log : Nat), .int .u64 (e.seq : Nat), .int .u64 (e.next : Nat)] 31)
  have h2 := heap_alloc2_new w (.cells #[.slice ao an ac, .slice bo bn bc, .int .u64 (e.log : Nat), .int .u64 (e.seq : Nat), .int .u64 (e.next : Nat)] 31) (.cells #[.slice co an cc, .slice do' bn dc, .int .u64 (e.log : Nat), .int .u64 (e.seq : Nat), .int .u64 (e.next : Nat)] 31)
  have hbel := HB.out (.cells #[.slice ao an ac, .slice bo bn bc, .int .u64 (e.log : Nat), .int .u64 (e.seq : Nat), .int .u64 (e.next : Nat)] 31) (.cells #[.slice co an cc, .slice do' bn dc, .int .u64 (e.log : Nat), .int .u64 (e.seq : Nat), .int .u64 (e.next : Nat)] 31)
  clear hac hdc hac2 hdc2 hal hdl hA hD hA2 hD2
  unfold edV
  go_enter Try.func17, Try.ntmps17
  go_wp2_with fail
  have k1 := Sk.cell_of (k := 0) h1
  have k2 := Sk.cell_of (k := 0) h2
  have k3 := Sk.cell_of (k := 1) h1
  have k4 := Sk.cell_of (k := 1) h2
  clear h1 h2
  generalize (w.alloc (.cells #[.slice ao an ac, .slice bo bn bc, .int .u64 (e.log : Nat), .int .u64 (e.seq : Nat), .int .u64 (e.next : Nat)] 31)).alloc (.cells #[.slice co an cc, .slice do' bn dc, .int .u64 (e.log : Nat), .int .u64 (e.seq : Nat), .int .u64 (e.next : Nat)] 31) = W at *
  have k1 : W.cell? ⟨w.heap.size, 0, none⟩ = some (.slice ao an ac) := k1
  have k2 : W.cell? ⟨w.heap.size + 1, 0, none⟩ = some (.slice co an cc) := k2
  have k3 : W.cell? ⟨w.heap.size, 1, none⟩ = some (.slice bo bn bc) := k3
  have k4 : W.cell? ⟨w.heap.size + 1, 1, none⟩ = some (.slice do' bn dc) := k4
  have HK : Hid (W.cell? ⟨w.heap.size, 0, none⟩ = some (.slice ao an ac) ∧ W.cell? ⟨w.heap.size + 1, 0, none⟩ = some (.slice co an cc) ∧ W.cell? ⟨w.heap.size, 1, none⟩ = some (.slice bo bn bc) ∧ W.cell? ⟨w.heap.size + 1, 1, none⟩ = some (.slice do' bn dc) ∧ Below w.heap.size w W) := Lib.hid ⟨k1, k2, k3, k4, hbel⟩
  clear k1 k2 k3 k4 hbel
  go_loopw [5] (fun i wr => ∃ k : Nat, k ≤ an ∧ i = .int .i64 k ∧ (wr.cell? ⟨w.heap.size, 0, none⟩ = some (.slice ao an ac) ∧ wr.cell? ⟨w.heap.size + 1, 0, none⟩ = some (.slice co an cc) ∧ wr.cell? ⟨w.heap.size, 1, none⟩ = some (.slice bo bn bc) ∧ wr.cell? ⟨w.heap.size + 1, 1, none⟩ = some (.slice do' bn dc) ∧ Below w.heap.size w wr)) (fun i _ => an - (intOf i).toNat)
  case atStart => exact ⟨0, Nat.zero_le _, rfl, HK.out⟩
  case round =>
    obtain ⟨k, hk, rfl, k1, k2, k3, k4, hbel⟩ := hrel
    have hsz := hbel.size
    have HR : Hid _ := Lib.hid (And.intro k1 (And.intro k2 (And.intro k3 (And.intro k4 hbel))))
    by_cases hlt : k < an
    · obtain ⟨rfl, hbl, hob⟩ := HAC.out k hlt
      obtain ⟨rfl, hbl2, hob2⟩ := HAC2.out k hlt
      obtain ⟨c0, c1, c2, c3, c4, c5, c6, c7⟩ := hob.below hbel hbl
      obtain ⟨d0, d1, d2, d3, d4, d5, d6, d7⟩ := hob2.below hbel hbl2
      have hbr : ba < wr.heap.size := by omega
      have hbr2 : ba2 < wr.heap.size := by omega
      clear hob hob2
      generalize e.add.getD k tbd = x at *
      go_wp2_with fail
      go_quiet (fail)
      go_wp2_with fail
      go_roundw
      case rel => exact ⟨k + 1, by omega, by go_num, HR.out.1, HR.out.2.1, HR.out.2.2.1, HR.out.2.2.2.1, ⟨hbel.os, hbel.tape, hbel.output, hbel.size, hbel.block⟩⟩
      case measure => simp [intOf]; omega
    · go_wp2_with fail
      go_loopw [6] (fun i w2 => ∃ k : Nat, k ≤ bn ∧ i = .int .i64 k ∧ (w2.cell? ⟨w.heap.size, 0, none⟩ = some (.slice ao an ac) ∧ w2.cell? ⟨w.heap.size + 1, 0, none⟩ = some (.slice co an cc) ∧ w2.cell? ⟨w.heap.size, 1, none⟩ = some (.slice bo bn bc) ∧ w2.cell? ⟨w.heap.size + 1, 1, none⟩ = some (.slice do' bn dc) ∧ Below w.heap.size w w2)) (fun i _ => bn - (intOf i).toNat)
      case atStart => exact ⟨0, Nat.zero_le _, rfl, HR.out⟩
      case round =>
        clear k1 k2 k3 k4 HR hbel hsz
        obtain ⟨k', hk', rfl, k1, k2, k3, k4, hbel⟩ := hrel
        have hsz := hbel.size
        have HR : Hid _ := Lib.hid (And.intro k1 (And.intro k2 (And.intro k3 (And.intro k4 hbel))))
        by_cases hlt2 : k' < bn
        · obtain ⟨rfl, hbl, c0⟩ := HDC.out k' hlt2
          obtain ⟨rfl, hbl2, c1⟩ := HDC2.out k' hlt2
          have c0 := (hbel.cell (p := ⟨bd, od + k', none⟩) hbl).trans c0
          have c1 := (hbel.cell (p := ⟨bd2, od2 + k', none⟩) hbl2).trans c1
          have hbr : bd < wr.heap.size := by omega
          have hbr2 : bd2 < wr.heap.size := by omega
          generalize e.drop.getD k' 0 = x at *
          go_wp2_with fail
          go_quiet (fail)
          go_wp2_with fail
          go_roundw
          case rel => exact ⟨k' + 1, by omega, by go_num, HR.out.1, HR.out.2.1, HR.out.2.2.1, HR.out.2.2.2.1, ⟨hbel.os, hbel.tape, hbel.output, hbel.size, hbel.block⟩⟩
          case measure => simp [intOf]; omega
        · go_wp2_with fail
          go_ret
          exact ⟨rfl, HR.out.2.2.2.2⟩

def sumT (ts : List Tbl) : Nat := (ts.map fun t => t.first.size + t.last.size).sum
theorem sumT_snoc (ts : List Tbl) (k : Nat) (h : k < ts.length) : sumT (ts.take (k + 1)) = sumT (ts.take k) + ((ts.getD k tbd).first.size + (ts.getD k tbd).last.size) := by
  rw [take_snocT ts k h]
  unfold sumT
  rw [List.map_append, List.sum_append]
  simp
/-- Is an edit more than statements go through? -/
def bigT (t : Tbl) : Bool := decide (8000 < t.first.size) || decide (8000 < t.last.size)
def greatE (add : List Tbl) (drop : List Nat) : Bool := decide (60 < add.length) || (decide (60 < drop.length) || (add.any bigT || decide (8000 < sumT add)))

set_option maxHeartbeats 4000000 in
theorem great_any (ao : Option Addr) (an ac : Nat) (bo : Option Addr) (bn bc : Nat) (e : Edt) (w : World) (hA : SeesTb w (.slice ao an ac) e.add) (hD : bn = e.drop.length) :
    Calls Try.prog 12 #[edV ao an ac bo bn bc e.log e.seq e.next] w (Gives (.bool (greatE e.add e.drop)) w) := by
  obtain ⟨hal, ba, oa, hac⟩ := hA.get
  have HAC := Lib.hid hac; have HAL := Lib.hid hal
  have HB : Hid (Below w.heap.size w (w.alloc (.cells #[.slice ao an ac, .slice bo bn bc, .int .u64 (e.log : Nat), .int .u64 (e.seq : Nat), .int .u64 (e.next : Nat)] 30))) := Lib.hid ((Below.refl _ _).alloc (Nat.le_refl _) _)
  clear hA hac
  by_cases h60 : 60 < an
  · have HE : Hid (greatE e.add e.drop = true) := Lib.hid (by unfold greatE; rw [hal]; simp [h60])
    clear hal hD
    unfold edV
    go_enter Try.func12, Try.ntmps12
    go_wp2_with fail
    go_ret
    rw [HE.out]
    exact ⟨rfl, HB.out⟩
  · by_cases h61 : 60 < bn
    · have HE : Hid (greatE e.add e.drop = true) := Lib.hid (by unfold greatE; rw [← hD]; simp [h61])
      clear hal hD
      unfold edV
      go_enter Try.func12, Try.ntmps12
      go_wp2_with fail
      go_ret
      rw [HE.out]
      exact ⟨rfl, HB.out⟩
    · have HE : Hid (greatE e.add e.drop = (e.add.any bigT || decide (8000 < sumT (e.add.take an)))) := Lib.hid (by
        unfold greatE
        rw [← hal, List.take_length, ← hD]
        simp [hal, h60, h61])
      have hd : (w.alloc (.cells #[.slice ao an ac, .slice bo bn bc, .int .u64 (e.log : Nat), .int .u64 (e.seq : Nat), .int .u64 (e.next : Nat)] 30)).cell? ⟨w.heap.size, 0, none⟩ = some (.slice ao an ac) := by rw [World.cell?_alloc_new]; rfl
      have hsz0 : w.heap.size < (w.alloc (.cells #[.slice ao an ac, .slice bo bn bc, .int .u64 (e.log : Nat), .int .u64 (e.seq : Nat), .int .u64 (e.next : Nat)] 30)).heap.size := by simp
      clear hal hD
      unfold edV
      go_enter Try.func12, Try.ntmps12
      go_wp2_with fail
      generalize w.alloc (.cells #[.slice ao an ac, .slice bo bn bc, .int .u64 (e.log : Nat), .int .u64 (e.seq : Nat), .int .u64 (e.next : Nat)] 30) = W at *
      go_loopw [3, 4] (fun n i wr => ∃ k : Nat, k ≤ an ∧ i = .int .i64 k ∧ n = .int .i64 (sumT (e.add.take k)) ∧ (sumT (e.add.take k) : Int) ≤ 16000 * k ∧ (∀ j, j < k → bigT (e.add.getD j tbd) = false) ∧ wr.cell? ⟨w.heap.size, 0, none⟩ = some (.slice ao an ac) ∧ Below w.heap.size w wr) (fun _ i _ => an - (intOf i).toNat)
      case atStart => exact ⟨0, Nat.zero_le _, rfl, rfl, by simp [sumT], fun j hj => by omega, hd, HB.out⟩
      case round =>
        obtain ⟨k, hk, rfl, rfl, hsum, hno, hq, hbel⟩ := hrel
        clear hd
        have HNO := Lib.hid hno; clear hno
        have hsz := hbel.size
        by_cases hlt : k < an
        · obtain ⟨rfl, hbl, hob⟩ := HAC.out k hlt
          obtain ⟨c0, c1, c2, c3, c4, c5, c6, c7⟩ := hob.below hbel hbl
          have hbr : ba < wr.heap.size := by omega
          have hkl : k < e.add.length := by rw [HAL.out]; exact hlt
          have HSN : Hid (sumT (e.add.take (k + 1)) = sumT (e.add.take k) + ((e.add.getD k tbd).first.size + (e.add.getD k tbd).last.size)) := Lib.hid (sumT_snoc e.add k hkl)
          have HAY : Hid (bigT (e.add.getD k tbd) = true → greatE e.add e.drop = true) := Lib.hid (fun h => by
            rw [HE.out, List.any_eq_true.2 ⟨_, Ed.getD_mem hkl, h⟩]; rfl)
          have HAN : Hid (bigT (e.add.getD k tbd) = false → ∀ j, j < k + 1 → bigT (e.add.getD j tbd) = false) := Lib.hid (fun h j hj => by
            by_cases e : j = k
            · rw [e]; exact h
            · exact HNO.out j (by omega))
          clear hob hkl
          generalize e.add.getD k tbd = x at *
          obtain ⟨xn, xlv, xct, xsz, xf, xl, xle, xmo⟩ := x
          dsimp only at c0 c1 c2 c3 c4 c5 c6 c7 HSN HAY HAN
          generalize hT : sumT (e.add.take k) = T at *
          clear hT
          by_cases h1 : 8000 < xf.size
          · have HG : Hid (greatE e.add e.drop = true) := Lib.hid (HAY.out (by simp [bigT, h1]))
            have h1' : (8000 : Int) < xf.size := by omega
            go_wp2_with fail
            go_ret
            rw [HG.out]
            exact ⟨rfl, hbel⟩
          · have h1' : ¬ (8000 : Int) < xf.size := by omega
            by_cases h2 : 8000 < xl.size
            · have HG : Hid (greatE e.add e.drop = true) := Lib.hid (HAY.out (by simp [bigT, h2]))
              have h2' : (8000 : Int) < xl.size := by omega
              go_wp2_with fail
              go_ret
              rw [HG.out]
              exact ⟨rfl, hbel⟩
            · have HG := Lib.hid (HAN.out (by simp [bigT]; omega))
              clear HAY HAN
              go_wp2_with fail
              go_quiet (fail)
              go_wp2_with fail
              refine ⟨⟨k + 1, by omega, by go_num, by rw [HSN.out]; congr 1; omega, by rw [HSN.out]; omega, HG.out, hq, ⟨hbel.os, hbel.tape, hbel.output, hbel.size, hbel.block⟩⟩, by simp [intOf]; omega⟩
        · obtain rfl : k = an := by omega
          have HG : Hid (greatE e.add e.drop = decide (8000 < sumT (e.add.take k))) := Lib.hid (by
            rw [HE.out]
            have : e.add.any bigT = false := by
              rw [List.any_eq_false]
              intro t ht
              obtain ⟨i, hi, rfl⟩ := mem_getD (d := tbd) ht
              rw [HNO.out i (by rw [HAL.out] at hi; exact hi)]; simp
            rw [this]; simp)
          generalize hT : sumT (e.add.take k) = T at *
          clear hT HE
          by_cases hT2 : 8000 < T
          · go_wp2_with fail
            go_ret
            rw [HG.out]
            exact ⟨by simp [hT2]; omega, hbel⟩
          · go_wp2_with fail
            go_ret
            rw [HG.out]
            exact ⟨by simp [hT2]; omega, hbel⟩

theorem greatE_no {add : List Tbl} {drop : List Nat} (h : greatE add drop = false) : add.length ≤ 60 ∧ drop.length ≤ 60 ∧ ∀ t ∈ add, t.first.size ≤ 8000 ∧ t.last.size ≤ 8000 := by
  unfold greatE at h
  simp only [Bool.or_eq_false_iff, decide_eq_false_iff_not] at h
  obtain ⟨h1, h2, h3, h4⟩ := h
  refine ⟨by omega, by omega, fun t ht => ?_⟩
  have := List.any_eq_false.1 h3 t ht
  simp only [bigT, Bool.or_eq_true, decide_eq_true_eq, not_or] at this
  omega

end Go.Proofs.Ytbdoekogoiijeaa

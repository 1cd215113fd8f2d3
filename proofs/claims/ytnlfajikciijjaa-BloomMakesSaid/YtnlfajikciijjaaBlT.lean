/- The document's own Make. -/
import Derived.Test.YtnlfajikciijjaaBlS
import Derived.Test.YtnlfajikciijjaaBlE
namespace Go.Proofs.Ytnlfajikciijjaa
open Go.RowKit

/-- In block B lie a filter's bits, one by one, and may be written. -/
def RowB (w : World) (B : Nat) (l : List UInt8) : Prop := ∀ i, i < 8 * l.length → w.cell? ⟨B, i, none⟩ = some (.bool (Bl.bit l i)) ∧ w.frozen? ⟨B, i, none⟩ = false
theorem RowB.set {w : World} {B : Nat} {l : List UInt8} (h : RowB w B l) (j : Nat) (hj : j < 8 * l.length) : RowB (w.setCell ⟨B, j, none⟩ (.bool true)) B (Bl.set1 l j) := by
  intro i hi
  rw [Bl.set1_length] at hi
  refine ⟨?_, (World.frozen?_setCell _ _ _ _).trans (h i hi).2⟩
  rw [Bl.bit_set1 l j i hj]
  by_cases e : j = i
  · subst e
    rw [World.cell?_setCell_same _ _ _ (h j hi).1]
    simp
  · rw [World.cell?_setCell_other _ _ _ _ (show (⟨B, j, none⟩ : Addr) ≠ ⟨B, i, none⟩ from fun hc => e (by injection hc)), (h i hi).1]
    have : decide (i = j) = false := by simpa using fun h => e h.symm
    rw [this, Bool.or_false]
theorem RowB.below {w w' : World} {B : Nat} {l : List UInt8} (h : RowB w B l) (hB : B < w.heap.size) (hb : Below w.heap.size w w') : RowB w' B l := fun i hi =>
  ⟨(hb.cell (p := ⟨B, i, none⟩) hB).trans (h i hi).1, (hb.frozen (p := ⟨B, i, none⟩) hB).trans (h i hi).2⟩
theorem info_bool : (Try.prog.info? 4).map (fun i => (i.zero, i.size, i.bytes)) = some (some (.bool false), 1, 1) := by kernel_rfl

/-- The row of bits that the document's Make lays. -/
theorem make_bits (w : World) (n : Nat) (hn : n ≤ 100000000) :
    ∃ w', (Instr.makeSlice 37 (.int .i64 ((8 * n : Nat) : Int)) (.int .i64 ((8 * n : Nat) : Int))).run Try.prog w = .ok (.slice (some ⟨w.heap.size, 0, none⟩) (8 * n) (8 * n)) w' ∧ RowB w' w.heap.size (List.replicate n 0) ∧ w.heap.size < w'.heap.size ∧ Below w.heap.size w w' := by
  obtain ⟨i0, hi, hz0, hz1, hz2⟩ := info_parts info_bool
  have h := run_make (P := Try.prog) w 37 4 i0 (.bool false) Try.underlying37 hi hz0 .i64 .i64 ((8 * n : Nat) : Int) ((8 * n : Nat) : Int) (by omega) (by omega) (by rw [hz2]; omega) (by omega)
  rw [hz1, Nat.mul_one, Int.toNat_natCast] at h
  refine ⟨_, h, fun i hi => ?_, by simp, (Below.refl _ _).alloc (Nat.le_refl _) _⟩
  have hi' : i < 8 * n := by simpa using hi
  have hh := heap_alloc_new w (.cells (madeCells (Value.bool false).cells (8 * n)) 4)
  refine ⟨?_, unfrozen_of hh i⟩
  rw [cell_of hh, Bl.bit_zero]
  simp [madeCells, Value.cells, hi', Nat.mod_one]

/-- A number's bits from one on, and the one ahead of it. -/
theorem halve (B j : Nat) : B / 2 ^ j = 2 * (B / 2 ^ (j + 1)) + (if B.testBit j then 1 else 0) := by
  rw [Nat.testBit_eq_decide_div_mod_eq, Nat.pow_succ, ← Nat.div_div_eq_div_mul]
  generalize B / 2 ^ j = q
  rcases Nat.mod_two_eq_zero_or_one q with h | h
  · rw [if_neg (by simp [h])]; omega
  · rw [if_pos (by simp [h])]; omega

/-- Where a key's probe lies. -/
theorem adds_step {l : List UInt8} {h m j : Nat} (hm : 8 * l.length = m) : Bl.adds l h (j + 1) = Bl.set1 (Bl.adds l h j) (Bl.pr h m j) := by rw [Bl.adds, hm]
theorem Owns.snoc {w' : World} {base : Nat} {v' : Value} {l : List UInt8} {b : UInt8} (h : w'.ownsRow base 5 1 v' (l.length + 1) (Lib.byteCells l ++ [.int .u8 (b.toNat : Int)])) : Owns w' base v' (l ++ [b]) := by
  unfold Owns
  rw [List.length_append, byteCells_append]
  exact h
theorem take_next (L : List UInt8) (k : Nat) (h : k < L.length) : L.take (k + 1) = L.take k ++ [L.getD k 0] := by
  rw [List.take_succ_eq_append_getElem h, List.getD_eq_getElem?_getD, List.getElem?_eq_getElem h]; rfl
theorem bit_at (L : List UInt8) (k t : Nat) (ht : t < 8) : Bl.bit L (8 * k + t) = (L.getD k 0).toNat.testBit t := by
  unfold Bl.bit
  rw [show (8 * k + t) / 8 = k by omega, show (8 * k + t) % 8 = t by omega]

set_option maxHeartbeats 4000000 in
set_option maxRecDepth 100000 in
theorem refMake_any (ao : Option Addr) (len cap : Nat) (ss : List ByteArray) (w : World) (hV : SeesS w (.slice ao len cap) ss) (hz : ∀ s ∈ ss, s.size ≤ 9223372036854775807) (hl : len ≤ 1000000) :
    Calls Try.prog 15 #[.slice ao len cap] w (Gives (.string ⟨(Bl.mk (kl ss)).toArray⟩) w) := by
  obtain ⟨hlen, b, off, hcell⟩ := hV.get
  clear hV
  have hsz := Bl.size_lt len
  have hszp := Bl.size_pos len
  obtain ⟨n, hn⟩ : ∃ n, n = Bl.size len := ⟨_, rfl⟩
  have hn1 : n ≤ 10000000 := by omega
  have hn0 : 0 < n := by omega
  rw [← hn] at hsz hszp
  have HN := Lib.hid hn
  obtain ⟨w0, hmk, hrow0, hlt0, hb0⟩ := make_bits w n (by omega)
  obtain ⟨m, hm⟩ : ∃ m, m = 8 * n := ⟨_, rfl⟩
  have hm1 : m ≤ 80000000 := by omega
  have hm0 : 0 < m := by omega
  rw [← hm] at hmk hsz
  obtain ⟨hsa, hsb⟩ := hsz
  have HM := Lib.hid hm
  have HSA := Lib.hid hsa; have HSB := Lib.hid hsb
  have HC := Lib.hid hcell; clear hcell
  have HZ := Lib.hid hz; clear hz
  have HLEN := Lib.hid hlen; clear hlen
  have HB0 := Lib.hid hb0; clear hb0
  have HR0 := Lib.hid hrow0; clear hrow0
  clear hn hszp hm hsa hsb
  obtain ⟨i0, hi, hz0, hz1, hz2⟩ := info_parts info_u8
  by_cases h64 : 10 * (len : Int) < 64
  all_goals
    go_enter Try.func15, Try.ntmps15
    go_wp2_with fail
    go_loop [3] (fun b => ∃ q : Nat, max 64 (10 * len) ≤ q ∧ q ≤ m ∧ b = .int .i64 q) (fun b => m - (intOf b).toNat)
    case atStart =>
      first
        | exact ⟨64, by have := HSB.out; omega, by have := HSB.out; omega, rfl⟩
        | exact ⟨10 * len, by have := HSB.out; omega, by have := HSB.out; omega, by go_num⟩
    case round =>
      obtain ⟨q, hq1, hq2, rfl⟩ := hrel
      by_cases h8 : (q : Int) % 8 = 0
      · have hqm : m = q := by have := HSA.out; have := HM.out; omega
        subst hqm
        clear hq1 hq2
        go_wp2_with fail
        clear h8
        go_loopw [5] (fun i wr => ∃ k : Nat, k ≤ len ∧ i = .int .i64 k ∧ Below w.heap.size w wr ∧ w.heap.size < wr.heap.size ∧ RowB wr w.heap.size (Bl.addk (List.replicate n 0) (kl (ss.take k)))) (fun i _ => len - (intOf i).toNat)
        case atStart => exact ⟨0, Nat.zero_le _, rfl, HB0.out, hlt0, HR0.out⟩
        case round =>
          obtain ⟨k, hk, rfl, hbel, hsz, hrow⟩ := hrel
          have hll := Bl.addk_length (kl (ss.take k)) (List.replicate n 0)
          rw [List.length_replicate] at hll
          by_cases hlt : k < len
          · obtain ⟨ha, hb, hc⟩ := HC.out k hlt
            have HS : Hid ((ss.getD k ByteArray.empty).size ≤ 9223372036854775807) := by
              have hk' : k < ss.length := by have := HLEN.out; omega
              rw [getD_at hk']; exact Lib.hid (HZ.out _ (List.getElem_mem hk'))
            have HU : Hid (Bl.addk (List.replicate n 0) (kl (ss.take (k + 1))) = Bl.adds (Bl.addk (List.replicate n 0) (kl (ss.take k))) (Bl.hash (ss.getD k ByteArray.empty).data.toList) 6) := by
              have hk' : k < ss.length := by have := HLEN.out; omega
              rw [kl_snoc hk', Bl.addk_snoc]; exact Lib.hid rfl
            have hcw := (hbel.cell (p := ⟨b, off + k, none⟩) hb).trans hc
            subst ha
            generalize ss.getD k ByteArray.empty = s at *
            generalize Bl.addk (List.replicate n 0) (kl (ss.take k)) = l at *
            have HROW := Lib.hid hrow; have HBEL := Lib.hid hbel; have HLL := Lib.hid hll
            clear hrow hbel hc hll
            obtain ⟨h, HH⟩ : ∃ h, Hid (h = Bl.hash s.data.toList) := ⟨_, Lib.hid rfl⟩
            have HRP := Lib.hid (fun W => refProbes_any s m W HS.out hm0 (by omega))
            rw [← HH.out] at HRP
            go_wp2_with fail
            refine (HRP.out _).mono ?_
            rintro e w1 ⟨v, rfl, ho, hb1⟩
            obtain ⟨g, cap2, rfl, hg, hg2, hcell⟩ := ho.six (prl_length _ _ _)
            have HB1 := Lib.hid (hb1.mono (Nat.le_of_lt hsz))
            have HR1 := Lib.hid (HROW.out.below hsz hb1)
            have hsz1 : w.heap.size < w1.heap.size := Nat.lt_of_lt_of_le hsz hb1.size
            have hgne : g ≠ w.heap.size := by omega
            have HCE : Hid (∀ i, i < 6 → w1.cell? ⟨g, i, none⟩ = some (.int .i64 (Bl.pr h m i : Int))) := Lib.hid (fun i hi => by rw [hcell i hi, prl_get hi])
            clear hb1 ho hcell
            obtain ⟨W0, hW0⟩ : ∃ W0, W0 = wr := ⟨_, rfl⟩
            subst hW0
            go_wp2_with fail
            go_loopw [7] (fun i wr => ∃ j : Nat, j ≤ 6 ∧ i = .int .i64 j ∧ Below w.heap.size w wr ∧ w.heap.size < wr.heap.size ∧ RowB wr w.heap.size (Bl.adds l h j) ∧ Hid (∀ i, i < 6 → wr.cell? ⟨g, i, none⟩ = some (.int .i64 (Bl.pr h m i : Int)))) (fun i _ => 6 - (intOf i).toNat)
            case atStart => exact ⟨0, by omega, rfl, HBEL.out.trans HB1.out, hsz1, HR1.out, HCE⟩
            case round =>
              obtain ⟨j, hj, rfl, hbel2, hsz2, hrow2, HC2⟩ := hrel
              by_cases hlt2 : j < 6
              · have hp := Bl.pr_lt h m j hm0
                have hc2 := HC2.out j hlt2
                obtain ⟨p, HP⟩ : ∃ p, Hid (p = Bl.pr h m j) := ⟨_, Lib.hid rfl⟩
                rw [← HP.out] at hc2 hp
                have hal : 8 * (Bl.adds l h j).length = m := by rw [Bl.adds_length, HLL.out]; exact HM.out.symm
                obtain ⟨hc0, hf0⟩ := hrow2 p (by omega)
                have HSET : Hid (RowB (wr.setCell ⟨w.heap.size, p, none⟩ (.bool true)) w.heap.size (Bl.adds l h (j + 1))) := Lib.hid (by
                  have := hrow2.set p (by omega)
                  rw [adds_step (m := m) (by rw [HLL.out]; exact HM.out.symm), ← HP.out]
                  exact this)
                have HB2 : Hid (Below w.heap.size w (wr.setCell ⟨w.heap.size, p, none⟩ (.bool true))) := Lib.hid (hbel2.setCell (p := ⟨w.heap.size, p, none⟩) (Nat.le_refl _) _)
                have HC3 : Hid (∀ i, i < 6 → (wr.setCell ⟨w.heap.size, p, none⟩ (.bool true)).cell? ⟨g, i, none⟩ = some (.int .i64 (Bl.pr h m i : Int))) := Lib.hid (fun i hi =>
                  (World.cell?_setCell_other _ _ _ _ (fun hc => hgne (by injection hc with h1; exact h1.symm))).trans (HC2.out i hi))
                clear hal hrow2 hbel2
                go_wp2_with fail
                go_roundw
                case rel => exact ⟨j + 1, by omega, by go_num, HB2.out, by simpa using hsz2, HSET.out, HC3⟩
                case measure => simp [intOf]; omega
              · obtain rfl : j = 6 := by omega
                have HROW2 := Lib.hid hrow2; have HBEL2 := Lib.hid hbel2
                clear hrow2 hbel2
                go_wp2_with fail
                go_roundw
                case rel => exact ⟨k + 1, by omega, by go_num, HBEL2.out, hsz2, by rw [HU.out, ← HH.out]; exact HROW2.out⟩
                case measure => simp [intOf]; omega
          · obtain rfl : k = len := by omega
            have HE : Hid (Bl.addk (List.replicate n 0) (kl (ss.take k)) = Bl.mk (kl ss)) := Lib.hid (by
              rw [List.take_of_length_le (by have := HLEN.out; omega)]
              unfold Bl.mk
              rw [kl_length, HLEN.out, ← HN.out])
            rw [HE.out] at hrow hll
            generalize Bl.mk (kl ss) = L at *
            have HROW := Lib.hid hrow; have HBEL := Lib.hid hbel; have HLL := Lib.hid hll
            clear hrow hbel hll HE
            go_wp2_with fail
            obtain ⟨W1, hW1⟩ : ∃ W1, W1 = wr := ⟨_, rfl⟩
            subst hW1
            go_loopw [8, 9] (fun v i wr => ∃ t : Nat, t ≤ n ∧ i = .int .i64 (8 * (t : Int)) ∧ Hid (Owns wr (w.heap.size + 1) v (L.take t)) ∧ w.heap.size < wr.heap.size ∧ Hid (RowB wr w.heap.size L) ∧ Hid (Below w.heap.size w wr)) (fun _ i _ => m - (intOf i).toNat)
            case atStart => exact ⟨0, Nat.zero_le _, rfl, Owns.nil _ _, hsz, HROW, HBEL⟩
            case round =>
              obtain ⟨t, ht, rfl, HO, hsz2, HR, HBL⟩ := hrel
              by_cases hlt3 : t < n
              · have h8 : 8 * (t : Int) < (m : Int) := by have := HM.out; omega
                have h8b : 8 * (t : Int) + 8 ≤ (m : Int) := by have := HM.out; omega
                obtain ⟨bb, HBB⟩ : ∃ bb : UInt8, Hid (bb = L.getD t 0) := ⟨_, Lib.hid rfl⟩
                have HBT : Hid (∀ j, j < 8 → wr.cell? ⟨w.heap.size, 8 * t + j, none⟩ = some (.bool (bb.toNat.testBit j))) := Lib.hid (fun j hj => by
                  rw [(HR.out (8 * t + j) (by rw [HLL.out]; omega)).1, bit_at L t j hj, HBB.out])
                have hb8 : bb.toNat < 256 := bb.toNat_lt
                go_wp2_with fail
                go_loop [10, 11] (fun c j => ∃ (q x : Nat), q ≤ 8 ∧ j = .int .i64 ((q : Int) - 1) ∧ c = .int .u8 x ∧ x < 256 ∧ Hid (x = bb.toNat / 2 ^ q)) (fun _ j => (intOf j + 1).toNat)
                case atStart => exact ⟨8, 0, by omega, rfl, rfl, by omega, by show 0 = bb.toNat / 256; omega⟩
                case round =>
                  obtain ⟨q, x, hq, rfl, rfl, hx, HX⟩ := hrel
                  cases q with
                  | zero =>
                    have HXB : Hid (x = bb.toNat) := Lib.hid (by rw [HX.out]; simp)
                    obtain ⟨Pt, HPt⟩ : ∃ Pt, Hid (Pt = L.take t) := ⟨_, Lib.hid rfl⟩
                    have HTL : Hid (Pt.length = t) := Lib.hid (by rw [HPt.out, List.length_take, HLL.out]; omega)
                    have hraw : wr.ownsRow (w.heap.size + 1) 5 1 u8 Pt.length (Lib.byteCells Pt) := by rw [HPt.out]; exact HO.out
                    go_wp2_with (at_builtin; go_must (refine wpList_append_own _ rfl _ _ 32 rfl (w.heap.size + 1) 5 i0 (.int .u8 0) 1 1 Try.underlying32 hi hz0 hz1 hz2 rfl (by decide) _ _ _ rfl (hraw.alloc _) ⟨wr.heap.size, 0, none⟩ 1 1 [_] rfl rfl (cell_one_new _ _ _) ?c2 ?c3 ?c4 ?c5 ?_))
                    case c2 => first | rfl | (intro u hu; simp at hu; subst hu; rfl)
                    case c3 => rw [HTL.out]; unfold maxLen; omega
                    case c4 => rw [HTL.out]; omega
                    case c5 => first | omega | (simp; omega)
                    intro v' w2 hown' hgrow _
                    have HW : Hid (Owns w2 (w.heap.size + 1) v' (L.take (t + 1)) ∧ Below (w.heap.size + 1) wr w2) := Lib.hid (by
                      refine ⟨?_, ((Below.refl _ wr).alloc (by omega) _).grown hgrow (by simp; omega) (fun q hq => (hraw.lt q hq).1)⟩
                      rw [take_next L t (by rw [HLL.out]; omega), ← HBB.out, ← HPt.out]
                      rw [HXB.out] at hown'
                      exact Owns.snoc hown')
                    have HR2 : Hid (RowB w2 w.heap.size L) := Lib.hid (fun i hi => ⟨(HW.out.2.cell (p := ⟨w.heap.size, i, none⟩) (Nat.lt_succ_self _)).trans (HR.out i hi).1, (HW.out.2.frozen (p := ⟨w.heap.size, i, none⟩) (Nat.lt_succ_self _)).trans (HR.out i hi).2⟩)
                    have HB2 : Hid (Below w.heap.size w w2) := Lib.hid (HBL.out.trans (HW.out.2.mono (Nat.le_succ _)))
                    have hsz3 : w.heap.size < w2.heap.size := Nat.lt_of_lt_of_le hsz2 HW.out.2.size
                    clear hown' hgrow hraw
                    go_wp2_with fail
                    go_roundw
                    case rel => exact ⟨t + 1, by omega, by go_num, HW.out.1, hsz3, HR2, HB2⟩
                    case measure => simp [intOf]; omega
                  | succ q =>
                    have e1 : ((q + 1 : Nat) : Int) - 1 = q := by omega
                    rw [e1]
                    have hc := HBT.out q (by omega)
                    have hh := halve bb.toNat q
                    rw [← HX.out] at hh
                    have hq8 : (q : Int) < 8 := by omega
                    have hx2 : x < 128 := by
                      have := HX.out
                      have h2 : bb.toNat / 2 ^ (q + 1) ≤ bb.toNat / 2 ^ 1 := Nat.div_le_div_left (Nat.pow_le_pow_right (by decide) (by omega)) (by decide)
                      omega
                    cases htb : bb.toNat.testBit q with
                    | true =>
                      rw [htb] at hc hh
                      have HN : Hid (2 * x + 1 = bb.toNat / 2 ^ q) := Lib.hid (by rw [hh]; rfl)
                      clear hh htb e1
                      go_wp2_with fail
                      go_round
                      case rel => exact ⟨q, 2 * x + 1, by omega, rfl, by go_num, by omega, HN⟩
                      case measure => simp [intOf]
                    | false =>
                      rw [htb] at hc hh
                      have HN : Hid (2 * x = bb.toNat / 2 ^ q) := Lib.hid (by rw [hh]; rfl)
                      clear hh htb e1
                      go_wp2_with fail
                      go_round
                      case rel => exact ⟨q, 2 * x, by omega, rfl, by go_num, by omega, HN⟩
                      case measure => simp [intOf]
              · have htn : t = n := by omega
                have h8 : ¬ 8 * (t : Int) < (m : Int) := by have := HM.out; omega
                have HTX : Hid (L.take t = L) := Lib.hid (List.take_of_length_le (by rw [HLL.out]; omega))
                rw [HTX.out] at HO
                have hcv := HO.out.convert
                clear htn
                go_wp2_with fail
                go_ret
                exact ⟨rfl, HBL.out⟩
      · have hne : q ≠ m := fun e => h8 (by have := HM.out; omega)
        go_wp2_with fail
        go_round
        case rel => exact ⟨q + 1, by omega, by omega, by go_num⟩
        case measure => simp [intOf]; omega

end Go.Proofs.Ytnlfajikciijjaa

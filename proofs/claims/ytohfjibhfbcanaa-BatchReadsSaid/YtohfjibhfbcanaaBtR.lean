/- The walks of the document's Check, Encode and Entries. -/
import Derived.Test.YtohfjibhfbcanaaBtI
import Derived.Deep.RegionHeld3
import Derived.BigQuiet
namespace Go.Proofs.Ytohfjibhfbcanaa
open Go.RowKit
set_option linter.unusedVariables false
set_option linter.unusedSimpArgs false

theorem bad_yes (key val : ByteArray) (h : 0 < val.size) : Bt.badOb ⟨key, val, true⟩ = true := by
  have h3 : ¬ val.size = 0 := by omega
  simp only [Bt.badOb, h3, decide_false, Bool.not_false, Bool.and_true, Bool.or_true]
theorem bad_no (key val : ByteArray) (h1 : ¬ key.size = 0) (h : ¬ 0 < val.size) : Bt.badOb ⟨key, val, true⟩ = false := by
  have h3 : val.size = 0 := by omega
  simp only [Bt.badOb, h1, h3, decide_false, decide_true, Bool.not_true, Bool.and_false, Bool.or_false]

set_option maxHeartbeats 4000000 in
theorem refCheck_any (seq : Nat) (ao : Option Addr) (len cap : Nat) (ops : List Ob) (w : World) (hS : SeesO w (.slice ao len cap) ops) (hs : seq < 18446744073709551616) :
    Calls Try.prog 20 #[.agg #[.int .u64 seq, .slice ao len cap]] w (Gives (.int .i64 (Bt.chk seq ops)) w) := by
  obtain ⟨hlen, b, off, hc⟩ := hS.get
  have HB : Hid (Below w.heap.size w (w.alloc (.cells #[.int .u64 seq, .slice ao len cap] 43))) := Lib.hid ((Below.refl _ _).alloc (Nat.le_refl _) _)
  by_cases h16 : 16 < len
  · have HE : Hid (Bt.chk seq ops = 3) := Lib.hid (by
      have : Bt.isLong ops = true := by unfold Bt.isLong; rw [hlen]; simp [h16]
      unfold Bt.chk; rw [if_pos this])
    clear hc hlen hS
    go_enter Try.func20, Try.ntmps20
    go_wp2_with fail
    go_ret
    rw [HE.out]
    exact ⟨rfl, HB.out⟩
  · have HL3 : Hid (ops.any Bt.longOb = true → Bt.chk seq ops = 3) := Lib.hid (fun h => by
      have : Bt.isLong ops = true := by unfold Bt.isLong; rw [h]; simp
      unfold Bt.chk; rw [if_pos this])
    have HN1 : Hid (ops.any Bt.longOb = false → Bt.numbered seq len = false → Bt.chk seq ops = 1) := Lib.hid (fun h h2 => by
      have : Bt.isLong ops = false := by unfold Bt.isLong; rw [h, hlen]; simp; omega
      unfold Bt.chk; rw [this, hlen, h2]; simp)
    have HS1 : Hid (ops.any Bt.longOb = false → ops.any Bt.badOb = true → Bt.chk seq ops = 1) := Lib.hid (fun h h2 => by
      have : Bt.isLong ops = false := by unfold Bt.isLong; rw [h, hlen]; simp; omega
      unfold Bt.chk; rw [this]; unfold Bt.sound; rw [h2]; simp)
    have HS0 : Hid (ops.any Bt.longOb = false → ops.any Bt.badOb = false → Bt.numbered seq len = true → Bt.chk seq ops = 0) := Lib.hid (fun h h2 h3 => by
      have : Bt.isLong ops = false := by unfold Bt.isLong; rw [h, hlen]; simp; omega
      unfold Bt.chk; rw [this]; unfold Bt.sound; rw [h2, hlen, h3]; simp)
    have HC := Lib.hid hc; have HLEN := Lib.hid hlen
    clear hc hlen hS
    go_enter Try.func20, Try.ntmps20
    go_wp2_with fail
    have hd : (w.alloc (.cells #[.int .u64 seq, .slice ao len cap] 43)).cell? ⟨w.heap.size, 1, none⟩ = some (.slice ao len cap) := by rw [World.cell?_alloc_new]; rfl
    have hd0 : (w.alloc (.cells #[.int .u64 seq, .slice ao len cap] 43)).cell? ⟨w.heap.size, 0, none⟩ = some (.int .u64 seq) := by rw [World.cell?_alloc_new]; rfl
    generalize w.alloc (.cells #[.int .u64 seq, .slice ao len cap] 43) = W at *
    go_loopw [3] (fun i wr => ∃ k : Nat, k ≤ len ∧ i = .int .i64 k ∧ (∀ j, j < k → Bt.longOb (ops.getD j obd) = false) ∧ wr.cell? ⟨w.heap.size, 1, none⟩ = some (.slice ao len cap) ∧ wr.cell? ⟨w.heap.size, 0, none⟩ = some (.int .u64 seq) ∧ Below w.heap.size w wr) (fun i _ => len - (intOf i).toNat)
    case atStart => exact ⟨0, Nat.zero_le _, rfl, fun j hj => by omega, hd, hd0, HB.out⟩
    case round =>
      obtain ⟨k, hk, rfl, hno, hq, hq0, hbel⟩ := hrel
      clear hd hd0
      have HNO := Lib.hid hno; clear hno
      have hsz := hbel.size
      by_cases hlt : k < len
      · obtain ⟨rfl, hbl, hob⟩ := HC.out k hlt
        obtain ⟨c0, c1, c2⟩ := hob.below hbel hbl
        have hbr : b < wr.heap.size := by omega
        have hkl : k < ops.length := by rw [HLEN.out]; exact hlt
        have HLY : Hid (Bt.longOb (ops.getD k obd) = true → Bt.chk seq ops = 3) := Lib.hid (fun h => HL3.out (any_yes hkl h))
        have HAN : Hid (Bt.longOb (ops.getD k obd) = false → ∀ j, j < k + 1 → Bt.longOb (ops.getD j obd) = false) := Lib.hid (fun h j hj => by
          by_cases e : j = k
          · rw [e]; exact h
          · exact HNO.out j (by omega))
        clear hob hkl
        generalize ops.getD k obd = x at *
        obtain ⟨key, val, gone⟩ := x
        dsimp only at c0 c1 c2
        by_cases h1 : 64 < key.size
        · have HG : Hid (Bt.chk seq ops = 3) := Lib.hid (HLY.out (by simp [Bt.longOb, h1]))
          go_wp2_with fail
          go_ret
          rw [HG.out]
          exact ⟨rfl, hbel⟩
        · by_cases h2 : 512 < val.size
          · have HG : Hid (Bt.chk seq ops = 3) := Lib.hid (HLY.out (by simp [Bt.longOb, h2]))
            go_wp2_with fail
            go_ret
            rw [HG.out]
            exact ⟨rfl, hbel⟩
          · have HG := Lib.hid (HAN.out (by simp [Bt.longOb]; omega))
            clear HAN HLY
            go_wp2_with fail
            go_roundw
            case rel => exact ⟨k + 1, by omega, by go_num, HG.out, hq, hq0, hbel⟩
            case measure => simp [intOf]; omega
      · obtain rfl : k = len := by omega
        have HLF : Hid (ops.any Bt.longOb = false) := Lib.hid (any_no (fun j hj => HNO.out j (by rw [HLEN.out] at hj; omega)))
        clear HL3 HNO
        cases hnum : Bt.numbered seq k with
        | false =>
          have HG : Hid (Bt.chk seq ops = 1) := Lib.hid (HN1.out HLF.out hnum)
          have hnum' : k = 0 ∨ seq < 1 ∨ 9223372036854775809 < seq + k := by
            simp only [Bt.numbered, Bool.and_eq_false_iff, decide_eq_false_iff_not] at hnum
            omega
          clear hnum HS1 HS0 HN1
          by_cases z0 : k = 0
          · subst z0
            go_wp2_with fail
            go_ret
            rw [HG.out]
            exact ⟨rfl, hbel⟩
          · have z0i : ((k : Int) == 0) = false := by rw [beq_eq_false_iff_ne]; omega
            by_cases z1 : seq < 1
            · have z1i : (seq : Int) < 1 := by omega
              go_wp2_with fail
              go_ret
              rw [HG.out]
              exact ⟨rfl, hbel⟩
            · have z1i : ¬ (seq : Int) < 1 := by omega
              by_cases z2 : 9223372036854775808 < seq
              · have z2i : (9223372036854775808 : Int) < seq := by omega
                go_wp2_with fail
                go_ret
                rw [HG.out]
                exact ⟨rfl, hbel⟩
              · have z2i : ¬ (9223372036854775808 : Int) < seq := by omega
                have z3i : (9223372036854775809 : Int) < (seq : Int) + k := by omega
                have z4i : (seq : Int) + k ≤ 18446744073709551615 := by omega
                go_wp2_with fail
                go_ret
                rw [HG.out]
                exact ⟨rfl, hbel⟩
        | true =>
          have hnum' : k ≠ 0 ∧ 1 ≤ seq ∧ seq + k ≤ 9223372036854775809 := by
            simp only [Bt.numbered, Bool.and_eq_true, decide_eq_true_eq] at hnum
            omega
          have HB1 : Hid (ops.any Bt.badOb = true → Bt.chk seq ops = 1) := Lib.hid (HS1.out HLF.out)
          have HB0 : Hid (ops.any Bt.badOb = false → Bt.chk seq ops = 0) := Lib.hid (fun h => HS0.out HLF.out h hnum)
          have z0i : ((k : Int) == 0) = false := by rw [beq_eq_false_iff_ne]; omega
          have z1i : ¬ (seq : Int) < 1 := by omega
          have z2i : ¬ (9223372036854775808 : Int) < seq := by omega
          have z3i : ¬ (9223372036854775809 : Int) < (seq : Int) + k := by omega
          clear hnum hnum' HS1 HS0 HN1 HLF
          go_wp2_with fail
          go_loopw [4] (fun i wr2 => ∃ m : Nat, m ≤ k ∧ i = .int .i64 m ∧ (∀ j, j < m → Bt.badOb (ops.getD j obd) = false) ∧ wr2.cell? ⟨w.heap.size, 1, none⟩ = some (.slice ao k cap) ∧ Below w.heap.size w wr2) (fun i _ => k - (intOf i).toNat)
          case atStart => exact ⟨0, Nat.zero_le _, rfl, fun j hj => by omega, hq, hbel⟩
          case round =>
            obtain ⟨m, hm, rfl, hno, hq2, hbel2⟩ := hrel
            have HNO2 := Lib.hid hno; clear hno
            by_cases hlt2 : m < k
            · obtain ⟨rfl, hbl, hob⟩ := HC.out m hlt2
              obtain ⟨c0, c1, c2⟩ := hob.below hbel2 hbl
              have hsz2 := hbel2.size
              have hbr : b < wr.heap.size := by omega
              have hkl : m < ops.length := by rw [HLEN.out]; exact hlt2
              have HLY : Hid (Bt.badOb (ops.getD m obd) = true → Bt.chk seq ops = 1) := Lib.hid (fun h => HB1.out (any_yes hkl h))
              have HAN : Hid (Bt.badOb (ops.getD m obd) = false → ∀ j, j < m + 1 → Bt.badOb (ops.getD j obd) = false) := Lib.hid (fun h j hj => by
                by_cases e : j = m
                · rw [e]; exact h
                · exact HNO2.out j (by omega))
              clear hob hkl
              generalize ops.getD m obd = x at *
              obtain ⟨key, val, gone⟩ := x
              dsimp only at c0 c1 c2
              by_cases h1 : key.size = 0
              · have HG : Hid (Bt.chk seq ops = 1) := Lib.hid (HLY.out (by simp [Bt.badOb, h1]))
                have h1i : ((key.size : Int) == 0) = true := by rw [h1]; rfl
                go_wp2_with fail
                go_ret
                rw [HG.out]
                exact ⟨rfl, hbel2⟩
              · have h1i : ((key.size : Int) == 0) = false := by rw [beq_eq_false_iff_ne]; omega
                cases gone with
                | false =>
                  have HG := Lib.hid (HAN.out (by simp [Bt.badOb, h1]))
                  clear HAN HLY
                  go_wp2_with fail
                  go_roundw
                  case rel => exact ⟨m + 1, by omega, by go_num, HG.out, hq2, hbel2⟩
                  case measure => simp [intOf]; omega
                | true =>
                  by_cases h2 : 0 < val.size
                  · have HG : Hid (Bt.chk seq ops = 1) := Lib.hid (HLY.out (bad_yes key val h2))
                    have h2i : (0 : Int) < val.size := by omega
                    go_wp2_with fail
                    go_ret
                    rw [HG.out]
                    exact ⟨rfl, hbel2⟩
                  · have HG := Lib.hid (HAN.out (bad_no key val h1 h2))
                    have h2i : ¬ (0 : Int) < val.size := by omega
                    clear HAN HLY
                    go_wp2_with fail
                    go_roundw
                    case rel => exact ⟨m + 1, by omega, by go_num, HG.out, hq2, hbel2⟩
                    case measure => simp [intOf]; omega
            · obtain rfl : m = k := by omega
              have HG : Hid (Bt.chk seq ops = 0) := Lib.hid (HB0.out (any_no (fun j hj => HNO2.out j (by rw [HLEN.out] at hj; omega))))
              go_wp2_with fail
              go_ret
              rw [HG.out]
              exact ⟨rfl, hbel2⟩

end Go.Proofs.Ytohfjibhfbcanaa

/- Texts on the program's own functions, several in one: BlD. -/
import Derived.Test.YtphoihkbdogkhaaDoorPk11
import Derived.Test.YtphoihkbdogkhaaDoorPk12

/- The walk of bloom.Make. -/
namespace Go.Proofs.YtphoihkbdogkhaaDoor
set_option maxRecDepth 100000
open Go.RowKit

/-- What keys are as lists. -/
def kl (ss : List ByteArray) : List (List UInt8) := ss.map fun s => s.data.toList
theorem kl_length (ss : List ByteArray) : (kl ss).length = ss.length := by simp [kl]
theorem kl_snoc {ss : List ByteArray} {k : Nat} (h : k < ss.length) : kl (ss.take (k + 1)) = kl (ss.take k) ++ [(ss.getD k ByteArray.empty).data.toList] := by
  rw [List.take_succ_eq_append_getElem h, getD_at h]; unfold kl; rw [List.map_append, List.map_cons, List.map_nil]

/-- The row that Make lays. -/
theorem make_row (w : World) (n : Nat) (hn : n ≤ 1000000000) :
    ∃ w', (Instr.makeSlice 34 (.int .i64 n) (.int .i64 n)).run Tryd.prog w = .ok (.slice (some ⟨w.heap.size, 0, none⟩) n n) w' ∧ Row w' w.heap.size (List.replicate n 0) ∧ w.heap.size < w'.heap.size ∧ Below w.heap.size w w' := by
  obtain ⟨i0, hi, hz0, hz1, hz2⟩ := info_parts info_u8
  have h := run_make (P := Tryd.prog) w 34 5 i0 (.int .u8 0) Tryd.underlying34 hi hz0 .i64 .i64 (n : Int) (n : Int) (by omega) (by omega) (by rw [hz2]; omega) (by omega)
  rw [hz1, Nat.mul_one, Int.toNat_natCast] at h
  refine ⟨_, h, fun i hi => ?_, by simp, (Below.refl _ _).alloc (Nat.le_refl _) _⟩
  have hi' : i < n := by simpa using hi
  have hh := heap_alloc_new w (.cells (madeCells (Value.int .u8 0).cells n) 5)
  refine ⟨?_, unfrozen_of hh i⟩
  rw [cell_of hh]
  simp [madeCells, Value.cells, hi', Nat.mod_one]

/-- A byte with one bit more, as the walk makes it. -/
theorem or_walk (b : UInt8) (k : Nat) (hk : k < 8) : bits .or .u8 (b.toNat : Int) (2 ^ k % 256) = ((Bl.put1 b k).toNat : Int) := by
  have h2 : 2 ^ k < 2 ^ 8 := Nat.pow_lt_pow_right (by decide) hk
  have c : ((2 : Int) ^ k) = ((2 ^ k : Nat) : Int) := (Int.natCast_pow 2 k).symm
  have e : ((2 : Int) ^ k % 256) = ((2 ^ k : Nat) : Int) := by rw [c]; generalize 2 ^ k = m at *; omega
  rw [e, u8_or_nat _ _ b.toNat_lt h2, Bl.put1_nat b k hk]

set_option maxHeartbeats 2000000 in
theorem make_any (ao : Option Addr) (len cap : Nat) (ss : List ByteArray) (w : World) (hV : SeesS w (.slice ao len cap) ss) (hz : ∀ s ∈ ss, s.size ≤ 9223372036854775807) (hl : len ≤ 1000000) :
    Calls Tryd.prog 50 #[.slice ao len cap] w (Gives (.string ⟨(Bl.mk (kl ss)).toArray⟩) w) := by
  obtain ⟨hlen, b, off, hcell⟩ := hV.get
  clear hV
  have hsz := Bl.size_lt len
  have hszp := Bl.size_pos len
  obtain ⟨n, hn⟩ : ∃ n, n = Bl.size len := ⟨_, rfl⟩
  have hn1 : n ≤ 100000000 := by omega
  have hn0 : 0 < n := by omega
  rw [← hn] at hsz hszp
  have HN := Lib.hid hn
  obtain ⟨w0, hmk, hrow0, hlt0, hb0⟩ := make_row w n (by omega)
  have HC := Lib.hid hcell; clear hcell
  have HZ := Lib.hid hz; clear hz
  have HLEN := Lib.hid hlen; clear hlen
  have HB0 := Lib.hid hb0; clear hb0
  have HR0 := Lib.hid hrow0; clear hrow0
  clear hn hsz hszp
  go_enter Tryd.func50, Tryd.ntmps50
  go_wp2_with fail
  refine (sizeOf_any _ _ (by omega)).mono ?_
  rintro e w' ⟨rfl, rfl⟩
  rw [← HN.out]
  go_wp2_with fail
  go_loopw [14] (fun i wr => ∃ k : Nat, k ≤ len ∧ i = .int .i64 k ∧ Below w.heap.size w wr ∧ w.heap.size < wr.heap.size ∧ Row wr w.heap.size (Bl.addk (List.replicate n 0) (kl (ss.take k)))) (fun i _ => len - (intOf i).toNat)
  case atStart => exact ⟨0, Nat.zero_le _, rfl, HB0.out, hlt0, HR0.out⟩
  case round =>
    obtain ⟨k, hk, rfl, hbel, hsz, hrow⟩ := hrel
    have hll := Bl.addk_length (kl (ss.take k)) (List.replicate n 0)
    rw [List.length_replicate] at hll
    by_cases hlt : k < len
    · obtain ⟨ha, hb, hc⟩ := HC.out k hlt
      have HS : Hid ((ss.getD k ByteArray.empty).size ≤ 9223372036854775807) := by
        have hk' : k < ss.length := by have := HLEN.out; omega
        rw [getD_at hk']; exact Lib.hid (HZ.out _ (List.getElem_mem hk'))
      have HU : Hid (Bl.addk (List.replicate n 0) (kl (ss.take (k + 1))) = Bl.adds (Bl.addk (List.replicate n 0) (kl (ss.take k))) (Bl.hash (ss.getD k ByteArray.empty).data.toList) 6) := by
        have hk' : k < ss.length := by have := HLEN.out; omega
        rw [kl_snoc hk', Bl.addk_snoc]; exact Lib.hid rfl
      have hcw := (hbel.cell (p := ⟨b, off + k, none⟩) hb).trans hc
      subst ha
      generalize ss.getD k ByteArray.empty = s at *
      generalize Bl.addk (List.replicate n 0) (kl (ss.take k)) = l at *
      have HROW := Lib.hid hrow; have HBEL := Lib.hid hbel; have HLL := Lib.hid hll
      clear hrow hbel hc hll
      obtain ⟨h, HH⟩ : ∃ h, Hid (h = Bl.hash s.data.toList) := ⟨_, Lib.hid rfl⟩
      obtain ⟨R, HR⟩ : ∃ R, Hid (R = (prow h (8 * n) 6).toArray) := ⟨_, Lib.hid rfl⟩
      go_wp2_with fail
      refine (probesOf_any s n _ HS.out hn0 (by omega)).mono ?_
      rintro e w1 ⟨rfl, hb1⟩
      rw [← HH.out, ← HR.out]
      have HB1 := Lib.hid (hb1.mono (Nat.le_of_lt hsz))
      have HR1 := Lib.hid (HROW.out.below hsz hb1)
      have hsz1 : w.heap.size < w1.heap.size := Nat.lt_of_lt_of_le hsz hb1.size
      clear hb1
      obtain ⟨W0, hW0⟩ : ∃ W0, W0 = wr := ⟨_, rfl⟩
      subst hW0
      go_wp2_with fail
      go_loopw [22] (fun i wr => ∃ j : Nat, j ≤ 6 ∧ i = .int .i64 j ∧ Below w.heap.size w wr ∧ w.heap.size < wr.heap.size ∧ Row wr w.heap.size (Bl.adds l h j)) (fun i _ => 6 - (intOf i).toNat)
      case atStart => exact ⟨0, by omega, rfl, HBEL.out.trans HB1.out, hsz1, HR1.out⟩
      case round =>
        obtain ⟨j, hj, rfl, hbel2, hsz2, hrow2⟩ := hrel
        by_cases hlt2 : j < 6
        · have hix := index_probe h (8 * n) j hlt2
          rw [← HR.out] at hix
          have hp := Bl.pr_lt h (8 * n) j (by omega)
          obtain ⟨p, HP⟩ : ∃ p, Hid (p = Bl.pr h (8 * n) j) := ⟨_, Lib.hid rfl⟩
          rw [← HP.out] at hix hp
          have hp8 : p / 8 < n := by omega
          have hal : (Bl.adds l h j).length = n := by rw [Bl.adds_length]; exact HLL.out
          obtain ⟨bb, hbb, hc0, hf0⟩ : ∃ bb : UInt8, Hid (bb = (Bl.adds l h j).getD (p / 8) 0) ∧ wr.cell? ⟨w.heap.size, p / 8, none⟩ = some (.int .u8 (bb.toNat : Int)) ∧ wr.frozen? ⟨w.heap.size, p / 8, none⟩ = false := by
            have := hrow2 (p / 8) (by omega)
            refine ⟨_, Lib.hid rfl, ?_, this.2⟩
            rw [List.getD_eq_getElem?_getD, List.getElem?_eq_getElem (by omega)]; exact this.1
          have hb8 : bb.toNat < 256 := bb.toNat_lt
          have HROW2 := Lib.hid hrow2; have HBEL2 := Lib.hid hbel2
          clear hrow2 hbel2
          clear hal
          have HOR : Hid (bits .or .u8 (bb.toNat : Int) (2 ^ (p % 8) % 256) = ((Bl.put1 bb (p % 8)).toNat : Int)) := Lib.hid (or_walk bb _ (Nat.mod_lt _ (by decide)))
          have HSET : Hid (Row (wr.setCell ⟨w.heap.size, p / 8, none⟩ (.int .u8 ((Bl.put1 bb (p % 8)).toNat : Int))) w.heap.size (Bl.adds l h (j + 1))) := Lib.hid (by
            have := HROW2.out.set (p / 8) (Bl.put1 bb (p % 8))
            unfold Bl.adds Bl.set1
            rw [HLL.out, ← HP.out, ← hbb.out]
            exact this)
          go_wp2_with fail
          go_roundw
          case rel =>
            rw [HOR.out]
            exact ⟨j + 1, by omega, by go_num, HBEL2.out.setCell (p := ⟨w.heap.size, p / 8, none⟩) (Nat.le_refl _) _, by simpa using hsz2, HSET.out⟩
          case measure => simp [intOf]; omega
        · obtain rfl : j = 6 := by omega
          have HROW2 := Lib.hid hrow2; have HBEL2 := Lib.hid hbel2
          clear hrow2 hbel2
          go_wp2_with fail
          go_roundw
          case rel => exact ⟨k + 1, by omega, by go_num, HBEL2.out, hsz2, by rw [HU.out, ← HH.out]; exact HROW2.out⟩
          case measure => simp [intOf]; omega
    · obtain rfl : k = len := by omega
      have HE : Hid (Bl.addk (List.replicate n 0) (kl (ss.take k)) = Bl.mk (kl ss)) := Lib.hid (by
        rw [List.take_of_length_le (by have := HLEN.out; omega)]
        unfold Bl.mk
        rw [kl_length, HLEN.out, ← HN.out])
      rw [HE.out] at hrow hll
      generalize Bl.mk (kl ss) = M at *
      have htx := hrow.text n
      rw [hll] at htx
      have HBEL := Lib.hid hbel
      clear hrow hbel hll HE
      go_wp2_with fail
      go_ret
      exact ⟨rfl, HBEL.out⟩

end Go.Proofs.YtphoihkbdogkhaaDoor

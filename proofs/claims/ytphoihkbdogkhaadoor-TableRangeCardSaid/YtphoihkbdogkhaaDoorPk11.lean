/- Texts on the program's own functions, several in one: BlB, BlC. -/
import Derived.Test.YtphoihkbdogkhaaDoorPk10
import Derived.Deep.Draws
import Derived.Deep.WholeRow

/- The walk of bloom.probesOf. -/
namespace Go.Proofs.YtphoihkbdogkhaaDoor
open Go.RowKit

theorem heap_lt {w : World} {b : Nat} {o : Obj} (h : w.heap[b]? = some o) : b < w.heap.size := (Array.getElem?_eq_some_iff.1 h).1
theorem cell_of {w : World} {b : Nat} {cs : Array Value} {t : TypeId} {k : Nat} (h : w.heap[b]? = some (.cells cs t (0, 0))) : w.cell? ⟨b, k, none⟩ = cs[k]? := by
  simp [World.cell?, h]
theorem unfrozen_of {w : World} {b : Nat} {cs : Array Value} {t : TypeId} (h : w.heap[b]? = some (.cells cs t (0, 0))) (k : Nat) : w.frozen? ⟨b, k, none⟩ = false := by
  simp [World.frozen?, h]

theorem heap_new2' (w : World) (o o2 : Obj) : ((w.alloc o).alloc o2).heap[w.heap.size + 1]? = some o2 := by
  have := heap_alloc_new (w.alloc o) o2
  rw [World.size_alloc] at this
  exact this

/-- The array of probes, of which so many are told. -/
def pcell (h m k i : Nat) : Value := .int .u64 ((if i < k then Bl.pr h m i else 0 : Nat) : Int)
def prow (h m k : Nat) : List Value := (List.range 6).map (pcell h m k)
theorem prow_get (h m k i : Nat) : (prow h m k)[i]? = if i < 6 then some (pcell h m k i) else none := by
  unfold prow
  rw [List.getElem?_map]
  by_cases hi : i < 6
  · rw [List.getElem?_range hi, if_pos hi]; rfl
  · rw [List.getElem?_eq_none (by rw [List.length_range]; omega), if_neg hi]; rfl
theorem prow_length (h m k : Nat) : (prow h m k).length = 6 := by simp [prow]
theorem prow_set (h m k : Nat) (hk : k < 6) : (prow h m k).toArray.setIfInBounds k (.int .u64 (Bl.pr h m k : Int)) = (prow h m (k + 1)).toArray := by
  rw [List.setIfInBounds_toArray]
  congr 1
  apply List.ext_getElem?
  intro i
  rw [List.getElem?_set, prow_length, prow_get, prow_get]
  unfold pcell
  by_cases e : k = i
  · subst e; simp [hk]
  · rw [if_neg e]
    by_cases h3 : i < k
    · rw [if_pos h3, if_pos (show i < k + 1 by omega)]
    · rw [if_neg h3, if_neg (show ¬ i < k + 1 by omega)]
theorem prow_new (h m : Nat) : prow h m 0 = List.replicate 6 (.int .u64 0) := rfl
theorem prow_cell {w : World} {b h m k : Nat} {t : TypeId} (hb : w.heap[b]? = some (.cells (prow h m k).toArray t (0, 0))) (j : Nat) (hj : j < 6) : w.cell? ⟨b, j, none⟩ = some (pcell h m k j) := by
  rw [cell_of hb]
  simp [prow, hj]
/-- A row of six noughts into which the probes are stored, one by one. -/
def set6 (w : World) (b : Nat) (p : Nat → Value) : World := (((((w.setCell ⟨b, 0, none⟩ (p 0)).setCell ⟨b, 1, none⟩ (p 1)).setCell ⟨b, 2, none⟩ (p 2)).setCell ⟨b, 3, none⟩ (p 3)).setCell ⟨b, 4, none⟩ (p 4)).setCell ⟨b, 5, none⟩ (p 5)
def pv (h m i : Nat) : Value := .int .u64 (Bl.pr h m i : Int)
theorem set6_row {w : World} {b h m : Nat} {t : TypeId} (hb : w.heap[b]? = some (.cells (prow h m 0).toArray t (0, 0))) : (set6 w b (pv h m)).heap[b]? = some (.cells (prow h m 6).toArray t (0, 0)) := by
  have h0 := heap_setCell_same _ _ 0 _ _ (pv h m 0) hb
  have h1 := heap_setCell_same _ _ 1 _ _ (pv h m 1) h0
  have h2 := heap_setCell_same _ _ 2 _ _ (pv h m 2) h1
  have h3 := heap_setCell_same _ _ 3 _ _ (pv h m 3) h2
  have h4 := heap_setCell_same _ _ 4 _ _ (pv h m 4) h3
  exact heap_setCell_same _ _ 5 _ _ (pv h m 5) h4
theorem set6_below {w0 w : World} {b : Nat} {p : Nat → Value} (h : Below b w0 w) : Below b w0 (set6 w b p) :=
  (((((h.setCell (p := ⟨b, 0, none⟩) (Nat.le_refl _) _).setCell (p := ⟨b, 1, none⟩) (Nat.le_refl _) _).setCell (p := ⟨b, 2, none⟩) (Nat.le_refl _) _).setCell (p := ⟨b, 3, none⟩) (Nat.le_refl _) _).setCell (p := ⟨b, 4, none⟩) (Nat.le_refl _) _).setCell (p := ⟨b, 5, none⟩) (Nat.le_refl _) _
theorem info_probes : (Tryd.prog.info? 120).map (·.size) = some 6 := by kernel_rfl

set_option maxHeartbeats 1000000 in
theorem probesOf_any (s : ByteArray) (n : Nat) (w : World) (hs : s.size ≤ 9223372036854775807) (h0 : 0 < n) (hn : n ≤ 1000000000) :
    Calls Tryd.prog 66 #[.string s, .int .i64 n] w fun e w' => e = .returned (.agg (prow (Bl.hash s.data.toList) (8 * n) 6).toArray) ∧ Below w.heap.size w w' := by
  have HH := Lib.hid (Bl.hash_lt s.data.toList)
  generalize hh : Bl.hash s.data.toList = h at *
  have HHH := Lib.hid hh; clear hh
  obtain ⟨ST, hst, HST⟩ : ∃ ST : Nat, bits .or .u32 ((h : Int) / 4294967296 % 4294967296) 1 = (ST : Int) ∧ Hid (ST = Bl.strd h) := by
    have hh := HH.out
    refine ⟨Bl.strd h, ?_, Lib.hid rfl⟩
    have := u32_or_nat (h / 4294967296) 1 (by omega) (by omega)
    rw [show (h : Int) / 4294967296 % 4294967296 = ((h / 4294967296 : Nat) : Int) by omega]
    exact this
  obtain ⟨A, ha, HA, HA1⟩ : ∃ A : Nat, (h : Int) % 4294967296 = (A : Int) ∧ Hid (A = Bl.at0 h) ∧ Hid (A < 4294967296) := ⟨h % 4294967296, by omega, Lib.hid rfl, Lib.hid (Nat.mod_lt _ (by decide))⟩
  obtain ⟨R, hR⟩ : ∃ R, R = (prow h (8 * n) 6).toArray := ⟨_, rfl⟩
  rw [← hR]
  have HRR := Lib.hid hR; clear hR
  go_enter Tryd.func66, Tryd.ntmps66
  go_wp2_with fail
  refine (hash_any _ _ hs).mono ?_
  rintro e w' ⟨rfl, rfl⟩
  rw [HHH.out]
  go_wp2_with fail
  go_loopw [6, 22] (fun a i wr => ∃ (k q : Nat), k ≤ 6 ∧ i = .int .i64 k ∧ a = .int .u32 q ∧ q < 4294967296 ∧ Hid (q = (Bl.at0 h + k * ST) % 4294967296) ∧ Below w.heap.size w wr ∧ wr.heap[w.heap.size]? = some (.cells (prow h (8 * n) 0).toArray 120 (0, 0)) ∧ wr.heap[w.heap.size + 1]? = some (.cells (prow h (8 * n) k).toArray 120 (0, 0))) (fun _ i _ => 6 - (intOf i).toNat)
  case atStart =>
    refine ⟨0, A, by omega, rfl, by first | rfl | rw [ha], HA1.out, ?_, ((Below.refl _ _).alloc (Nat.le_refl _) _).alloc (by simp) _, ?_, ?_⟩
    · rw [HA.out]; exact Lib.hid (by unfold Bl.at0; rw [Nat.zero_mul, Nat.add_zero, Nat.mod_mod])
    · rw [heap_alloc_old _ _ (by simp), heap_alloc_new, prow_new]; rfl
    · rw [heap_new2', prow_new]; rfl
  case round =>
    obtain ⟨k, q, hk, rfl, rfl, hq, HQ, hbel, hres, hrow⟩ := hrel
    have hsz := hbel.size
    by_cases hlt : k < 6
    · have hv0 := prow_cell hrow k hlt
      have hv1 := unfrozen_of hrow k
      have HE : Hid (∀ wz, ((q : Int) % ((n : Int) * 8)) = (Bl.pr h (8 * n) k : Int) ∧ wz = wr.setCell ⟨w.heap.size + 1, k, none⟩ (.int .u64 ((q : Int) % ((n : Int) * 8))) → Below w.heap.size w wz ∧ wz.heap[w.heap.size]? = some (.cells (prow h (8 * n) 0).toArray 120 (0, 0)) ∧ wz.heap[w.heap.size + 1]? = some (.cells (prow h (8 * n) (k + 1)).toArray 120 (0, 0))) := Lib.hid (by
        rintro wz ⟨he, rfl⟩
        refine ⟨hbel.setCell (p := ⟨w.heap.size + 1, k, none⟩) (by simp) _, ?_, ?_⟩
        · rw [Below.heap_setCell _ _ _ _ (by simp)]; exact hres
        · rw [he, ← prow_set _ _ _ hlt]
          exact heap_setCell_same wr (w.heap.size + 1) k _ _ _ hrow)
      have HP : Hid (((q : Int) % ((n : Int) * 8)) = (Bl.pr h (8 * n) k : Int)) := Lib.hid (by
        have := HQ.out
        unfold Bl.pr
        rw [← HST.out, ← this, Nat.mul_comm 8 n, Int.natCast_emod, Int.natCast_mul]
        rfl)
      have HN : Hid ((q + ST) % 4294967296 = (Bl.at0 h + (k + 1) * ST) % 4294967296) := Lib.hid (by
        rw [HQ.out, Nat.add_mul, Nat.one_mul, ← Nat.add_assoc, Nat.mod_add_mod])
      clear hbel hres hrow
      go_wp2_with fail
      go_roundw
      case rel => exact ⟨k + 1, (q + ST) % 4294967296, by omega, by go_num, by rw [Int.natCast_emod, Int.natCast_add]; rfl, by omega, HN, HE.out _ ⟨HP.out, rfl⟩⟩
      case measure => simp [intOf]; omega
    · obtain rfl : k = 6 := by omega
      have hc := fun j hj => prow_cell hrow j hj
      have hd := fun j hj => prow_cell hres j hj
      have f := unfrozen_of hres
      have f0 := f 0; have f1 := f 1; have f2 := f 2; have f3 := f 3; have f4 := f 4; have f5 := f 5
      have HW : Hid (∀ wz, wz = set6 wr w.heap.size (pv h (8 * n)) → (loadVar 120 ⟨w.heap.size, 0, none⟩).run Tryd.prog wz = .ok (.agg (prow h (8 * n) 6).toArray) wz ∧ Below w.heap.size w wz) := Lib.hid (by
        rintro wz rfl
        exact ⟨run_loadVar_row _ _ 120 _ _ (0, 0) _ (set6_row hres) Tryd.underlying120 rfl info_probes, set6_below hbel⟩)
      unfold set6 pv at HW
      unfold pcell at hc hd
      have c0 := hc 0 (by omega); have c1 := hc 1 (by omega); have c2 := hc 2 (by omega); have c3 := hc 3 (by omega); have c4 := hc 4 (by omega); have c5 := hc 5 (by omega)
      have d0 := hd 0 (by omega); have d1 := hd 1 (by omega); have d2 := hd 2 (by omega); have d3 := hd 3 (by omega); have d4 := hd 4 (by omega); have d5 := hd 5 (by omega)
      rw [← HRR.out] at HW
      clear hc hd f
      have HB := Lib.hid hbel; have HRS := Lib.hid hres; have HRW := Lib.hid hrow
      clear hbel hres hrow
      go_wp2_with fail
      obtain ⟨hl, hb⟩ := HW.out _ rfl
      refine bodyPost_ret (v := .agg R) ?_ rfl ⟨rfl, hb⟩
      simp [results, Tryd.results66, asAddr, hl]

end Go.Proofs.YtphoihkbdogkhaaDoor

/- The walk of bloom.May. -/
namespace Go.Proofs.YtphoihkbdogkhaaDoor
open Go.RowKit

theorem list_nil {s : ByteArray} (h : s.size = 0) : s.data.toList = [] := List.eq_nil_of_length_eq_zero (by rw [list_size]; exact h)
theorem list_get (s : ByteArray) (i : Nat) (h : i < s.size) : s.data.toList.getD i 0 = s[i] := by
  rw [List.getD_eq_getElem?_getD, List.getElem?_eq_getElem (by rw [list_size]; exact h)]; rfl

/-- A probe of the array. -/
theorem index_probe (h m k : Nat) (hk : k < 6) : ∀ w : World, (Instr.index 120 (.agg (prow h m 6).toArray) (.int .i64 k)).run Tryd.prog w = .ok (.int .u64 (Bl.pr h m k : Int)) w := by
  intro w
  have h0 : (0 : Int) ≤ k := by omega
  have e : (prow h m 6).toArray[k]? = some (.int .u64 (Bl.pr h m k : Int)) := by
    rw [List.getElem?_toArray, prow_get, if_pos hk]; unfold pcell; rw [if_pos hk]
  rw [List.getElem?_toArray] at e
  simp [Instr.index, run_underlying Tryd.underlying120, asIntOf, h0, hk, e, go_sem]

theorem index_byte_u64 (s : ByteArray) (p : Nat) (h : p / 8 < s.size) : ∀ w : World, (Instr.index 9 (.string s) (.int .u64 ((p : Int) / 8))).run Tryd.prog w = .ok (.int .u8 (s[p / 8]'h).toNat) w := by
  intro w
  rw [run_index_string _ _ _ _ _ Tryd.underlying9]
  have h1 : 0 ≤ (p : Int) / 8 ∧ (p : Int) / 8 < (s.size : Int) := by omega
  have e2 : ((p : Int) / 8).toNat = p / 8 := by omega
  rw [dif_pos h1]
  simp only [e2]

/-- The bit of a byte, as the walk asks it. -/
theorem bit_walk (b : UInt8) (k : Nat) : bits .and .u8 ((b.toNat : Int) / 2 ^ k) 1 = ((if b.toNat.testBit k then 1 else 0 : Nat) : Int) := by
  have hb : b.toNat < 256 := b.toNat_lt
  have e : ((b.toNat : Int) / 2 ^ k) = ((b.toNat / 2 ^ k : Nat) : Int) := by rw [Int.natCast_ediv, Int.natCast_pow]; rfl
  rw [e, show (1 : Int) = ((1 : Nat) : Int) from rfl, u8_and_nat _ 1 (Nat.lt_of_le_of_lt (Nat.div_le_self _ _) hb) (by omega), Nat.and_one_is_mod, Nat.testBit_eq_decide_div_mod_eq]
  rcases Nat.mod_two_eq_zero_or_one (b.toNat / 2 ^ k) with h | h <;> simp [h]

set_option maxHeartbeats 1000000 in
theorem may_any (f s : ByteArray) (w : World) (hf : f.size ≤ 1000000000) (hs : s.size ≤ 9223372036854775807) :
    Calls Tryd.prog 37 #[.string f, .string s] w (Gives (.bool (Bl.may f.data.toList s.data.toList)) w) := by
  by_cases h0 : f.size = 0
  · have hl := list_nil h0
    have hm : Bl.may f.data.toList s.data.toList = false := by unfold Bl.may; rw [hl]; rfl
    have hft : f.toList = [] := by rw [ByteArray.toList_eq]; exact hl
    rw [hm]
    clear hl hm
    go_enter Tryd.func37, Tryd.ntmps37
    go_wp2_with fail
    go_ret
    exact ⟨rfl, Below.refl _ _⟩
  · have hft : f.toList.isEmpty = false := by rw [ByteArray.toList_eq, ← Bool.not_eq_true, List.isEmpty_iff]; intro e; exact h0 (by rw [← list_size, e]; rfl)
    obtain ⟨h, HH⟩ : ∃ h, Hid (h = Bl.hash s.data.toList) := ⟨_, Lib.hid rfl⟩
    have hpos : 0 < f.size := by omega
    clear h0
    obtain ⟨R, HR⟩ : ∃ R, Hid (R = (prow h (8 * f.size) 6).toArray) := ⟨_, Lib.hid rfl⟩
    go_enter Tryd.func37, Tryd.ntmps37
    go_wp2_with fail
    refine (probesOf_any s f.size _ hs hpos hf).mono ?_
    rintro e w1 ⟨rfl, hb1⟩
    rw [← HH.out, ← HR.out]
    have HB := Lib.hid hb1; clear hb1
    go_wp2_with fail
    go_loop [13] (fun i => ∃ k : Nat, k ≤ 6 ∧ i = .int .i64 k ∧ Hid (∀ n, n < k → Bl.bit f.data.toList (Bl.pr h (8 * f.size) n) = true)) (fun i => 6 - (intOf i).toNat)
    case atStart => exact ⟨0, by omega, rfl, fun n hn => by omega⟩
    case round =>
      obtain ⟨k, hk, rfl, HK⟩ := hrel
      by_cases hlt : k < 6
      · have hix := index_probe h (8 * f.size) k hlt
        rw [← HR.out] at hix
        have hp := Bl.pr_lt h (8 * f.size) k (by omega)
        obtain ⟨p, HP⟩ : ∃ p, Hid (p = Bl.pr h (8 * f.size) k) := ⟨_, Lib.hid rfl⟩
        rw [← HP.out] at hix hp
        have hp8 : p / 8 < f.size := by omega
        have hb := bit_walk f[p / 8] (p % 8)
        have HT : Hid (Bl.bit f.data.toList p = f[p / 8].toNat.testBit (p % 8)) := Lib.hid (by unfold Bl.bit; rw [list_get f _ hp8])
        generalize ht : f[p / 8].toNat.testBit (p % 8) = t at *
        have hx : ∀ w : World, (Instr.index 9 (.string f) (.int .u64 ((p : Int) / 8))).run Tryd.prog w = .ok (.int .u8 (f[p / 8]'hp8).toNat) w := index_byte_u64 f p hp8
        generalize f[p / 8].toNat = B at *
        clear ht
        cases t with
        | true =>
          have hb2 : (bits .and .u8 ((B : Int) / 2 ^ (p % 8)) 1 == 0) = false := by rw [hb]; rfl
          clear hb
          have HN : Hid (∀ n, n < k + 1 → Bl.bit f.data.toList (Bl.pr h (8 * f.size) n) = true) := Lib.hid (fun n hn => by
            rcases Nat.lt_succ_iff_lt_or_eq.1 hn with h2 | rfl
            · exact HK.out n h2
            · rw [← HP.out]; exact HT.out)
          go_wp2_with fail
          go_round
          case rel => exact ⟨k + 1, by omega, by go_num, HN⟩
          case measure => simp [intOf]; omega
        | false =>
          have hb2 : (bits .and .u8 ((B : Int) / 2 ^ (p % 8)) 1 == 0) = true := by rw [hb]; rfl
          clear hb
          have HM : Hid (Bl.may f.data.toList s.data.toList = false) := Lib.hid (by
            rw [← Bool.not_eq_true, Bl.may_iff, ← HH.out, list_size]
            rintro ⟨_, hall⟩
            have := hall k hlt
            rw [← HP.out, HT.out] at this
            cases this)
          go_wp2_with fail
          go_ret
          rw [HM.out]
          exact ⟨rfl, HB.out⟩
      · obtain rfl : k = 6 := by omega
        have HM : Hid (Bl.may f.data.toList s.data.toList = true) := Lib.hid (by
          rw [Bl.may_iff, ← HH.out, list_size]
          exact ⟨fun e => by have := list_size f; rw [e] at this; simp at this; omega, HK.out⟩)
        go_wp2_with fail
        go_ret
        rw [HM.out]
        exact ⟨rfl, HB.out⟩

end Go.Proofs.YtphoihkbdogkhaaDoor

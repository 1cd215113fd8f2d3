/- The walk of disk.turn over a row of bytes that lies in memory. -/
import Derived.Test.YtefoijamedciiaaDkD
import Derived.BigRegion
namespace Go.Proofs.Ytefoijamedciiaa
open Go.RowKit Go.Maps
open Dk (Dir Chg Disk File Str)

/-- Bytes lie in a block from a place on. -/
def Lie (w : World) (g off : Nat) (t : Str) (cur : Array Value) : Prop :=
  w.heap[g]? = some (.cells cur 5 (0, 0)) ∧ off + t.length ≤ cur.size ∧ ∀ j u, t[j]? = some u → cur[off + j]? = some (.int .u8 (u.toNat : Int))

theorem tmod_bounds (x : Int) (m : Nat) (hm : 0 < m) : -(m : Int) < x.tmod m ∧ x.tmod m < m := by
  have h1 := Int.tmod_lt_of_pos x (b := (m : Int)) (by omega)
  have h2 := Int.lt_tmod_of_pos x (b := (m : Int)) (by omega)
  exact ⟨h2, h1⟩
theorem tmod_round (x : Int) (m : Nat) (hm : 0 < m) : (x.tmod m + m).tmod m = ((x % (m : Int)).toNat : Int) := by
  obtain ⟨h1, h2⟩ := tmod_bounds x m hm
  have h3 := Int.emod_nonneg x (b := (m : Int)) (by omega)
  rw [Int.toNat_of_nonneg h3, Int.tmod_eq_emod_of_nonneg (by omega), Int.add_emod_right]
  have h4 := Int.tmod_eq_emod (a := x) (b := (m : Int))
  rw [h4]
  split
  · simp
  · have : ((m : Int).natAbs : Int) = m := by simp
    rw [this, Int.sub_emod, Int.emod_self, Int.sub_zero, Int.emod_emod_of_dvd _ (Int.dvd_refl _), Int.emod_emod_of_dvd _ (Int.dvd_refl _)]

def turnK (t : Str) (a m k : Nat) : Str := t.mapIdx fun j x => if a ≤ j ∧ j < a + k then x ^^^ Dk.maskAt m (j - a) else x

theorem xor_byte (u : UInt8) (m k : Nat) : Value.int .u8 (bits BinOp.xor IntKind.u8 (u.toNat : Int) ((m : Int) / 2 ^ (8 * k) % 256)) = .int .u8 (((u ^^^ Dk.maskAt m k).toNat : Nat) : Int) := by
  have e1 : ((m : Int) / 2 ^ (8 * k) % 256) = ((m / 2 ^ (8 * k) % 256 : Nat) : Int) := by simp
  have e2 : (Dk.maskAt m k).toNat = m / 2 ^ (8 * k) % 256 := by
    unfold Dk.maskAt
    rw [UInt8.toNat_ofNat', Nat.shiftRight_eq_div_pow]
  rw [e1, UInt8.toNat_xor, e2, u8_xor_nat _ _ (UInt8.toNat_lt u) (Nat.mod_lt _ (by decide))]

set_option maxHeartbeats 4000000 in
set_option maxRecDepth 100000 in
theorem turn_any (w : World) (g off cap : Nat) (t : Str) (cur : Array Value) (x : Int) (m : Nat) (h : Lie w g off t cur) (ht : 0 < t.length) (hl : off + t.length ≤ 1099511627776) (hm : m ≤ 4294967295) :
    Calls Try.prog 47 #[.slice (some ⟨g, off, none⟩) t.length cap, .agg #[.int .i64 x, .int .u32 (m : Int)]] w fun e w' => e = .returned (.tuple #[]) ∧ Turns (fun b => b = g) w w' ∧
      ∃ cur', Lie w' g off (Dk.turn t x m) cur' ∧ cur'.size = cur.size ∧ ∀ i, (i < off ∨ off + t.length ≤ i) → cur'[i]? = cur[i]? := by
  obtain ⟨n, hn⟩ : ∃ n, n = t.length := ⟨_, rfl⟩
  rw [← hn] at ht hl ⊢
  obtain ⟨b1, b2⟩ := tmod_bounds x n ht
  obtain ⟨a, ha⟩ : ∃ a : Nat, a = (x % (n : Int)).toNat := ⟨_, rfl⟩
  have hr := tmod_round x n ht
  rw [← ha] at hr
  have han : a < n := by
    have := Int.emod_lt_of_pos x (b := (n : Int)) (by omega)
    omega
  have hli : (n : Int) ≤ 1099511627776 := by omega
  have hn0 : (0 : Int) < n := by omega
  have hmi : (m : Int) ≤ 4294967295 := by omega
  have hai : (a : Int) < n := by omega
  have H := Lib.hid h; have HN := Lib.hid hn; have HA := Lib.hid ha
  clear h hn ha
  go_enter Try.func47, Try.ntmps47
  go_wp2_with fail
  obtain ⟨p, hp⟩ : ∃ p, p = w.heap.size := ⟨_, rfl⟩
  have hgl : g < p := by have := heap_lt H.out.1; omega
  have hbl : ∀ o, Hid (Below w.heap.size w (w.alloc o)) := fun o => Lib.hid ((Below.refl _ w).alloc (Nat.le_refl _) o)
  have hbw := (hbl (.cells #[.int .i64 x, .int .u32 (m : Int)] 83)).out
  have hbx : (w.alloc (.cells #[.int .i64 x, .int .u32 (m : Int)] 83)).cell? ⟨p, 1, none⟩ = some (.int .u32 (m : Int)) := by rw [hp, cell_of (heap_alloc_new w _)]; rfl
  have hps : p < (w.alloc (.cells #[.int .i64 x, .int .u32 (m : Int)] 83)).heap.size := by rw [World.size_alloc]; omega
  rw [← hp]
  have HP := Lib.hid hp; clear hp hbl
  generalize w.alloc (.cells #[.int .i64 x, .int .u32 (m : Int)] 83) = w1 at *
  have HBW := Lib.hid hbw; have HBX := Lib.hid hbx; have HPS := Lib.hid hps; clear hbw hbx hps
  obtain ⟨q, hq⟩ : ∃ q : Nat, min 4 ((n : Int) - a) = q := ⟨(min 4 ((n : Int) - a)).toNat, by omega⟩
  have hq4 : (q : Int) ≤ 4 := by omega
  have hqn : (q : Int) ≤ (n : Int) - a := by omega
  have HQ := Lib.hid hq
  rw [hq]
  clear hr b1 b2 hq
  go_loopw [22] (fun z wr => ∃ k : Nat, k ≤ q ∧ z = .int .i64 (k : Int) ∧ Hid (Turns (fun b => b = g) w1 wr ∧ ∃ cur', Lie wr g off (turnK t a m k) cur' ∧ cur'.size = cur.size ∧ ∀ i, (i < off ∨ off + t.length ≤ i) → cur'[i]? = cur[i]?)) (fun z _ => q - (intOf z).toNat)
  case atStart =>
    have e0 : turnK t a m 0 = t := by
      unfold turnK
      apply List.ext_getElem (by simp)
      intro j h1 h2
      simp
      intro h3 h4
      omega
    refine ⟨0, by omega, rfl, Lib.hid ⟨Turns.refl _ _, cur, ?_, rfl, fun _ _ => rfl⟩⟩
    rw [e0]
    obtain ⟨l1, l2, l3⟩ := H.out
    exact ⟨(HBW.out.block g (by have := HP.out; omega)).trans l1, l2, l3⟩
  case round =>
    obtain ⟨k, hk, rfl, HK⟩ := hrel
    by_cases hlt : k < q
    · have hlt2 : (k : Int) < q := by omega
      obtain ⟨ht1, cur', ⟨l1, l2, l3⟩, hs, ho⟩ := HK.out
      have hjt : a + k < t.length := by rw [← HN.out]; omega
      obtain ⟨u, hu⟩ : ∃ u, t[a + k]? = some u := ⟨_, List.getElem?_eq_getElem hjt⟩
      have hval : (turnK t a m k)[a + k]? = some u := by
        unfold turnK
        rw [List.getElem?_mapIdx, hu, Option.map_some, if_neg (by omega)]
      have hcell := l3 (a + k) u hval
      obtain ⟨c, hc⟩ : ∃ c : Nat, c = u.toNat := ⟨_, rfl⟩
      rw [← hc] at hcell
      have HU := Lib.hid hu
      have d0 : wr.cell? ⟨g, off + (a + k), none⟩ = some (.int .u8 (c : Int)) := by rw [cell_of l1]; exact hcell
      have d1 : wr.cell? ⟨p, 1, none⟩ = some (.int .u32 (m : Int)) := cell_kept HBX.out (ht1.block p HPS.out (by omega))
      have d2 : wr.frozen? ⟨g, off + (a + k), none⟩ = false := unfrozen_of l1 _
      have hc8 : (c : Int) < 256 := by have := UInt8.toNat_lt u; omega
      clear hval hcell l1 l2 l3 hs ho ht1 hu
      go_wp2_with fail
      go_region
      have HSET : Hid (Turns (fun b => b = g) w1 (wr.setCell ⟨g, off + (a + k), none⟩ (.int .u8 (bits BinOp.xor IntKind.u8 (u.toNat : Int) ((m : Int) / 2 ^ (8 * k) % 256)))).drew ∧ ∃ cur', Lie (wr.setCell ⟨g, off + (a + k), none⟩ (.int .u8 (bits BinOp.xor IntKind.u8 (u.toNat : Int) ((m : Int) / 2 ^ (8 * k) % 256)))).drew g off (turnK t a m (k + 1)) cur' ∧ cur'.size = cur.size ∧ ∀ i, (i < off ∨ off + t.length ≤ i) → cur'[i]? = cur[i]?) := by
        obtain ⟨ht1, cur', ⟨l1, l2, l3⟩, hs, ho⟩ := HK.out
        refine Lib.hid ⟨(ht1.trans (Turns.of_setCell (P := fun b => b = g) wr ⟨g, off + (a + k), none⟩ _ rfl) (fun _ h => Or.inl h)).drew, _, ⟨heap_setCell_same wr g (off + (a + k)) cur' _ _ l1, ?_, fun j v hj => ?_⟩, ?_, fun i hi => ?_⟩
        · rw [Array.size_setIfInBounds]
          have e : (turnK t a m (k + 1)).length = (turnK t a m k).length := by simp [turnK]
          rw [e]; exact l2
        · have hjl : j < t.length := by
            rcases Nat.lt_or_ge j t.length with h1 | h1
            · exact h1
            · rw [List.getElem?_eq_none (by simp [turnK]; exact h1)] at hj; cases hj
          by_cases e : j = a + k
          · subst e
            have hv : v = u ^^^ Dk.maskAt m k := by
              unfold turnK at hj
              rw [List.getElem?_mapIdx, HU.out, Option.map_some, if_pos (by omega)] at hj
              simp only [Option.some.injEq] at hj
              rw [← hj, Nat.add_sub_cancel_left]
            have hin : off + (a + k) < cur'.size := by
              have : (turnK t a m k).length = t.length := by simp [turnK]
              omega
            rw [Array.getElem?_setIfInBounds_self_of_lt hin, hv, xor_byte]
          · have hj2 : (turnK t a m k)[j]? = some v := by
              unfold turnK at hj ⊢
              rw [List.getElem?_mapIdx] at hj ⊢
              rw [← hj]
              congr 1
              funext z
              by_cases h1 : a ≤ j ∧ j < a + k
              · rw [if_pos h1, if_pos (by omega)]
              · rw [if_neg h1, if_neg (by omega)]
            rw [Array.getElem?_setIfInBounds_ne (by omega)]
            exact l3 j v hj2
        · rw [Array.size_setIfInBounds]; exact hs
        · rw [Array.getElem?_setIfInBounds_ne (by have := HN.out; omega)]
          exact ho i hi
      clear HK
      go_wp2_with fail
      go_roundw
      case rel => exact ⟨k + 1, by omega, by go_num, HSET⟩
      case measure => simp [intOf]; omega
    · obtain rfl : k = q := by omega
      clear hlt
      go_wp2_with fail
      go_end0
      obtain ⟨ht1, cur', hl', hs, ho⟩ := HK.out
      have e : turnK t a m k = Dk.turn t x m := by
        unfold turnK Dk.turn
        simp only
        rw [← HN.out, ← HA.out]
        apply List.ext_getElem?
        intro j
        rw [List.getElem?_mapIdx, List.getElem?_mapIdx]
        rcases Nat.lt_or_ge j t.length with h1 | h1
        · congr 1
          funext z
          have h2 := HQ.out
          have h3 := HN.out
          by_cases h4 : a ≤ j ∧ j < a + 4
          · rw [if_pos h4, if_pos (by omega)]
          · rw [if_neg h4, if_neg (by omega)]
        · rw [List.getElem?_eq_none h1]; rfl
      rw [e] at hl'
      exact ⟨rfl, (Turns.of_below (P := fun b => b = g) HBW.out).trans ht1 (fun _ h => Or.inl h), cur', hl', hs, by rw [HN.out]; exact ho⟩

end Go.Proofs.Ytefoijamedciiaa

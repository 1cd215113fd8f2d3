/- Walks of the document's own answers for layer 2: ahead, Compare. -/
import Derived.Test.YtognddehcfjiaaaOkeyRefA
namespace Go.Proofs.Ytognddehcfjiaaa
open Go.RowKit
set_option linter.unusedVariables false

theorem cb_step (x y : ByteArray) (k : Nat) (hx : k < x.size) (hy : k < y.size) :
    Lib.compareBytes (x.data.toList.drop k) (y.data.toList.drop k) = if x[k] < y[k] then -1 else if y[k] < x[k] then 1 else Lib.compareBytes (x.data.toList.drop (k + 1)) (y.data.toList.drop (k + 1)) := by
  rw [drop_cons x k hx, drop_cons y k hy, Lib.compareBytes]
theorem cb_short (x y : ByteArray) (k : Nat) (hx : x.size ≤ k) (hy : k < y.size) : Lib.compareBytes (x.data.toList.drop k) (y.data.toList.drop k) = -1 := by
  rw [drop_cons y k hy, List.drop_of_length_le (by rw [length_list]; exact hx)]; rfl
theorem cb_long (x y : ByteArray) (k : Nat) (hx : k < x.size) (hy : y.size ≤ k) : Lib.compareBytes (x.data.toList.drop k) (y.data.toList.drop k) = 1 := by
  rw [List.drop_of_length_le (l := y.data.toList) (by rw [length_list]; exact hy), drop_cons x k hx]; rfl
theorem cb_end (x y : ByteArray) (k : Nat) (hx : x.size ≤ k) (hy : y.size ≤ k) : Lib.compareBytes (x.data.toList.drop k) (y.data.toList.drop k) = 0 := by
  rw [List.drop_of_length_le (by rw [length_list]; exact hx), List.drop_of_length_le (by rw [length_list]; exact hy)]; rfl

set_option maxHeartbeats 400000 in
theorem refAhead_nn (s t : ByteArray) (m n : Nat) (w : World) :
    Calls Try.prog 31 #[partV false s m, partV false t n] w (Gives (.bool (decide (cmpN m n = -1))) w) := by
  have HB : Hid (∀ o o', Below w.heap.size w ((w.alloc o).alloc o')) := fun o o' => ((Below.refl _ _).alloc (Nat.le_refl _) _).alloc (by simp) _
  unfold partV
  by_cases h : m < n
  · have e : decide (cmpN m n = -1) = true := by unfold cmpN; rw [if_pos (by omega)]; rfl
    rw [e]
    clear e
    go_enter Try.func31, Try.ntmps31
    go_wp2_with fail
    go_ret
    exact ⟨rfl, HB.out _ _⟩
  · have e : decide (cmpN m n = -1) = false := by unfold cmpN; rw [if_neg (by omega)]; split <;> rfl
    rw [e]
    clear e
    go_enter Try.func31, Try.ntmps31
    go_wp2_with fail
    go_ret
    exact ⟨rfl, HB.out _ _⟩
set_option maxHeartbeats 400000 in
theorem refAhead_nt (s t : ByteArray) (m n : Nat) (w : World) :
    Calls Try.prog 31 #[partV false s m, partV true t n] w (Gives (.bool true) w) := by
  have HB : Hid (∀ o o', Below w.heap.size w ((w.alloc o).alloc o')) := fun o o' => ((Below.refl _ _).alloc (Nat.le_refl _) _).alloc (by simp) _
  unfold partV
  go_enter Try.func31, Try.ntmps31
  go_wp2_with fail
  go_ret
  exact ⟨rfl, HB.out _ _⟩
set_option maxHeartbeats 400000 in
theorem refAhead_tn (s t : ByteArray) (m n : Nat) (w : World) :
    Calls Try.prog 31 #[partV true s m, partV false t n] w (Gives (.bool false) w) := by
  have HB : Hid (∀ o o', Below w.heap.size w ((w.alloc o).alloc o')) := fun o o' => ((Below.refl _ _).alloc (Nat.le_refl _) _).alloc (by simp) _
  unfold partV
  go_enter Try.func31, Try.ntmps31
  go_wp2_with fail
  go_ret
  exact ⟨rfl, HB.out _ _⟩

set_option maxRecDepth 100000 in
set_option maxHeartbeats 2000000 in
theorem refAhead_tt (x y : ByteArray) (m n : Nat) (w : World) (hxs : x.size ≤ 1000000000) (hys : y.size ≤ 1000000000) :
    Calls Try.prog 31 #[partV true x m, partV true y n] w (Gives (.bool (decide (Lib.compareBytes x.data.toList y.data.toList = -1))) w) := by
  have HB : Hid (∀ o o', Below w.heap.size w ((w.alloc o).alloc o')) := fun o o' => ((Below.refl _ _).alloc (Nat.le_refl _) _).alloc (by simp) _
  have H0 : Hid (decide (Lib.compareBytes x.data.toList y.data.toList = -1) = decide (Lib.compareBytes (x.data.toList.drop 0) (y.data.toList.drop 0) = -1)) := rfl
  generalize decide (Lib.compareBytes x.data.toList y.data.toList = -1) = R at *
  unfold partV
  go_enter Try.func31, Try.ntmps31
  go_wp2_with fail
  go_loopw [5] (fun i wr => ∃ k : Nat, k ≤ x.size ∧ k ≤ y.size ∧ i = .int .i64 k ∧ R = decide (Lib.compareBytes (x.data.toList.drop k) (y.data.toList.drop k) = -1) ∧ Below w.heap.size w wr ∧ wr.cell? ⟨w.heap.size, 1, none⟩ = some (.string x) ∧ wr.cell? ⟨w.heap.size + 1, 1, none⟩ = some (.string y)) (fun i _ => x.size - (intOf i).toNat)
  case atStart => exact ⟨0, Nat.zero_le _, Nat.zero_le _, rfl, H0.out, HB.out _ _, by simp, by simp⟩
  case round =>
    obtain ⟨k, hk1, hk2, rfl, hR, hbel, hcx, hcy⟩ := hrel
    have HR := Lib.hid hR; clear hR H0
    by_cases hlx : k < x.size
    · by_cases hly : k < y.size
      · have hix := index_byte x k hlx
        have hiy := index_byte y k hly
        have HS := Lib.hid (cb_step x y k hlx hly)
        generalize x[k]'hlx = bx at *
        generalize y[k]'hly = bY at *
        obtain ⟨c, hc⟩ : ∃ c : Int, c = bx.toNat := ⟨_, rfl⟩
        obtain ⟨d, hd⟩ : ∃ d : Int, d = bY.toNat := ⟨_, rfl⟩
        rw [← hc] at hix
        rw [← hd] at hiy
        have HC := Lib.hid hc; have HD := Lib.hid hd; clear hc hd
        by_cases he : c = d
        · have HE : Hid (R = decide (Lib.compareBytes (x.data.toList.drop (k + 1)) (y.data.toList.drop (k + 1)) = -1)) := by
            have e : bx = bY := UInt8.toNat.inj (by have h1 := HC.out; have h2 := HD.out; omega)
            rw [HR.out, HS.out, e, if_neg (UInt8.lt_irrefl _), if_neg (UInt8.lt_irrefl _)]
            exact rfl
          subst he
          go_wp2_with fail
          go_quiet (fail)
          go_wp2_with fail
          go_roundw
          case rel => exact ⟨k + 1, by omega, by omega, by go_num, HE.out, below_drewN hbel _, hcx, hcy⟩
          case measure => simp [intOf]; omega
        · have hne : (c != d) = true := by rw [bne_iff_ne]; exact he
          by_cases hl : c < d
          · have HE : Hid (R = true) := by
              have e : bx < bY := UInt8.lt_iff_toNat_lt.2 (by have h1 := HC.out; have h2 := HD.out; omega)
              rw [HR.out, HS.out, if_pos e]; exact rfl
            have hl' : decide (c < d) = true := decide_eq_true hl
            clear he hl
            go_wp2_with fail
            go_quiet (fail)
            go_wp2_with fail
            go_quiet (fail)
            go_wp2_with fail
            go_ret
            rw [HE.out]
            exact ⟨rfl, below_drewN (below_drewN hbel _) _⟩
          · have HE : Hid (R = false) := by
              have e : bY < bx := UInt8.lt_iff_toNat_lt.2 (by have h1 := HC.out; have h2 := HD.out; omega)
              have e2 : ¬ bx < bY := fun h => by have := UInt8.lt_iff_toNat_lt.1 h; have := UInt8.lt_iff_toNat_lt.1 e; omega
              rw [HR.out, HS.out, if_neg e2, if_pos e]; exact rfl
            have hl' : decide (c < d) = false := decide_eq_false hl
            clear he hl
            go_wp2_with fail
            go_quiet (fail)
            go_wp2_with fail
            go_quiet (fail)
            go_wp2_with fail
            go_ret
            rw [HE.out]
            exact ⟨rfl, below_drewN (below_drewN hbel _) _⟩
      · have HE : Hid (R = false) := by rw [HR.out, cb_long x y k hlx (by omega)]; exact rfl
        have hn : ¬ x.size < y.size := by omega
        go_wp2_with fail
        go_ret
        rw [HE.out]
        exact ⟨rfl, hbel⟩
    · by_cases hly : k < y.size
      · have HE : Hid (R = true) := by rw [HR.out, cb_short x y k (by omega) hly]; exact rfl
        have hn : x.size < y.size := by omega
        go_wp2_with fail
        go_ret
        rw [HE.out]
        exact ⟨rfl, hbel⟩
      · have HE : Hid (R = false) := by rw [HR.out, cb_end x y k (by omega) (by omega)]; exact rfl
        have hn : ¬ x.size < y.size := by omega
        go_wp2_with fail
        go_ret
        rw [HE.out]
        exact ⟨rfl, hbel⟩

theorem refAhead_any (a b : Pt) (w : World) (ha : a.s.size ≤ 1000000000) (hb : b.s.size ≤ 1000000000) :
    Calls Try.prog 31 #[partV a.t a.s a.n, partV b.t b.s b.n] w (Gives (.bool (decide (cmpPt a b = -1))) w) := by
  obtain ⟨at0, as0, an⟩ := a
  obtain ⟨bt, bs, bn⟩ := b
  cases at0 <;> cases bt
  · exact refAhead_nn as0 bs an bn w
  · exact refAhead_nt as0 bs an bn w
  · exact refAhead_tn as0 bs an bn w
  · exact refAhead_tt as0 bs an bn w ha hb

end Go.Proofs.Ytognddehcfjiaaa

/- The walk of Great, and plain facts on texts' rows. -/
import Derived.Test.YtledehjgaencmaaNumBack
namespace Go.Proofs.Ytledehjgaencmaa
open Go.RowKit

/-- Are texts more than statements go through? -/
def greatB (ss : List ByteArray) : Bool := decide (200 < ss.length) || (ss.any fun s => decide (20000 < s.size)) || decide (20000 < suml ss)

theorem greatB_no {ss : List ByteArray} (h : greatB ss = false) : ss.length ≤ 200 ∧ (∀ i, (ss.getD i ByteArray.empty).size ≤ 20000) ∧ suml ss ≤ 20000 := by
  unfold greatB at h
  simp only [Bool.or_eq_false_iff, decide_eq_false_iff_not] at h
  obtain ⟨⟨h1, h2⟩, h3⟩ := h
  refine ⟨by omega, fun i => ?_, by omega⟩
  by_cases hi : i < ss.length
  · have e : ss.getD i ByteArray.empty = ss[i] := by simp [hi]
    rw [e]
    have := List.any_eq_false.1 h2 ss[i] (List.getElem_mem hi)
    simp at this
    omega
  · have e : ss.getD i ByteArray.empty = ByteArray.empty := by simp [hi]
    rw [e]; decide

theorem SeesS.get {w : World} {ao : Option Addr} {len cap : Nat} {ss : List ByteArray} (h : SeesS w (.slice ao len cap) ss) :
    ss.length = len ∧ ∃ b off, ∀ i, i < len → ao = some ⟨b, off, none⟩ ∧ b < w.heap.size ∧ w.cell? ⟨b, off + i, none⟩ = some (.string (ss.getD i ByteArray.empty)) := by
  rcases h with ⟨rfl, a, c, h⟩ | ⟨b, off, c, h, hb, hc⟩
  · simp only [Value.slice.injEq] at h
    obtain ⟨rfl, rfl, rfl⟩ := h
    exact ⟨rfl, 0, 0, fun i hi => by omega⟩
  · simp only [Value.slice.injEq] at h
    obtain ⟨rfl, rfl, rfl⟩ := h
    exact ⟨rfl, b, off, fun i hi => ⟨rfl, hb, hc i hi⟩⟩

set_option maxHeartbeats 400000 in
theorem great_long (ao : Option Addr) (len cap : Nat) (w : World) (h : 200 < len) :
    Calls Try.prog 16 #[.slice ao len cap] w fun e w' => e = .returned (.bool true) ∧ w = w' := by
  go_enter Try.func16, Try.ntmps16
  go_wp2_with fail
  go_ret
  exact ⟨rfl, rfl⟩

set_option maxHeartbeats 800000 in
theorem great_any (ao : Option Addr) (len cap : Nat) (ss : List ByteArray) (w : World) (hV : SeesS w (.slice ao len cap) ss) :
    Calls Try.prog 16 #[.slice ao len cap] w fun e w' => e = .returned (.bool (greatB ss)) ∧ w = w' := by
  obtain ⟨hlen, b, off, hcell⟩ := hV.get
  clear hV
  by_cases h200 : 200 < len
  · have e : greatB ss = true := by unfold greatB; simp; omega
    rw [e]
    exact great_long ao len cap w h200
  · have hl : len ≤ 200 := by omega
    have HC := Lib.hid hcell; have HLEN := Lib.hid hlen
    have HG : Hid (∀ k, k ≤ len → (∀ j, j < k → (ss.getD j ByteArray.empty).size ≤ 20000) → suml (ss.take k) ≤ 20000 * k) := by
      intro k
      induction k with
      | zero => intro _ _; simp [suml]
      | succ k ih =>
        intro hk hj
        have h1 := ih (by omega) (fun j hjk => hj j (by omega))
        have h2 := hj k (by omega)
        rw [suml_snoc ss k (by omega)]
        omega
    have HT : Hid (∀ k, k < len → 20000 < (ss.getD k ByteArray.empty).size → greatB ss = true) := by
      intro k hk hx
      have e : ss.getD k ByteArray.empty = ss[k]'(by omega) := by simp [show k < ss.length by omega]
      have : (ss.any fun s => decide (20000 < s.size)) = true := List.any_eq_true.2 ⟨ss[k]'(by omega), List.getElem_mem _, by rw [← e]; exact decide_eq_true hx⟩
      unfold greatB; rw [this]; simp
    have HF : Hid ((∀ j, j < len → (ss.getD j ByteArray.empty).size ≤ 20000) → greatB ss = decide ((20000 : Int) < (suml ss : Nat))) := by
      intro h
      have : (ss.any fun s => decide (20000 < s.size)) = false := by
        rw [List.any_eq_false]
        intro s hs
        obtain ⟨i, hi, rfl⟩ := List.getElem_of_mem hs
        have := h i (by omega)
        have e : ss.getD i ByteArray.empty = ss[i] := by simp [hi]
        rw [e] at this
        simp; omega
      unfold greatB; rw [this, decide_eq_false (by omega)]
      simp only [Bool.false_or]
      congr 1
      exact propext ⟨fun h => by omega, fun h => by omega⟩
    generalize hGB : greatB ss = G at *
    clear hcell hlen h200 hGB
    go_enter Try.func16, Try.ntmps16
    go_wp2_with fail
    go_loop [3, 4] (fun n i => ∃ (k m : Nat), k ≤ len ∧ i = .int .i64 k ∧ n = .int .i64 m ∧ m = suml (ss.take k) ∧ ∀ j, j < k → (ss.getD j ByteArray.empty).size ≤ 20000) (fun _ i => len - (intOf i).toNat)
    case atStart => exact ⟨0, 0, Nat.zero_le _, rfl, rfl, by simp [suml], fun j hj => by omega⟩
    case round =>
      obtain ⟨k, m, hk, rfl, rfl, hm, hj⟩ := hrel
      have hmk : m ≤ 20000 * k := by rw [hm]; exact HG.out k hk hj
      have HM := Lib.hid hm; have HJ := Lib.hid hj; clear hm hj
      by_cases hlt : k < len
      · obtain ⟨rfl, hbl, hcl⟩ := HC.out k hlt
        have HS : Hid (suml (ss.take (k + 1)) = suml (ss.take k) + (ss.getD k ByteArray.empty).size) := suml_snoc ss k (by rw [HLEN.out]; exact hlt)
        have HTk := Lib.hid (HT.out k hlt)
        have HJ2 : Hid ((ss.getD k ByteArray.empty).size ≤ 20000 → ∀ j, j < k + 1 → (ss.getD j ByteArray.empty).size ≤ 20000) := fun h j hj => by
          by_cases e : j = k
          · rw [e]; exact h
          · exact HJ.out j (by omega)
        generalize ss.getD k ByteArray.empty = x at *
        by_cases hx : 20000 < x.size
        · go_wp2_with fail
          go_ret
          rw [HTk.out hx]
          exact ⟨rfl, rfl⟩
        · have hx2 : x.size ≤ 20000 := by omega
          clear hx
          go_wp2_with fail
          go_round
          case rel => exact ⟨k + 1, m + x.size, by omega, by go_num, by go_num, by rw [HS.out, HM.out], HJ2.out hx2⟩
          case measure => simp [intOf]; omega
      · obtain rfl : k = len := by omega
        have HE : Hid (m = suml ss) := by rw [HM.out, List.take_of_length_le (by rw [HLEN.out]; omega)]; exact rfl
        go_wp2_with fail
        go_ret
        rw [HF.out HJ.out, ← HE.out]
        exact ⟨rfl, rfl⟩

theorem rt_row (x : List UInt8) (t : List UInt8) (h : x.length < 18446744073709551616) : rt (Nm.row x.length ++ x ++ t) x.length = some (x, (Nm.row x.length).length + x.length) := by
  unfold rt
  rw [List.append_assoc, Nm.rv_row h]
  simp only
  rw [if_neg (by simp)]
  simp
theorem rt_less (x : List UInt8) (t : List UInt8) (h : x.length < 18446744073709551616) : rt (Nm.row x.length ++ x ++ t) ((x.length : Int) - 1) = none := by
  unfold rt
  rw [List.append_assoc, Nm.rv_row h]
  simp only
  rw [if_pos (by omega)]
theorem rt_cut (x : List UInt8) (t : List UInt8) (h : x.length < 18446744073709551616) : rt ((Nm.row x.length ++ x ++ t).take ((Nm.row x.length).length + x.length - 1)) x.length = none := by
  have hr := (Nm.row_length x.length).1
  by_cases h0 : x.length = 0
  · have e : x = [] := List.eq_nil_of_length_eq_zero h0
    subst e
    have e2 : Nm.row ([] : List UInt8).length = [0] := rfl
    rw [e2]
    rfl
  · have e : (Nm.row x.length ++ x ++ t).take ((Nm.row x.length).length + x.length - 1) = Nm.row x.length ++ x.take (x.length - 1) := by
      rw [List.append_assoc, show (Nm.row x.length).length + x.length - 1 = (Nm.row x.length).length + (x.length - 1) by omega, List.take_append, Nat.add_sub_cancel_left,
        List.take_of_length_le (Nat.le_add_right _ _), List.take_append_of_le_length (by omega)]
    unfold rt
    rw [e, Nm.rv_row h]
    simp only
    rw [if_pos]
    right
    rw [List.length_append, List.length_take]
    omega

end Go.Proofs.Ytledehjgaencmaa
